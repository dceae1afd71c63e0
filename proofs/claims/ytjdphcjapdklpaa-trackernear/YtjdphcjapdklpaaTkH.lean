/- tracker: Names, Len. -/
import Derived.Test.YtjdphcjapdklpaaTkG
namespace Go.Proofs.Ytjdphcjapdklpaa
open Go.RowKit
set_option linter.unusedVariables false
attribute [local go_sem] Oper.semAt_some

theorem Try.infoSs : (Try.prog.info? 9).map (fun i => (i.zero, i.size, i.bytes)) = some (some (.string ⟨#[]⟩), 1, 16) := by kernel_rfl
theorem Try.undSs : Try.prog.underlying 57 = some (.slice 9) := by kernel_rfl
def OwnSs (w : World) (base : Nat) (v : Value) (l : List By) : Prop := w.ownsRow base 9 1 v l.length (ssC l)
theorem ssC_append (l m : List By) : ssC (l ++ m) = ssC l ++ ssC m := by simp [ssC]
/-- is a name there at a time? -/
def thB (f : Names) (now : Int) (k : By) : Bool := decide (0 < (ndF f k now).length)
structure NamR (f : Names) (now : Int) (w : World) (v : Value) (L : List By) (w' : World) : Prop where
  keys : ∃ ss, SKeys f ss ∧ L = ss.filter (thB f now)
  own : OwnSs w' w.heap.size v L
  be : Below w.heap.size w w'
set_option maxRecDepth 100000 in
set_option maxHeartbeats 4000000 in
theorem names_any (b mb : Nat) (f : Names) (N : Nat) (room now : Int) (w : World) (hT : TbAt w b mb f N room) (hN : N ≤ 100000) :
    Calls Try.prog 20 #[.pointer (some ⟨b, 0, none⟩), .int .i64 now] w fun e w' => ∃ v, e = .returned v ∧ ∃ L, L.length ≤ N ∧ NamR f now w v L w' := by
  have HS := hide (stored_any b mb f N room w hT hN)
  have HT := hide hT
  clear hT
  obtain ⟨i0, hi, hz0, hz1, hz2⟩ := info_parts Try.infoSs
  go_enter Try.func20, Try.ntmps20
  go_wp2_with fail
  refine (unhide HS).mono ?_
  rintro e w1 ⟨v1, ss, rfl, hsl, hR⟩
  obtain ⟨a1, c1, rfl, hcell⟩ := strs_cell hR.own
  have HR := hide hR
  have HSL := hide hsl
  obtain ⟨n, hn⟩ : ∃ n, n = ss.length := ⟨_, rfl⟩
  rw [← hn]
  have HN := hide hn
  have HCell := hide hcell
  have hn1 : n ≤ 100000 := by omega
  clear hR hn hcell hsl HS
  go_wp2_with fail
  go_loopw [5, 13] (fun lv kv wr => ∃ (i m : Nat) (a : Option Addr) (c : Nat), i ≤ n ∧ m ≤ i ∧ kv = .int .i64 i ∧ lv = .slice a m c ∧ ((ss.take i).filter (thB f now)).length = m ∧ OwnSs wr w1.heap.size lv ((ss.take i).filter (thB f now)) ∧ Below w1.heap.size w1 wr) (fun _ kv _ => n - (intOf kv).toNat)
  case atStart => exact ⟨0, 0, none, 0, by omega, by omega, rfl, rfl, rfl, World.ownsRow_nil _ _ _ _, Below.refl _ _⟩
  case round =>
    obtain ⟨i, m, a, c2, hi2, hmi, rfl, rfl, hlen, hO, hB⟩ := hrel
    have HTL := hide hlen
    have HOW := hide hO
    have HB := hide hB
    clear hO hB hlen
    by_cases hlt : i < n
    · have hlt' : i < ss.length := by rw [← unhide HN]; exact hlt
      obtain ⟨g, rfl, hc⟩ := unhide HCell i hlt'
      have hc2 := cell_below hc (unhide HB)
      rw [Nat.zero_add] at hc2
      have hmem := ((unhide HR).keys.mem ss[i]).1 (List.getElem_mem hlt')
      have hkl : ss[i].length ≤ maxLen := by
        obtain ⟨s0, hs0⟩ := Option.isSome_iff_exists.1 hmem
        rw [(unhide HT).kl _ _ hs0]
        unfold maxLen
        omega
      have HE : Hid ((ss.take (i + 1)).filter (thB f now) = (ss.take i).filter (thB f now) ++ (if thB f now ss[i] = true then [ss[i]] else [])) := by
        show _ = _
        rw [List.take_succ_eq_append_getElem hlt', List.filter_append, List.filter_cons, List.filter_nil]
      have HND := hide (nodes_any b mb f N room ss[i] now wr (((unhide HT).up (unhide HR).be).up (unhide HB)) hkl)
      have HTH : Hid (thB f now ss[i] = decide (0 < (ndF f ss[i] now).length)) := rfl
      obtain ⟨T1, hT1⟩ : ∃ T, T = (ss.take (i + 1)).filter (thB f now) := ⟨_, rfl⟩
      rw [← hT1] at HE
      have HT1 := hide hT1
      generalize (ss.take i).filter (thB f now) = T0 at *
      generalize ss[i] = k at *
      have q1 : (i : Int) < n := by omega
      clear hlt' hc hmem hT1 hkl
      go_wp2_with fail
      refine (unhide HND).mono ?_
      rintro e w2 ⟨v2, rfl, hr⟩
      obtain ⟨a2, c3, rfl, _, _⟩ := hr.own.nts
      have HO2 := hide (World.ownsRow.kept (unhide HOW) (grown_of hr.be none) (Classical.em _))
      have HB2 := hide ((unhide HB).trans (hr.be.mono (unhide HB).size))
      clear hr HND hc2 HOW HB
      generalize (ndF f k now).length = ll at *
      by_cases hll : 0 < ll
      · have q2 : (0 : Int) < ll := by omega
        have HE2 : Hid (T1 = T0 ++ [k]) := (unhide HE).trans (by rw [unhide HTH, decide_eq_true hll]; rfl)
        have hww : w1.heap.size ≤ w2.heap.size := (unhide HB2).size
        have HO4 : Hid (∀ o, (w2.alloc o).ownsRow w1.heap.size 9 1 (.slice a m c2) m (ssC T0)) := fun o => by
          have := World.ownsRow.kept (unhide HO2) (grown_of ((Below.refl w2.heap.size w2).alloc (Nat.le_refl _) o) none) (Classical.em _)
          rw [unhide HTL] at this
          exact this
        have HG2 := hide (fun z (hz : (Value.slice a m c2).ownBlock = some z) => strs_ge (unhide HO2) hz)
        clear HE HTH HO2
        go_wp2_with (refine wpList_append_lies _ rfl (.tmp 23) (.tmp 25) 57 rfl w1.heap.size 9 i0 (.string ⟨#[]⟩) 1 16 Try.undSs hi hz0 hz1 hz2 rfl (by decide) (.slice a m c2) m _ (by rfl) (unhide HO4 _) ⟨w2.heap.size, 0, none⟩ 1 1 [.string (bs k)] (by rfl) (by rfl) (news_lit w2 [.string (bs k)] 9) (by intro u hu; simp at hu; subst hu; rfl) (by decide) (by unfold maxLen; omega) (by omega) (by simp; omega) (w2.heap.size + 1) (by simp) ?_)
        intro g2 cap2 w4 hown hgrow hat hlt2
        have HF : Hid (OwnSs w4 w1.heap.size (.slice (some ⟨g2, 0, none⟩) (m + 1) cap2) T1) := by
          show OwnSs _ _ _ _
          rw [unhide HE2]
          unfold OwnSs
          rw [ssC_append, List.length_append, unhide HTL]
          exact hown
        have HB4 := hide (((unhide HB2).alloc hww (.cells #[.string (bs k)] 9)).grown hgrow (by simp; omega) (fun z hz => unhide HG2 z hz))
        have HL4 : Hid (T1.length = m + 1) := by
          show _ = _
          rw [unhide HE2, List.length_append, unhide HTL]
          rfl
        clear hown hgrow hat hlt2 HO4 HB2 HG2
        go_wp2
        go_roundw
        case rel => exact ⟨i + 1, m + 1, _, _, by omega, by omega, by go_num, rfl, by rw [← unhide HT1]; exact unhide HL4, by rw [← unhide HT1]; exact unhide HF, unhide HB4⟩
        case measure => simp [intOf]; omega
      · have q2 : ¬ (0 : Int) < ll := by omega
        have HE2 : Hid (T1 = T0) := (unhide HE).trans (by rw [unhide HTH, decide_eq_false hll]; simp)
        clear HE HTH
        go_wp2
        go_roundw
        case rel => exact ⟨i + 1, m, _, _, by omega, by omega, by go_num, rfl, by rw [← unhide HT1, unhide HE2]; exact unhide HTL, by rw [← unhide HT1, unhide HE2]; exact unhide HO2, unhide HB2⟩
        case measure => simp [intOf]; omega
    · have hin : i = n := by omega
      have q1 : ¬ (i : Int) < n := by omega
      have htk : ss.take i = ss := by rw [hin, unhide HN, List.take_length]
      have HF : Hid (OwnSs wr w1.heap.size (.slice a m c2) (ss.filter (thB f now))) := by
        have h := unhide HOW
        rw [htk] at h
        exact h
      have HLN : Hid ((ss.filter (thB f now)).length ≤ N) := Nat.le_trans (List.length_filter_le _ _) (unhide HSL)
      have HRR : Hid (NamR f now w (.slice a m c2) (ss.filter (thB f now)) wr) := by
        refine ⟨⟨ss, (unhide HR).keys, rfl⟩, ?_, (unhide HR).be.trans ((unhide HB).mono (unhide HR).be.size)⟩
        exact ownsRow_base_a (unhide HF) (unhide HR).be.size
      clear hin HOW htk
      go_wp2
      go_ret
      exact ⟨_, rfl, _, unhide HLN, unhide HRR⟩
/-- how many names are there at a time -/
structure LenR (f : Names) (now : Int) (n : Nat) : Prop where
  keys : ∃ ss, SKeys f ss ∧ n = (ss.filter (thB f now)).length
set_option maxRecDepth 100000 in
theorem tlen_any (b mb : Nat) (f : Names) (N : Nat) (room now : Int) (w : World) (hT : TbAt w b mb f N room) (hN : N ≤ 100000) :
    Calls Try.prog 9 #[.pointer (some ⟨b, 0, none⟩), .int .i64 now] w fun e w' => ∃ n : Nat, e = .returned (.int .i64 n) ∧ n ≤ N ∧ LenR f now n ∧ Below w.heap.size w w' := by
  have HS := hide (names_any b mb f N room now w hT hN)
  clear hT
  go_enter Try.func9, Try.ntmps9
  go_wp2_with fail
  refine (unhide HS).mono ?_
  rintro e w1 ⟨v1, rfl, L, hl, hR⟩
  obtain ⟨a1, c1, rfl, hcc⟩ := strs_cell hR.own
  clear hcc
  obtain ⟨ss, h1, h2⟩ := hR.keys
  have HF : Hid (L.length ≤ N ∧ LenR f now L.length ∧ Below w.heap.size w w1) := ⟨hl, ⟨ss, h1, by rw [h2]⟩, hR.be⟩
  clear hl hR h1 h2
  generalize L.length = n at *
  go_wp2
  go_ret
  exact ⟨_, rfl, unhide HF⟩
/-- the names in order are one list -/
theorem skeys_one {f : Names} {a b : List By} (ha : SKeys f a) (hb : SKeys f b) : a = b := by
  refine List.Perm.eq_of_pairwise (le := fun x y => Go.leB x y = true) (fun x y _ _ h1 h2 => ?_) ha.ord hb.ord ((List.perm_ext_iff_of_nodup ha.nd hb.nd).2 fun x => by rw [ha.mem, hb.mem])
  simp only [Go.leB, decide_eq_true_eq] at h1 h2
  exact List.le_antisymm h1 h2
end Go.Proofs.Ytjdphcjapdklpaa
