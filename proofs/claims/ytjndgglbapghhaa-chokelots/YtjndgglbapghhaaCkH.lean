/- choke: Top's closure; the document's Others. -/
import Derived.Test.YtjndgglbapghhaaCkG
namespace Go.Proofs.Ytjndgglbapghhaa
open Go.RowKit
set_option linter.unusedVariables false
attribute [local go_sem] Oper.semAt_some

set_option maxRecDepth 100000 in
theorem top1_any (p : Pr) (w : World) : Calls Try.prog 28 #[.agg p.cl.toArray] w fun e w' => e = .returned (.bool p.wa) ∧ Below w.heap.size w w' := by
  obtain ⟨nd, px, py, hv, wa, op, os, se, nw, ra⟩ := p
  unfold Pr.cl
  dsimp only
  go_enter Try.func28, Try.ntmps28
  go_wp2
  go_ret
  exact ⟨rfl, (Below.refl _ _).alloc (Nat.le_refl _) _⟩

set_option maxRecDepth 100000 in
set_option maxHeartbeats 4000000 in
theorem dothers_any (a0 : Option Addr) (l : List Pr) (c : Nat) (b0 : Option Addr) (ch : List Int) (d : Nat) (w : World) (hl : PrsAt w a0 l) (hm : l.length ≤ 100000) (hI : Ints w b0 ch) (hc : ch.length ≤ 100000) :
    Calls Try.prog 20 #[.slice a0 l.length c, .slice b0 ch.length d] w fun e w' => ∃ v, e = .returned v ∧ OwnI w' w.heap.size v (otL ch l) ∧ Below w.heap.size w w' := by
  have HL := hide hl
  have hhas := hide (fun (n : Int) (W : World) (hb : Below w.heap.size w W) => rhas_any b0 ch d n W (hI.below hb) (by unfold maxLen; omega))
  obtain ⟨k0, hki, hkz0, hkz1, hkz2⟩ := info_parts Try.infoI
  obtain ⟨n, hn⟩ : ∃ n, n = l.length := ⟨_, rfl⟩
  obtain ⟨q, hq⟩ : ∃ q, q = ch.length := ⟨_, rfl⟩
  rw [← hn]
  rw [← hq] at hhas ⊢
  have HN := hide hn
  rw [← hn] at hm
  clear hl hn hI hc hq
  go_enter Try.func20, Try.ntmps20
  go_wp2_with fail
  go_loopw [5, 6] (fun lv kv wr => ∃ (k m : Nat) (a : Option Addr) (c : Nat), k ≤ n ∧ m ≤ k ∧ kv = .int .i64 k ∧ lv = .slice a m c ∧ (otL ch (l.take k)).length = m ∧ OwnI wr w.heap.size lv (otL ch (l.take k)) ∧ Below w.heap.size w wr) (fun _ kv _ => n - (intOf kv).toNat)
  case atStart => exact ⟨0, 0, none, 0, by omega, by omega, rfl, rfl, rfl, World.ownsRow_nil _ _ _ _, Below.refl _ _⟩
  case round =>
    obtain ⟨k, m, a, c2, hk, hmk, rfl, rfl, hlen, hO, hB⟩ := hrel
    have HTL := hide hlen
    have HR := hide hO
    have HB := hide hB
    clear hO hB hlen
    by_cases hlt : k < n
    · have hlt' : k < l.length := by rw [← unhide HN]; exact hlt
      obtain ⟨e, he⟩ : ∃ e, e = l[k] := ⟨_, rfl⟩
      obtain ⟨g, o, rfl, hgl, hra⟩ := prs_range (unhide HL) (unhide HB) (i := k) (p := e) (by rw [he]; exact List.getElem?_eq_getElem hlt')
      have HE : Hid (otL ch (l.take (k + 1)) = otL ch (l.take k) ++ (if otP ch e then [e.nd] else [])) := by
        show _ = _
        rw [he]
        exact fl_snoc _ l k hlt'
      have q1 : (k : Int) < n := by omega
      clear he hlt'
      obtain ⟨nd, px, py, hv, wa, op, os, se, nw, ra⟩ := e
      dsimp only at HE
      have u0 : wr.cell? ⟨g, o + k * 10, none⟩ = some (.int .i64 nd) := hra 0 _ rfl
      have u4 : wr.cell? ⟨g, o + k * 10 + 4, none⟩ = some (.bool wa) := hra 4 _ rfl
      have u5 : wr.cell? ⟨g, o + k * 10 + 5, none⟩ = some (.bool op) := hra 5 _ rfl
      have hww : w.heap.size ≤ wr.heap.size := (unhide HB).size
      have hh := hide (unhide hhas nd wr (unhide HB))
      have HO2 : Hid (∀ o, (wr.alloc o).ownsRow w.heap.size 3 1 (.slice a m c2) m (ic (otL ch (l.take k)))) := fun o => by
        have := own_i_up (unhide HR) ((Below.refl wr.heap.size wr).alloc (Nat.le_refl _) o)
        unfold OwnI at this
        rw [unhide HTL] at this
        exact this
      have HG2 := hide (fun z (hz : (Value.slice a m c2).ownBlock = some z) => own_i_ge (unhide HR) hz)
      have HT : Hid (otP ch ⟨nd, px, py, hv, wa, op, os, se, nw, ra⟩ = (wa && !(hasI ch nd))) := rfl
      rw [unhide HT] at HE
      clear hra HT
      obtain ⟨hb, hhb⟩ : ∃ b, b = hasI ch nd := ⟨_, rfl⟩
      rw [← hhb] at HE hh
      clear hhb

      cases wa with
      | true =>
        go_wp2_with fail
        refine (unhide hh).mono ?_
        rintro e w9 ⟨rfl, rfl⟩
        clear hh
        cases hb with
        | true =>
          have HE2 : Hid (otL ch (l.take (k + 1)) = otL ch (l.take k)) := (unhide HE).trans (List.append_nil _)
          have HF : Hid (OwnI wr w.heap.size (.slice a m c2) (otL ch (l.take (k + 1)))) := by
            show OwnI _ _ _ _
            rw [unhide HE2]
            exact unhide HR
          have HL4 : Hid ((otL ch (l.take (k + 1))).length = m) := by
            show _ = _
            rw [unhide HE2, unhide HTL]
          clear HE HO2 HG2
          go_wp2
          go_roundw
          case rel => exact ⟨k + 1, m, _, _, by omega, by omega, by go_num, rfl, unhide HL4, unhide HF, unhide HB⟩
          case measure => simp [intOf]; omega
        | false =>
          have HE2 : Hid (otL ch (l.take (k + 1)) = otL ch (l.take k) ++ [nd]) := unhide HE
          clear HE
          go_wp2_with (refine wpList_append_lies _ rfl (.tmp 28) (.tmp 34) 29 rfl w.heap.size 3 k0 (.int .i64 0) 1 8 Try.undI hki hkz0 hkz1 hkz2 rfl (by decide) (.slice a m c2) m _ (by rfl) (unhide HO2 _) ⟨wr.heap.size, 0, none⟩ 1 1 [.int .i64 nd] (by rfl) (by rfl) (news_lit wr [.int .i64 nd] 3) (by intro u hu; simp at hu; subst hu; rfl) (by decide) (by unfold maxLen; omega) (by omega) (by simp; omega) _ rfl ?_)
          intro g2 cap2 w4 hown hgrow hat hlt2
          have HF : Hid (OwnI w4 w.heap.size (.slice (some ⟨g2, 0, none⟩) (m + 1) cap2) (otL ch (l.take (k + 1)))) := by
            show OwnI _ _ _ _
            rw [unhide HE2]
            unfold OwnI
            rw [ic_append, List.length_append, unhide HTL]
            exact hown
          have HB4 := hide (((unhide HB).alloc hww (.cells #[.int .i64 nd] 3)).grown hgrow (by simp; omega) (fun z hz => unhide HG2 z hz))
          have HL4 : Hid ((otL ch (l.take (k + 1))).length = m + 1) := by
            show _ = _
            rw [unhide HE2, List.length_append, unhide HTL]
            rfl
          clear hown hgrow hat hlt2 HO2 HB HG2
          go_wp2
          go_roundw
          case rel => exact ⟨k + 1, m + 1, _, _, by omega, by omega, by go_num, rfl, unhide HL4, unhide HF, unhide HB4⟩
          case measure => simp [intOf]; omega
      | false =>
        have HE2 : Hid (otL ch (l.take (k + 1)) = otL ch (l.take k)) := (unhide HE).trans (List.append_nil _)
        have HF : Hid (OwnI wr w.heap.size (.slice a m c2) (otL ch (l.take (k + 1)))) := by
          show OwnI _ _ _ _
          rw [unhide HE2]
          exact unhide HR
        have HL4 : Hid ((otL ch (l.take (k + 1))).length = m) := by
          show _ = _
          rw [unhide HE2, unhide HTL]
        clear HE HO2 HG2
        go_wp2
        go_roundw
        case rel => exact ⟨k + 1, m, _, _, by omega, by omega, by go_num, rfl, unhide HL4, unhide HF, unhide HB⟩
        case measure => simp [intOf]; omega

    · have hkn : k = n := by omega
      have q1 : ¬ (k : Int) < n := by omega
      have HF : Hid (OwnI wr w.heap.size (.slice a m c2) (otL ch l)) := by
        have h1 := unhide HR
        rw [show l.take k = l by rw [hkn, unhide HN, List.take_length]] at h1
        exact h1
      clear hkn HR
      go_wp2
      go_ret
      exact ⟨_, rfl, unhide HF, unhide HB⟩
end Go.Proofs.Ytjndgglbapghhaa
