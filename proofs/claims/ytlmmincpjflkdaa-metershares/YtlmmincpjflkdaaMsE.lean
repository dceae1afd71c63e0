/- meter: the document's Add, where a size is added. -/
import Derived.Test.YtlmmincpjflkdaaMsD
namespace Go.Proofs.Ytlmmincpjflkdaa
open Go.RowKit
set_option linter.unusedVariables false
attribute [local go_sem] Oper.semAt_some

set_option maxRecDepth 100000 in
set_option maxHeartbeats 8000000 in
theorem dadd_ok (Q p n : Int) (a0 : Option Addr) (D : List Dr) (c : Nat) (w : World) (hA : DrsAt w a0 D) (hl : D.length ≤ 1000) (h : 1 ≤ p ∧ p ≤ 15 ∧ 1 ≤ n ∧ n ≤ 65536) (hn : (findD D p).w ≠ 0) (hn2 : (findD D p).l.length < 100) :
    Calls Try.prog 8 #[shV Q a0 D.length c, .int .i64 p, .int .i64 n] w fun e w' => ∃ a c' xa xk, e = .returned (.tuple #[shV Q a (withD D ⟨(findD D p).p, (findD D p).w, (findD D p).c, (findD D p).l ++ [n], xa, xk⟩).length c', .int .i64 0]) ∧ DrsAt w' a (withD D ⟨(findD D p).p, (findD D p).w, (findD D p).c, (findD D p).l ++ [n], xa, xk⟩) ∧ Below w.heap.size w w' ∧ (∀ p, xa = some p → w.heap.size ≤ p.block) := by
  obtain ⟨i0, hi, hz0, hz1, hz2⟩ := info_parts Try.infoIm
  obtain ⟨h1, h2, h3, h4⟩ := h
  have e1 : ¬ p < 1 := by omega
  have e2 : ¬ 15 < p := by omega
  have e3 : ¬ n < 1 := by omega
  have e4 : ¬ 65536 < n := by omega
  have hvr := findD_ok p hA.ok
  have HFI := hide (fun W (h : DrsAt W a0 D) => dfind_any Q p a0 D c W h (by omega))
  have HWI : Hid (∀ (W : World) (X : Dr) (v : Array Value), v = X.cl.toArray → DrsAt W a0 D → VOk W X → Calls Try.prog 17 #[shV Q a0 D.length c, .agg v] W fun e w' => ∃ a c', e = .returned (shV Q a (withD D X).length c') ∧ DrsAt w' a (withD D X) ∧ Below W.heap.size W w') := fun W X v hv h hq => by
    rw [hv]
    exact dwith_any Q X a0 D c W h hq hl
  generalize findD D p = R at *
  obtain ⟨m, hm⟩ : ∃ m, m = D.length := ⟨_, rfl⟩
  rw [← hm] at HFI HWI ⊢
  obtain ⟨W0, hW0⟩ : ∃ W0, W0 = (w.alloc (.cells #[.int .i64 Q, .slice a0 m c] 28)).alloc (.cells #[.int .i64 0, .slice none 0 0] 28) := ⟨_, rfl⟩
  obtain ⟨b0, k0, k1, k2⟩ := share2 w Q a0 m c W0 hW0
  have HW := hide hW0
  have B0 := hide b0
  have K0 := hide k0
  have K1 := hide k1
  have HA := hide hA
  have HVR := hide hvr
  obtain ⟨⟨u0, u1⟩, -, ul⟩ := row2 k0
  obtain ⟨rp, rw, rc, rl, ra, rk⟩ := R
  unfold Dr.cl at HFI
  dsimp only at HFI hn hn2 ⊢
  have hle : rl.length ≤ rk := hvr.le
  obtain ⟨z, hz⟩ : ∃ z, z = rl.length := ⟨_, rfl⟩
  rw [← hz] at HFI hn2 hle
  have HZ := hide hz
  have hw2 : (rw == 0) = false := by simpa using hn
  have hz2' : ¬ (100 : Int) ≤ z := by omega
  have hz2'' : ¬ 100 ≤ z := by omega
  obtain ⟨FV, hFV⟩ : ∃ FV : Option Addr → Nat → List Dr, FV = fun xa xk => withD D ⟨rp, rw, rc, rl ++ [n], xa, xk⟩ := ⟨_, rfl⟩
  have HFV := hide hFV
  have hgoal : ∀ (f : FuncId) args, Calls Try.prog f args w (fun e w' => ∃ a c' xa xk, e = .returned (.tuple #[shV Q a (FV xa xk).length c', .int .i64 0]) ∧ DrsAt w' a (FV xa xk) ∧ Below w.heap.size w w' ∧ (∀ p, xa = some p → w.heap.size ≤ p.block)) → Calls Try.prog f args w (fun e w' => ∃ a c' xa xk, e = .returned (.tuple #[shV Q a (withD D ⟨rp, rw, rc, rl ++ [n], xa, xk⟩).length c', .int .i64 0]) ∧ DrsAt w' a (withD D ⟨rp, rw, rc, rl ++ [n], xa, xk⟩) ∧ Below w.heap.size w w' ∧ (∀ p, xa = some p → w.heap.size ≤ p.block)) := fun f args h => by
    rw [hFV] at h
    exact h
  refine hgoal _ _ ?_
  clear hA hvr hm hW0 b0 k0 k1 k2 h1 h2 h3 h4 hz hn hFV hgoal
  go_enter Try.func8, Try.ntmps8
  go_wp2_with fail
  rw [← unhide HW]
  clear HW
  refine (unhide HFI _ ((unhide HA).up (unhide B0))).mono ?_
  rintro e w1 ⟨rfl, b1⟩
  have K10 := hide ((b1.block _ (lt_of_block (unhide K0))).trans (unhide K0))
  have K11 := hide ((b1.block _ (lt_of_block (unhide K1))).trans (unhide K1))
  have B1 := hide ((unhide B0).trans (b1.mono (unhide B0).size))
  clear b1 u0 u1 ul K0 K1 B0
  have bA : Below w1.heap.size w1 (w1.alloc (.cells #[.int .i64 rp, .int .i64 rw, .int .i64 rc, .slice ra z rk] 45)) := (Below.refl _ _).alloc (Nat.le_refl _) _
  have K12 := hide ((bA.block _ (lt_of_block (unhide K11))).trans (unhide K11))
  have KS := hide ((bA.block _ (lt_of_block (unhide K10))).trans (unhide K10))
  have B2 := hide ((unhide B1).trans (bA.mono (unhide B1).size))
  obtain ⟨⟨u0, u1⟩, -, ul⟩ := row2 (unhide K10)
  have KQ := hide (heap_alloc_new w1 (.cells #[.int .i64 rp, .int .i64 rw, .int .i64 rc, .slice ra z rk] 45))
  obtain ⟨W2, hW2⟩ : ∃ W2, W2 = w1.alloc (.cells #[.int .i64 rp, .int .i64 rw, .int .i64 rc, .slice ra z rk] 45) := ⟨_, rfl⟩
  have hs2 : Hid (W2.heap.size = w1.heap.size + 1) := by show _ = _; rw [hW2]; simp
  rw [← hW2] at K12 KS B2 KQ
  have HW2 := hide hW2
  clear bA K11 K10 hW2
  go_wp2_with fail
  rw [← unhide HW2]
  clear HW2 u0 u1 ul
  obtain ⟨q1, hq1⟩ : ∃ q, q = w1.heap.size := ⟨_, rfl⟩
  rw [← hq1] at KQ hs2 ⊢
  have HQ1 := hide hq1
  clear hq1
  go_loopw [9, 10] (fun lv kv wr => ∃ (i : Nat) (a : Option Addr) (cc : Nat), i ≤ z ∧ kv = .int .i64 i ∧ lv = .slice a i cc ∧ OwnI wr W2.heap.size lv (rl.take i) ∧ Below W2.heap.size W2 wr) (fun _ kv _ => z - (intOf kv).toNat)
  case atStart => exact ⟨0, none, 0, by omega, rfl, rfl, World.ownsRow_nil _ _ _ _, Below.refl _ _⟩
  case round =>
    obtain ⟨i, a, cc, hi2, rfl, rfl, hO, hB⟩ := hrel
    have HO := hide hO
    have HB := hide hB
    clear hO hB
    have hwr := (unhide HB).size
    have KQr := (((unhide HB).block _ (lt_of_block (unhide KQ))).trans (unhide KQ))
    obtain ⟨⟨v0, v1, v2, v3⟩, vf, vl⟩ := row4 KQr
    have hlen : (rl.take i).length = i := by rw [List.length_take, ← unhide HZ]; omega
    have HLE := hide hlen
    by_cases hlt : i < z
    · have q2 : (i : Int) < z := by omega
      have hil : i < rl.length := by rw [← unhide HZ]; exact hlt
      obtain ⟨g, o, rfl, hc⟩ := (((unhide HVR).up (unhide B2)).ints.below (unhide HB)) i hil
      have hto : rl.take (i + 1) = rl.take i ++ [rl[i]] := List.take_succ_eq_append_getElem hil
      have HTO := hide hto
      obtain ⟨T1, hT1⟩ : ∃ T, T = rl.take (i + 1) := ⟨_, rfl⟩
      rw [← hT1] at HTO
      have HT1 := hide hT1
      generalize rl.take i = T0 at *
      generalize rl[i] = x at *
      have HO4 : Hid (∀ o1, (wr.alloc o1).ownsRow W2.heap.size 3 1 (.slice a i cc) i (ic T0)) := fun o1 => by
        have h1 := ownI_upM (unhide HO) ((Below.refl wr.heap.size wr).alloc (Nat.le_refl _) o1)
        unfold OwnI at h1
        rw [unhide HLE] at h1
        exact h1
      have HG2 := hide (fun z (hz : (Value.slice a i cc).ownBlock = some z) => ints_geM (unhide HO) hz)
      have HNW := hide (news_lit wr [.int .i64 x] 3)
      clear hto hlen hT1 hil KQr vf
      go_wp2_with (refine wpList_append_lies _ rfl (.tmp 45) (.tmp 51) 43 rfl W2.heap.size 3 i0 (.int .i64 0) 1 8 Try.undIm hi hz0 hz1 hz2 rfl (by decide) (.slice a i cc) i _ (by rfl) (unhide HO4 _) ⟨wr.heap.size, 0, none⟩ 1 1 [.int .i64 x] (by rfl) (by rfl) (unhide HNW) (by intro u hu; simp at hu; subst hu; rfl) (by decide) (by unfold maxLen; omega) (by omega) (by simp; omega) (wr.heap.size + 1) (by simp) ?_)
      intro g2 cap2 w4 hown hgrow hat hlt2
      have HF : Hid (OwnI w4 W2.heap.size (.slice (some ⟨g2, 0, none⟩) (i + 1) cap2) T1) := by
        show OwnI _ _ _ _
        rw [unhide HTO]
        unfold OwnI
        rw [ic_appM, List.length_append, unhide HLE]
        exact hown
      have HB4 := hide (((unhide HB).alloc hwr (.cells #[.int .i64 x] 3)).grown hgrow (by simp; omega) (fun z hz => unhide HG2 z hz))
      clear hown hgrow hat hlt2 HO4 HG2 HNW v0 v1 v2 v3 vl hc
      go_wp2
      go_roundw
      case rel => exact ⟨i + 1, _, _, by omega, by go_num, rfl, by rw [← unhide HT1]; exact unhide HF, unhide HB4⟩
      case measure => simp [intOf]; omega
    · have hin : i = z := by omega
      have q2 : ¬ (i : Int) < z := by omega
      have htk : rl.take i = rl := by rw [hin, unhide HZ, List.take_length]
      rw [htk] at HLE HO
      have HO4 : Hid (∀ o1, (wr.alloc o1).ownsRow W2.heap.size 3 1 (.slice a i cc) i (ic rl)) := fun o1 => by
        have h1 := ownI_upM (unhide HO) ((Below.refl wr.heap.size wr).alloc (Nat.le_refl _) o1)
        unfold OwnI at h1
        rw [unhide HLE] at h1
        exact h1
      have HG2 := hide (fun z (hz : (Value.slice a i cc).ownBlock = some z) => ints_geM (unhide HO) hz)
      have HNW := hide (news_lit wr [.int .i64 n] 3)
      clear htk hin hlen vf
      have KQr := hide KQr
      go_wp2_with (refine wpList_append_lies _ rfl (.tmp 53) (.tmp 55) 43 rfl W2.heap.size 3 i0 (.int .i64 0) 1 8 Try.undIm hi hz0 hz1 hz2 rfl (by decide) (.slice a i cc) i _ (by rfl) (unhide HO4 _) ⟨wr.heap.size, 0, none⟩ 1 1 [.int .i64 n] (by rfl) (by rfl) (unhide HNW) (by intro u hu; simp at hu; subst hu; rfl) (by decide) (by unfold maxLen; omega) (by omega) (by simp; omega) (wr.heap.size + 1) (by simp) ?_)
      intro g2 cap2 w4 hown hgrow hat hlt2
      have HF : Hid (OwnI w4 W2.heap.size (.slice (some ⟨g2, 0, none⟩) (i + 1) cap2) (rl ++ [n])) := by
        show OwnI _ _ _ _
        unfold OwnI
        rw [ic_appM, List.length_append, unhide HLE]
        exact hown
      have hb4 : Below W2.heap.size wr w4 := ((Below.refl W2.heap.size wr).alloc hwr (.cells #[.int .i64 n] 3)).grown hgrow (by simp; omega) (fun z hz => unhide HG2 z hz)
      have HB4 := hide ((unhide HB).trans hb4)
      clear hown hgrow hat hlt2 HO4 HG2 HNW v0 v1 v2 v3 vl KQr hb4 HO HB hwr
      have KQ4 := (((unhide HB4).block _ (lt_of_block (unhide KQ))).trans (unhide KQ))
      obtain ⟨⟨v0, v1, v2, v3⟩, vf, vl⟩ := row4 KQ4
      have vf3 := vf 3
      have KQ5 := hide (heap_setCell_same w4 q1 3 _ _ (.slice (some ⟨g2, 0, none⟩) (i + 1) cap2) KQ4)
      have KS4 := (((unhide HB4).block _ (lt_of_block (unhide KS))).trans (unhide KS))
      have K14 := (((unhide HB4).block _ (lt_of_block (unhide K12))).trans (unhide K12))
      have hne : q1 ≠ w.heap.size := by
        have h1 := lt_of_block (unhide KS)
        intro e
        have h3 := unhide KQ
        rw [e, unhide KS] at h3
        simp at h3
      have hne2 : q1 ≠ w.heap.size + 1 := by
        intro e
        have h3 := unhide KQ
        rw [e, unhide K12] at h3
        simp at h3
      have KS5 := hide ((Below.heap_setCell w4 ⟨q1, 3, none⟩ (.slice (some ⟨g2, 0, none⟩) (i + 1) cap2) w.heap.size (fun e => hne e.symm)).trans KS4)
      have K15 := hide ((Below.heap_setCell w4 ⟨q1, 3, none⟩ (.slice (some ⟨g2, 0, none⟩) (i + 1) cap2) (w.heap.size + 1) (fun e => hne2 e.symm)).trans K14)
      have hq1s : w.heap.size ≤ q1 := by rw [unhide HQ1]; have := (unhide B1).size; exact this
      have hg2 : w.heap.size ≤ g2 := by
        have h1 := ints_geM (unhide HF) (z := g2) rfl
        have h2 := (unhide B2).size
        omega
      have HG2' := hide hg2
      have hnb : (Value.slice (some ⟨g2, 0, none⟩) (i + 1) cap2).ownBlock ≠ some q1 := fun e => by
        have h1 := ints_geM (unhide HF) e
        have := unhide hs2
        omega
      have HF5 := hide (Go.ownsRow_setCell_other (show World.ownsRow _ _ _ _ _ _ _ from unhide HF) (a := ⟨q1, 3, none⟩) hnb (.slice (some ⟨g2, 0, none⟩) (i + 1) cap2))
      have B5 := hide (((unhide B2).trans ((unhide HB4).mono (unhide B2).size)).setCell (p := ⟨q1, 3, none⟩) hq1s (.slice (some ⟨g2, 0, none⟩) (i + 1) cap2))
      obtain ⟨W5, hW5⟩ : ∃ W5, w4.setCell ⟨q1, 3, none⟩ (.slice (some ⟨g2, 0, none⟩) (i + 1) cap2) = W5 := ⟨_, rfl⟩
      rw [hW5] at KS5 K15 HF5 B5 KQ5
      have KQ6 : Hid (W5.heap[q1]? = some (.cells #[.int .i64 rp, .int .i64 rw, .int .i64 rc, .slice (some ⟨g2, 0, none⟩) (i + 1) cap2] 45 (0, 0))) := unhide KQ5
      have DA5 := hide ((unhide HA).up (unhide B5))
      have hvk : VOk W5 ⟨rp, rw, rc, rl ++ [n], some ⟨g2, 0, none⟩, cap2⟩ := OwnI.vok (m := i + 1) (show OwnI W5 W2.heap.size _ _ from unhide HF5) (by rw [List.length_append, unhide HLE]; rfl) rp rw rc
      have WCALL := hide (unhide HWI W5 ⟨rp, rw, rc, rl ++ [n], some ⟨g2, 0, none⟩, cap2⟩ #[.int .i64 rp, .int .i64 rw, .int .i64 rc, .slice (some ⟨g2, 0, none⟩) (i + 1) cap2] (by
        unfold Dr.cl
        rw [List.length_append, unhide HLE]
        rfl) (unhide DA5) hvk)
      have hFVe : FV (some ⟨g2, 0, none⟩) cap2 = withD D ⟨rp, rw, rc, rl ++ [n], some ⟨g2, 0, none⟩, cap2⟩ := by rw [unhide HFV]
      rw [← hFVe] at WCALL
      clear hg2 hFVe hvk KQ5 KS4 K14 hne hne2 hq1s hnb HF HF5 HWI HVR HFV HLE HZ KS K12 KQ B2 hs2 B1 HB4
      obtain ⟨⟨x0, x1⟩, -, xl⟩ := row2 (unhide KS5)
      obtain ⟨⟨y0, y1, y2, y3⟩, -, yl⟩ := row4 (unhide KQ6)
      go_wp2_with fail
      refine (unhide WCALL).mono ?_
      rintro e w6 ⟨a6, c6, rfl, hD6, b6⟩
      have K16 := hide ((b6.block _ (lt_of_block (unhide K15))).trans (unhide K15))
      have B6 := hide ((unhide B5).trans (b6.mono (unhide B5).size))
      have HD6 := hide hD6
      clear x0 x1 xl y0 y1 y2 y3 yl b6 hD6 WCALL K15 B5 KS5 KQ6 DA5
      obtain ⟨NN, hNN⟩ : ∃ N, N = (FV (some ⟨g2, 0, none⟩) cap2).length := ⟨_, rfl⟩
      rw [← hNN]
      have HNN := hide hNN
      clear hNN
      go_wp2_with (refine wpList_store_rowM rfl 28 (.tmp 6) (.tmp 61) rfl (w.heap.size + 1) #[.int .i64 Q, .slice a6 NN c6] rfl rfl 28 _ (unhide K16) (by kernel_rfl) rfl (by simp [Value.oneCell']) (StR w6 (w.heap.size + 1) 28 #[.int .i64 Q, .slice a6 NN c6]) (stR (unhide K16) _) ?_)
      intro w9 h9
      have hD9 := drs_st (unhide HD6) h9 (unhide K16) (by decide) (by decide)
      have B9 := (unhide B6).trans (h9.be.mono (by omega))
      go_wp2_with fail
      exact ret_rowM2 (p := 6) (q := 7) (ty := 28) (by kernel_rfl) (w.heap.size + 1) 28 _ (0, 0) _ _ rfl rfl h9.at_ rfl Try.underlying28 (by kernel_rfl) ⟨_, _, some ⟨g2, 0, none⟩, cap2, by rw [unhide HNN]; rfl, hD9, B9, fun p hp => by cases hp; exact unhide HG2'⟩
end Go.Proofs.Ytlmmincpjflkdaa
