/- Contracts of bits' Full, Of, With, Without, And, Or, Minus, List, Count, Rank and Nth. -/
import Derived.Test.YtbodklppgcloiaaDoorBtA
import Derived.Test.YtbodklppgcloiaaDoorTxtI
namespace Go.Proofs.YtbodklppgcloiaaDoor
open Go.RowKit
set_option linter.unusedVariables false

theorem or_step {W k : Nat} {p : Nat → Bool} (hk : k < 8 * W) (h : k / 8 < (makeP W p).length) : (makeP W p).set (k / 8) ((makeP W p)[k / 8] ||| maskB k) = makeP W (fun i => p i || decide (i = k)) := by
  apply eq_makeP (by rw [List.length_set, makeP_length])
  intro i hi
  rw [bitAt_or _ _ _ h, makeP_bit, decide_eq_true hi, Bool.true_and]
theorem makeP_none (W : Nat) : makeP W (fun _ => false) = List.replicate W 0 := by
  symm
  apply eq_makeP (by simp)
  intro i hi
  rw [bitAt_in _ _ (by simp; omega)]
  simp
  exact bitB_zero _

/-- the set of all -/
def fullL (n : Int) : By := if 0 ≤ n ∧ n < 161 then makeP (wid n.toNat) (fun i => decide (i < n.toNat)) else []
set_option maxHeartbeats 2000000 in
theorem full_any (n : Int) (w : World) : Calls Tryd.prog 36 #[.int .i64 n] w fun e w' => e = .returned (.string (bs (fullL n))) ∧ Below w.heap.size w w' := by
  have hem := hide (empty_any n)
  by_cases h : 0 ≤ n ∧ n < 161
  · obtain ⟨m, rfl⟩ : ∃ m : Nat, n = m := ⟨n.toNat, by omega⟩
    have hF : fullL m = makeP (wid m) (fun i => decide (i < m)) := by unfold fullL; rw [if_pos h]; rfl
    rw [hF]
    rw [emptyL_nat m (by omega), ← makeP_none] at hem
    have hW := wid_le20 m (by omega)
    have hWm := wid_le m
    generalize wid m = W at *
    clear hF h
    generalize hR : bs (makeP W (fun i => decide (i < m))) = R
    have HR := hide hR
    clear hR
    go_enter Tryd.func36, Tryd.ntmps36
    go_wp2_with fail
    refine (unhide hem _).mono ?_
    rintro e w1 ⟨rfl, b1⟩
    obtain ⟨cap, w2, hcv, hbw, hbl⟩ := run_bytes w1 (makeP W fun _ => false)
    rw [makeP_length] at hcv
    have HB2 := hide (b1.trans (hbl.mono b1.size))
    have HBW := hide hbw
    have hgw := b1.size
    clear b1 hbw hbl hem
    go_wp2
    go_loopw [11] (fun i wr => ∃ k : Nat, k ≤ 8 * W ∧ i = .int .i64 k ∧ Bw wr w1.heap.size (makeP W (fun i => decide (i < k ∧ i < m))) ∧ Below w.heap.size w wr) (fun i _ => 8 * W - (intOf i).toNat)
    case atStart => exact ⟨0, Nat.zero_le _, rfl, by have := unhide HBW; rwa [makeP_congr (q := fun i => decide (i < 0 ∧ i < m)) (fun i hi => by simp)] at this, unhide HB2⟩
    case round =>
      clear HBW HB2
      obtain ⟨k, hk, rfl, hB, hb⟩ := hrel
      have HB := hide hb
      by_cases hlt : k < 8 * W
      · have q1 : (k : Int) < (W : Int) * 8 := by omega
        by_cases hkm : k < m
        · have q2 : (k : Int) < m := by omega
          have hlen : k / 8 < (makeP W (fun i => decide (i < k ∧ i < m))).length := by rw [makeP_length]; omega
          have hmask := hide (mask_any k)
          have hst0 := or_step (W := W) (p := fun i => decide (i < k ∧ i < m)) hlt hlen
          have hcg : makeP W (fun i => decide (i < k ∧ i < m) || decide (i = k)) = makeP W (fun i => decide (i < k + 1 ∧ i < m)) := makeP_congr (fun i hi => by
            rw [Bool.eq_iff_iff]; simp; omega)
          rw [hcg] at hst0
          clear hcg
          have hd : (k : Int).tdiv 8 = ((k / 8 : Nat) : Int) := by rw [Int.tdiv_eq_ediv_of_nonneg (by omega)]; omega
          have hd2 : (k : Int) / 8 = ((k / 8 : Nat) : Int) := by omega
          have hdW : k / 8 < W := by omega
          have HBL := hide hB
          have hlL : (makeP W (fun i => decide (i < k ∧ i < m))).length = W := makeP_length _ _
          have HNX : Hid (makeP W (fun i => decide (i < k + 1 ∧ i < m)) = (makeP W (fun i => decide (i < k ∧ i < m))).set (k / 8) ((makeP W (fun i => decide (i < k ∧ i < m)))[k / 8] ||| maskB k)) := hst0.symm
          generalize makeP W (fun i => decide (i < k ∧ i < m)) = L at *
          have hc := hB.cell (k / 8) hlen
          have HX := hide (or8 L[k / 8] (maskB k))
          have HV := hide (L[k / 8] ||| maskB k).toNat_lt
          generalize L[k / 8] = x at *
          generalize k / 8 = d at *
          clear hB hb hst0
          go_wp2_with fail
          refine wp_region_late 9 ?A0 (by kernel_rfl) (by kernel_rfl) (by kernel_rfl) ?lex0 ?_
          case lex0 =>
            intro X
            have hneX := gb_ne X.w
            have hcX : ∀ y : Gb X.w, y.w.cell? ⟨w1.heap.size, d, none⟩ = some (.int .u8 x.toNat) := fun y => gb_cell (cell_below hc X.ok) y
            dsimp only [List.take_succ_cons, List.take_zero]
            repeat (go_big_quiet_step ((go_at_call 57; exact gb_same (unhide hmask _))))
            refine wpQuiet_nil ?_
            exact rfl
          intro w8 b8
          try simp only [List.drop_succ_cons, List.drop_zero]
          have hB8 := (unhide HBL).kept b8
          have hfr8 := hB8.free d (by omega)
          have hc8 := hB8.cell d (by omega)
          have hst := hB8.set d ((x ||| maskB k).toNat) (by omega) (by have := unhide HV; omega)
          rw [byteOf_nat, ← unhide HX] at hst
          have HST := hide hst
          have HK2 := hide (((unhide HB).trans (b8.mono (unhide HB).size)).setCell (p := ⟨w1.heap.size, d, none⟩) hgw (.int .u8 (bits .or .u8 (x.toNat : Int) ((maskB k).toNat : Int))))
          clear hst hB8 b8 HBL HX HB hc
          go_wp2_with fail
          refine onlyN ?_
          go_wp2
          go_roundw
          case rel => exact ⟨k + 1, by omega, by go_num, by rw [unhide HNX]; exact unhide HST, unhide HK2⟩
          case measure => simp [intOf]; omega
        · have q2 : ¬ (k : Int) < m := by omega
          have hB' : Hid (Bw wr w1.heap.size (makeP W (fun i => decide (i < k + 1 ∧ i < m)))) := by
            rw [makeP_congr (q := fun i => decide (i < k + 1 ∧ i < m)) (fun i hi => by rw [decide_eq_decide]; omega)] at hB
            exact hB
          clear hB hb
          go_wp2
          go_roundw
          case rel => exact ⟨k + 1, by omega, by go_num, unhide hB', unhide HB⟩
          case measure => simp [intOf]; omega
      · have q1 : ¬ (k : Int) < (W : Int) * 8 := by omega
        rw [makeP_congr (q := fun i => decide (i < m)) (fun i hi => by rw [decide_eq_decide]; omega)] at hB
        have hcv2 := hB.string (cap := cap)
        rw [makeP_length, unhide HR] at hcv2
        clear hB hb
        go_wp2
        go_ret
        exact ⟨rfl, unhide HB⟩
  · have e1 : emptyL n = [] := by unfold emptyL; rw [if_neg h]
    have e2 : fullL n = [] := by unfold fullL; rw [if_neg h]
    rw [e2]
    rw [e1] at hem
    clear e1 e2 h
    go_enter Tryd.func36, Tryd.ntmps36
    go_wp2_with fail
    refine (unhide hem _).mono ?_
    rintro e w1 ⟨rfl, b1⟩
    obtain ⟨cap, w2, hcv, hbw, hbl⟩ := run_bytes w1 []
    have hcv2 := hbw.string (cap := cap)
    have hl0 : ([] : By).length = 0 := rfl
    rw [hl0] at hcv hcv2
    have HB2 := hide (b1.trans (hbl.mono b1.size))
    clear b1 hbw hbl hem
    go_wp2
    go_loopw [11] (fun i wr => i = .int .i64 0 ∧ w2 = wr) (fun i _ => 0)
    case atStart => exact ⟨rfl, rfl⟩
    case round =>
      obtain ⟨rfl, rfl⟩ := hrel
      go_wp2
      go_ret
      exact ⟨rfl, unhide HB2⟩

end Go.Proofs.YtbodklppgcloiaaDoor
