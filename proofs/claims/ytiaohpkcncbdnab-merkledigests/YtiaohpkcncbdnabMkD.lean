
/- How long a path is: the program's Depth, the document's half and Depth, the law MerkleDepths. -/
import Derived.Test.YtiaohpkcncbdnabMkAw
namespace Go.Proofs.Ytiaohpkcncbdnab
open Go.RowKit
set_option linter.unusedVariables false

theorem planN_length (j n i : Nat) : (planN j n i).length ≤ j := by
  induction j with
  | zero => simp [planN]
  | succ t ih => rw [planN, List.length_append]; split <;> simp <;> omega
theorem pow_mono8 {j : Nat} (h : 8 ≤ j) : 256 ≤ 2 ^ j := Nat.le_trans (by decide) (Nat.pow_le_pow_right (by omega) h)

set_option maxRecDepth 100000 in
theorem depth_bad (n i : Int) (w : World) (h : n < 1 ∨ 256 < n ∨ i < 0 ∨ n ≤ i) :
    Calls Try.prog 36 #[.int .i64 n, .int .i64 i] w fun e w' => e = .returned (.int .i64 (-1)) ∧ w = w' := by
  by_cases h1 : n < 1
  · clear h
    go_enter Try.func36, Try.ntmps36
    go_wp2
    go_ret
    exact ⟨rfl, rfl⟩
  by_cases h2 : 256 < n
  · clear h
    go_enter Try.func36, Try.ntmps36
    go_wp2
    go_ret
    exact ⟨rfl, rfl⟩
  by_cases h3 : i < 0
  · clear h
    go_enter Try.func36, Try.ntmps36
    go_wp2
    go_ret
    exact ⟨rfl, rfl⟩
  have h4 : n ≤ i := by omega
  clear h
  go_enter Try.func36, Try.ntmps36
  go_wp2
  go_ret
  exact ⟨rfl, rfl⟩

set_option maxRecDepth 100000 in
theorem depth_any (n i : Nat) (w : World) (h1 : 1 ≤ n) (h2 : n ≤ 256) (h3 : i < n) :
    Calls Try.prog 36 #[.int .i64 n, .int .i64 i] w fun e w' => e = .returned (.int .i64 (plan n i).length) ∧ w = w' := by
  have q1 : ¬ (n : Int) < 1 := by omega
  have q2 : ¬ (256 : Int) < n := by omega
  have q3 : ¬ (i : Int) < 0 := by omega
  have q4 : ¬ (n : Int) ≤ i := by omega
  generalize hL : (plan n i).length = L
  have HL := hide hL
  clear hL
  go_enter Try.func36, Try.ntmps36
  go_wp2_with fail
  clear q1 q2 q3 q4
  go_loopw [0, 1, 5] (fun nv iv dv wr => w = wr ∧ ∃ j : Nat, j ≤ 8 ∧ nv = .int .i64 (cl j n : Nat) ∧ iv = .int .i64 (i / 2 ^ j : Nat) ∧ dv = .int .i64 ((planN j n i).length : Nat)) (fun nv _ _ _ => (intOf nv).toNat)
  case atStart => exact ⟨rfl, 0, by omega, rfl, by simp, rfl⟩
  case round =>
    obtain ⟨rfl, j, hj, rfl, rfl, rfl⟩ := hrel
    have hpl := planN_length j n i
    have hI : i / 2 ^ j < 256 := Nat.lt_of_le_of_lt (Nat.div_le_self _ _) (by omega)
    have hcb := cl_le j n
    by_cases hlt : 1 < cl j n
    · have hj8 : j < 8 := by
        rcases Nat.lt_or_ge j 8 with h | h
        · exact h
        · rw [cl_one j n h1 (Nat.le_trans h2 (pow_mono8 h))] at hlt
          omega
      have hpa := hide (fun w => partner_any (cl j n) (i / 2 ^ j) w (by omega) (by omega))
      have hI2 : Hid (i / 2 ^ (j + 1) = i / 2 ^ j / 2) := by
        show _ = _
        rw [Nat.pow_succ, Nat.div_div_eq_div_mul]
      have hc2 : Hid (cl (j + 1) n = (cl j n + 1) / 2) := rfl
      obtain ⟨I2, hI2e⟩ : ∃ I2, I2 = i / 2 ^ j / 2 := ⟨_, rfl⟩
      obtain ⟨c2, hc2e⟩ : ∃ c2, c2 = (cl j n + 1) / 2 := ⟨_, rfl⟩
      rw [← hI2e] at hI2
      rw [← hc2e] at hc2
      have hI2b : I2 < 256 := by omega
      have hc2b : c2 ≤ 256 ∧ c2 < cl j n := by omega
      have hst : Hid (planN (j + 1) n i = planN j n i ++ (if pt (i / 2 ^ j) < cl j n then [decide ((i / 2 ^ j) % 2 = 1)] else [])) := rfl
      by_cases hlt2 : pt (i / 2 ^ j) < cl j n
      · rw [if_pos hlt2] at hst
        have hln : Hid ((planN (j + 1) n i).length = (planN j n i).length + 1) := by
          show _ = _
          rw [unhide hst, List.length_append]; rfl
        rw [show decide (pt (i / 2 ^ j) < cl j n) = true from decide_eq_true hlt2] at hpa
        generalize (planN j n i).length = D at *
        generalize cl j n = c at *
        generalize i / 2 ^ j = I at *
        generalize pt I = J at *
        have hq : (I : Int).tdiv 2 = I2 := by rw [hI2e]; rfl
        have hq2 : ((c : Int) + 1).tdiv 2 = c2 := by rw [hc2e]; rfl
        have q1 : (1 : Int) < c := by omega
        clear hI2e hc2e hst
        go_wp2_with fail
        refine (unhide hpa _).mono ?_
        rintro e w4 ⟨rfl, rfl⟩
        go_wp2
        go_roundw
        case rel => exact ⟨trivial, j + 1, by omega, by rw [unhide hc2], by rw [unhide hI2], by rw [unhide hln]; go_num⟩
        case measure => simp [intOf]; omega
      · rw [if_neg hlt2, List.append_nil] at hst
        rw [show decide (pt (i / 2 ^ j) < cl j n) = false from decide_eq_false hlt2] at hpa
        have hln : Hid ((planN (j + 1) n i).length = (planN j n i).length) := by
          show _ = _
          rw [unhide hst]
        generalize (planN j n i).length = D at *
        generalize cl j n = c at *
        generalize i / 2 ^ j = I at *
        generalize pt I = J at *
        have hq : (I : Int).tdiv 2 = I2 := by rw [hI2e]; rfl
        have hq2 : ((c : Int) + 1).tdiv 2 = c2 := by rw [hc2e]; rfl
        have q1 : (1 : Int) < c := by omega
        clear hI2e hc2e hst
        go_wp2_with fail
        refine (unhide hpa _).mono ?_
        rintro e w4 ⟨rfl, rfl⟩
        go_wp2
        go_roundw
        case rel => exact ⟨trivial, j + 1, by omega, by rw [unhide hc2], by rw [unhide hI2], by rw [unhide hln]⟩
        case measure => simp [intOf]; omega
    · have hn : n ≤ 2 ^ j := by
        rcases Nat.lt_or_ge (2 ^ j) n with h | h
        · exact absurd (cl_gt j n h) hlt
        · exact h
      have he : (planN j n i).length = L := by rw [planN_plan j n i h3 hn]; exact unhide HL
      rw [he]
      have q1 : ¬ (1 : Int) < (cl j n : Nat) := by omega
      generalize cl j n = c at *
      generalize i / 2 ^ j = I at *
      clear he hpl hn
      go_wp2
      go_ret
      exact ⟨rfl, rfl⟩

end Go.Proofs.Ytiaohpkcncbdnab
