/- How long a path is: the program's Depth, the document's half and Depth, the law MerkleDepths. -/
import Derived.Test.YtiaohpkcncbdnaaMkAw
namespace Go.Proofs.Ytiaohpkcncbdnaa
open Go.RowKit
set_option linter.unusedVariables false

theorem planN_length (j n i : Nat) : (planN j n i).length ≤ j := by
  induction j with
  | zero => simp [planN]
  | succ t ih => rw [planN, List.length_append]; split <;> simp <;> omega
theorem pow_mono8 {j : Nat} (h : 8 ≤ j) : 256 ≤ 2 ^ j := Nat.le_trans (by decide) (Nat.pow_le_pow_right (by omega) h)

set_option maxRecDepth 100000 in
theorem depth_bad (n i : Int) (w : World) (h : n < 1 ∨ 256 < n ∨ i < 0 ∨ n ≤ i) :
    Calls Try.prog 21 #[.int .i64 n, .int .i64 i] w fun e w' => e = .returned (.int .i64 (-1)) ∧ w = w' := by
  by_cases h1 : n < 1
  · clear h
    go_enter Try.func21, Try.ntmps21
    go_wp2
    go_ret
    exact ⟨rfl, rfl⟩
  by_cases h2 : 256 < n
  · clear h
    go_enter Try.func21, Try.ntmps21
    go_wp2
    go_ret
    exact ⟨rfl, rfl⟩
  by_cases h3 : i < 0
  · clear h
    go_enter Try.func21, Try.ntmps21
    go_wp2
    go_ret
    exact ⟨rfl, rfl⟩
  have h4 : n ≤ i := by omega
  clear h
  go_enter Try.func21, Try.ntmps21
  go_wp2
  go_ret
  exact ⟨rfl, rfl⟩

set_option maxRecDepth 100000 in
theorem depth_any (n i : Nat) (w : World) (h1 : 1 ≤ n) (h2 : n ≤ 256) (h3 : i < n) :
    Calls Try.prog 21 #[.int .i64 n, .int .i64 i] w fun e w' => e = .returned (.int .i64 (plan n i).length) ∧ w = w' := by
  have q1 : ¬ (n : Int) < 1 := by omega
  have q2 : ¬ (256 : Int) < n := by omega
  have q3 : ¬ (i : Int) < 0 := by omega
  have q4 : ¬ (n : Int) ≤ i := by omega
  generalize hL : (plan n i).length = L
  have HL := hide hL
  clear hL
  go_enter Try.func21, Try.ntmps21
  go_wp2_with fail
  clear q1 q2 q3 q4
  go_loopw [0, 1, 5] (fun nv iv dv wr => w = wr ∧ ∃ j : Nat, j ≤ 8 ∧ nv = .int .i64 (cl j n : Nat) ∧ iv = .int .i64 (i / 2 ^ j : Nat) ∧ dv = .int .i64 ((planN j n i).length : Nat)) (fun nv _ _ _ => (intOf nv).toNat)
  case atStart => exact ⟨rfl, 0, by omega, rfl, by simp, rfl⟩
  case round =>
    obtain ⟨rfl, j, hj, rfl, rfl, rfl⟩ := hrel
    have hpl := planN_length j n i
    have hI : i / 2 ^ j < 256 := Nat.lt_of_le_of_lt (Nat.div_le_self _ _) (by omega)
    have hcb := cl_le j n
    by_cases hlt : 1 < cl j n
    · have hj8 : j < 8 := by
        rcases Nat.lt_or_ge j 8 with h | h
        · exact h
        · rw [cl_one j n h1 (Nat.le_trans h2 (pow_mono8 h))] at hlt
          omega
      have hpa := hide (fun w => partner_any (cl j n) (i / 2 ^ j) w (by omega) (by omega))
      have hI2 : Hid (i / 2 ^ (j + 1) = i / 2 ^ j / 2) := by
        show _ = _
        rw [Nat.pow_succ, Nat.div_div_eq_div_mul]
      have hc2 : Hid (cl (j + 1) n = (cl j n + 1) / 2) := rfl
      obtain ⟨I2, hI2e⟩ : ∃ I2, I2 = i / 2 ^ j / 2 := ⟨_, rfl⟩
      obtain ⟨c2, hc2e⟩ : ∃ c2, c2 = (cl j n + 1) / 2 := ⟨_, rfl⟩
      rw [← hI2e] at hI2
      rw [← hc2e] at hc2
      have hI2b : I2 < 256 := by omega
      have hc2b : c2 ≤ 256 ∧ c2 < cl j n := by omega
      have hst : Hid (planN (j + 1) n i = planN j n i ++ (if pt (i / 2 ^ j) < cl j n then [decide ((i / 2 ^ j) % 2 = 1)] else [])) := rfl
      by_cases hlt2 : pt (i / 2 ^ j) < cl j n
      · rw [if_pos hlt2] at hst
        have hln : Hid ((planN (j + 1) n i).length = (planN j n i).length + 1) := by
          show _ = _
          rw [unhide hst, List.length_append]; rfl
        rw [show decide (pt (i / 2 ^ j) < cl j n) = true from decide_eq_true hlt2] at hpa
        generalize (planN j n i).length = D at *
        generalize cl j n = c at *
        generalize i / 2 ^ j = I at *
        generalize pt I = J at *
        have hq : (I : Int).tdiv 2 = I2 := by rw [hI2e]; rfl
        have hq2 : ((c : Int) + 1).tdiv 2 = c2 := by rw [hc2e]; rfl
        have q1 : (1 : Int) < c := by omega
        clear hI2e hc2e hst
        go_wp2_with fail
        refine (unhide hpa _).mono ?_
        rintro e w4 ⟨rfl, rfl⟩
        go_wp2
        go_roundw
        case rel => exact ⟨trivial, j + 1, by omega, by rw [unhide hc2], by rw [unhide hI2], by rw [unhide hln]; go_num⟩
        case measure => simp [intOf]; omega
      · rw [if_neg hlt2, List.append_nil] at hst
        rw [show decide (pt (i / 2 ^ j) < cl j n) = false from decide_eq_false hlt2] at hpa
        have hln : Hid ((planN (j + 1) n i).length = (planN j n i).length) := by
          show _ = _
          rw [unhide hst]
        generalize (planN j n i).length = D at *
        generalize cl j n = c at *
        generalize i / 2 ^ j = I at *
        generalize pt I = J at *
        have hq : (I : Int).tdiv 2 = I2 := by rw [hI2e]; rfl
        have hq2 : ((c : Int) + 1).tdiv 2 = c2 := by rw [hc2e]; rfl
        have q1 : (1 : Int) < c := by omega
        clear hI2e hc2e hst
        go_wp2_with fail
        refine (unhide hpa _).mono ?_
        rintro e w4 ⟨rfl, rfl⟩
        go_wp2
        go_roundw
        case rel => exact ⟨trivial, j + 1, by omega, by rw [unhide hc2], by rw [unhide hI2], by rw [unhide hln]⟩
        case measure => simp [intOf]; omega
    · have hn : n ≤ 2 ^ j := by
        rcases Nat.lt_or_ge (2 ^ j) n with h | h
        · exact absurd (cl_gt j n h) hlt
        · exact h
      have he : (planN j n i).length = L := by rw [planN_plan j n i h3 hn]; exact unhide HL
      rw [he]
      have q1 : ¬ (1 : Int) < (cl j n : Nat) := by omega
      generalize cl j n = c at *
      generalize i / 2 ^ j = I at *
      clear he hpl hn
      go_wp2
      go_ret
      exact ⟨rfl, rfl⟩

set_option maxRecDepth 100000 in
theorem rhalf_any (n : Nat) (w : World) (h1 : 2 ≤ n) (h2 : n ≤ 100000) :
    Calls Try.prog 46 #[.int .i64 n] w fun e w' => e = .returned (.int .i64 (half n)) ∧ w = w' := by
  generalize hL : half n = L
  have HL := hide hL
  clear hL
  go_enter Try.func46, Try.ntmps46
  go_wp2_with fail
  go_loopw [3] (fun kv wr => w = wr ∧ ∃ t : Nat, kv = .int .i64 (2 ^ t : Nat) ∧ 2 ^ t < n) (fun kv _ => n - (intOf kv).toNat)
  case atStart => exact ⟨rfl, 0, rfl, by omega⟩
  case round =>
    obtain ⟨rfl, t, rfl, ht⟩ := hrel
    have hp : Hid (2 ^ (t + 1) = 2 ^ t * 2) := Nat.pow_succ 2 t
    have h0 : 1 ≤ 2 ^ t := Nat.one_le_two_pow
    by_cases hlt : 2 ^ t * 2 < n
    · generalize 2 ^ t = k at *
      have q1 : (k : Int) * 2 < n := by omega
      go_wp2
      go_roundw
      case rel => exact ⟨trivial, t + 1, by rw [unhide hp]; go_num, by rw [unhide hp]; exact hlt⟩
      case measure => simp [intOf]; omega
    · have he : 2 ^ t = L := by rw [← unhide HL]; exact (half_eq n t ht (by rw [unhide hp]; omega)).symm
      rw [he] at ht hlt h0 ⊢
      have q1 : ¬ (L : Int) * 2 < n := by omega
      clear he
      go_wp2
      go_ret
      exact ⟨rfl, rfl⟩

set_option maxRecDepth 100000 in
theorem rdepth_bad (n i : Int) (w : World) (h : n < 1 ∨ 256 < n ∨ i < 0 ∨ n ≤ i) :
    Calls Try.prog 22 #[.int .i64 n, .int .i64 i] w fun e w' => e = .returned (.int .i64 (-1)) ∧ w = w' := by
  by_cases h1 : n < 1
  · clear h
    go_enter Try.func22, Try.ntmps22
    go_wp2
    go_ret
    exact ⟨rfl, rfl⟩
  by_cases h2 : 256 < n
  · clear h
    go_enter Try.func22, Try.ntmps22
    go_wp2
    go_ret
    exact ⟨rfl, rfl⟩
  by_cases h3 : i < 0
  · clear h
    go_enter Try.func22, Try.ntmps22
    go_wp2
    go_ret
    exact ⟨rfl, rfl⟩
  have h4 : n ≤ i := by omega
  clear h
  go_enter Try.func22, Try.ntmps22
  go_wp2
  go_ret
  exact ⟨rfl, rfl⟩

set_option maxRecDepth 100000 in
theorem rdepth_any (n i : Nat) (w : World) (h1 : 1 ≤ n) (h2 : n ≤ 256) (h3 : i < n) :
    Calls Try.prog 22 #[.int .i64 n, .int .i64 i] w fun e w' => e = .returned (.int .i64 (plan n i).length) ∧ w = w' := by
  have q1 : ¬ (n : Int) < 1 := by omega
  have q2 : ¬ (256 : Int) < n := by omega
  have q3 : ¬ (i : Int) < 0 := by omega
  have q4 : ¬ (n : Int) ≤ i := by omega
  have hl8 := plan_length n i 8 h3 h2
  generalize hL : (plan n i).length = L at *
  have HL := hide hL
  clear hL
  go_enter Try.func22, Try.ntmps22
  go_wp2_with fail
  clear q1 q2 q3 q4
  go_loopw [0, 1, 5] (fun nv iv dv wr => w = wr ∧ ∃ a b d : Nat, 1 ≤ a ∧ a ≤ 256 ∧ b < a ∧ nv = .int .i64 a ∧ iv = .int .i64 b ∧ dv = .int .i64 d ∧ d + (plan a b).length = L) (fun nv _ _ _ => (intOf nv).toNat)
  case atStart => exact ⟨rfl, n, i, 0, h1, h2, h3, rfl, rfl, rfl, by rw [unhide HL]; omega⟩
  case round =>
    obtain ⟨rfl, a, b, d, ha, ha2, hb, rfl, rfl, rfl, hd⟩ := hrel
    by_cases hlt : 1 < a
    · have hh := hide (fun w => rhalf_any a w (by omega) (by omega))
      have hh1 := half_lt a (by omega)
      have hh2 := half_pos a
      have q1 : (1 : Int) < a := by omega
      by_cases hbk : b < half a
      · have hp : (plan a b).length = (plan (half a) b).length + 1 := by rw [plan_left a b (by omega) hbk, List.length_append]; rfl
        have HP : Hid ((d + 1) + (plan (half a) b).length = L) := by show _ = _; omega
        have hdl : d ≤ 8 := by omega
        clear hp hd
        generalize half a = k at *
        have q2 : (b : Int) < k := by omega
        go_wp2_with fail
        refine (unhide hh _).mono ?_
        rintro e w4 ⟨rfl, rfl⟩
        go_wp2
        go_roundw
        case rel => exact ⟨trivial, k, b, d + 1, by omega, by omega, hbk, rfl, rfl, by go_num, unhide HP⟩
        case measure => simp [intOf]; omega
      · have hp : (plan a b).length = (plan (a - half a) (b - half a)).length + 1 := by rw [plan_right a b (by omega) hbk, List.length_append]; rfl
        have HP : Hid ((d + 1) + (plan (a - half a) (b - half a)).length = L) := by show _ = _; omega
        have hdl : d ≤ 8 := by omega
        clear hp hd
        generalize half a = k at *
        obtain ⟨a2, ha2e⟩ : ∃ a2, a2 = a - k := ⟨_, rfl⟩
        obtain ⟨b2, hb2e⟩ : ∃ b2, b2 = b - k := ⟨_, rfl⟩
        rw [← ha2e, ← hb2e] at HP
        have q2 : ¬ (b : Int) < k := by omega
        have q3 : (a : Int) - k = a2 := by omega
        have q4 : (b : Int) - k = b2 := by omega
        have f1 : 1 ≤ a2 ∧ a2 ≤ 256 ∧ b2 < a2 ∧ a2 < a := by omega
        clear ha2e hb2e
        go_wp2_with fail
        refine (unhide hh _).mono ?_
        rintro e w4 ⟨rfl, rfl⟩
        go_wp2
        go_roundw
        case rel => exact ⟨trivial, a2, b2, d + 1, f1.1, f1.2.1, f1.2.2.1, by go_num, by go_num, by go_num, unhide HP⟩
        case measure => simp [intOf]; omega
    · have he : d = L := by rw [plan_one a b (by omega)] at hd; simpa using hd
      subst he
      have q1 : ¬ (1 : Int) < a := by omega
      clear hd HL
      go_wp2
      go_ret
      exact ⟨rfl, rfl⟩

end Go.Proofs.Ytiaohpkcncbdnaa
