/- Contracts of both nearest; the mathematics of a quotient and its rest. -/
import Derived.Test.YthodhabjcbohcaaPlH
namespace Go.Proofs.Ythodhabjcbohcaa
open Go.RowKit
set_option linter.unusedVariables false

theorem tdiv_floor (N D : Int) (hD : 0 < D) : (N.tdiv D * D ≤ N ∧ N / D = N.tdiv D) ∨ (N < N.tdiv D * D ∧ N / D = N.tdiv D - 1) := by
  rcases Int.le_total 0 N with h | h
  · left
    have e : N.tdiv D = N / D := Int.tdiv_eq_ediv_of_nonneg h
    rw [e]
    have := Int.mul_ediv_add_emod N D
    have := Int.emod_nonneg N (show D ≠ 0 by omega)
    rw [Int.mul_comm]
    exact ⟨by omega, rfl⟩
  · obtain ⟨M, hM⟩ : ∃ M, M = -N := ⟨_, rfl⟩
    have hN : N = -M := by omega
    subst hN
    have e : (-M).tdiv D = -(M / D) := by rw [Int.neg_tdiv, Int.tdiv_eq_ediv_of_nonneg (by omega)]
    rw [e]
    have h1 := Int.mul_ediv_add_emod M D
    have h2 := Int.emod_nonneg M (show D ≠ 0 by omega)
    have h3 := Int.emod_lt_of_pos M hD
    generalize M / D = a at *
    generalize M % D = r at *
    have e1 : -M = -r + D * (-a) := by rw [Int.mul_neg]; omega
    have e2 : (-M) / D = (-r) / D + -a := by rw [e1, Int.add_mul_ediv_left _ _ (by omega)]
    have e3 : -a * D = -(D * a) := by rw [Int.neg_mul, Int.mul_comm]
    rw [e3, e2]
    by_cases hr : r = 0
    · left; subst hr; rw [Int.neg_zero, Int.zero_ediv]; omega
    · right
      have e4 : (-r + D * 1) / D = (-r) / D + 1 := Int.add_mul_ediv_left _ _ (by omega)
      have e5 : (-r + D * 1) / D = 0 := Int.ediv_eq_zero_of_lt (by omega) (by omega)
      omega

/-- the integer nearest to n by d -/
def nrt (n d : Int) : Int := (2 * n + d) / (2 * d)
theorem nrt_spec (n d : Int) (hd : 0 < d) : 2 * (n - nrt n d * d) < d ∧ -d ≤ 2 * (n - nrt n d * d) := by
  have h1 := Int.mul_ediv_add_emod (2 * n + d) (2 * d)
  have h2 := Int.emod_nonneg (2 * n + d) (show 2 * d ≠ 0 by omega)
  have h3 := Int.emod_lt_of_pos (2 * n + d) (show 0 < 2 * d by omega)
  unfold nrt
  generalize (2 * n + d) / (2 * d) = q at *
  have e : 2 * d * q = 2 * (q * d) := by rw [Int.mul_assoc, Int.mul_comm d q]
  rw [e] at h1
  omega
/-- it is told by that -/
theorem nrt_eq (n d q : Int) (hd : 0 < d) (h1 : 2 * (n - q * d) < d) (h2 : -d ≤ 2 * (n - q * d)) : nrt n d = q := by
  unfold nrt
  have e : 2 * n + d = (2 * (n - q * d) + d) + (2 * d) * q := by
    have : 2 * d * q = 2 * (q * d) := by rw [Int.mul_assoc, Int.mul_comm d q]
    omega
  rw [e, Int.add_mul_ediv_left _ _ (by omega), Int.ediv_eq_zero_of_lt (by omega) (by omega)]
  omega

theorem abs_le_sq (t : Int) : (t.natAbs : Int) ≤ t * t := by
  have h : t * t = ((t.natAbs * t.natAbs : Nat) : Int) := by rw [Int.natCast_mul, Int.natAbs_mul_self']
  rw [h]
  have := Nat.le_mul_self t.natAbs
  omega

theorem sq_nonneg (t : Int) : 0 ≤ t * t := Int.le_trans (by omega) (abs_le_sq t)

/-- bounds of the quotient -/
theorem nrt_le (n d : Int) (hd : 0 < d) (hn : n.natAbs ≤ 1048576 * d.natAbs) : (nrt n d).natAbs ≤ 1048577 := by
  obtain ⟨h1, h2⟩ := nrt_spec n d hd
  refine Nat.le_of_not_lt fun hlt => ?_
  rcases Int.le_total 0 (nrt n d) with h | h
  · have := Int.mul_le_mul_of_nonneg_right (show 1048578 ≤ nrt n d by omega) (Int.le_of_lt hd)
    omega
  · have := Int.mul_le_mul_of_nonneg_right (show nrt n d ≤ -1048578 by omega) (Int.le_of_lt hd)
    omega

set_option maxRecDepth 100000 in
theorem nearest_any (n d : Int) (w : World) (hd : 0 < d) (hd2 : d ≤ 2199023255552) (hn1 : -4398046511104 ≤ n) (hn2 : n ≤ 4398046511104) : Calls Try.prog 46 #[.int .i64 n, .int .i64 d] w fun e w' => e = .returned (.int .i64 (nrt n d)) ∧ w = w' := by
  have hf := tdiv_floor (2 * n + d) (2 * d) (by omega)
  have hN : (2 * n + d) / (2 * d) = nrt n d := rfl
  rw [hN] at hf
  have hb : ((2 * n + d).tdiv (2 * d)).natAbs ≤ (2 * n + d).natAbs := by rw [Int.natAbs_tdiv]; exact Nat.div_le_self _ _
  have hm : ((2 * n + d).tdiv (2 * d) * (2 * d)).natAbs ≤ (2 * n + d).natAbs := by
    rw [Int.natAbs_mul, Int.natAbs_tdiv]; exact Nat.div_mul_le_self _ _
  have hd3 : ¬ (2 * d = 0) := by omega
  have HN : Hid (nrt n d = nrt n d) := rfl
  generalize hq : (2 * n + d).tdiv (2 * d) = q at *
  generalize hqm : q * (2 * d) = m at *
  have b1 : -9000000000000000 ≤ q ∧ q ≤ 9000000000000000 := by omega
  have b2 : -9000000000000000 ≤ m ∧ m ≤ 9000000000000000 := by omega
  clear hb hm hN
  generalize nrt n d = R at *
  rcases hf with ⟨h1, h2⟩ | ⟨h1, h2⟩
  · have h3 : ¬ 2 * n + d < m := by omega
    have h4 : decide (2 * n + d < m) = false := decide_eq_false h3
    have HR := hide h2
    clear h2 HN
    go_enter Try.func46, Try.ntmps46
    go_wp2
    go_ret
    exact ⟨by rw [unhide HR]; rfl, rfl⟩
  · have h4 : decide (2 * n + d < m) = true := decide_eq_true h1
    have HR := hide h2
    clear h2 HN
    go_enter Try.func46, Try.ntmps46
    go_wp2
    go_ret
    exact ⟨by rw [unhide HR]; rfl, rfl⟩

set_option maxRecDepth 100000 in
theorem dnearest_any (n d : Int) (w : World) (hd : 0 < d) (hd2 : d ≤ 2199023255552) (hn1 : -4398046511104 ≤ n) (hn2 : n ≤ 4398046511104) : Calls Try.prog 47 #[.int .i64 n, .int .i64 d] w fun e w' => e = .returned (.int .i64 (nrt n d)) ∧ w = w' := by
  have hf := tdiv_floor n d hd
  have hs1 := Int.mul_ediv_add_emod n d
  have hs2 := Int.emod_nonneg n (show d ≠ 0 by omega)
  have hs3 := Int.emod_lt_of_pos n hd
  have hu := fun q => nrt_eq n d q hd
  have hb : (n.tdiv d).natAbs ≤ n.natAbs := by rw [Int.natAbs_tdiv]; exact Nat.div_le_self _ _
  have hm : (n.tdiv d * d).natAbs ≤ n.natAbs := by
    rw [Int.natAbs_mul, Int.natAbs_tdiv]; exact Nat.div_mul_le_self _ _
  have hd3 : ¬ (d = 0) := by omega
  have e0 : d * (n / d) = n / d * d := Int.mul_comm _ _
  rw [e0] at hs1
  generalize hR : nrt n d = R at *
  generalize n % d = r at *
  generalize hq : n.tdiv d = q at *
  rcases hf with ⟨h1, h2⟩ | ⟨h1, h2⟩
  · rw [h2] at hs1
    have hu0 := hu q
    have hu1 := hu (q + 1)
    rw [Int.add_mul, Int.one_mul] at hu1
    clear h2 hu e0 hR
    generalize hqm : q * d = m at *
    have h3 : ¬ n < m := by omega
    have h4 : decide (n < m) = false := decide_eq_false h3
    have b1 : -9000000000000000 ≤ q ∧ q ≤ 9000000000000000 := by omega
    have b2 : -9000000000000000 ≤ m ∧ m ≤ 9000000000000000 := by omega
    by_cases h5 : d ≤ 2 * (n - m)
    · have hR : R = q + 1 := hu1 (by omega) (by omega)
      have HR := hide hR
      clear hR hu0 hu1 hs1 hs2 hs3 hb hm
      go_enter Try.func47, Try.ntmps47
      go_wp2
      go_ret
      exact ⟨by rw [unhide HR]; rfl, rfl⟩
    · have hR : R = q := hu0 (by omega) (by omega)
      have h6 : decide (d ≤ 2 * (n - m)) = false := decide_eq_false h5
      have HR := hide hR
      clear hR hu0 hu1 hs1 hs2 hs3 hb hm
      go_enter Try.func47, Try.ntmps47
      go_wp2
      go_ret
      exact ⟨by rw [unhide HR]; rfl, rfl⟩
  · rw [h2] at hs1
    have hu0 := hu (q - 1)
    have hu1 := hu q
    rw [Int.sub_mul, Int.one_mul] at hu0 hs1
    have hqd : (q - 1) * d = q * d - d := by rw [Int.sub_mul, Int.one_mul]
    clear h2 hu e0 hR
    generalize hqm : q * d = m at *
    have h4 : decide (n < m) = true := decide_eq_true h1
    have b1 : -9000000000000000 ≤ q ∧ q ≤ 9000000000000000 := by omega
    have b2 : -9000000000000000 ≤ m ∧ m ≤ 9000000000000000 := by omega
    have b3 : -9000000000000000 ≤ m - d ∧ m - d ≤ 9000000000000000 := by omega
    by_cases h5 : d ≤ 2 * (n - (m - d))
    · have hR : R = q := hu1 (by omega) (by omega)
      have HR := hide hR
      clear hR hu0 hu1 hs1 hs2 hs3 hb hm
      go_enter Try.func47, Try.ntmps47
      go_wp2
      go_ret
      exact ⟨by rw [unhide HR]; first | rfl | simp, rfl⟩
    · have hR : R = q - 1 := hu0 (by omega) (by omega)
      have h6 : decide (d ≤ 2 * (n - (m - d))) = false := decide_eq_false h5
      have HR := hide hR
      clear hR hu0 hu1 hs1 hs2 hs3 hb hm
      go_enter Try.func47, Try.ntmps47
      go_wp2
      go_ret
      exact ⟨by rw [unhide HR]; rfl, rfl⟩

/-- a place that may be and is not 0 has a norm above 0 -/
theorem norm_pos {c d : Int} (h : ¬ (c = 0 ∧ d = 0)) : 0 < c * c + d * d := by
  have h1 := abs_le_sq c
  have h2 := abs_le_sq d
  omega

/-- the rest's norm is at most half of the divisor's -/
theorem rest_le (a b c d : Int) (h : ¬ (c = 0 ∧ d = 0)) : let N := c * c + d * d; let x := nrt (a * c + b * d) N; let y := nrt (b * c - a * d) N; let u := a - (x * c - y * d); let v := b - (x * d + y * c); 2 * (u * u + v * v) ≤ N := by
  intro N x y u v
  have hN : 0 < N := norm_pos h
  obtain ⟨p1, p2⟩ := nrt_spec (a * c + b * d) N hN
  obtain ⟨q1, q2⟩ := nrt_spec (b * c - a * d) N hN
  -- what is left, times the other one turned
  have e1 : u * c + v * d = (a * c + b * d) - x * N := by
    show (a - (x * c - y * d)) * c + (b - (x * d + y * c)) * d = (a * c + b * d) - x * (c * c + d * d)
    simp only [Int.sub_mul, Int.add_mul, Int.mul_add]
    have f1 : x * c * c = x * (c * c) := Int.mul_assoc _ _ _
    have f2 : x * d * d = x * (d * d) := Int.mul_assoc _ _ _
    have f3 : y * c * d = y * d * c := by ac_rfl
    omega
  have e2 : v * c - u * d = (b * c - a * d) - y * N := by
    show (b - (x * d + y * c)) * c - (a - (x * c - y * d)) * d = (b * c - a * d) - y * (c * c + d * d)
    simp only [Int.sub_mul, Int.add_mul, Int.mul_add]
    have f1 : y * c * c = y * (c * c) := Int.mul_assoc _ _ _
    have f2 : y * d * d = y * (d * d) := Int.mul_assoc _ _ _
    have f3 : x * d * c = x * c * d := by ac_rfl
    omega
  rw [← e1] at p1 p2
  rw [← e2] at q1 q2
  have e3 : (u * c + v * d) * (u * c + v * d) + (v * c - u * d) * (v * c - u * d) = (u * u + v * v) * N := by
    show _ = (u * u + v * v) * (c * c + d * d)
    generalize u = u at *
    simp only [Int.add_mul, Int.mul_add, Int.sub_mul, Int.mul_sub]
    have f1 : u * c * (u * c) = u * u * (c * c) := by ac_rfl
    have f2 : v * d * (v * d) = v * v * (d * d) := by ac_rfl
    have f3 : v * c * (v * c) = v * v * (c * c) := by ac_rfl
    have f4 : u * d * (u * d) = u * u * (d * d) := by ac_rfl
    have f5 : u * c * (v * d) = u * d * (v * c) := by ac_rfl
    have f6 : v * d * (u * c) = u * d * (v * c) := by ac_rfl
    have f7 : v * c * (u * d) = u * d * (v * c) := by ac_rfl
    omega
  generalize u * c + v * d = s at *
  generalize v * c - u * d = t at *
  -- squares of what is at most half
  have sq : ∀ z : Int, 2 * z < N → -N ≤ 2 * z → 4 * (z * z) ≤ N * N := by
    intro z h1 h2
    have : (2 * z).natAbs * (2 * z).natAbs ≤ N.natAbs * N.natAbs := Nat.mul_le_mul (by omega) (by omega)
    have g1 : ((2 * z).natAbs * (2 * z).natAbs : Int) = (2 * z) * (2 * z) := Int.natAbs_mul_self' _
    have g2 : (N.natAbs * N.natAbs : Int) = N * N := Int.natAbs_mul_self' _
    have g3 : (2 * z) * (2 * z) = 4 * (z * z) := by rw [Int.mul_assoc, Int.mul_left_comm z 2 z]; omega
    rw [← g3, ← g1, ← g2]
    exact_mod_cast this
  have s1 := sq s p1 p2
  have s2 := sq t q1 q2
  have s3 : 2 * ((u * u + v * v) * N) ≤ N * N := by omega
  refine Int.le_of_mul_le_mul_right (a := N) ?_ hN
  rw [Int.mul_assoc]
  exact s3

end Go.Proofs.Ythodhabjcbohcaa
