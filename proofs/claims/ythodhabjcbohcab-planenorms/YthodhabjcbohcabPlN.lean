/- What the law PlaneNorms does, whatever the world: it answers true and changes nothing that was there. -/
import Derived.Test.YthodhabjcbohcabPlG
namespace Go.Proofs.Ythodhabjcbohcab
open Go.RowKit
set_option linter.unusedVariables false

theorem mul_com (a b c d : Int) : mulA a b c d = mulA c d a b := by
  unfold mulA
  rw [Bool.and_comm (okP a b), Int.mul_comm a c, Int.mul_comm b d, Int.mul_comm a d, Int.mul_comm b c, Int.add_comm (d * a)]
theorem tol_ok {x y p q : Int} (h : tol x y = (p, q, 0)) : p = x ∧ q = y ∧ okP x y = true := by
  unfold tol at h
  by_cases hk : okP x y = true
  · rw [if_pos hk] at h
    simp only [Prod.mk.injEq] at h
    exact ⟨h.1.symm, h.2.1.symm, hk⟩
  · rw [if_neg hk] at h
    simp only [Prod.mk.injEq] at h
    exact absurd h.2.2 (by decide)
theorem mul_ok {a b c d p q : Int} (h : mulA a b c d = (p, q, 0)) : p = a * c - b * d ∧ q = a * d + b * c ∧ okP a b = true ∧ okP c d = true ∧ okP p q = true := by
  unfold mulA at h
  by_cases hk : (okP a b && okP c d) = true
  · rw [if_pos hk] at h
    obtain ⟨h1, h2, h3⟩ := tol_ok h
    rw [Bool.and_eq_true] at hk
    subst h1 h2
    exact ⟨rfl, rfl, hk.1, hk.2, h3⟩
  · rw [if_neg hk] at h
    simp only [Prod.mk.injEq] at h
    exact absurd h.2.2 (by decide)
theorem add_ok {a b c d p q : Int} (h : addA a b c d = (p, q, 0)) : p = a + c ∧ q = b + d ∧ okP a b = true ∧ okP c d = true ∧ okP p q = true := by
  unfold addA at h
  by_cases hk : (okP a b && okP c d) = true
  · rw [if_pos hk] at h
    obtain ⟨h1, h2, h3⟩ := tol_ok h
    rw [Bool.and_eq_true] at hk
    subst h1 h2
    exact ⟨rfl, rfl, hk.1, hk.2, h3⟩
  · rw [if_neg hk] at h
    simp only [Prod.mk.injEq] at h
    exact absurd h.2.2 (by decide)
theorem nrm_prod {a b c d p q : Int} (h : mulA a b c d = (p, q, 0)) : nrmA p q = nrmA a b * nrmA c d := by
  obtain ⟨rfl, rfl, h1, h2, h3⟩ := mul_ok h
  unfold nrmA
  rw [if_pos h1, if_pos h2, if_pos h3]
  have e1 : (a * c - b * d) * (a * c - b * d) = (a * c) * (a * c) - (a * c) * (b * d) - (b * d) * (a * c) + (b * d) * (b * d) := by
    rw [Int.sub_mul, Int.mul_sub, Int.mul_sub]; omega
  have e2 : (a * d + b * c) * (a * d + b * c) = (a * d) * (a * d) + (a * d) * (b * c) + (b * c) * (a * d) + (b * c) * (b * c) := by
    rw [Int.add_mul, Int.mul_add, Int.mul_add]; omega
  have e3 : (a * a + b * b) * (c * c + d * d) = (a * a) * (c * c) + (a * a) * (d * d) + (b * b) * (c * c) + (b * b) * (d * d) := by
    rw [Int.add_mul, Int.mul_add, Int.mul_add]; omega
  have f1 : (a * c) * (a * c) = (a * a) * (c * c) := by ac_rfl
  have f2 : (b * d) * (b * d) = (b * b) * (d * d) := by ac_rfl
  have f3 : (a * d) * (a * d) = (a * a) * (d * d) := by ac_rfl
  have f4 : (b * c) * (b * c) = (b * b) * (c * c) := by ac_rfl
  have f5 : (a * c) * (b * d) = (a * d) * (b * c) := by ac_rfl
  have f6 : (b * d) * (a * c) = (a * d) * (b * c) := by ac_rfl
  have f7 : (b * c) * (a * d) = (a * d) * (b * c) := by ac_rfl
  rw [e1, e2, e3, f1, f2, f3, f4, f5, f6, f7]
  omega
theorem err_mul (a b c d : Int) : (mulA a b c d).2.2 = 0 ∨ (mulA a b c d).2.2 = 1 ∨ (mulA a b c d).2.2 = 8 := by
  unfold mulA tol; split
  · split
    · exact Or.inl rfl
    · exact Or.inr (Or.inr rfl)
  · exact Or.inr (Or.inl rfl)
theorem err_add (a b c d : Int) : (addA a b c d).2.2 = 0 ∨ (addA a b c d).2.2 = 1 ∨ (addA a b c d).2.2 = 8 := by
  unfold addA tol; split
  · split
    · exact Or.inl rfl
    · exact Or.inr (Or.inr rfl)
  · exact Or.inr (Or.inl rfl)
theorem nrm_le (x y : Int) : -1 ≤ nrmA x y ∧ nrmA x y ≤ 2199023255552 := by
  unfold nrmA
  split
  · rename_i h
    obtain ⟨⟨a1, a2⟩, a3, a4⟩ := okP_t h
    have m1 := abs_mul_le (n := 1048576) (m := 1048576) (show x.natAbs ≤ _ by omega) (show x.natAbs ≤ _ by omega)
    have m2 := abs_mul_le (n := 1048576) (m := 1048576) (show y.natAbs ≤ _ by omega) (show y.natAbs ≤ _ by omega)
    have p1 : 0 ≤ x * x := by rcases Int.le_total 0 x with h | h; exact Int.mul_nonneg h h; exact Int.mul_nonneg_of_nonpos_of_nonpos h h
    have p2 : 0 ≤ y * y := by rcases Int.le_total 0 y with h | h; exact Int.mul_nonneg h h; exact Int.mul_nonneg_of_nonpos_of_nonpos h h
    omega
  · omega
/-- products go through sums -/
theorem mul_add_ok {a b c d e f sx sy px py qx qy tx ty x y : Int} (h1 : mulA a b c d = (x, y, 0)) (h2 : addA c d e f = (sx, sy, 0)) (h3 : mulA a b sx sy = (px, py, 0)) (h4 : mulA a b e f = (qx, qy, 0)) (h5 : addA x y qx qy = (tx, ty, 0)) : px = tx ∧ py = ty := by
  obtain ⟨rfl, rfl, -⟩ := mul_ok h1
  obtain ⟨rfl, rfl, -⟩ := add_ok h2
  obtain ⟨rfl, rfl, -⟩ := mul_ok h3
  obtain ⟨rfl, rfl, -⟩ := mul_ok h4
  obtain ⟨rfl, rfl, -⟩ := add_ok h5
  simp only [Int.mul_add]
  omega
theorem mul_lim {a b : Int} (h1 : -1 ≤ a) (h2 : a < 1073741824) (h3 : -1 ≤ b) (h4 : b < 1073741824) : -1073741825 ≤ a * b ∧ a * b ≤ 1152921504606846976 := by
  have := abs_mul_le (n := 1073741824) (m := 1073741824) (show a.natAbs ≤ _ by omega) (show b.natAbs ≤ _ by omega)
  by_cases e1 : a = -1
  · subst e1; omega
  · by_cases e2 : b = -1
    · subst e2; omega
    · have := Int.mul_nonneg (show 0 ≤ a by omega) (show 0 ≤ b by omega)
      omega

end Go.Proofs.Ythodhabjcbohcab
