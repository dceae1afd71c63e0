/- What the law PlaneNorms does, whatever the world: it answers true and changes nothing that was there. -/
import Derived.Test.YthodhabjcbohcabPlN1
import Derived.Test.YthodhabjcbohcabPlN2
import Derived.Test.YthodhabjcbohcabPlN3
import Derived.Test.YthodhabjcbohcabPlN4
namespace Go.Proofs.Ythodhabjcbohcab
open Go.RowKit
set_option linter.unusedVariables false

set_option maxRecDepth 100000 in
set_option maxHeartbeats 4000000 in
theorem planeNorms_any (a b c d e f : Int) (w : World) (wa : (Lit.int .i64 a).wf = true) (wb : (Lit.int .i64 b).wf = true) (wc : (Lit.int .i64 c).wf = true) (wd : (Lit.int .i64 d).wf = true) (we : (Lit.int .i64 e).wf = true) (wf : (Lit.int .i64 f).wf = true) :
    Calls Try.prog 3 #[rv a b, rv c d, rv e f] w fun e w' => e = .returned (.bool true) ∧ Below w.heap.size w w' := by
  clear wa wb wc wd we wf
  have h0 := fun w => mul_any a b c d w
  have h1 := fun w => mul_any c d a b w
  rw [mul_com c d a b] at h1
  have h2 := fun w => add_any c d e f w
  have h4 := fun w => mul_any a b e f w
  have n1 := fun w => nrm_any a b w
  have n2 := fun w => nrm_any c d w
  have k0 := err_mul a b c d
  have k2 := err_add c d e f
  have k4 := err_mul a b e f
  have l1 := nrm_le a b
  have l2 := nrm_le c d
  obtain ⟨R0, r0⟩ : ∃ R, R = mulA a b c d := ⟨_, rfl⟩
  obtain ⟨R2, r2⟩ : ∃ R, R = addA c d e f := ⟨_, rfl⟩
  obtain ⟨R4, r4⟩ : ∃ R, R = mulA a b e f := ⟨_, rfl⟩
  rw [← r0] at h0 h1 k0
  rw [← r2] at h2 k2
  rw [← r4] at h4 k4
  obtain ⟨x0, y0, z0⟩ := R0
  obtain ⟨x2, y2, z2⟩ := R2
  obtain ⟨x4, y4, z4⟩ := R4
  have h3 := fun w => mul_any a b x2 y2 w
  have h5 := fun w => add_any x0 y0 x4 y4 w
  have n3 := fun w => nrm_any x0 y0 w
  have k3 := err_mul a b x2 y2
  have k5 := err_add x0 y0 x4 y4
  obtain ⟨R3, r3⟩ : ∃ R, R = mulA a b x2 y2 := ⟨_, rfl⟩
  obtain ⟨R5, r5⟩ : ∃ R, R = addA x0 y0 x4 y4 := ⟨_, rfl⟩
  rw [← r3] at h3 k3
  rw [← r5] at h5 k5
  obtain ⟨x3, y3, z3⟩ := R3
  obtain ⟨x5, y5, z5⟩ := R5
  dsimp only at k0 k2 k3 k4 k5
  have hprod : z0 = 0 → nrmA x0 y0 = nrmA a b * nrmA c d := fun hz => nrm_prod (by rw [← r0, hz])
  have hsum : z0 = 0 → z2 = 0 → z3 = 0 → z4 = 0 → z5 = 0 → x3 = x5 ∧ y3 = y5 := by
    rintro rfl rfl rfl rfl rfl
    exact mul_add_ok r0.symm r2.symm r3.symm r4.symm r5.symm
  clear r0 r2 r3 r4 r5
  generalize nrmA a b = N1 at *
  generalize nrmA c d = N2 at *
  generalize nrmA x0 y0 = N3 at *
  have j0 : 0 ≤ z0 ∧ z0 ≤ 8 := by omega
  have j2 : 0 ≤ z2 ∧ z2 ≤ 8 := by omega
  have j3 : 0 ≤ z3 ∧ z3 ≤ 8 := by omega
  have j4 : 0 ≤ z4 ∧ z4 ≤ 8 := by omega
  have j5 : 0 ≤ z5 ∧ z5 ≤ 8 := by omega
  clear k0 k2 k3 k4 k5
  simp only [rvE] at h0 h1 h2 h3 h4 h5
  by_cases hz0 : z0 = 0
  · subst hz0
    have hp := hprod rfl
    subst hp
    by_cases hz : z2 = 0 ∧ z3 = 0 ∧ z4 = 0 ∧ z5 = 0
    · obtain ⟨rfl, rfl, rfl, rfl⟩ := hz
      obtain ⟨rfl, rfl⟩ := hsum rfl rfl rfl rfl rfl
      by_cases g1 : N1 < 1073741824
      · by_cases g2 : N2 < 1073741824
        · exact n_tt a b c d e f x0 y0 x2 y2 x3 y3 x4 y4 N1 N2 w h0 h1 h2 h3 h4 h5 n1 n2 n3 g1 g2 (mul_lim l1.1 g1 l2.1 g2)
        · exact n_bt a b c d e f x0 y0 x2 y2 x3 y3 x4 y4 N1 N2 w h0 h1 h2 h3 h4 h5 n1 n2 g1 (decide_eq_false g2)
      · exact n_ct a b c d e f x0 y0 x2 y2 x3 y3 x4 y4 N1 N2 w h0 h1 h2 h3 h4 h5 n1 n2 (decide_eq_false g1)
    · by_cases g1 : N1 < 1073741824
      · by_cases g2 : N2 < 1073741824
        · exact n_tf a b c d e f x0 y0 x2 y2 x3 y3 x4 y4 N1 N2 x5 y5 z2 z3 z4 z5 w h0 h1 h2 h3 h4 h5 n1 n2 n3 g1 g2 (mul_lim l1.1 g1 l2.1 g2) j2 j3 j4 j5 hz
        · exact n_bf a b c d e f x0 y0 x2 y2 x3 y3 x4 y4 N1 N2 x5 y5 z2 z3 z4 z5 w h0 h1 h2 h3 h4 h5 n1 n2 g1 (decide_eq_false g2) j2 j3 j4 j5 hz
      · exact n_cf a b c d e f x0 y0 x2 y2 x3 y3 x4 y4 N1 N2 x5 y5 z2 z3 z4 z5 w h0 h1 h2 h3 h4 h5 n1 n2 (decide_eq_false g1) j2 j3 j4 j5 hz
  · exact n_z a b c d e f x0 y0 x2 y2 x3 y3 x4 y4 N1 N2 x5 y5 z2 z3 z4 z5 z0 w h0 h1 h2 h3 h4 h5 n1 n2 (by simpa using hz0) (decide_eq_false hz0) j2 j3 j4 j5 j0 hz0

end Go.Proofs.Ythodhabjcbohcab
