/- Contracts of the document's over, Add, Sub, Mul, Norm, Dist. -/
import Derived.Test.YthodhabjcbohcaaPlG
namespace Go.Proofs.Ythodhabjcbohcaa
open Go.RowKit
set_option linter.unusedVariables false

set_option maxRecDepth 100000 in
theorem over_any (x y : Int) (w : World) : Calls Try.prog 36 #[.int .i64 x, .int .i64 y] w fun e w' => e = .returned (rvE (tol x y)) ∧ Below w.heap.size w w' := by
  have hc := hide (fun w => dcheck_any x y w)
  have HA : Hid (tol x y = if okP x y = true then (x, y, 0) else (0, 0, 8)) := rfl
  have T0 := hide ((two_alloc w (.int .i64 0) (.int .i64 0) 27).alloc (.cells #[.int .i64 x, .int .i64 y] 27))
  have e1 : (w.alloc (.cells #[.int .i64 0, .int .i64 0] 27)).heap.size = w.heap.size + 1 := by simp
  have t1 := two_alloc (w.alloc (.cells #[.int .i64 0, .int .i64 0] 27)) (.int .i64 x) (.int .i64 y) 27
  rw [e1] at t1
  have T1 := hide t1
  clear e1 t1
  have BB : Hid (Below w.heap.size w ((w.alloc (.cells #[.int .i64 0, .int .i64 0] 27)).alloc (.cells #[.int .i64 x, .int .i64 y] 27))) := ((Below.refl _ _).alloc (Nat.le_refl _) _).alloc (by simp) _
  have y0 := (unhide T1).c0
  have y1 := (unhide T1).c1
  generalize tol x y = R at *
  generalize okP x y = E at *
  unfold rv at hc
  go_enter Try.func36, Try.ntmps36
  go_wp2_with fail
  refine (unhide hc _).mono ?_
  rintro e w2 ⟨rfl, b2⟩
  have t3 := (unhide T0).up b2
  have t4 := (unhide T1).up b2
  have x0 := t3.c0
  have x1 := t3.c1
  have x2 := t3.free 0
  have x3 := t3.free 1
  have z0 := t4.c0
  have z1 := t4.c1
  have T3 := hide t3
  have B2 : Hid (Below w.heap.size w w2) := (unhide BB).trans (b2.mono (unhide BB).size)
  clear y0 y1 t3 t4 b2 hc
  cases E
  · go_wp2
    exact ret_two rfl _ _ _ _ _ _ rfl rfl (((unhide T3).set0 _).set1 _) rfl Try.underlying27 (by kernel_rfl) ⟨by rw [unhide HA]; rfl, below_two (unhide B2) (Nat.le_refl _) _ _⟩
  · go_wp2
    exact ret_two rfl _ _ _ _ _ _ rfl rfl (((unhide T3).set0 _).set1 _) rfl Try.underlying27 (by kernel_rfl) ⟨by rw [unhide HA]; rfl, below_two (unhide B2) (Nat.le_refl _) _ _⟩

set_option maxRecDepth 100000 in
theorem dadd_any (a b c d : Int) (w : World) : Calls Try.prog 12 #[rv a b, rv c d] w fun e w' => e = .returned (rvE (addA a b c d)) ∧ Below w.heap.size w w' := by
  have h1 := hide (fun w => dcheck_any a b w)
  have h2 := hide (fun w => dcheck_any c d w)
  have T0 := hide (((two_alloc w (.int .i64 a) (.int .i64 b) 27).alloc (.cells #[.int .i64 c, .int .i64 d] 27)).alloc (.cells #[.int .i64 0, .int .i64 0] 27))
  have e1 : (w.alloc (.cells #[.int .i64 a, .int .i64 b] 27)).heap.size = w.heap.size + 1 := by simp
  have e2 : ((w.alloc (.cells #[.int .i64 a, .int .i64 b] 27)).alloc (.cells #[.int .i64 c, .int .i64 d] 27)).heap.size = w.heap.size + 2 := by simp
  have t1 := (two_alloc (w.alloc (.cells #[.int .i64 a, .int .i64 b] 27)) (.int .i64 c) (.int .i64 d) 27).alloc (.cells #[.int .i64 0, .int .i64 0] 27)
  have t2 := two_alloc ((w.alloc (.cells #[.int .i64 a, .int .i64 b] 27)).alloc (.cells #[.int .i64 c, .int .i64 d] 27)) (.int .i64 0) (.int .i64 0) 27
  rw [e1] at t1
  rw [e2] at t2
  have T1 := hide t1
  have T2 := hide t2
  clear e1 e2 t1 t2
  have BB : Hid (Below w.heap.size w (((w.alloc (.cells #[.int .i64 a, .int .i64 b] 27)).alloc (.cells #[.int .i64 c, .int .i64 d] 27)).alloc (.cells #[.int .i64 0, .int .i64 0] 27))) := (((Below.refl _ _).alloc (Nat.le_refl _) _).alloc (by simp) _).alloc (by simp; omega) _
  have f00 := (unhide T0).c0
  have f01 := (unhide T0).c1
  have HA : Hid (addA a b c d = if (okP a b && okP c d) = true then tol (a + c) (b + d) else (0, 0, 1)) := rfl
  have h3 := hide (fun w => over_any (a + c) (b + d) w)
  generalize addA a b c d = R at *
  have Q1 := hide (@okP_t a b)
  have Q2 := hide (@okP_t c d)
  generalize okP a b = E1 at *
  generalize okP c d = E2 at *
  unfold rv at *
  go_enter Try.func12, Try.ntmps12
  go_wp2_with fail
  refine (unhide h1 _).mono ?_
  rintro e w1 ⟨rfl, b1⟩
  have T0n := hide ((unhide T0).up b1)
  have T1n := hide ((unhide T1).up b1)
  have T2n := hide ((unhide T2).up b1)
  have BBn := hide ((unhide BB).trans (b1.mono (unhide BB).size))
  clear b1 BB T0 T1 T2 f00 f01
  have g0 := (unhide T1n).c0
  have g1 := (unhide T1n).c1
  have x0 := (unhide T2n).c0
  have x1 := (unhide T2n).c1
  have x2 := (unhide T2n).free 0
  have x3 := (unhide T2n).free 1
  cases E1
  · go_wp2
    exact ret_two (p := 4) (q := 5) (ty := 27) (by kernel_rfl) (w.heap.size + 2) 27 (.int .i64 0) (.int .i64 0) (.int .i64 1) _ rfl rfl (((unhide T2n).set0 _).set1 _) rfl Try.underlying27 (by kernel_rfl) ⟨by rw [unhide HA]; rfl, below_two (unhide BBn) (by omega) _ _⟩
  clear x0 x1 x2 x3
  go_wp2_with fail
  refine (unhide h2 _).mono ?_
  rintro e w2 ⟨rfl, b2⟩
  have T0 := hide ((unhide T0n).up b2)
  have T1 := hide ((unhide T1n).up b2)
  have T2 := hide ((unhide T2n).up b2)
  have BB := hide ((unhide BBn).trans (b2.mono (unhide BBn).size))
  clear b2 BBn T0n T1n T2n g0 g1
  cases E2
  · have x0 := (unhide T2).c0
    have x1 := (unhide T2).c1
    have x2 := (unhide T2).free 0
    have x3 := (unhide T2).free 1
    go_wp2
    exact ret_two (p := 4) (q := 5) (ty := 27) (by kernel_rfl) (w.heap.size + 2) 27 (.int .i64 0) (.int .i64 0) (.int .i64 1) _ rfl rfl (((unhide T2).set0 _).set1 _) rfl Try.underlying27 (by kernel_rfl) ⟨by rw [unhide HA]; rfl, below_two (unhide BB) (by omega) _ _⟩
  obtain ⟨⟨a1, a2⟩, a3, a4⟩ := unhide Q1 (by first | rfl | trivial)
  obtain ⟨⟨c1, c2⟩, c3, c4⟩ := unhide Q2 (by first | rfl | trivial)
  have hR : R = tol (a + c) (b + d) := by rw [unhide HA]; rfl
  rw [← hR] at h3
  clear HA hR Q1 Q2
  obtain ⟨x, y, z⟩ := R
  simp only [rvE, rv] at h3
  have f00 := (unhide T0).c0
  have f01 := (unhide T0).c1
  have g0 := (unhide T1).c0
  have g1 := (unhide T1).c1
  go_wp2_with fail
  refine (unhide h3 _).mono ?_
  rintro e w3 ⟨rfl, b3⟩
  have T2n := hide ((unhide T2).up b3)
  have BBn := hide ((unhide BB).trans (b3.mono (unhide BB).size))
  clear b3 T2 BB f00 f01 g0 g1 T0 T1
  have x0 := (unhide T2n).c0
  have x1 := (unhide T2n).c1
  have x2 := (unhide T2n).free 0
  have x3 := (unhide T2n).free 1
  go_wp2
  exact ret_two (p := 4) (q := 5) (ty := 27) (by kernel_rfl) (w.heap.size + 2) 27 (.int .i64 x) (.int .i64 y) (.int .i64 z) _ rfl rfl (((unhide T2n).set0 _).set1 _) rfl Try.underlying27 (by kernel_rfl) ⟨rfl, below_two (unhide BBn) (by omega) _ _⟩

set_option maxRecDepth 100000 in
theorem dsub_any (a b c d : Int) (w : World) : Calls Try.prog 14 #[rv a b, rv c d] w fun e w' => e = .returned (rvE (subA a b c d)) ∧ Below w.heap.size w w' := by
  have h1 := hide (fun w => dcheck_any a b w)
  have h2 := hide (fun w => dcheck_any c d w)
  have T0 := hide (((two_alloc w (.int .i64 a) (.int .i64 b) 27).alloc (.cells #[.int .i64 c, .int .i64 d] 27)).alloc (.cells #[.int .i64 0, .int .i64 0] 27))
  have e1 : (w.alloc (.cells #[.int .i64 a, .int .i64 b] 27)).heap.size = w.heap.size + 1 := by simp
  have e2 : ((w.alloc (.cells #[.int .i64 a, .int .i64 b] 27)).alloc (.cells #[.int .i64 c, .int .i64 d] 27)).heap.size = w.heap.size + 2 := by simp
  have t1 := (two_alloc (w.alloc (.cells #[.int .i64 a, .int .i64 b] 27)) (.int .i64 c) (.int .i64 d) 27).alloc (.cells #[.int .i64 0, .int .i64 0] 27)
  have t2 := two_alloc ((w.alloc (.cells #[.int .i64 a, .int .i64 b] 27)).alloc (.cells #[.int .i64 c, .int .i64 d] 27)) (.int .i64 0) (.int .i64 0) 27
  rw [e1] at t1
  rw [e2] at t2
  have T1 := hide t1
  have T2 := hide t2
  clear e1 e2 t1 t2
  have BB : Hid (Below w.heap.size w (((w.alloc (.cells #[.int .i64 a, .int .i64 b] 27)).alloc (.cells #[.int .i64 c, .int .i64 d] 27)).alloc (.cells #[.int .i64 0, .int .i64 0] 27))) := (((Below.refl _ _).alloc (Nat.le_refl _) _).alloc (by simp) _).alloc (by simp; omega) _
  have f00 := (unhide T0).c0
  have f01 := (unhide T0).c1
  have HA : Hid (subA a b c d = if (okP a b && okP c d) = true then tol (a - c) (b - d) else (0, 0, 1)) := rfl
  have h3 := hide (fun w => over_any (a - c) (b - d) w)
  generalize subA a b c d = R at *
  have Q1 := hide (@okP_t a b)
  have Q2 := hide (@okP_t c d)
  generalize okP a b = E1 at *
  generalize okP c d = E2 at *
  unfold rv at *
  go_enter Try.func14, Try.ntmps14
  go_wp2_with fail
  refine (unhide h1 _).mono ?_
  rintro e w1 ⟨rfl, b1⟩
  have T0n := hide ((unhide T0).up b1)
  have T1n := hide ((unhide T1).up b1)
  have T2n := hide ((unhide T2).up b1)
  have BBn := hide ((unhide BB).trans (b1.mono (unhide BB).size))
  clear b1 BB T0 T1 T2 f00 f01
  have g0 := (unhide T1n).c0
  have g1 := (unhide T1n).c1
  have x0 := (unhide T2n).c0
  have x1 := (unhide T2n).c1
  have x2 := (unhide T2n).free 0
  have x3 := (unhide T2n).free 1
  cases E1
  · go_wp2
    exact ret_two (p := 4) (q := 5) (ty := 27) (by kernel_rfl) (w.heap.size + 2) 27 (.int .i64 0) (.int .i64 0) (.int .i64 1) _ rfl rfl (((unhide T2n).set0 _).set1 _) rfl Try.underlying27 (by kernel_rfl) ⟨by rw [unhide HA]; rfl, below_two (unhide BBn) (by omega) _ _⟩
  clear x0 x1 x2 x3
  go_wp2_with fail
  refine (unhide h2 _).mono ?_
  rintro e w2 ⟨rfl, b2⟩
  have T0 := hide ((unhide T0n).up b2)
  have T1 := hide ((unhide T1n).up b2)
  have T2 := hide ((unhide T2n).up b2)
  have BB := hide ((unhide BBn).trans (b2.mono (unhide BBn).size))
  clear b2 BBn T0n T1n T2n g0 g1
  cases E2
  · have x0 := (unhide T2).c0
    have x1 := (unhide T2).c1
    have x2 := (unhide T2).free 0
    have x3 := (unhide T2).free 1
    go_wp2
    exact ret_two (p := 4) (q := 5) (ty := 27) (by kernel_rfl) (w.heap.size + 2) 27 (.int .i64 0) (.int .i64 0) (.int .i64 1) _ rfl rfl (((unhide T2).set0 _).set1 _) rfl Try.underlying27 (by kernel_rfl) ⟨by rw [unhide HA]; rfl, below_two (unhide BB) (by omega) _ _⟩
  obtain ⟨⟨a1, a2⟩, a3, a4⟩ := unhide Q1 (by first | rfl | trivial)
  obtain ⟨⟨c1, c2⟩, c3, c4⟩ := unhide Q2 (by first | rfl | trivial)
  have hR : R = tol (a - c) (b - d) := by rw [unhide HA]; rfl
  rw [← hR] at h3
  clear HA hR Q1 Q2
  obtain ⟨x, y, z⟩ := R
  simp only [rvE, rv] at h3
  have f00 := (unhide T0).c0
  have f01 := (unhide T0).c1
  have g0 := (unhide T1).c0
  have g1 := (unhide T1).c1
  go_wp2_with fail
  refine (unhide h3 _).mono ?_
  rintro e w3 ⟨rfl, b3⟩
  have T2n := hide ((unhide T2).up b3)
  have BBn := hide ((unhide BB).trans (b3.mono (unhide BB).size))
  clear b3 T2 BB f00 f01 g0 g1 T0 T1
  have x0 := (unhide T2n).c0
  have x1 := (unhide T2n).c1
  have x2 := (unhide T2n).free 0
  have x3 := (unhide T2n).free 1
  go_wp2
  exact ret_two (p := 4) (q := 5) (ty := 27) (by kernel_rfl) (w.heap.size + 2) 27 (.int .i64 x) (.int .i64 y) (.int .i64 z) _ rfl rfl (((unhide T2n).set0 _).set1 _) rfl Try.underlying27 (by kernel_rfl) ⟨rfl, below_two (unhide BBn) (by omega) _ _⟩

set_option maxRecDepth 100000 in
theorem dmul_any (a b c d : Int) (w : World) : Calls Try.prog 15 #[rv a b, rv c d] w fun e w' => e = .returned (rvE (mulA a b c d)) ∧ Below w.heap.size w w' := by
  have h1 := hide (fun w => dcheck_any a b w)
  have h2 := hide (fun w => dcheck_any c d w)
  have T0 := hide (((two_alloc w (.int .i64 a) (.int .i64 b) 27).alloc (.cells #[.int .i64 c, .int .i64 d] 27)).alloc (.cells #[.int .i64 0, .int .i64 0] 27))
  have e1 : (w.alloc (.cells #[.int .i64 a, .int .i64 b] 27)).heap.size = w.heap.size + 1 := by simp
  have e2 : ((w.alloc (.cells #[.int .i64 a, .int .i64 b] 27)).alloc (.cells #[.int .i64 c, .int .i64 d] 27)).heap.size = w.heap.size + 2 := by simp
  have t1 := (two_alloc (w.alloc (.cells #[.int .i64 a, .int .i64 b] 27)) (.int .i64 c) (.int .i64 d) 27).alloc (.cells #[.int .i64 0, .int .i64 0] 27)
  have t2 := two_alloc ((w.alloc (.cells #[.int .i64 a, .int .i64 b] 27)).alloc (.cells #[.int .i64 c, .int .i64 d] 27)) (.int .i64 0) (.int .i64 0) 27
  rw [e1] at t1
  rw [e2] at t2
  have T1 := hide t1
  have T2 := hide t2
  clear e1 e2 t1 t2
  have BB : Hid (Below w.heap.size w (((w.alloc (.cells #[.int .i64 a, .int .i64 b] 27)).alloc (.cells #[.int .i64 c, .int .i64 d] 27)).alloc (.cells #[.int .i64 0, .int .i64 0] 27))) := (((Below.refl _ _).alloc (Nat.le_refl _) _).alloc (by simp) _).alloc (by simp; omega) _
  have f00 := (unhide T0).c0
  have f01 := (unhide T0).c1
  have HA : Hid (mulA a b c d = if (okP a b && okP c d) = true then tol (a * c - b * d) (a * d + b * c) else (0, 0, 1)) := rfl
  have h3 := hide (fun w => over_any (a * c - b * d) (a * d + b * c) w)
  generalize mulA a b c d = R at *
  have Q1 := hide (@okP_t a b)
  have Q2 := hide (@okP_t c d)
  generalize okP a b = E1 at *
  generalize okP c d = E2 at *
  unfold rv at *
  go_enter Try.func15, Try.ntmps15
  go_wp2_with fail
  refine (unhide h1 _).mono ?_
  rintro e w1 ⟨rfl, b1⟩
  have T0n := hide ((unhide T0).up b1)
  have T1n := hide ((unhide T1).up b1)
  have T2n := hide ((unhide T2).up b1)
  have BBn := hide ((unhide BB).trans (b1.mono (unhide BB).size))
  clear b1 BB T0 T1 T2 f00 f01
  have g0 := (unhide T1n).c0
  have g1 := (unhide T1n).c1
  have x0 := (unhide T2n).c0
  have x1 := (unhide T2n).c1
  have x2 := (unhide T2n).free 0
  have x3 := (unhide T2n).free 1
  cases E1
  · go_wp2
    exact ret_two (p := 4) (q := 5) (ty := 27) (by kernel_rfl) (w.heap.size + 2) 27 (.int .i64 0) (.int .i64 0) (.int .i64 1) _ rfl rfl (((unhide T2n).set0 _).set1 _) rfl Try.underlying27 (by kernel_rfl) ⟨by rw [unhide HA]; rfl, below_two (unhide BBn) (by omega) _ _⟩
  clear x0 x1 x2 x3
  go_wp2_with fail
  refine (unhide h2 _).mono ?_
  rintro e w2 ⟨rfl, b2⟩
  have T0 := hide ((unhide T0n).up b2)
  have T1 := hide ((unhide T1n).up b2)
  have T2 := hide ((unhide T2n).up b2)
  have BB := hide ((unhide BBn).trans (b2.mono (unhide BBn).size))
  clear b2 BBn T0n T1n T2n g0 g1
  cases E2
  · have x0 := (unhide T2).c0
    have x1 := (unhide T2).c1
    have x2 := (unhide T2).free 0
    have x3 := (unhide T2).free 1
    go_wp2
    exact ret_two (p := 4) (q := 5) (ty := 27) (by kernel_rfl) (w.heap.size + 2) 27 (.int .i64 0) (.int .i64 0) (.int .i64 1) _ rfl rfl (((unhide T2).set0 _).set1 _) rfl Try.underlying27 (by kernel_rfl) ⟨by rw [unhide HA]; rfl, below_two (unhide BB) (by omega) _ _⟩
  obtain ⟨⟨a1, a2⟩, a3, a4⟩ := unhide Q1 (by first | rfl | trivial)
  obtain ⟨⟨c1, c2⟩, c3, c4⟩ := unhide Q2 (by first | rfl | trivial)
  have m1 := abs_mul_le (n := 1048576) (m := 1048576) (show a.natAbs ≤ _ by omega) (show c.natAbs ≤ _ by omega)
  have m2 := abs_mul_le (n := 1048576) (m := 1048576) (show b.natAbs ≤ _ by omega) (show d.natAbs ≤ _ by omega)
  have m3 := abs_mul_le (n := 1048576) (m := 1048576) (show a.natAbs ≤ _ by omega) (show d.natAbs ≤ _ by omega)
  have m4 := abs_mul_le (n := 1048576) (m := 1048576) (show b.natAbs ≤ _ by omega) (show c.natAbs ≤ _ by omega)
  have l1 : -1099511627776 ≤ a * c ∧ a * c ≤ 1099511627776 := by omega
  have l2 : -1099511627776 ≤ b * d ∧ b * d ≤ 1099511627776 := by omega
  have l3 : -1099511627776 ≤ a * d ∧ a * d ≤ 1099511627776 := by omega
  have l4 : -1099511627776 ≤ b * c ∧ b * c ≤ 1099511627776 := by omega
  clear m1 m2 m3 m4
  have hR : R = tol (a * c - b * d) (a * d + b * c) := by rw [unhide HA]; rfl
  rw [← hR] at h3
  clear HA hR Q1 Q2
  obtain ⟨x, y, z⟩ := R
  simp only [rvE, rv] at h3
  have f00 := (unhide T0).c0
  have f01 := (unhide T0).c1
  have g0 := (unhide T1).c0
  have g1 := (unhide T1).c1
  go_wp2_with fail
  refine (unhide h3 _).mono ?_
  rintro e w3 ⟨rfl, b3⟩
  have T2n := hide ((unhide T2).up b3)
  have BBn := hide ((unhide BB).trans (b3.mono (unhide BB).size))
  clear b3 T2 BB f00 f01 g0 g1 T0 T1
  have x0 := (unhide T2n).c0
  have x1 := (unhide T2n).c1
  have x2 := (unhide T2n).free 0
  have x3 := (unhide T2n).free 1
  go_wp2
  exact ret_two (p := 4) (q := 5) (ty := 27) (by kernel_rfl) (w.heap.size + 2) 27 (.int .i64 x) (.int .i64 y) (.int .i64 z) _ rfl rfl (((unhide T2n).set0 _).set1 _) rfl Try.underlying27 (by kernel_rfl) ⟨rfl, below_two (unhide BBn) (by omega) _ _⟩

set_option maxRecDepth 100000 in
theorem dnrm_any (x y : Int) (w : World) : Calls Try.prog 20 #[rv x y] w fun e w' => e = .returned (.int .i64 (nrmA x y)) ∧ Below w.heap.size w w' := by
  have h1 := hide (fun w => dcheck_any x y w)
  have T0 := hide (two_alloc w (.int .i64 x) (.int .i64 y) 27)
  have BB : Hid (Below w.heap.size w (w.alloc (.cells #[.int .i64 x, .int .i64 y] 27))) := (Below.refl _ _).alloc (Nat.le_refl _) _
  have f0 := (unhide T0).c0
  have f1 := (unhide T0).c1
  have HA : Hid (nrmA x y = if okP x y = true then x * x + y * y else -1) := rfl
  generalize nrmA x y = R at *
  have q1 := hide (@okP_t x y)
  generalize okP x y = E at *
  unfold rv at *
  go_enter Try.func20, Try.ntmps20
  go_wp2_with fail
  refine (unhide h1 _).mono ?_
  rintro e w1 ⟨rfl, b1⟩
  have T1 := hide ((unhide T0).up b1)
  have B1 := hide ((unhide BB).trans (b1.mono (unhide BB).size))
  clear b1 BB T0 f0 f1
  cases E
  · go_wp2
    go_ret
    exact ⟨by rw [unhide HA]; rfl, unhide B1⟩
  · obtain ⟨⟨a1, a2⟩, a3, a4⟩ := unhide q1 (by first | rfl | trivial)
    have m1 := abs_mul_le (n := 1048576) (m := 1048576) (show x.natAbs ≤ _ by omega) (show x.natAbs ≤ _ by omega)
    have m2 := abs_mul_le (n := 1048576) (m := 1048576) (show y.natAbs ≤ _ by omega) (show y.natAbs ≤ _ by omega)
    have l1 : -1099511627776 ≤ x * x ∧ x * x ≤ 1099511627776 := by omega
    have l2 : -1099511627776 ≤ y * y ∧ y * y ≤ 1099511627776 := by omega
    have g0 := (unhide T1).c0
    have g1 := (unhide T1).c1
    clear m1 m2 q1
    go_wp2
    go_ret
    exact ⟨by rw [unhide HA]; rfl, unhide B1⟩

set_option maxRecDepth 100000 in
theorem ddist_any (a b c d : Int) (w : World) : Calls Try.prog 22 #[rv a b, rv c d] w fun e w' => e = .returned (.int .i64 (distA a b c d)) ∧ Below w.heap.size w w' := by
  have h1 := hide (fun w => dcheck_any a b w)
  have h2 := hide (fun w => dcheck_any c d w)
  have T0 := hide ((two_alloc w (.int .i64 a) (.int .i64 b) 27).alloc (.cells #[.int .i64 c, .int .i64 d] 27))
  have e1 : (w.alloc (.cells #[.int .i64 a, .int .i64 b] 27)).heap.size = w.heap.size + 1 := by simp
  have t1 := two_alloc (w.alloc (.cells #[.int .i64 a, .int .i64 b] 27)) (.int .i64 c) (.int .i64 d) 27
  rw [e1] at t1
  have T1 := hide t1
  clear e1 t1
  have BB : Hid (Below w.heap.size w ((w.alloc (.cells #[.int .i64 a, .int .i64 b] 27)).alloc (.cells #[.int .i64 c, .int .i64 d] 27))) := ((Below.refl _ _).alloc (Nat.le_refl _) _).alloc (by simp) _
  have f00 := (unhide T0).c0
  have f01 := (unhide T0).c1
  have HA : Hid (distA a b c d = if (okP a b && okP c d) = true then (a - c) * (a - c) + (b - d) * (b - d) else -1) := rfl
  generalize distA a b c d = R at *
  have Q1 := hide (@okP_t a b)
  have Q2 := hide (@okP_t c d)
  generalize okP a b = E1 at *
  generalize okP c d = E2 at *
  unfold rv at *
  go_enter Try.func22, Try.ntmps22
  go_wp2_with fail
  refine (unhide h1 _).mono ?_
  rintro e w1 ⟨rfl, b1⟩
  have T0n := hide ((unhide T0).up b1)
  have T1n := hide ((unhide T1).up b1)
  have BBn := hide ((unhide BB).trans (b1.mono (unhide BB).size))
  clear b1 BB T0 T1 f00 f01
  have g0 := (unhide T1n).c0
  have g1 := (unhide T1n).c1
  cases E1
  · go_wp2
    go_ret
    exact ⟨by rw [unhide HA]; rfl, unhide BBn⟩
  go_wp2_with fail
  refine (unhide h2 _).mono ?_
  rintro e w2 ⟨rfl, b2⟩
  have T0 := hide ((unhide T0n).up b2)
  have T1 := hide ((unhide T1n).up b2)
  have BB := hide ((unhide BBn).trans (b2.mono (unhide BBn).size))
  clear b2 BBn T0n T1n g0 g1
  cases E2
  · go_wp2
    go_ret
    exact ⟨by rw [unhide HA]; rfl, unhide BB⟩
  obtain ⟨⟨a1, a2⟩, a3, a4⟩ := unhide Q1 (by first | rfl | trivial)
  obtain ⟨⟨c1, c2⟩, c3, c4⟩ := unhide Q2 (by first | rfl | trivial)
  have m1 := abs_mul_le (n := 2097152) (m := 2097152) (show (a - c).natAbs ≤ _ by omega) (show (a - c).natAbs ≤ _ by omega)
  have m2 := abs_mul_le (n := 2097152) (m := 2097152) (show (b - d).natAbs ≤ _ by omega) (show (b - d).natAbs ≤ _ by omega)
  have l1 : -4398046511104 ≤ (a - c) * (a - c) ∧ (a - c) * (a - c) ≤ 4398046511104 := by omega
  have l2 : -4398046511104 ≤ (b - d) * (b - d) ∧ (b - d) * (b - d) ≤ 4398046511104 := by omega
  have f00 := (unhide T0).c0
  have f01 := (unhide T0).c1
  have g0 := (unhide T1).c0
  have g1 := (unhide T1).c1
  clear m1 m2 Q1 Q2
  go_wp2
  go_ret
  exact ⟨by rw [unhide HA]; rfl, unhide BB⟩

end Go.Proofs.Ythodhabjcbohcaa
