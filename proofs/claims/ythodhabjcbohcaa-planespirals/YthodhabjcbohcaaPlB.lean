/- Contracts of plane's Add, Sub, Mul. -/
import Derived.Test.YthodhabjcbohcaaPlA
import Derived.Test.YthodhabjcbohcaaFill
namespace Go.Proofs.Ythodhabjcbohcaa
open Go.RowKit
set_option linter.unusedVariables false

theorem below_row {w w' : World} {B g : Nat} (h : Below B w w') (hB : B ≤ g) (cs : Array Value) : Below B w (w'.setRow g cs) := ⟨h.os, h.tape, h.output, by simpa [World.setRow] using h.size, fun k hk => (setRow_other w' g k cs (by omega)).trans (h.block k hk)⟩
theorem two_one (x y : Int) : (#[Value.int .i64 x, Value.int .i64 y].all fun v => v.oneCell') = true := by simp [Value.oneCell']
theorem gb_two {w : World} {b : Nat} {x y : Value} {t : TypeId} (h : Two w b x y t) (X : Gb w) : Two X.w b x y t := h.up X.ok
def addA (a b c d : Int) : Int × Int × Int := if (okP a b && okP c d) = true then tol (a + c) (b + d) else (0, 0, 1)
def subA (a b c d : Int) : Int × Int × Int := if (okP a b && okP c d) = true then tol (a - c) (b - d) else (0, 0, 1)
def mulA (a b c d : Int) : Int × Int × Int := if (okP a b && okP c d) = true then tol (a * c - b * d) (a * d + b * c) else (0, 0, 1)

set_option maxRecDepth 100000 in
theorem add_any (a b c d : Int) (w : World) : Calls Try.prog 9 #[rv a b, rv c d] w fun e w' => e = .returned (rvE (addA a b c d)) ∧ Below w.heap.size w w' := by
  have h1 := hide (fun w => check_any a b w)
  have h2 := hide (fun w => check_any c d w)
  have n1 := hide (fun w => number_any a b w)
  have n2 := hide (fun w => number_any c d w)
  have T0 := hide (((two_alloc w (.int .i64 a) (.int .i64 b) 23).alloc (.cells #[.int .i64 c, .int .i64 d] 23)).alloc (.cells #[.int .i64 0, .int .i64 0] 23))
  have e1 : (w.alloc (.cells #[.int .i64 a, .int .i64 b] 23)).heap.size = w.heap.size + 1 := by simp
  have e2 : ((w.alloc (.cells #[.int .i64 a, .int .i64 b] 23)).alloc (.cells #[.int .i64 c, .int .i64 d] 23)).heap.size = w.heap.size + 2 := by simp
  have t1 := (two_alloc (w.alloc (.cells #[.int .i64 a, .int .i64 b] 23)) (.int .i64 c) (.int .i64 d) 23).alloc (.cells #[.int .i64 0, .int .i64 0] 23)
  have t2 := two_alloc ((w.alloc (.cells #[.int .i64 a, .int .i64 b] 23)).alloc (.cells #[.int .i64 c, .int .i64 d] 23)) (.int .i64 0) (.int .i64 0) 23
  rw [e1] at t1
  rw [e2] at t2
  have T1 := hide t1
  have T2 := hide t2
  clear e1 e2 t1 t2
  have BB : Hid (Below w.heap.size w (((w.alloc (.cells #[.int .i64 a, .int .i64 b] 23)).alloc (.cells #[.int .i64 c, .int .i64 d] 23)).alloc (.cells #[.int .i64 0, .int .i64 0] 23))) := (((Below.refl _ _).alloc (Nat.le_refl _) _).alloc (by simp) _).alloc (by simp; omega) _
  have f00 := (unhide T0).c0
  have f01 := (unhide T0).c1
  have hA : addA a b c d = if (okP a b && okP c d) = true then tol (a + c) (b + d) else (0, 0, 1) := rfl
  have q1 := @okP_t a b
  have q2 := @okP_t c d
  have Q1 := hide q1
  have Q2 := hide q2
  clear q1 q2
  have HA := hide hA
  generalize addA a b c d = R at *
  clear hA
  generalize okP a b = E1 at *
  generalize okP c d = E2 at *
  unfold rv at h1 h2 n1 n2
  unfold rv
  go_enter Try.func9, Try.ntmps9
  go_wp2_with fail
  refine (unhide h1 _).mono ?_
  rintro e w1 ⟨rfl, b1⟩
  have T0n := hide ((unhide T0).up b1)
  have T1n := hide ((unhide T1).up b1)
  have T2n := hide ((unhide T2).up b1)
  have BBn := hide ((unhide BB).trans (b1.mono (unhide BB).size))
  clear b1 BB T0 T1 T2 f00 f01
  have g0 := (unhide T1n).c0
  have g1 := (unhide T1n).c1
  have x0 := (unhide T2n).c0
  have x1 := (unhide T2n).c1
  have x2 := (unhide T2n).free 0
  have x3 := (unhide T2n).free 1
  cases E1
  · go_wp2
    exact ret_two (p := 4) (q := 5) (ty := 23) (by kernel_rfl) (w.heap.size + 2) 23 (.int .i64 0) (.int .i64 0) (.int .i64 1) _ rfl rfl (((unhide T2n).set0 _).set1 _) rfl Try.underlying23 (by kernel_rfl) ⟨by rw [unhide HA]; rfl, below_two (unhide BBn) (by omega) _ _⟩
  clear x0 x1 x2 x3
  go_wp2_with fail
  refine (unhide h2 _).mono ?_
  rintro e w2 ⟨rfl, b2⟩
  have T0 := hide ((unhide T0n).up b2)
  have T1 := hide ((unhide T1n).up b2)
  have T2 := hide ((unhide T2n).up b2)
  have BB := hide ((unhide BBn).trans (b2.mono (unhide BBn).size))
  clear b2 BBn T0n T1n T2n g0 g1
  cases E2
  · have x0 := (unhide T2).c0
    have x1 := (unhide T2).c1
    have x2 := (unhide T2).free 0
    have x3 := (unhide T2).free 1
    go_wp2
    exact ret_two (p := 4) (q := 5) (ty := 23) (by kernel_rfl) (w.heap.size + 2) 23 (.int .i64 0) (.int .i64 0) (.int .i64 1) _ rfl rfl (((unhide T2).set0 _).set1 _) rfl Try.underlying23 (by kernel_rfl) ⟨by rw [unhide HA]; rfl, below_two (unhide BB) (by omega) _ _⟩
  obtain ⟨⟨a1, a2⟩, a3, a4⟩ := unhide Q1 (by first | rfl | trivial)
  obtain ⟨⟨c1, c2⟩, c3, c4⟩ := unhide Q2 (by first | rfl | trivial)
  obtain ⟨re, im, k1, k2, k3⟩ := fl_csum (fl_of a (by omega)) (fl_of b (by omega)) (fl_of c (by omega)) (fl_of d (by omega)) (by omega) (by omega) (by omega) (by omega)
  have hop := fun t w => run_complex_sum (P := Try.prog) w .add (Or.inl rfl) t .f64 _ _ _ _ re im k1
  have h3 := hide (fun w => told_any re im (a + c) (b + d) w k2 k3 (by omega) (by omega))
  have hR : R = tol (a + c) (b + d) := by rw [unhide HA]; rfl
  rw [← hR] at h3
  clear HA hR
  obtain ⟨x, y, z⟩ := R
  simp only [rvE, rv] at h3
  clear k1 k2 k3 a1 a2 a3 a4 c1 c2 c3 c4 Q1 Q2 
  generalize floatOfInt .f64 a = fa at *
  generalize floatOfInt .f64 b = fb at *
  generalize floatOfInt .f64 c = fc at *
  generalize floatOfInt .f64 d = fd at *
  go_wp2_with fail
  refine wp_region_fill 8 4 21 (w.heap.size + 2) 23 23 #[.int .i64 0, .int .i64 0] #[.int .i64 x, .int .i64 y] ?A0 (by kernel_rfl) (by kernel_rfl) (by kernel_rfl) (by kernel_rfl) ?hp (unhide T2) rfl (by kernel_rfl) (two_one _ _) ?lex ?hq ?_
  case lex =>
    intro X
    have p0 : ∀ x : Gb X.w, _ := fun x => (gb_two (gb_two (unhide T0) X) x).c0
    have p1 : ∀ x : Gb X.w, _ := fun x => (gb_two (gb_two (unhide T0) X) x).c1
    have p2 : ∀ x : Gb X.w, _ := fun x => (gb_two (gb_two (unhide T1) X) x).c0
    have p3 : ∀ x : Gb X.w, _ := fun x => (gb_two (gb_two (unhide T1) X) x).c1
    have hne := gb_ne X.w
    dsimp only [List.eraseIdx_cons_succ, List.eraseIdx_cons_zero]
    iterate 2 (go_big_quiet_step ((go_at_call 35; exact gb_call (unhide n1 _))))
    iterate 2 (go_big_quiet_step ((go_at_call 35; exact gb_call (unhide n2 _))))
    repeat (go_big_quiet_step ((first | (go_at_call 34; exact gb_call (unhide h3 _)))))
    refine wpQuiet_nil ?_
    exact rfl
  case hp => exact rfl
  case hq => exact rfl
  intro w3 b3
  have r1 : (w3.setRow (w.heap.size + 2) #[.int .i64 x, .int .i64 y]).heap[w.heap.size + 2]? = some (.cells #[.int .i64 x, .int .i64 y] 23 (0, 0)) := setRow_heap w3 _ _ _ _ _ ((unhide T2).up b3)
  have B1 := hide (below_row (g := w.heap.size + 2) ((unhide BB).trans (b3.mono (unhide BB).size)) (by omega) #[.int .i64 x, .int .i64 y])
  have R1 : Hid (Two _ _ _ _ _) := r1
  clear r1 b3 BB T0 T1 T2
  generalize w3.setRow (w.heap.size + 2) #[.int .i64 x, .int .i64 y] = W3 at *
  go_wp2
  exact ret_two (p := 4) (q := 5) (ty := 23) (by kernel_rfl) (w.heap.size + 2) 23 (.int .i64 x) (.int .i64 y) (.int .i64 z) _ rfl rfl (unhide R1) rfl Try.underlying23 (by kernel_rfl) ⟨rfl, unhide B1⟩

set_option maxRecDepth 100000 in
theorem sub_any (a b c d : Int) (w : World) : Calls Try.prog 10 #[rv a b, rv c d] w fun e w' => e = .returned (rvE (subA a b c d)) ∧ Below w.heap.size w w' := by
  have h1 := hide (fun w => check_any a b w)
  have h2 := hide (fun w => check_any c d w)
  have n1 := hide (fun w => number_any a b w)
  have n2 := hide (fun w => number_any c d w)
  have T0 := hide (((two_alloc w (.int .i64 a) (.int .i64 b) 23).alloc (.cells #[.int .i64 c, .int .i64 d] 23)).alloc (.cells #[.int .i64 0, .int .i64 0] 23))
  have e1 : (w.alloc (.cells #[.int .i64 a, .int .i64 b] 23)).heap.size = w.heap.size + 1 := by simp
  have e2 : ((w.alloc (.cells #[.int .i64 a, .int .i64 b] 23)).alloc (.cells #[.int .i64 c, .int .i64 d] 23)).heap.size = w.heap.size + 2 := by simp
  have t1 := (two_alloc (w.alloc (.cells #[.int .i64 a, .int .i64 b] 23)) (.int .i64 c) (.int .i64 d) 23).alloc (.cells #[.int .i64 0, .int .i64 0] 23)
  have t2 := two_alloc ((w.alloc (.cells #[.int .i64 a, .int .i64 b] 23)).alloc (.cells #[.int .i64 c, .int .i64 d] 23)) (.int .i64 0) (.int .i64 0) 23
  rw [e1] at t1
  rw [e2] at t2
  have T1 := hide t1
  have T2 := hide t2
  clear e1 e2 t1 t2
  have BB : Hid (Below w.heap.size w (((w.alloc (.cells #[.int .i64 a, .int .i64 b] 23)).alloc (.cells #[.int .i64 c, .int .i64 d] 23)).alloc (.cells #[.int .i64 0, .int .i64 0] 23))) := (((Below.refl _ _).alloc (Nat.le_refl _) _).alloc (by simp) _).alloc (by simp; omega) _
  have f00 := (unhide T0).c0
  have f01 := (unhide T0).c1
  have hA : subA a b c d = if (okP a b && okP c d) = true then tol (a - c) (b - d) else (0, 0, 1) := rfl
  have q1 := @okP_t a b
  have q2 := @okP_t c d
  have Q1 := hide q1
  have Q2 := hide q2
  clear q1 q2
  have HA := hide hA
  generalize subA a b c d = R at *
  clear hA
  generalize okP a b = E1 at *
  generalize okP c d = E2 at *
  unfold rv at h1 h2 n1 n2
  unfold rv
  go_enter Try.func10, Try.ntmps10
  go_wp2_with fail
  refine (unhide h1 _).mono ?_
  rintro e w1 ⟨rfl, b1⟩
  have T0n := hide ((unhide T0).up b1)
  have T1n := hide ((unhide T1).up b1)
  have T2n := hide ((unhide T2).up b1)
  have BBn := hide ((unhide BB).trans (b1.mono (unhide BB).size))
  clear b1 BB T0 T1 T2 f00 f01
  have g0 := (unhide T1n).c0
  have g1 := (unhide T1n).c1
  have x0 := (unhide T2n).c0
  have x1 := (unhide T2n).c1
  have x2 := (unhide T2n).free 0
  have x3 := (unhide T2n).free 1
  cases E1
  · go_wp2
    exact ret_two (p := 4) (q := 5) (ty := 23) (by kernel_rfl) (w.heap.size + 2) 23 (.int .i64 0) (.int .i64 0) (.int .i64 1) _ rfl rfl (((unhide T2n).set0 _).set1 _) rfl Try.underlying23 (by kernel_rfl) ⟨by rw [unhide HA]; rfl, below_two (unhide BBn) (by omega) _ _⟩
  clear x0 x1 x2 x3
  go_wp2_with fail
  refine (unhide h2 _).mono ?_
  rintro e w2 ⟨rfl, b2⟩
  have T0 := hide ((unhide T0n).up b2)
  have T1 := hide ((unhide T1n).up b2)
  have T2 := hide ((unhide T2n).up b2)
  have BB := hide ((unhide BBn).trans (b2.mono (unhide BBn).size))
  clear b2 BBn T0n T1n T2n g0 g1
  cases E2
  · have x0 := (unhide T2).c0
    have x1 := (unhide T2).c1
    have x2 := (unhide T2).free 0
    have x3 := (unhide T2).free 1
    go_wp2
    exact ret_two (p := 4) (q := 5) (ty := 23) (by kernel_rfl) (w.heap.size + 2) 23 (.int .i64 0) (.int .i64 0) (.int .i64 1) _ rfl rfl (((unhide T2).set0 _).set1 _) rfl Try.underlying23 (by kernel_rfl) ⟨by rw [unhide HA]; rfl, below_two (unhide BB) (by omega) _ _⟩
  obtain ⟨⟨a1, a2⟩, a3, a4⟩ := unhide Q1 (by first | rfl | trivial)
  obtain ⟨⟨c1, c2⟩, c3, c4⟩ := unhide Q2 (by first | rfl | trivial)
  obtain ⟨re, im, k1, k2, k3⟩ := fl_csub (fl_of a (by omega)) (fl_of b (by omega)) (fl_of c (by omega)) (fl_of d (by omega)) (by omega) (by omega) (by omega) (by omega)
  have hop := fun t w => run_complex_sum (P := Try.prog) w .sub (Or.inr rfl) t .f64 _ _ _ _ re im k1
  have h3 := hide (fun w => told_any re im (a - c) (b - d) w k2 k3 (by omega) (by omega))
  have hR : R = tol (a - c) (b - d) := by rw [unhide HA]; rfl
  rw [← hR] at h3
  clear HA hR
  obtain ⟨x, y, z⟩ := R
  simp only [rvE, rv] at h3
  clear k1 k2 k3 a1 a2 a3 a4 c1 c2 c3 c4 Q1 Q2 
  generalize floatOfInt .f64 a = fa at *
  generalize floatOfInt .f64 b = fb at *
  generalize floatOfInt .f64 c = fc at *
  generalize floatOfInt .f64 d = fd at *
  go_wp2_with fail
  refine wp_region_fill 8 4 21 (w.heap.size + 2) 23 23 #[.int .i64 0, .int .i64 0] #[.int .i64 x, .int .i64 y] ?A0 (by kernel_rfl) (by kernel_rfl) (by kernel_rfl) (by kernel_rfl) ?hp (unhide T2) rfl (by kernel_rfl) (two_one _ _) ?lex ?hq ?_
  case lex =>
    intro X
    have p0 : ∀ x : Gb X.w, _ := fun x => (gb_two (gb_two (unhide T0) X) x).c0
    have p1 : ∀ x : Gb X.w, _ := fun x => (gb_two (gb_two (unhide T0) X) x).c1
    have p2 : ∀ x : Gb X.w, _ := fun x => (gb_two (gb_two (unhide T1) X) x).c0
    have p3 : ∀ x : Gb X.w, _ := fun x => (gb_two (gb_two (unhide T1) X) x).c1
    have hne := gb_ne X.w
    dsimp only [List.eraseIdx_cons_succ, List.eraseIdx_cons_zero]
    iterate 2 (go_big_quiet_step ((go_at_call 35; exact gb_call (unhide n1 _))))
    iterate 2 (go_big_quiet_step ((go_at_call 35; exact gb_call (unhide n2 _))))
    repeat (go_big_quiet_step ((first | (go_at_call 34; exact gb_call (unhide h3 _)))))
    refine wpQuiet_nil ?_
    exact rfl
  case hp => exact rfl
  case hq => exact rfl
  intro w3 b3
  have r1 : (w3.setRow (w.heap.size + 2) #[.int .i64 x, .int .i64 y]).heap[w.heap.size + 2]? = some (.cells #[.int .i64 x, .int .i64 y] 23 (0, 0)) := setRow_heap w3 _ _ _ _ _ ((unhide T2).up b3)
  have B1 := hide (below_row (g := w.heap.size + 2) ((unhide BB).trans (b3.mono (unhide BB).size)) (by omega) #[.int .i64 x, .int .i64 y])
  have R1 : Hid (Two _ _ _ _ _) := r1
  clear r1 b3 BB T0 T1 T2
  generalize w3.setRow (w.heap.size + 2) #[.int .i64 x, .int .i64 y] = W3 at *
  go_wp2
  exact ret_two (p := 4) (q := 5) (ty := 23) (by kernel_rfl) (w.heap.size + 2) 23 (.int .i64 x) (.int .i64 y) (.int .i64 z) _ rfl rfl (unhide R1) rfl Try.underlying23 (by kernel_rfl) ⟨rfl, unhide B1⟩

set_option maxRecDepth 100000 in
theorem mul_any (a b c d : Int) (w : World) : Calls Try.prog 11 #[rv a b, rv c d] w fun e w' => e = .returned (rvE (mulA a b c d)) ∧ Below w.heap.size w w' := by
  have h1 := hide (fun w => check_any a b w)
  have h2 := hide (fun w => check_any c d w)
  have n1 := hide (fun w => number_any a b w)
  have n2 := hide (fun w => number_any c d w)
  have T0 := hide (((two_alloc w (.int .i64 a) (.int .i64 b) 23).alloc (.cells #[.int .i64 c, .int .i64 d] 23)).alloc (.cells #[.int .i64 0, .int .i64 0] 23))
  have e1 : (w.alloc (.cells #[.int .i64 a, .int .i64 b] 23)).heap.size = w.heap.size + 1 := by simp
  have e2 : ((w.alloc (.cells #[.int .i64 a, .int .i64 b] 23)).alloc (.cells #[.int .i64 c, .int .i64 d] 23)).heap.size = w.heap.size + 2 := by simp
  have t1 := (two_alloc (w.alloc (.cells #[.int .i64 a, .int .i64 b] 23)) (.int .i64 c) (.int .i64 d) 23).alloc (.cells #[.int .i64 0, .int .i64 0] 23)
  have t2 := two_alloc ((w.alloc (.cells #[.int .i64 a, .int .i64 b] 23)).alloc (.cells #[.int .i64 c, .int .i64 d] 23)) (.int .i64 0) (.int .i64 0) 23
  rw [e1] at t1
  rw [e2] at t2
  have T1 := hide t1
  have T2 := hide t2
  clear e1 e2 t1 t2
  have BB : Hid (Below w.heap.size w (((w.alloc (.cells #[.int .i64 a, .int .i64 b] 23)).alloc (.cells #[.int .i64 c, .int .i64 d] 23)).alloc (.cells #[.int .i64 0, .int .i64 0] 23))) := (((Below.refl _ _).alloc (Nat.le_refl _) _).alloc (by simp) _).alloc (by simp; omega) _
  have f00 := (unhide T0).c0
  have f01 := (unhide T0).c1
  have hA : mulA a b c d = if (okP a b && okP c d) = true then tol (a * c - b * d) (a * d + b * c) else (0, 0, 1) := rfl
  have q1 := @okP_t a b
  have q2 := @okP_t c d
  have Q1 := hide q1
  have Q2 := hide q2
  clear q1 q2
  have HA := hide hA
  generalize mulA a b c d = R at *
  clear hA
  generalize okP a b = E1 at *
  generalize okP c d = E2 at *
  unfold rv at h1 h2 n1 n2
  unfold rv
  go_enter Try.func11, Try.ntmps11
  go_wp2_with fail
  refine (unhide h1 _).mono ?_
  rintro e w1 ⟨rfl, b1⟩
  have T0n := hide ((unhide T0).up b1)
  have T1n := hide ((unhide T1).up b1)
  have T2n := hide ((unhide T2).up b1)
  have BBn := hide ((unhide BB).trans (b1.mono (unhide BB).size))
  clear b1 BB T0 T1 T2 f00 f01
  have g0 := (unhide T1n).c0
  have g1 := (unhide T1n).c1
  have x0 := (unhide T2n).c0
  have x1 := (unhide T2n).c1
  have x2 := (unhide T2n).free 0
  have x3 := (unhide T2n).free 1
  cases E1
  · go_wp2
    exact ret_two (p := 4) (q := 5) (ty := 23) (by kernel_rfl) (w.heap.size + 2) 23 (.int .i64 0) (.int .i64 0) (.int .i64 1) _ rfl rfl (((unhide T2n).set0 _).set1 _) rfl Try.underlying23 (by kernel_rfl) ⟨by rw [unhide HA]; rfl, below_two (unhide BBn) (by omega) _ _⟩
  clear x0 x1 x2 x3
  go_wp2_with fail
  refine (unhide h2 _).mono ?_
  rintro e w2 ⟨rfl, b2⟩
  have T0 := hide ((unhide T0n).up b2)
  have T1 := hide ((unhide T1n).up b2)
  have T2 := hide ((unhide T2n).up b2)
  have BB := hide ((unhide BBn).trans (b2.mono (unhide BBn).size))
  clear b2 BBn T0n T1n T2n g0 g1
  cases E2
  · have x0 := (unhide T2).c0
    have x1 := (unhide T2).c1
    have x2 := (unhide T2).free 0
    have x3 := (unhide T2).free 1
    go_wp2
    exact ret_two (p := 4) (q := 5) (ty := 23) (by kernel_rfl) (w.heap.size + 2) 23 (.int .i64 0) (.int .i64 0) (.int .i64 1) _ rfl rfl (((unhide T2).set0 _).set1 _) rfl Try.underlying23 (by kernel_rfl) ⟨by rw [unhide HA]; rfl, below_two (unhide BB) (by omega) _ _⟩
  obtain ⟨⟨a1, a2⟩, a3, a4⟩ := unhide Q1 (by first | rfl | trivial)
  obtain ⟨⟨c1, c2⟩, c3, c4⟩ := unhide Q2 (by first | rfl | trivial)
  have m1 := abs_mul_le (n := 1048576) (m := 1048576) (show a.natAbs ≤ _ by omega) (show c.natAbs ≤ _ by omega)
  have m2 := abs_mul_le (n := 1048576) (m := 1048576) (show b.natAbs ≤ _ by omega) (show d.natAbs ≤ _ by omega)
  have m3 := abs_mul_le (n := 1048576) (m := 1048576) (show a.natAbs ≤ _ by omega) (show d.natAbs ≤ _ by omega)
  have m4 := abs_mul_le (n := 1048576) (m := 1048576) (show b.natAbs ≤ _ by omega) (show c.natAbs ≤ _ by omega)
  obtain ⟨re, im, k1, k2, k3⟩ := fl_cmul (fl_of a (by omega)) (fl_of b (by omega)) (fl_of c (by omega)) (fl_of d (by omega)) 1048576 1048576 (by decide) (by omega) (by omega) (by omega) (by omega)
  have hop := fun t w => run_complex_mul (P := Try.prog) w t _ _ _ _ re im k1
  have h3 := hide (fun w => told_any re im (a * c - b * d) (a * d + b * c) w k2 k3 (by omega) (by omega))
  have hR : R = tol (a * c - b * d) (a * d + b * c) := by rw [unhide HA]; rfl
  rw [← hR] at h3
  clear HA hR
  obtain ⟨x, y, z⟩ := R
  simp only [rvE, rv] at h3
  clear k1 k2 k3 a1 a2 a3 a4 c1 c2 c3 c4 Q1 Q2 m1 m2 m3 m4
  generalize floatOfInt .f64 a = fa at *
  generalize floatOfInt .f64 b = fb at *
  generalize floatOfInt .f64 c = fc at *
  generalize floatOfInt .f64 d = fd at *
  go_wp2_with fail
  refine wp_region_fill 8 4 21 (w.heap.size + 2) 23 23 #[.int .i64 0, .int .i64 0] #[.int .i64 x, .int .i64 y] ?A0 (by kernel_rfl) (by kernel_rfl) (by kernel_rfl) (by kernel_rfl) ?hp (unhide T2) rfl (by kernel_rfl) (two_one _ _) ?lex ?hq ?_
  case lex =>
    intro X
    have p0 : ∀ x : Gb X.w, _ := fun x => (gb_two (gb_two (unhide T0) X) x).c0
    have p1 : ∀ x : Gb X.w, _ := fun x => (gb_two (gb_two (unhide T0) X) x).c1
    have p2 : ∀ x : Gb X.w, _ := fun x => (gb_two (gb_two (unhide T1) X) x).c0
    have p3 : ∀ x : Gb X.w, _ := fun x => (gb_two (gb_two (unhide T1) X) x).c1
    have hne := gb_ne X.w
    dsimp only [List.eraseIdx_cons_succ, List.eraseIdx_cons_zero]
    iterate 2 (go_big_quiet_step ((go_at_call 35; exact gb_call (unhide n1 _))))
    iterate 2 (go_big_quiet_step ((go_at_call 35; exact gb_call (unhide n2 _))))
    repeat (go_big_quiet_step ((first | (go_at_call 34; exact gb_call (unhide h3 _)))))
    refine wpQuiet_nil ?_
    exact rfl
  case hp => exact rfl
  case hq => exact rfl
  intro w3 b3
  have r1 : (w3.setRow (w.heap.size + 2) #[.int .i64 x, .int .i64 y]).heap[w.heap.size + 2]? = some (.cells #[.int .i64 x, .int .i64 y] 23 (0, 0)) := setRow_heap w3 _ _ _ _ _ ((unhide T2).up b3)
  have B1 := hide (below_row (g := w.heap.size + 2) ((unhide BB).trans (b3.mono (unhide BB).size)) (by omega) #[.int .i64 x, .int .i64 y])
  have R1 : Hid (Two _ _ _ _ _) := r1
  clear r1 b3 BB T0 T1 T2
  generalize w3.setRow (w.heap.size + 2) #[.int .i64 x, .int .i64 y] = W3 at *
  go_wp2
  exact ret_two (p := 4) (q := 5) (ty := 23) (by kernel_rfl) (w.heap.size + 2) 23 (.int .i64 x) (.int .i64 y) (.int .i64 z) _ rfl rfl (unhide R1) rfl Try.underlying23 (by kernel_rfl) ⟨rfl, unhide B1⟩

end Go.Proofs.Ythodhabjcbohcaa
