/- Contracts of plane's small functions: isPart, Check, number, place, norm, conjugate, told; and of the document's Check. -/
import Derived.Test.YthodhabjcbohcaaTwo
import Derived.Test.YthodhabjcbohcaaGrT
import Derived.Test.YthodhabjcbohcaaFl
import Derived.BigRegion
import Derived.Outline
namespace Go.Proofs.Ythodhabjcbohcaa
open Go.RowKit
set_option linter.unusedVariables false

/-- a place as a value -/
def rv (x y : Int) : Value := .agg #[.int .i64 x, .int .i64 y]
/-- a place and an error -/
def rvE (x : Int × Int × Int) : Value := .tuple #[rv x.1 x.2.1, .int .i64 x.2.2]
def okN (n : Int) : Bool := decide (-1048576 ≤ n ∧ n ≤ 1048576)
/-- whether a place may be -/
def okP (x y : Int) : Bool := okN x && okN y
theorem okN_t {n : Int} (h : okN n = true) : -1048576 ≤ n ∧ n ≤ 1048576 := of_decide_eq_true h
theorem okN_f {n : Int} (h : okN n = false) : ¬ (-1048576 ≤ n ∧ n ≤ 1048576) := of_decide_eq_false h
theorem okP_t {x y : Int} (h : okP x y = true) : (-1048576 ≤ x ∧ x ≤ 1048576) ∧ -1048576 ≤ y ∧ y ≤ 1048576 := by
  unfold okP at h; rw [Bool.and_eq_true] at h; exact ⟨okN_t h.1, okN_t h.2⟩
theorem okP_mk {x y : Int} (h1 : -1048576 ≤ x) (h2 : x ≤ 1048576) (h3 : -1048576 ≤ y) (h4 : y ≤ 1048576) : okP x y = true := by
  unfold okP okN; rw [Bool.and_eq_true]; exact ⟨decide_eq_true ⟨h1, h2⟩, decide_eq_true ⟨h3, h4⟩⟩
/-- what was reckoned, or the error -/
def tol (x y : Int) : Int × Int × Int := if okP x y = true then (x, y, 0) else (0, 0, 8)

/-- a block of two cells, just made -/
theorem two_new (w : World) (x y : Value) (t : TypeId) : (w.alloc (.cells #[x, y] t)).cell? ⟨w.heap.size, 0, none⟩ = some x ∧ (w.alloc (.cells #[x, y] t)).cell? ⟨w.heap.size, 1, none⟩ = some y := by
  have hb := heap_alloc_new w (.cells #[x, y] t)
  constructor <;> rw [cell_of_row _ _ _ _ _ _ hb] <;> rfl

set_option maxRecDepth 100000 in
theorem ispart_any (n : Int) (w : World) : Calls Try.prog 37 #[.int .i64 n] w fun e w' => e = .returned (.bool (okN n)) ∧ w = w' := by
  by_cases h1 : -1048576 ≤ n
  · by_cases h2 : n ≤ 1048576
    · rw [show okN n = true from decide_eq_true ⟨h1, h2⟩]
      go_enter Try.func37, Try.ntmps37
      go_wp2
      go_ret
      exact ⟨rfl, rfl⟩
    · rw [show okN n = false from decide_eq_false (fun h => h2 h.2)]
      have h3 : decide (n ≤ 1048576) = false := decide_eq_false h2
      go_enter Try.func37, Try.ntmps37
      go_wp2
      go_ret
      exact ⟨rfl, rfl⟩
  · rw [show okN n = false from decide_eq_false (fun h => h1 h.1)]
    have h3 : decide (-1048576 ≤ n) = false := decide_eq_false h1
    go_enter Try.func37, Try.ntmps37
    go_wp2
    go_ret
    exact ⟨rfl, rfl⟩

set_option maxRecDepth 100000 in
theorem check_any (x y : Int) (w : World) : Calls Try.prog 17 #[rv x y] w fun e w' => e = .returned (.bool (okP x y)) ∧ Below w.heap.size w w' := by
  have b0 : Hid (Below w.heap.size w (w.alloc (.cells #[.int .i64 x, .int .i64 y] 23))) := (Below.refl _ _).alloc (Nat.le_refl _) _
  obtain ⟨c0, c1⟩ := two_new w (.int .i64 x) (.int .i64 y) 23
  unfold rv okP
  have hx := hide (fun w => ispart_any x w)
  have hy := hide (fun w => ispart_any y w)
  generalize okN x = A at *
  generalize okN y = B at *
  cases A
  · go_enter Try.func17, Try.ntmps17
    go_wp2_with fail
    refine (unhide hx _).mono ?_
    rintro e w1 ⟨rfl, rfl⟩
    go_wp2_with fail
    go_ret
    exact ⟨rfl, unhide b0⟩
  · go_enter Try.func17, Try.ntmps17
    go_wp2_with fail
    refine (unhide hx _).mono ?_
    rintro e w1 ⟨rfl, rfl⟩
    go_wp2_with fail
    refine (unhide hy _).mono ?_
    rintro e w1 ⟨rfl, rfl⟩
    go_wp2_with fail
    go_ret
    exact ⟨by simp, unhide b0⟩

set_option maxRecDepth 100000 in
theorem number_any (x y : Int) (w : World) : Calls Try.prog 35 #[rv x y] w fun e w' => e = .returned (.complex .f64 (floatOfInt .f64 x) (floatOfInt .f64 y)) ∧ Below w.heap.size w w' := by
  have b0 : Hid (Below w.heap.size w (w.alloc (.cells #[.int .i64 x, .int .i64 y] 23))) := (Below.refl _ _).alloc (Nat.le_refl _) _
  obtain ⟨c0, c1⟩ := two_new w (.int .i64 x) (.int .i64 y) 23
  unfold rv
  go_enter Try.func35, Try.ntmps35
  go_wp2
  go_ret
  exact ⟨rfl, unhide b0⟩

theorem toI {x : Nat} {z : Int} (h : Fl x z) (hz : z.natAbs < 9007199254740992) (w : World) : (convert 72 3 (.float .f64 x)).run Try.prog w = .ok (.int .i64 z) w :=
  run_convert_float_int w 72 3 .f64 .i64 x z (by rw [Try.underlying72]; rfl) Try.underlying3 (fl_int h hz)

set_option maxRecDepth 100000 in
theorem place_any (re im : Nat) (x y : Int) (w : World) (hx : Fl re x) (hy : Fl im y) (h1 : x.natAbs < 9007199254740992) (h2 : y.natAbs < 9007199254740992) : Calls Try.prog 39 #[.complex .f64 re im] w fun e w' => e = .returned (rv x y) ∧ Below w.heap.size w w' := by
  have e1 := toI hx h1
  have e2 := toI hy h2
  have t0 := two_alloc w (.int .i64 0) (.int .i64 0) 23
  have x0 := t0.c0
  have x1 := t0.c1
  have x2 := t0.free 0
  have x3 := t0.free 1
  have T0 := hide t0
  clear t0 hx hy h1 h2
  go_enter Try.func39, Try.ntmps39
  go_wp2_with (simp only [e1, e2])
  exact ret_one rfl _ _ _ _ _ rfl (two_alloc w _ _ _) rfl Try.underlying23 (by kernel_rfl) ⟨rfl, (Below.refl _ _).alloc (Nat.le_refl _) _⟩

set_option maxRecDepth 100000 in
theorem norm_any (re im : Nat) (x y : Int) (w : World) (hx : Fl re x) (hy : Fl im y) (h1 : x.natAbs ≤ 33554432) (h2 : y.natAbs ≤ 33554432) : Calls Try.prog 38 #[.complex .f64 re im] w fun e w' => e = .returned (.int .i64 (x * x + y * y)) ∧ w = w' := by
  have g1 := abs_mul_le h1 h1
  have g2 := abs_mul_le h2 h2
  obtain ⟨r1, e1, k1⟩ := fl_mul hx hx (by omega)
  obtain ⟨r2, e2, k2⟩ := fl_mul hy hy (by omega)
  obtain ⟨r3, e3, k3⟩ := fl_add k1 k2 (by omega)
  have f1 := fun t w => run_float_arith (P := Try.prog) w .mul t .f64 re re r1 e1
  have f2 := fun t w => run_float_arith (P := Try.prog) w .mul t .f64 im im r2 e2
  have f3 := fun t w => run_float_arith (P := Try.prog) w .add t .f64 r1 r2 r3 e3
  have f4 := toI k3 (by omega)
  clear e1 e2 e3 k1 k2 k3 hx hy h1 h2 g1 g2
  generalize x * x + y * y = z at *
  go_enter Try.func38, Try.ntmps38
  go_wp2_with (simp only [f1, f2, f3, f4])
  go_ret
  exact ⟨rfl, rfl⟩

set_option maxRecDepth 100000 in
theorem told_any (re im : Nat) (x y : Int) (w : World) (hx : Fl re x) (hy : Fl im y) (h1 : x.natAbs < 9007199254740992) (h2 : y.natAbs < 9007199254740992) : Calls Try.prog 34 #[.complex .f64 re im] w fun e w' => e = .returned (rvE (tol x y)) ∧ Below w.heap.size w w' := by
  have hp := hide (fun w => place_any re im x y w hx hy h1 h2)
  have hc := hide (fun w => check_any x y w)
  have ht : tol x y = if okP x y = true then (x, y, 0) else (0, 0, 8) := rfl
  have t0 := two_alloc w (.int .i64 0) (.int .i64 0) 23
  have T0 := hide t0
  clear t0 hx hy h1 h2
  rw [ht]
  generalize okP x y = E at *
  unfold rv at hp hc
  go_enter Try.func34, Try.ntmps34
  go_wp2_with fail
  refine (unhide hp _).mono ?_
  rintro e w1 ⟨rfl, b1⟩
  have t1 := (unhide T0).up b1
  have t2 := two_alloc w1 (.int .i64 x) (.int .i64 y) 23
  have y0 := t2.c0
  have y1 := t2.c1
  have B1 : Hid (Below w.heap.size w (w1.alloc (.cells #[.int .i64 x, .int .i64 y] 23))) := (((Below.refl _ _).alloc (Nat.le_refl _) _).trans (b1.mono (by simp))).trans (((Below.refl _ _).alloc (Nat.le_refl _) _).mono (by have := b1.size; simp at this; omega))
  have T1 := hide (t1.alloc (.cells #[.int .i64 x, .int .i64 y] 23))
  have T2 := hide t2
  clear t1 t2
  go_wp2_with fail
  refine (unhide hc _).mono ?_
  rintro e w2 ⟨rfl, b2⟩
  have t3 := (unhide T1).up b2
  have t4 := (unhide T2).up b2
  have x0 := t3.c0
  have x1 := t3.c1
  have x2 := t3.free 0
  have x3 := t3.free 1
  have z0 := t4.c0
  have z1 := t4.c1
  have T3 := hide t3
  have B2 : Hid (Below w.heap.size w w2) := (unhide B1).trans (b2.mono (unhide B1).size)
  clear y0 y1 t3 t4 b1 b2 hp hc
  cases E
  · go_wp2
    exact ret_two rfl _ _ _ _ _ _ rfl rfl (((unhide T3).set0 _).set1 _) rfl Try.underlying23 (by kernel_rfl) ⟨rfl, below_two (unhide B2) (Nat.le_refl _) _ _⟩
  · go_wp2
    exact ret_two rfl _ _ _ _ _ _ rfl rfl (((unhide T3).set0 _).set1 _) rfl Try.underlying23 (by kernel_rfl) ⟨rfl, below_two (unhide B2) (Nat.le_refl _) _ _⟩

end Go.Proofs.Ythodhabjcbohcaa
