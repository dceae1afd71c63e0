/- Contracts of ratio's Add, Sub, Mul, Div and the document's Of, Sum, Mul, Div. -/
import Derived.Test.YtmaeebgphblilaaRtD
namespace Go.Proofs.Ytmaeebgphblilaa
open Go.RowKit
set_option linter.unusedVariables false

set_option maxRecDepth 100000 in
set_option maxHeartbeats 1000000 in
theorem add_any (a b c d : Int) (w : World) (ha0 : -9223372036854775808 ≤ a) (ha1 : a ≤ 9223372036854775807) (hb0 : -9223372036854775808 ≤ b) (hb1 : b ≤ 9223372036854775807) (hc0 : -9223372036854775808 ≤ c) (hc1 : c ≤ 9223372036854775807) (hd0 : -9223372036854775808 ≤ d) (hd1 : d ≤ 9223372036854775807) : Calls Try.prog 17 #[rv a b, rv c d] w fun e w' => e = .returned (rvE (addA a b c d)) ∧ Below w.heap.size w w' := by
  obtain ⟨t1, t2, t3, b0⟩ := three_new w (.int .i64 a) (.int .i64 b) (.int .i64 c) (.int .i64 d) (.int .i64 0) (.int .i64 0) 23
  have T1 := hide t1
  have T2 := hide t2
  have T3 := hide t3
  have B0 := hide b0
  clear t1 t2 t3 b0
  have h1 := hide (fun w => both_any a b c d w ha0 ha1 hb0 hb1 hc0 hc1 hd0 hd1)
  cases hB : (okR a b && okR c d)
  · have hA : addA a b c d = (0, 0, 1) := by unfold addA; rw [hB]; rfl
    rw [hA]
    rw [hB] at h1
    clear hA hB
    unfold rv at *
    go_enter Try.func17, Try.ntmps17
    go_wp2_with fail
    refine (unhide h1 _).mono ?_
    rintro e w1 ⟨rfl, b1⟩
    have t1 := (unhide T1).up b1
    have t2 := (unhide T2).up b1
    have t3 := (unhide T3).up b1
    have B1 := hide ((unhide B0).trans (b1.mono (unhide B0).size))
    clear T1 T2 T3 b1
    have p0 := t1.c0
    have p1 := t1.c1
    have q0 := t2.c0
    have q1 := t2.c1
    have T1 := hide t1
    have T2 := hide t2
    have x0 := t3.c0
    have x1 := t3.c1
    have x2 := t3.free 0
    have x3 := t3.free 1
    have T3 := hide t3
    clear t3 t1 t2
    go_wp2
    exact ret_two (p := 4) (q := 5) (ty := 23) (by kernel_rfl) (w.heap.size + 1 + 1) 23 (.int .i64 0) (.int .i64 0) (.int .i64 1) _ rfl rfl (((unhide T3).set0 _).set1 _) rfl Try.underlying23 (by kernel_rfl) ⟨rfl, below_two (unhide B1) (by omega) _ _⟩
  rw [hB] at h1
  have hE : okR a b = true := by rw [Bool.and_eq_true] at hB; exact hB.1
  have hF : okR c d = true := by rw [Bool.and_eq_true] at hB; exact hB.2
  obtain ⟨m1, m2, m3, m4, _⟩ := okR_of hE
  obtain ⟨m5, m6, m7, m8, _⟩ := okR_of hF
  clear hE hF
  have hA : addA a b c d = loA (a * d + c * b) (b * d) := by unfold addA; rw [if_pos hB]
  rw [hA]
  clear hA hB
  have k0 := prod_bound (x := a) (y := d) (by omega) (by omega) (by omega) (by omega)
  have k1 := prod_bound (x := c) (y := b) (by omega) (by omega) (by omega) (by omega)
  have k2 := prod_bound (x := b) (y := d) (by omega) (by omega) (by omega) (by omega)
  have hnz : b * d ≠ 0 := Int.ne_of_gt (Int.mul_pos m3 m7)
  have hlo := hide (fun w => lowest_any (a * d + c * b) (b * d) w (by omega) (by omega) (by omega) (by omega) hnz)
  generalize loA (a * d + c * b) (b * d) = R at *
  obtain ⟨x, y, z⟩ := R
  unfold rv at *
  go_enter Try.func17, Try.ntmps17
  go_wp2_with fail
  refine (unhide h1 _).mono ?_
  rintro e w1 ⟨rfl, b1⟩
  have t1 := (unhide T1).up b1
  have t2 := (unhide T2).up b1
  have t3 := (unhide T3).up b1
  have B1 := hide ((unhide B0).trans (b1.mono (unhide B0).size))
  clear T1 T2 T3 b1
  have p0 := t1.c0
  have p1 := t1.c1
  have q0 := t2.c0
  have q1 := t2.c1
  have T1 := hide t1
  have T2 := hide t2
  have x0 := t3.c0
  have x1 := t3.c1
  have x2 := t3.free 0
  have x3 := t3.free 1
  have T3 := hide t3
  clear t3 t1 t2
  go_wp2_with fail
  clear p0 p1 q0 q1 x0 x1 x2 x3
  refine (unhide hlo _).mono ?_
  rintro e w2 ⟨rfl, b2⟩
  have t3 := (unhide T3).up b2
  have B2 := hide ((unhide B1).trans (b2.mono (unhide B1).size))
  clear T3 b2
  have x0 := t3.c0
  have x1 := t3.c1
  have x2 := t3.free 0
  have x3 := t3.free 1
  have T3 := hide t3
  clear t3
  simp only [rvE, rv]
  go_wp2
  exact ret_two (p := 4) (q := 5) (ty := 23) (by kernel_rfl) (w.heap.size + 1 + 1) 23 (.int .i64 x) (.int .i64 y) (.int .i64 z) _ rfl rfl (((unhide T3).set0 _).set1 _) rfl Try.underlying23 (by kernel_rfl) ⟨rfl, below_two (unhide B2) (by omega) _ _⟩

set_option maxRecDepth 100000 in
set_option maxHeartbeats 1000000 in
theorem mul_any (a b c d : Int) (w : World) (ha0 : -9223372036854775808 ≤ a) (ha1 : a ≤ 9223372036854775807) (hb0 : -9223372036854775808 ≤ b) (hb1 : b ≤ 9223372036854775807) (hc0 : -9223372036854775808 ≤ c) (hc1 : c ≤ 9223372036854775807) (hd0 : -9223372036854775808 ≤ d) (hd1 : d ≤ 9223372036854775807) : Calls Try.prog 20 #[rv a b, rv c d] w fun e w' => e = .returned (rvE (mulA a b c d)) ∧ Below w.heap.size w w' := by
  obtain ⟨t1, t2, t3, b0⟩ := three_new w (.int .i64 a) (.int .i64 b) (.int .i64 c) (.int .i64 d) (.int .i64 0) (.int .i64 0) 23
  have T1 := hide t1
  have T2 := hide t2
  have T3 := hide t3
  have B0 := hide b0
  clear t1 t2 t3 b0
  have h1 := hide (fun w => both_any a b c d w ha0 ha1 hb0 hb1 hc0 hc1 hd0 hd1)
  cases hB : (okR a b && okR c d)
  · have hA : mulA a b c d = (0, 0, 1) := by unfold mulA; rw [hB]; rfl
    rw [hA]
    rw [hB] at h1
    clear hA hB
    unfold rv at *
    go_enter Try.func20, Try.ntmps20
    go_wp2_with fail
    refine (unhide h1 _).mono ?_
    rintro e w1 ⟨rfl, b1⟩
    have t1 := (unhide T1).up b1
    have t2 := (unhide T2).up b1
    have t3 := (unhide T3).up b1
    have B1 := hide ((unhide B0).trans (b1.mono (unhide B0).size))
    clear T1 T2 T3 b1
    have p0 := t1.c0
    have p1 := t1.c1
    have q0 := t2.c0
    have q1 := t2.c1
    have T1 := hide t1
    have T2 := hide t2
    have x0 := t3.c0
    have x1 := t3.c1
    have x2 := t3.free 0
    have x3 := t3.free 1
    have T3 := hide t3
    clear t3 t1 t2
    go_wp2
    exact ret_two (p := 4) (q := 5) (ty := 23) (by kernel_rfl) (w.heap.size + 1 + 1) 23 (.int .i64 0) (.int .i64 0) (.int .i64 1) _ rfl rfl (((unhide T3).set0 _).set1 _) rfl Try.underlying23 (by kernel_rfl) ⟨rfl, below_two (unhide B1) (by omega) _ _⟩
  rw [hB] at h1
  have hE : okR a b = true := by rw [Bool.and_eq_true] at hB; exact hB.1
  have hF : okR c d = true := by rw [Bool.and_eq_true] at hB; exact hB.2
  obtain ⟨m1, m2, m3, m4, _⟩ := okR_of hE
  obtain ⟨m5, m6, m7, m8, _⟩ := okR_of hF
  clear hE hF
  have hA : mulA a b c d = loA (a * c) (b * d) := by unfold mulA; rw [if_pos hB]
  rw [hA]
  clear hA hB
  have k0 := prod_bound (x := a) (y := c) (by omega) (by omega) (by omega) (by omega)
  have k1 := prod_bound (x := b) (y := d) (by omega) (by omega) (by omega) (by omega)
  have hnz : b * d ≠ 0 := Int.ne_of_gt (Int.mul_pos m3 m7)
  have hlo := hide (fun w => lowest_any (a * c) (b * d) w (by omega) (by omega) (by omega) (by omega) hnz)
  generalize loA (a * c) (b * d) = R at *
  obtain ⟨x, y, z⟩ := R
  unfold rv at *
  go_enter Try.func20, Try.ntmps20
  go_wp2_with fail
  refine (unhide h1 _).mono ?_
  rintro e w1 ⟨rfl, b1⟩
  have t1 := (unhide T1).up b1
  have t2 := (unhide T2).up b1
  have t3 := (unhide T3).up b1
  have B1 := hide ((unhide B0).trans (b1.mono (unhide B0).size))
  clear T1 T2 T3 b1
  have p0 := t1.c0
  have p1 := t1.c1
  have q0 := t2.c0
  have q1 := t2.c1
  have T1 := hide t1
  have T2 := hide t2
  have x0 := t3.c0
  have x1 := t3.c1
  have x2 := t3.free 0
  have x3 := t3.free 1
  have T3 := hide t3
  clear t3 t1 t2
  go_wp2_with fail
  clear p0 p1 q0 q1 x0 x1 x2 x3
  refine (unhide hlo _).mono ?_
  rintro e w2 ⟨rfl, b2⟩
  have t3 := (unhide T3).up b2
  have B2 := hide ((unhide B1).trans (b2.mono (unhide B1).size))
  clear T3 b2
  have x0 := t3.c0
  have x1 := t3.c1
  have x2 := t3.free 0
  have x3 := t3.free 1
  have T3 := hide t3
  clear t3
  simp only [rvE, rv]
  go_wp2
  exact ret_two (p := 4) (q := 5) (ty := 23) (by kernel_rfl) (w.heap.size + 1 + 1) 23 (.int .i64 x) (.int .i64 y) (.int .i64 z) _ rfl rfl (((unhide T3).set0 _).set1 _) rfl Try.underlying23 (by kernel_rfl) ⟨rfl, below_two (unhide B2) (by omega) _ _⟩

set_option maxRecDepth 100000 in
set_option maxHeartbeats 1000000 in
theorem div_any (a b c d : Int) (w : World) (ha0 : -9223372036854775808 ≤ a) (ha1 : a ≤ 9223372036854775807) (hb0 : -9223372036854775808 ≤ b) (hb1 : b ≤ 9223372036854775807) (hc0 : -9223372036854775808 ≤ c) (hc1 : c ≤ 9223372036854775807) (hd0 : -9223372036854775808 ≤ d) (hd1 : d ≤ 9223372036854775807) : Calls Try.prog 22 #[rv a b, rv c d] w fun e w' => e = .returned (rvE (divA a b c d)) ∧ Below w.heap.size w w' := by
  obtain ⟨t1, t2, t3, b0⟩ := three_new w (.int .i64 a) (.int .i64 b) (.int .i64 c) (.int .i64 d) (.int .i64 0) (.int .i64 0) 23
  have T1 := hide t1
  have T2 := hide t2
  have T3 := hide t3
  have B0 := hide b0
  clear t1 t2 t3 b0
  have h1 := hide (fun w => both_any a b c d w ha0 ha1 hb0 hb1 hc0 hc1 hd0 hd1)
  cases hB : (okR a b && okR c d)
  · have hA : divA a b c d = (0, 0, 1) := by unfold divA; rw [hB]; rfl
    rw [hA]
    rw [hB] at h1
    clear hA hB
    unfold rv at *
    go_enter Try.func22, Try.ntmps22
    go_wp2_with fail
    refine (unhide h1 _).mono ?_
    rintro e w1 ⟨rfl, b1⟩
    have t1 := (unhide T1).up b1
    have t2 := (unhide T2).up b1
    have t3 := (unhide T3).up b1
    have B1 := hide ((unhide B0).trans (b1.mono (unhide B0).size))
    clear T1 T2 T3 b1
    have p0 := t1.c0
    have p1 := t1.c1
    have q0 := t2.c0
    have q1 := t2.c1
    have T1 := hide t1
    have T2 := hide t2
    have x0 := t3.c0
    have x1 := t3.c1
    have x2 := t3.free 0
    have x3 := t3.free 1
    have T3 := hide t3
    clear t3 t1 t2
    go_wp2
    exact ret_two (p := 4) (q := 5) (ty := 23) (by kernel_rfl) (w.heap.size + 1 + 1) 23 (.int .i64 0) (.int .i64 0) (.int .i64 1) _ rfl rfl (((unhide T3).set0 _).set1 _) rfl Try.underlying23 (by kernel_rfl) ⟨rfl, below_two (unhide B1) (by omega) _ _⟩
  rw [hB] at h1
  have hE : okR a b = true := by rw [Bool.and_eq_true] at hB; exact hB.1
  have hF : okR c d = true := by rw [Bool.and_eq_true] at hB; exact hB.2
  obtain ⟨m1, m2, m3, m4, _⟩ := okR_of hE
  obtain ⟨m5, m6, m7, m8, _⟩ := okR_of hF
  clear hE hF
  by_cases hz : c = 0
  · have hA : divA a b c d = (0, 0, 1) := by unfold divA; rw [if_neg (fun h => h.2 hz)]
    rw [hA]
    clear hA hB
    subst hz
    unfold rv at *
    go_enter Try.func22, Try.ntmps22
    go_wp2_with fail
    refine (unhide h1 _).mono ?_
    rintro e w1 ⟨rfl, b1⟩
    have t1 := (unhide T1).up b1
    have t2 := (unhide T2).up b1
    have t3 := (unhide T3).up b1
    have B1 := hide ((unhide B0).trans (b1.mono (unhide B0).size))
    clear T1 T2 T3 b1
    have p0 := t1.c0
    have p1 := t1.c1
    have q0 := t2.c0
    have q1 := t2.c1
    have T1 := hide t1
    have T2 := hide t2
    have x0 := t3.c0
    have x1 := t3.c1
    have x2 := t3.free 0
    have x3 := t3.free 1
    have T3 := hide t3
    clear t3 t1 t2
    go_wp2
    exact ret_two (p := 4) (q := 5) (ty := 23) (by kernel_rfl) (w.heap.size + 1 + 1) 23 (.int .i64 0) (.int .i64 0) (.int .i64 1) _ rfl rfl (((unhide T3).set0 _).set1 _) rfl Try.underlying23 (by kernel_rfl) ⟨rfl, below_two (unhide B1) (by omega) _ _⟩
  have hA : divA a b c d = loA (a * d) (b * c) := by unfold divA; rw [if_pos ⟨hB, hz⟩]
  rw [hA]
  clear hA hB
  have k0 := prod_bound (x := a) (y := d) (by omega) (by omega) (by omega) (by omega)
  have k1 := prod_bound (x := b) (y := c) (by omega) (by omega) (by omega) (by omega)
  have hnz : b * c ≠ 0 := fun h => by rcases Int.mul_eq_zero.1 h with h | h <;> omega
  have hlo := hide (fun w => lowest_any (a * d) (b * c) w (by omega) (by omega) (by omega) (by omega) hnz)
  generalize loA (a * d) (b * c) = R at *
  obtain ⟨x, y, z⟩ := R
  unfold rv at *
  go_enter Try.func22, Try.ntmps22
  go_wp2_with fail
  refine (unhide h1 _).mono ?_
  rintro e w1 ⟨rfl, b1⟩
  have t1 := (unhide T1).up b1
  have t2 := (unhide T2).up b1
  have t3 := (unhide T3).up b1
  have B1 := hide ((unhide B0).trans (b1.mono (unhide B0).size))
  clear T1 T2 T3 b1
  have p0 := t1.c0
  have p1 := t1.c1
  have q0 := t2.c0
  have q1 := t2.c1
  have T1 := hide t1
  have T2 := hide t2
  have x0 := t3.c0
  have x1 := t3.c1
  have x2 := t3.free 0
  have x3 := t3.free 1
  have T3 := hide t3
  clear t3 t1 t2
  go_wp2_with fail
  clear p0 p1 q0 q1 x0 x1 x2 x3
  refine (unhide hlo _).mono ?_
  rintro e w2 ⟨rfl, b2⟩
  have t3 := (unhide T3).up b2
  have B2 := hide ((unhide B1).trans (b2.mono (unhide B1).size))
  clear T3 b2
  have x0 := t3.c0
  have x1 := t3.c1
  have x2 := t3.free 0
  have x3 := t3.free 1
  have T3 := hide t3
  clear t3
  simp only [rvE, rv]
  go_wp2
  exact ret_two (p := 4) (q := 5) (ty := 23) (by kernel_rfl) (w.heap.size + 1 + 1) 23 (.int .i64 x) (.int .i64 y) (.int .i64 z) _ rfl rfl (((unhide T3).set0 _).set1 _) rfl Try.underlying23 (by kernel_rfl) ⟨rfl, below_two (unhide B2) (by omega) _ _⟩

set_option maxRecDepth 100000 in
set_option maxHeartbeats 1000000 in
theorem rmul_any (a b c d : Int) (w : World) (ha0 : -9223372036854775808 ≤ a) (ha1 : a ≤ 9223372036854775807) (hb0 : -9223372036854775808 ≤ b) (hb1 : b ≤ 9223372036854775807) (hc0 : -9223372036854775808 ≤ c) (hc1 : c ≤ 9223372036854775807) (hd0 : -9223372036854775808 ≤ d) (hd1 : d ≤ 9223372036854775807) : Calls Try.prog 21 #[rv a b, rv c d] w fun e w' => e = .returned (rvE (mulA a b c d)) ∧ Below w.heap.size w w' := by
  obtain ⟨t1, t2, t3, b0⟩ := three_new w (.int .i64 a) (.int .i64 b) (.int .i64 c) (.int .i64 d) (.int .i64 0) (.int .i64 0) 27
  have T1 := hide t1
  have T2 := hide t2
  have T3 := hide t3
  have B0 := hide b0
  clear t1 t2 t3 b0
  have h1 := hide (fun w => rcheck_any a b w ha0 ha1 hb0 hb1)
  have h2 := hide (fun w => rcheck_any c d w hc0 hc1 hd0 hd1)
  cases hE : okR a b
  · have hA : mulA a b c d = (0, 0, 1) := by unfold mulA; rw [hE]; rfl
    rw [hA]
    rw [hE] at h1
    clear h2 hA hE
    unfold rv at *
    go_enter Try.func21, Try.ntmps21
    go_wp2_with fail
    refine (unhide h1 _).mono ?_
    rintro e w1 ⟨rfl, b1⟩
    have t1 := (unhide T1).up b1
    have t2 := (unhide T2).up b1
    have t3 := (unhide T3).up b1
    have B1 := hide ((unhide B0).trans (b1.mono (unhide B0).size))
    clear T1 T2 T3 b1
    have p0 := t1.c0
    have p1 := t1.c1
    have q0 := t2.c0
    have q1 := t2.c1
    have T1 := hide t1
    have T2 := hide t2
    have x0 := t3.c0
    have x1 := t3.c1
    have x2 := t3.free 0
    have x3 := t3.free 1
    have T3 := hide t3
    clear t3 t1 t2
    go_wp2
    exact ret_two (p := 4) (q := 5) (ty := 27) (by kernel_rfl) (w.heap.size + 1 + 1) 27 (.int .i64 0) (.int .i64 0) (.int .i64 1) _ rfl rfl (((unhide T3).set0 _).set1 _) rfl Try.underlying27 (by kernel_rfl) ⟨rfl, below_two (unhide B1) (by omega) _ _⟩
  cases hF : okR c d
  · have hA : mulA a b c d = (0, 0, 1) := by unfold mulA; rw [hE, hF]; rfl
    rw [hA]
    rw [hE] at h1
    rw [hF] at h2
    clear hA hE hF
    unfold rv at *
    go_enter Try.func21, Try.ntmps21
    go_wp2_with fail
    refine (unhide h1 _).mono ?_
    rintro e w1 ⟨rfl, b1⟩
    have t1 := (unhide T1).up b1
    have t2 := (unhide T2).up b1
    have t3 := (unhide T3).up b1
    have B1 := hide ((unhide B0).trans (b1.mono (unhide B0).size))
    clear T1 T2 T3 b1
    have p0 := t1.c0
    have p1 := t1.c1
    have q0 := t2.c0
    have q1 := t2.c1
    have T1 := hide t1
    have T2 := hide t2
    have x0 := t3.c0
    have x1 := t3.c1
    have x2 := t3.free 0
    have x3 := t3.free 1
    have T3 := hide t3
    clear t3 t1 t2
    go_wp2_with fail
    clear p0 p1 q0 q1 x0 x1 x2 x3
    refine (unhide h2 _).mono ?_
    rintro e w2 ⟨rfl, b2⟩
    have t1 := (unhide T1).up b2
    have t2 := (unhide T2).up b2
    have t3 := (unhide T3).up b2
    have B2 := hide ((unhide B1).trans (b2.mono (unhide B1).size))
    clear T1 T2 T3 b2
    have p0 := t1.c0
    have p1 := t1.c1
    have q0 := t2.c0
    have q1 := t2.c1
    have T1 := hide t1
    have T2 := hide t2
    have x0 := t3.c0
    have x1 := t3.c1
    have x2 := t3.free 0
    have x3 := t3.free 1
    have T3 := hide t3
    clear t3 t1 t2
    go_wp2
    exact ret_two (p := 4) (q := 5) (ty := 27) (by kernel_rfl) (w.heap.size + 1 + 1) 27 (.int .i64 0) (.int .i64 0) (.int .i64 1) _ rfl rfl (((unhide T3).set0 _).set1 _) rfl Try.underlying27 (by kernel_rfl) ⟨rfl, below_two (unhide B2) (by omega) _ _⟩
  have hB : (okR a b && okR c d) = true := by rw [hE, hF]; rfl
  rw [hE] at h1
  rw [hF] at h2
  obtain ⟨m1, m2, m3, m4, _⟩ := okR_of hE
  obtain ⟨m5, m6, m7, m8, _⟩ := okR_of hF
  clear hE hF
  have hA : mulA a b c d = loA (a * c) (b * d) := by unfold mulA; rw [if_pos hB]
  rw [hA]
  clear hA hB
  have k0 := prod_bound (x := a) (y := c) (by omega) (by omega) (by omega) (by omega)
  have k1 := prod_bound (x := b) (y := d) (by omega) (by omega) (by omega) (by omega)
  have hnz : b * d ≠ 0 := Int.ne_of_gt (Int.mul_pos m3 m7)
  have hlo := hide (fun w => rlowest_any (a * c) (b * d) w (by omega) (by omega) (by omega) (by omega) hnz)
  generalize loA (a * c) (b * d) = R at *
  obtain ⟨x, y, z⟩ := R
  unfold rv at *
  go_enter Try.func21, Try.ntmps21
  go_wp2_with fail
  refine (unhide h1 _).mono ?_
  rintro e w1 ⟨rfl, b1⟩
  have t1 := (unhide T1).up b1
  have t2 := (unhide T2).up b1
  have t3 := (unhide T3).up b1
  have B1 := hide ((unhide B0).trans (b1.mono (unhide B0).size))
  clear T1 T2 T3 b1
  have p0 := t1.c0
  have p1 := t1.c1
  have q0 := t2.c0
  have q1 := t2.c1
  have T1 := hide t1
  have T2 := hide t2
  have x0 := t3.c0
  have x1 := t3.c1
  have x2 := t3.free 0
  have x3 := t3.free 1
  have T3 := hide t3
  clear t3 t1 t2
  go_wp2_with fail
  clear p0 p1 q0 q1 x0 x1 x2 x3
  refine (unhide h2 _).mono ?_
  rintro e w2 ⟨rfl, b2⟩
  have t1 := (unhide T1).up b2
  have t2 := (unhide T2).up b2
  have t3 := (unhide T3).up b2
  have B2 := hide ((unhide B1).trans (b2.mono (unhide B1).size))
  clear T1 T2 T3 b2
  have p0 := t1.c0
  have p1 := t1.c1
  have q0 := t2.c0
  have q1 := t2.c1
  have T1 := hide t1
  have T2 := hide t2
  have x0 := t3.c0
  have x1 := t3.c1
  have x2 := t3.free 0
  have x3 := t3.free 1
  have T3 := hide t3
  clear t3 t1 t2
  go_wp2_with fail
  clear p0 p1 q0 q1 x0 x1 x2 x3
  refine (unhide hlo _).mono ?_
  rintro e w3 ⟨rfl, b3⟩
  have t3 := (unhide T3).up b3
  have B3 := hide ((unhide B2).trans (b3.mono (unhide B2).size))
  clear T3 b3
  have x0 := t3.c0
  have x1 := t3.c1
  have x2 := t3.free 0
  have x3 := t3.free 1
  have T3 := hide t3
  clear t3
  simp only [rvE, rv]
  go_wp2
  exact ret_two (p := 4) (q := 5) (ty := 27) (by kernel_rfl) (w.heap.size + 1 + 1) 27 (.int .i64 x) (.int .i64 y) (.int .i64 z) _ rfl rfl (((unhide T3).set0 _).set1 _) rfl Try.underlying27 (by kernel_rfl) ⟨rfl, below_two (unhide B3) (by omega) _ _⟩

set_option maxRecDepth 100000 in
set_option maxHeartbeats 1000000 in
theorem rdiv_any (a b c d : Int) (w : World) (ha0 : -9223372036854775808 ≤ a) (ha1 : a ≤ 9223372036854775807) (hb0 : -9223372036854775808 ≤ b) (hb1 : b ≤ 9223372036854775807) (hc0 : -9223372036854775808 ≤ c) (hc1 : c ≤ 9223372036854775807) (hd0 : -9223372036854775808 ≤ d) (hd1 : d ≤ 9223372036854775807) : Calls Try.prog 23 #[rv a b, rv c d] w fun e w' => e = .returned (rvE (divA a b c d)) ∧ Below w.heap.size w w' := by
  obtain ⟨t1, t2, t3, b0⟩ := three_new w (.int .i64 a) (.int .i64 b) (.int .i64 c) (.int .i64 d) (.int .i64 0) (.int .i64 0) 27
  have T1 := hide t1
  have T2 := hide t2
  have T3 := hide t3
  have B0 := hide b0
  clear t1 t2 t3 b0
  have h1 := hide (fun w => rcheck_any a b w ha0 ha1 hb0 hb1)
  have h2 := hide (fun w => rcheck_any c d w hc0 hc1 hd0 hd1)
  cases hE : okR a b
  · have hA : divA a b c d = (0, 0, 1) := by unfold divA; rw [hE]; rfl
    rw [hA]
    rw [hE] at h1
    clear h2 hA hE
    unfold rv at *
    go_enter Try.func23, Try.ntmps23
    go_wp2_with fail
    refine (unhide h1 _).mono ?_
    rintro e w1 ⟨rfl, b1⟩
    have t1 := (unhide T1).up b1
    have t2 := (unhide T2).up b1
    have t3 := (unhide T3).up b1
    have B1 := hide ((unhide B0).trans (b1.mono (unhide B0).size))
    clear T1 T2 T3 b1
    have p0 := t1.c0
    have p1 := t1.c1
    have q0 := t2.c0
    have q1 := t2.c1
    have T1 := hide t1
    have T2 := hide t2
    have x0 := t3.c0
    have x1 := t3.c1
    have x2 := t3.free 0
    have x3 := t3.free 1
    have T3 := hide t3
    clear t3 t1 t2
    go_wp2
    exact ret_two (p := 4) (q := 5) (ty := 27) (by kernel_rfl) (w.heap.size + 1 + 1) 27 (.int .i64 0) (.int .i64 0) (.int .i64 1) _ rfl rfl (((unhide T3).set0 _).set1 _) rfl Try.underlying27 (by kernel_rfl) ⟨rfl, below_two (unhide B1) (by omega) _ _⟩
  cases hF : okR c d
  · have hA : divA a b c d = (0, 0, 1) := by unfold divA; rw [hE, hF]; rfl
    rw [hA]
    rw [hE] at h1
    rw [hF] at h2
    clear hA hE hF
    unfold rv at *
    go_enter Try.func23, Try.ntmps23
    go_wp2_with fail
    refine (unhide h1 _).mono ?_
    rintro e w1 ⟨rfl, b1⟩
    have t1 := (unhide T1).up b1
    have t2 := (unhide T2).up b1
    have t3 := (unhide T3).up b1
    have B1 := hide ((unhide B0).trans (b1.mono (unhide B0).size))
    clear T1 T2 T3 b1
    have p0 := t1.c0
    have p1 := t1.c1
    have q0 := t2.c0
    have q1 := t2.c1
    have T1 := hide t1
    have T2 := hide t2
    have x0 := t3.c0
    have x1 := t3.c1
    have x2 := t3.free 0
    have x3 := t3.free 1
    have T3 := hide t3
    clear t3 t1 t2
    go_wp2_with fail
    clear p0 p1 q0 q1 x0 x1 x2 x3
    refine (unhide h2 _).mono ?_
    rintro e w2 ⟨rfl, b2⟩
    have t1 := (unhide T1).up b2
    have t2 := (unhide T2).up b2
    have t3 := (unhide T3).up b2
    have B2 := hide ((unhide B1).trans (b2.mono (unhide B1).size))
    clear T1 T2 T3 b2
    have p0 := t1.c0
    have p1 := t1.c1
    have q0 := t2.c0
    have q1 := t2.c1
    have T1 := hide t1
    have T2 := hide t2
    have x0 := t3.c0
    have x1 := t3.c1
    have x2 := t3.free 0
    have x3 := t3.free 1
    have T3 := hide t3
    clear t3 t1 t2
    go_wp2
    exact ret_two (p := 4) (q := 5) (ty := 27) (by kernel_rfl) (w.heap.size + 1 + 1) 27 (.int .i64 0) (.int .i64 0) (.int .i64 1) _ rfl rfl (((unhide T3).set0 _).set1 _) rfl Try.underlying27 (by kernel_rfl) ⟨rfl, below_two (unhide B2) (by omega) _ _⟩
  have hB : (okR a b && okR c d) = true := by rw [hE, hF]; rfl
  rw [hE] at h1
  rw [hF] at h2
  obtain ⟨m1, m2, m3, m4, _⟩ := okR_of hE
  obtain ⟨m5, m6, m7, m8, _⟩ := okR_of hF
  clear hE hF
  by_cases hz : c = 0
  · have hA : divA a b c d = (0, 0, 1) := by unfold divA; rw [if_neg (fun h => h.2 hz)]
    rw [hA]
    clear hA hB
    subst hz
    unfold rv at *
    go_enter Try.func23, Try.ntmps23
    go_wp2_with fail
    refine (unhide h1 _).mono ?_
    rintro e w1 ⟨rfl, b1⟩
    have t1 := (unhide T1).up b1
    have t2 := (unhide T2).up b1
    have t3 := (unhide T3).up b1
    have B1 := hide ((unhide B0).trans (b1.mono (unhide B0).size))
    clear T1 T2 T3 b1
    have p0 := t1.c0
    have p1 := t1.c1
    have q0 := t2.c0
    have q1 := t2.c1
    have T1 := hide t1
    have T2 := hide t2
    have x0 := t3.c0
    have x1 := t3.c1
    have x2 := t3.free 0
    have x3 := t3.free 1
    have T3 := hide t3
    clear t3 t1 t2
    go_wp2_with fail
    clear p0 p1 q0 q1 x0 x1 x2 x3
    refine (unhide h2 _).mono ?_
    rintro e w2 ⟨rfl, b2⟩
    have t1 := (unhide T1).up b2
    have t2 := (unhide T2).up b2
    have t3 := (unhide T3).up b2
    have B2 := hide ((unhide B1).trans (b2.mono (unhide B1).size))
    clear T1 T2 T3 b2
    have p0 := t1.c0
    have p1 := t1.c1
    have q0 := t2.c0
    have q1 := t2.c1
    have T1 := hide t1
    have T2 := hide t2
    have x0 := t3.c0
    have x1 := t3.c1
    have x2 := t3.free 0
    have x3 := t3.free 1
    have T3 := hide t3
    clear t3 t1 t2
    go_wp2
    exact ret_two (p := 4) (q := 5) (ty := 27) (by kernel_rfl) (w.heap.size + 1 + 1) 27 (.int .i64 0) (.int .i64 0) (.int .i64 1) _ rfl rfl (((unhide T3).set0 _).set1 _) rfl Try.underlying27 (by kernel_rfl) ⟨rfl, below_two (unhide B2) (by omega) _ _⟩
  have hA : divA a b c d = loA (a * d) (b * c) := by unfold divA; rw [if_pos ⟨hB, hz⟩]
  rw [hA]
  clear hA hB
  have k0 := prod_bound (x := a) (y := d) (by omega) (by omega) (by omega) (by omega)
  have k1 := prod_bound (x := b) (y := c) (by omega) (by omega) (by omega) (by omega)
  have hnz : b * c ≠ 0 := fun h => by rcases Int.mul_eq_zero.1 h with h | h <;> omega
  have hlo := hide (fun w => rlowest_any (a * d) (b * c) w (by omega) (by omega) (by omega) (by omega) hnz)
  generalize loA (a * d) (b * c) = R at *
  obtain ⟨x, y, z⟩ := R
  unfold rv at *
  go_enter Try.func23, Try.ntmps23
  go_wp2_with fail
  refine (unhide h1 _).mono ?_
  rintro e w1 ⟨rfl, b1⟩
  have t1 := (unhide T1).up b1
  have t2 := (unhide T2).up b1
  have t3 := (unhide T3).up b1
  have B1 := hide ((unhide B0).trans (b1.mono (unhide B0).size))
  clear T1 T2 T3 b1
  have p0 := t1.c0
  have p1 := t1.c1
  have q0 := t2.c0
  have q1 := t2.c1
  have T1 := hide t1
  have T2 := hide t2
  have x0 := t3.c0
  have x1 := t3.c1
  have x2 := t3.free 0
  have x3 := t3.free 1
  have T3 := hide t3
  clear t3 t1 t2
  go_wp2_with fail
  clear p0 p1 q0 q1 x0 x1 x2 x3
  refine (unhide h2 _).mono ?_
  rintro e w2 ⟨rfl, b2⟩
  have t1 := (unhide T1).up b2
  have t2 := (unhide T2).up b2
  have t3 := (unhide T3).up b2
  have B2 := hide ((unhide B1).trans (b2.mono (unhide B1).size))
  clear T1 T2 T3 b2
  have p0 := t1.c0
  have p1 := t1.c1
  have q0 := t2.c0
  have q1 := t2.c1
  have T1 := hide t1
  have T2 := hide t2
  have x0 := t3.c0
  have x1 := t3.c1
  have x2 := t3.free 0
  have x3 := t3.free 1
  have T3 := hide t3
  clear t3 t1 t2
  go_wp2_with fail
  clear p0 p1 q0 q1 x0 x1 x2 x3
  refine (unhide hlo _).mono ?_
  rintro e w3 ⟨rfl, b3⟩
  have t3 := (unhide T3).up b3
  have B3 := hide ((unhide B2).trans (b3.mono (unhide B2).size))
  clear T3 b3
  have x0 := t3.c0
  have x1 := t3.c1
  have x2 := t3.free 0
  have x3 := t3.free 1
  have T3 := hide t3
  clear t3
  simp only [rvE, rv]
  go_wp2
  exact ret_two (p := 4) (q := 5) (ty := 27) (by kernel_rfl) (w.heap.size + 1 + 1) 27 (.int .i64 x) (.int .i64 y) (.int .i64 z) _ rfl rfl (((unhide T3).set0 _).set1 _) rfl Try.underlying27 (by kernel_rfl) ⟨rfl, below_two (unhide B3) (by omega) _ _⟩

set_option maxRecDepth 100000 in
set_option maxHeartbeats 1000000 in
theorem rsum_any (a b c d : Int) (w : World) (ha0 : -9223372036854775808 ≤ a) (ha1 : a ≤ 9223372036854775807) (hb0 : -9223372036854775808 ≤ b) (hb1 : b ≤ 9223372036854775807) (hc0 : -9223372036854775808 ≤ c) (hc1 : c ≤ 9223372036854775807) (hd0 : -9223372036854775808 ≤ d) (hd1 : d ≤ 9223372036854775807) : Calls Try.prog 18 #[rv a b, rv c d, .int .i64 1] w fun e w' => e = .returned (rvE (addA a b c d)) ∧ Below w.heap.size w w' := by
  obtain ⟨t1, t2, t3, b0⟩ := three_new w (.int .i64 a) (.int .i64 b) (.int .i64 c) (.int .i64 d) (.int .i64 0) (.int .i64 0) 27
  have T1 := hide t1
  have T2 := hide t2
  have T3 := hide t3
  have B0 := hide b0
  clear t1 t2 t3 b0
  have h1 := hide (fun w => rcheck_any a b w ha0 ha1 hb0 hb1)
  have h2 := hide (fun w => rcheck_any c d w hc0 hc1 hd0 hd1)
  cases hE : okR a b
  · have hA : addA a b c d = (0, 0, 1) := by unfold addA; rw [hE]; rfl
    rw [hA]
    rw [hE] at h1
    clear h2 hA hE
    unfold rv at *
    go_enter Try.func18, Try.ntmps18
    go_wp2_with fail
    refine (unhide h1 _).mono ?_
    rintro e w1 ⟨rfl, b1⟩
    have t1 := (unhide T1).up b1
    have t2 := (unhide T2).up b1
    have t3 := (unhide T3).up b1
    have B1 := hide ((unhide B0).trans (b1.mono (unhide B0).size))
    clear T1 T2 T3 b1
    have p0 := t1.c0
    have p1 := t1.c1
    have q0 := t2.c0
    have q1 := t2.c1
    have T1 := hide t1
    have T2 := hide t2
    have x0 := t3.c0
    have x1 := t3.c1
    have x2 := t3.free 0
    have x3 := t3.free 1
    have T3 := hide t3
    clear t3 t1 t2
    go_wp2
    exact ret_two (p := 6) (q := 7) (ty := 27) (by kernel_rfl) (w.heap.size + 1 + 1) 27 (.int .i64 0) (.int .i64 0) (.int .i64 1) _ rfl rfl (((unhide T3).set0 _).set1 _) rfl Try.underlying27 (by kernel_rfl) ⟨rfl, below_two (unhide B1) (by omega) _ _⟩
  cases hF : okR c d
  · have hA : addA a b c d = (0, 0, 1) := by unfold addA; rw [hE, hF]; rfl
    rw [hA]
    rw [hE] at h1
    rw [hF] at h2
    clear hA hE hF
    unfold rv at *
    go_enter Try.func18, Try.ntmps18
    go_wp2_with fail
    refine (unhide h1 _).mono ?_
    rintro e w1 ⟨rfl, b1⟩
    have t1 := (unhide T1).up b1
    have t2 := (unhide T2).up b1
    have t3 := (unhide T3).up b1
    have B1 := hide ((unhide B0).trans (b1.mono (unhide B0).size))
    clear T1 T2 T3 b1
    have p0 := t1.c0
    have p1 := t1.c1
    have q0 := t2.c0
    have q1 := t2.c1
    have T1 := hide t1
    have T2 := hide t2
    have x0 := t3.c0
    have x1 := t3.c1
    have x2 := t3.free 0
    have x3 := t3.free 1
    have T3 := hide t3
    clear t3 t1 t2
    go_wp2_with fail
    clear p0 p1 q0 q1 x0 x1 x2 x3
    refine (unhide h2 _).mono ?_
    rintro e w2 ⟨rfl, b2⟩
    have t1 := (unhide T1).up b2
    have t2 := (unhide T2).up b2
    have t3 := (unhide T3).up b2
    have B2 := hide ((unhide B1).trans (b2.mono (unhide B1).size))
    clear T1 T2 T3 b2
    have p0 := t1.c0
    have p1 := t1.c1
    have q0 := t2.c0
    have q1 := t2.c1
    have T1 := hide t1
    have T2 := hide t2
    have x0 := t3.c0
    have x1 := t3.c1
    have x2 := t3.free 0
    have x3 := t3.free 1
    have T3 := hide t3
    clear t3 t1 t2
    go_wp2
    exact ret_two (p := 6) (q := 7) (ty := 27) (by kernel_rfl) (w.heap.size + 1 + 1) 27 (.int .i64 0) (.int .i64 0) (.int .i64 1) _ rfl rfl (((unhide T3).set0 _).set1 _) rfl Try.underlying27 (by kernel_rfl) ⟨rfl, below_two (unhide B2) (by omega) _ _⟩
  have hB : (okR a b && okR c d) = true := by rw [hE, hF]; rfl
  rw [hE] at h1
  rw [hF] at h2
  obtain ⟨m1, m2, m3, m4, _⟩ := okR_of hE
  obtain ⟨m5, m6, m7, m8, _⟩ := okR_of hF
  clear hE hF
  have hA : addA a b c d = loA (a * d + c * b) (b * d) := by unfold addA; rw [if_pos hB]
  rw [hA]
  clear hA hB
  have k0 := prod_bound (x := a) (y := d) (by omega) (by omega) (by omega) (by omega)
  have k1 := prod_bound (x := c) (y := b) (by omega) (by omega) (by omega) (by omega)
  have k2 := prod_bound (x := b) (y := d) (by omega) (by omega) (by omega) (by omega)
  have hnz : b * d ≠ 0 := Int.ne_of_gt (Int.mul_pos m3 m7)
  have hlo := hide (fun w => rlowest_any (a * d + c * b) (b * d) w (by omega) (by omega) (by omega) (by omega) hnz)
  have hs1 : (1 : Int) * c = c := Int.one_mul c
  generalize loA (a * d + c * b) (b * d) = R at *
  obtain ⟨x, y, z⟩ := R
  unfold rv at *
  go_enter Try.func18, Try.ntmps18
  go_wp2_with fail
  refine (unhide h1 _).mono ?_
  rintro e w1 ⟨rfl, b1⟩
  have t1 := (unhide T1).up b1
  have t2 := (unhide T2).up b1
  have t3 := (unhide T3).up b1
  have B1 := hide ((unhide B0).trans (b1.mono (unhide B0).size))
  clear T1 T2 T3 b1
  have p0 := t1.c0
  have p1 := t1.c1
  have q0 := t2.c0
  have q1 := t2.c1
  have T1 := hide t1
  have T2 := hide t2
  have x0 := t3.c0
  have x1 := t3.c1
  have x2 := t3.free 0
  have x3 := t3.free 1
  have T3 := hide t3
  clear t3 t1 t2
  go_wp2_with fail
  clear p0 p1 q0 q1 x0 x1 x2 x3
  refine (unhide h2 _).mono ?_
  rintro e w2 ⟨rfl, b2⟩
  have t1 := (unhide T1).up b2
  have t2 := (unhide T2).up b2
  have t3 := (unhide T3).up b2
  have B2 := hide ((unhide B1).trans (b2.mono (unhide B1).size))
  clear T1 T2 T3 b2
  have p0 := t1.c0
  have p1 := t1.c1
  have q0 := t2.c0
  have q1 := t2.c1
  have T1 := hide t1
  have T2 := hide t2
  have x0 := t3.c0
  have x1 := t3.c1
  have x2 := t3.free 0
  have x3 := t3.free 1
  have T3 := hide t3
  clear t3 t1 t2
  go_wp2_with fail
  clear p0 p1 q0 q1 x0 x1 x2 x3
  refine (unhide hlo _).mono ?_
  rintro e w3 ⟨rfl, b3⟩
  have t3 := (unhide T3).up b3
  have B3 := hide ((unhide B2).trans (b3.mono (unhide B2).size))
  clear T3 b3
  have x0 := t3.c0
  have x1 := t3.c1
  have x2 := t3.free 0
  have x3 := t3.free 1
  have T3 := hide t3
  clear t3
  simp only [rvE, rv]
  go_wp2
  exact ret_two (p := 6) (q := 7) (ty := 27) (by kernel_rfl) (w.heap.size + 1 + 1) 27 (.int .i64 x) (.int .i64 y) (.int .i64 z) _ rfl rfl (((unhide T3).set0 _).set1 _) rfl Try.underlying27 (by kernel_rfl) ⟨rfl, below_two (unhide B3) (by omega) _ _⟩

end Go.Proofs.Ytmaeebgphblilaa
