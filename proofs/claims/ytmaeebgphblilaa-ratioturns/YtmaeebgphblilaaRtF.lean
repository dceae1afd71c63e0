/- Contracts of ratio's Sub, Compare, Floor, Ceil, Scale, and the document's. -/
import Derived.Test.YtmaeebgphblilaaRtE
namespace Go.Proofs.Ytmaeebgphblilaa
open Go.RowKit
set_option linter.unusedVariables false

theorem okR_neg (n d : Int) : okR (-n) d = okR n d := by
  unfold okR
  rw [Int.natAbs_neg]
  congr 1
  apply propext
  constructor <;> rintro ⟨h1, h2, h3⟩ <;> exact ⟨by omega, by omega, h3⟩

set_option maxRecDepth 100000 in
set_option maxHeartbeats 1000000 in
theorem sub_any (a b c d : Int) (w : World) (ha0 : -9223372036854775808 ≤ a) (ha1 : a ≤ 9223372036854775807) (hb0 : -9223372036854775808 ≤ b) (hb1 : b ≤ 9223372036854775807) (hc0 : -9223372036854775808 ≤ c) (hc1 : c ≤ 9223372036854775807) (hd0 : -9223372036854775808 ≤ d) (hd1 : d ≤ 9223372036854775807) : Calls Try.prog 19 #[rv a b, rv c d] w fun e w' => e = .returned (rvE (addA a b (-c) d)) ∧ Below w.heap.size w w' := by
  obtain ⟨c', hc', hl, hu, hA⟩ : ∃ c' : Int, IntKind.i64.wrap (-c) = c' ∧ -9223372036854775808 ≤ c' ∧ c' ≤ 9223372036854775807 ∧ addA a b (-c) d = addA a b c' d := by
    by_cases h : c = -9223372036854775808
    · refine ⟨-9223372036854775808, by rw [h]; rfl, by omega, by omega, ?_⟩
      have e1 : okR (-c) d = false := by rw [okR_neg]; exact okR_not (by omega)
      have e2 : okR (-9223372036854775808) d = false := okR_not (by omega)
      unfold addA
      rw [e1, e2, Bool.and_false]
      rfl
    · exact ⟨-c, by simp [IntKind.wrap, IntKind.bits, IntKind.signed]; omega, by omega, by omega, rfl⟩
  rw [hA]
  have h1 := hide (fun w => add_any a b c' d w ha0 ha1 hb0 hb1 hl hu hd0 hd1)
  obtain ⟨t1, t2, t3, b0⟩ := three_new w (.int .i64 a) (.int .i64 b) (.int .i64 c') (.int .i64 d) (.int .i64 0) (.int .i64 0) 23
  have T3 := hide t3
  have B0 := hide b0
  clear t1 t2 t3 b0 hA
  generalize addA a b c' d = R at *
  obtain ⟨x, y, z⟩ := R
  unfold rv at *
  go_enter Try.func19, Try.ntmps19
  go_wp2_with fail
  refine (unhide h1 _).mono ?_
  rintro e w1 ⟨rfl, b1⟩
  have t3 := (unhide T3).up b1
  have B1 := hide ((unhide B0).trans (b1.mono (unhide B0).size))
  have x0 := t3.c0
  have x1 := t3.c1
  have x2 := t3.free 0
  have x3 := t3.free 1
  clear T3 b1
  have T3 := hide t3
  clear t3
  simp only [rvE, rv]
  go_wp2
  exact ret_two (p := 4) (q := 5) (ty := 23) (by kernel_rfl) (w.heap.size + 1 + 1) 23 (.int .i64 x) (.int .i64 y) (.int .i64 z) _ rfl rfl (((unhide T3).set0 _).set1 _) rfl Try.underlying23 (by kernel_rfl) ⟨rfl, below_two (unhide B1) (by omega) _ _⟩

set_option maxRecDepth 100000 in
set_option maxHeartbeats 1000000 in
theorem rdif_any (a b c d : Int) (w : World) (ha0 : -9223372036854775808 ≤ a) (ha1 : a ≤ 9223372036854775807) (hb0 : -9223372036854775808 ≤ b) (hb1 : b ≤ 9223372036854775807) (hc0 : -9223372036854775808 ≤ c) (hc1 : c ≤ 9223372036854775807) (hd0 : -9223372036854775808 ≤ d) (hd1 : d ≤ 9223372036854775807) : Calls Try.prog 18 #[rv a b, rv c d, .int .i64 (-1)] w fun e w' => e = .returned (rvE (addA a b (-c) d)) ∧ Below w.heap.size w w' := by
  obtain ⟨t1, t2, t3, b0⟩ := three_new w (.int .i64 a) (.int .i64 b) (.int .i64 c) (.int .i64 d) (.int .i64 0) (.int .i64 0) 27
  have T1 := hide t1
  have T2 := hide t2
  have T3 := hide t3
  have B0 := hide b0
  clear t1 t2 t3 b0
  have h1 := hide (fun w => rcheck_any a b w ha0 ha1 hb0 hb1)
  have h2 := hide (fun w => rcheck_any c d w hc0 hc1 hd0 hd1)
  cases hE : okR a b
  · have hA : addA a b (-c) d = (0, 0, 1) := by unfold addA; rw [okR_neg, hE]; rfl
    rw [hA]
    rw [hE] at h1
    clear h2 hA hE
    unfold rv at *
    go_enter Try.func18, Try.ntmps18
    go_wp2_with fail
    refine (unhide h1 _).mono ?_
    rintro e w1 ⟨rfl, b1⟩
    have t1 := (unhide T1).up b1
    have t2 := (unhide T2).up b1
    have t3 := (unhide T3).up b1
    have B1 := hide ((unhide B0).trans (b1.mono (unhide B0).size))
    clear T1 T2 T3 b1
    have p0 := t1.c0
    have p1 := t1.c1
    have q0 := t2.c0
    have q1 := t2.c1
    have T1 := hide t1
    have T2 := hide t2
    have x0 := t3.c0
    have x1 := t3.c1
    have x2 := t3.free 0
    have x3 := t3.free 1
    have T3 := hide t3
    clear t3 t1 t2
    go_wp2
    exact ret_two (p := 6) (q := 7) (ty := 27) (by kernel_rfl) (w.heap.size + 1 + 1) 27 (.int .i64 0) (.int .i64 0) (.int .i64 1) _ rfl rfl (((unhide T3).set0 _).set1 _) rfl Try.underlying27 (by kernel_rfl) ⟨rfl, below_two (unhide B1) (by omega) _ _⟩
  cases hF : okR c d
  · have hA : addA a b (-c) d = (0, 0, 1) := by unfold addA; rw [okR_neg, hE, hF]; rfl
    rw [hA]
    rw [hE] at h1
    rw [hF] at h2
    clear hA hE hF
    unfold rv at *
    go_enter Try.func18, Try.ntmps18
    go_wp2_with fail
    refine (unhide h1 _).mono ?_
    rintro e w1 ⟨rfl, b1⟩
    have t1 := (unhide T1).up b1
    have t2 := (unhide T2).up b1
    have t3 := (unhide T3).up b1
    have B1 := hide ((unhide B0).trans (b1.mono (unhide B0).size))
    clear T1 T2 T3 b1
    have p0 := t1.c0
    have p1 := t1.c1
    have q0 := t2.c0
    have q1 := t2.c1
    have T1 := hide t1
    have T2 := hide t2
    have x0 := t3.c0
    have x1 := t3.c1
    have x2 := t3.free 0
    have x3 := t3.free 1
    have T3 := hide t3
    clear t3 t1 t2
    go_wp2_with fail
    clear p0 p1 q0 q1 x0 x1 x2 x3
    refine (unhide h2 _).mono ?_
    rintro e w2 ⟨rfl, b2⟩
    have t1 := (unhide T1).up b2
    have t2 := (unhide T2).up b2
    have t3 := (unhide T3).up b2
    have B2 := hide ((unhide B1).trans (b2.mono (unhide B1).size))
    clear T1 T2 T3 b2
    have p0 := t1.c0
    have p1 := t1.c1
    have q0 := t2.c0
    have q1 := t2.c1
    have T1 := hide t1
    have T2 := hide t2
    have x0 := t3.c0
    have x1 := t3.c1
    have x2 := t3.free 0
    have x3 := t3.free 1
    have T3 := hide t3
    clear t3 t1 t2
    go_wp2
    exact ret_two (p := 6) (q := 7) (ty := 27) (by kernel_rfl) (w.heap.size + 1 + 1) 27 (.int .i64 0) (.int .i64 0) (.int .i64 1) _ rfl rfl (((unhide T3).set0 _).set1 _) rfl Try.underlying27 (by kernel_rfl) ⟨rfl, below_two (unhide B2) (by omega) _ _⟩
  have hB : (okR a b && okR c d) = true := by rw [hE, hF]; rfl
  rw [hE] at h1
  rw [hF] at h2
  obtain ⟨m1, m2, m3, m4, _⟩ := okR_of hE
  obtain ⟨m5, m6, m7, m8, _⟩ := okR_of hF
  clear hE hF
  have hA : addA a b (-c) d = loA (a * d + -c * b) (b * d) := by unfold addA; rw [okR_neg, if_pos hB]
  rw [hA]
  clear hA hB
  have k0 := prod_bound (x := a) (y := d) (by omega) (by omega) (by omega) (by omega)
  have k1 := prod_bound (x := -c) (y := b) (by omega) (by omega) (by omega) (by omega)
  have k2 := prod_bound (x := b) (y := d) (by omega) (by omega) (by omega) (by omega)
  have hnz : b * d ≠ 0 := Int.ne_of_gt (Int.mul_pos m3 m7)
  have hlo := hide (fun w => rlowest_any (a * d + -c * b) (b * d) w (by omega) (by omega) (by omega) (by omega) hnz)
  generalize loA (a * d + -c * b) (b * d) = R at *
  obtain ⟨x, y, z⟩ := R
  unfold rv at *
  go_enter Try.func18, Try.ntmps18
  go_wp2_with fail
  refine (unhide h1 _).mono ?_
  rintro e w1 ⟨rfl, b1⟩
  have t1 := (unhide T1).up b1
  have t2 := (unhide T2).up b1
  have t3 := (unhide T3).up b1
  have B1 := hide ((unhide B0).trans (b1.mono (unhide B0).size))
  clear T1 T2 T3 b1
  have p0 := t1.c0
  have p1 := t1.c1
  have q0 := t2.c0
  have q1 := t2.c1
  have T1 := hide t1
  have T2 := hide t2
  have x0 := t3.c0
  have x1 := t3.c1
  have x2 := t3.free 0
  have x3 := t3.free 1
  have T3 := hide t3
  clear t3 t1 t2
  go_wp2_with fail
  clear p0 p1 q0 q1 x0 x1 x2 x3
  refine (unhide h2 _).mono ?_
  rintro e w2 ⟨rfl, b2⟩
  have t1 := (unhide T1).up b2
  have t2 := (unhide T2).up b2
  have t3 := (unhide T3).up b2
  have B2 := hide ((unhide B1).trans (b2.mono (unhide B1).size))
  clear T1 T2 T3 b2
  have p0 := t1.c0
  have p1 := t1.c1
  have q0 := t2.c0
  have q1 := t2.c1
  have T1 := hide t1
  have T2 := hide t2
  have x0 := t3.c0
  have x1 := t3.c1
  have x2 := t3.free 0
  have x3 := t3.free 1
  have T3 := hide t3
  clear t3 t1 t2
  go_wp2_with fail
  clear p0 p1 q0 q1 x0 x1 x2 x3
  refine (unhide hlo _).mono ?_
  rintro e w3 ⟨rfl, b3⟩
  have t3 := (unhide T3).up b3
  have B3 := hide ((unhide B2).trans (b3.mono (unhide B2).size))
  clear T3 b3
  have x0 := t3.c0
  have x1 := t3.c1
  have x2 := t3.free 0
  have x3 := t3.free 1
  have T3 := hide t3
  clear t3
  simp only [rvE, rv]
  go_wp2
  exact ret_two (p := 6) (q := 7) (ty := 27) (by kernel_rfl) (w.heap.size + 1 + 1) 27 (.int .i64 x) (.int .i64 y) (.int .i64 z) _ rfl rfl (((unhide T3).set0 _).set1 _) rfl Try.underlying27 (by kernel_rfl) ⟨rfl, below_two (unhide B3) (by omega) _ _⟩

theorem div_floor (n d : Int) (hd : 0 < d) : (n.tmod d < 0 → n / d = n.tdiv d - 1) ∧ (¬ n.tmod d < 0 → n / d = n.tdiv d) := by
  have h1 := Int.mul_tdiv_add_tmod n d
  have h2 := Int.mul_ediv_add_emod n d
  have h3 := Int.emod_nonneg n (b := d) (by omega)
  have h4 := Int.emod_lt_of_pos n hd
  have h5 : n.tmod d < d := Int.tmod_lt_of_pos n hd
  have h6 : -d < n.tmod d := by have := Int.lt_tmod_of_pos n hd; omega
  generalize n.tmod d = r at *
  generalize n.tdiv d = q at *
  generalize n / d = Q at *
  generalize n % d = R at *
  constructor
  · intro hr
    have hm : d * (q - Q) = R - r := by rw [Int.mul_sub]; omega
    have hlo : 0 < q - Q := by
      rcases (show 0 < (q - Q) ∨ (q - Q) ≤ 0 by omega) with h | h
      · exact h
      · have := Int.mul_le_mul_of_nonneg_left h (Int.le_of_lt hd); rw [Int.mul_zero] at this; omega
    have hhi : q - Q < 2 := by
      rcases (show (q - Q) < 2 ∨ 2 ≤ (q - Q) by omega) with h | h
      · exact h
      · have := Int.mul_le_mul_of_nonneg_left h (Int.le_of_lt hd); omega
    omega
  · intro hr
    have hm : d * (q - Q) = R - r := by rw [Int.mul_sub]; omega
    have hlo : -1 < q - Q := by
      rcases (show (-1) < (q - Q) ∨ (q - Q) ≤ (-1) by omega) with h | h
      · exact h
      · have := Int.mul_le_mul_of_nonneg_left h (Int.le_of_lt hd); omega
    have hhi : q - Q < 1 := by
      rcases (show (q - Q) < 1 ∨ 1 ≤ (q - Q) by omega) with h | h
      · exact h
      · have := Int.mul_le_mul_of_nonneg_left h (Int.le_of_lt hd); omega
    omega

set_option maxRecDepth 100000 in
theorem notAbove_any (n d : Int) (w : World) (h0 : -9223372036854775807 ≤ n) (h1 : n ≤ 9223372036854775807) (h2 : 0 < d) (h3 : d ≤ 9223372036854775807) : Calls Try.prog 38 #[.int .i64 n, .int .i64 d] w fun e w' => e = .returned (.int .i64 (n / d)) ∧ w = w' := by
  obtain ⟨f1, f2⟩ := div_floor n d h2
  have hb : -9223372036854775807 ≤ n.tdiv d ∧ n.tdiv d ≤ 9223372036854775807 := by
    have := tdiv_bound n d.toNat (by omega) 9223372036854775807 h0 h1
    rwa [show ((d.toNat : Nat) : Int) = d by omega] at this
  obtain ⟨r, hr⟩ : ∃ r, n.tmod d = r := ⟨_, rfl⟩
  obtain ⟨q, hq⟩ : ∃ q, n.tdiv d = q := ⟨_, rfl⟩
  have hr5 : n.tmod d < d := Int.tmod_lt_of_pos n h2
  have hr6 : -d < n.tmod d := by have := Int.lt_tmod_of_pos n h2; omega
  rw [hr, hq] at f1 f2
  rw [hr] at hr5 hr6
  rw [hq] at hb
  have hz : ¬ d = 0 := by omega
  by_cases c : r < 0
  · rw [f1 c]
    clear f1 f2
    go_enter Try.func38, Try.ntmps38
    go_wp2
    go_ret
    exact ⟨rfl, rfl⟩
  · rw [f2 c]
    clear f1 f2
    go_enter Try.func38, Try.ntmps38
    go_wp2
    go_ret
    exact ⟨rfl, rfl⟩

def cmpV (x y : Int) : Int := if x < y then -1 else if y < x then 1 else 0
set_option maxRecDepth 100000 in
theorem cmp_any (x y : Int) (w : World) : Calls Try.prog 39 #[.int .i64 x, .int .i64 y] w fun e w' => e = .returned (.int .i64 (cmpV x y)) ∧ w = w' := by
  unfold cmpV
  by_cases h1 : x < y
  · rw [if_pos h1]
    go_enter Try.func39, Try.ntmps39
    go_wp2
    go_ret
    exact ⟨rfl, rfl⟩
  · rw [if_neg h1]
    by_cases h2 : y < x
    · rw [if_pos h2]
      go_enter Try.func39, Try.ntmps39
      go_wp2
      go_ret
      exact ⟨rfl, rfl⟩
    · rw [if_neg h2]
      go_enter Try.func39, Try.ntmps39
      go_wp2
      go_ret
      exact ⟨rfl, rfl⟩

end Go.Proofs.Ytmaeebgphblilaa
