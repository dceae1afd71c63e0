/- Contracts of ratio's Compare, Floor, Ceil, Scale, and the document's; the document's Of. -/
import Derived.Test.YtmaeebgphblilaaRtF
namespace Go.Proofs.Ytmaeebgphblilaa
open Go.RowKit
set_option linter.unusedVariables false

def cmpA (a b c d : Int) : Int := if (okR a b && okR c d) = true then cmpV (a * d) (c * b) else 0
def floA (a b : Int) : Int := if okR a b = true then a / b else 0
def ceA (a b : Int) : Int := if okR a b = true then -(-a / b) else 0
def scOk (a b k : Int) : Bool := okR a b && decide (0 ≤ k ∧ k ≤ 4294967296)
/-- what Scale answers -/
def scA (a b k : Int) : Int × Int := if scOk a b k = true then (a * k / b, 0) else (0, 1)

set_option maxRecDepth 100000 in
set_option maxHeartbeats 1000000 in
theorem compare_any (a b c d : Int) (w : World) (ha0 : -9223372036854775808 ≤ a) (ha1 : a ≤ 9223372036854775807) (hb0 : -9223372036854775808 ≤ b) (hb1 : b ≤ 9223372036854775807) (hc0 : -9223372036854775808 ≤ c) (hc1 : c ≤ 9223372036854775807) (hd0 : -9223372036854775808 ≤ d) (hd1 : d ≤ 9223372036854775807) : Calls Try.prog 26 #[rv a b, rv c d] w fun e w' => e = .returned (.int .i64 (cmpA a b c d)) ∧ Below w.heap.size w w' := by
  obtain ⟨t1, t2, b0⟩ := twice_new w (.int .i64 a) (.int .i64 b) (.int .i64 c) (.int .i64 d) 23
  have T1 := hide t1
  have T2 := hide t2
  have B0 := hide b0
  clear t1 t2 b0
  have h1 := hide (fun w => both_any a b c d w ha0 ha1 hb0 hb1 hc0 hc1 hd0 hd1)
  cases hB : (okR a b && okR c d)
  · have hA : cmpA a b c d = 0 := by unfold cmpA; rw [hB]; rfl
    rw [hA]
    rw [hB] at h1
    clear hA hB
    unfold rv at *
    go_enter Try.func26, Try.ntmps26
    go_wp2_with fail
    refine (unhide h1 _).mono ?_
    rintro e w1 ⟨rfl, b1⟩
    have B1 := hide ((unhide B0).trans (b1.mono (unhide B0).size))
    clear b1
    go_wp2
    go_ret
    exact ⟨rfl, unhide B1⟩
  · have hA : cmpA a b c d = cmpV (a * d) (c * b) := by unfold cmpA; rw [hB]; rfl
    rw [hA]
    rw [hB] at h1
    rw [Bool.and_eq_true] at hB
    obtain ⟨m1, m2, m3, m4, _⟩ := okR_of hB.1
    obtain ⟨m5, m6, m7, m8, _⟩ := okR_of hB.2
    have k1 := prod_bound (x := a) (y := d) (by omega) (by omega) (by omega) (by omega)
    have k2 := prod_bound (x := c) (y := b) (by omega) (by omega) (by omega) (by omega)
    have h2 := hide (fun w => cmp_any (a * d) (c * b) w)
    clear hA hB
    unfold rv at *
    go_enter Try.func26, Try.ntmps26
    go_wp2_with fail
    refine (unhide h1 _).mono ?_
    rintro e w1 ⟨rfl, b1⟩
    have t1 := (unhide T1).up b1
    have t2 := (unhide T2).up b1
    have B1 := hide ((unhide B0).trans (b1.mono (unhide B0).size))
    have p0 := t1.c0
    have p1 := t1.c1
    have q0 := t2.c0
    have q1 := t2.c1
    clear b1 t1 t2
    go_wp2_with fail
    refine (unhide h2 _).mono ?_
    rintro e w2 ⟨rfl, rfl⟩
    go_wp2
    go_ret
    exact ⟨rfl, unhide B1⟩

set_option maxRecDepth 100000 in
set_option maxHeartbeats 1000000 in
theorem rcompare_any (a b c d : Int) (w : World) (ha0 : -9223372036854775808 ≤ a) (ha1 : a ≤ 9223372036854775807) (hb0 : -9223372036854775808 ≤ b) (hb1 : b ≤ 9223372036854775807) (hc0 : -9223372036854775808 ≤ c) (hc1 : c ≤ 9223372036854775807) (hd0 : -9223372036854775808 ≤ d) (hd1 : d ≤ 9223372036854775807) : Calls Try.prog 27 #[rv a b, rv c d] w fun e w' => e = .returned (.int .i64 (cmpA a b c d)) ∧ Below w.heap.size w w' := by
  obtain ⟨t1, t2, b0⟩ := twice_new w (.int .i64 a) (.int .i64 b) (.int .i64 c) (.int .i64 d) 27
  have T1 := hide t1
  have T2 := hide t2
  have B0 := hide b0
  clear t1 t2 b0
  have h1 := hide (fun w => rcheck_any a b w ha0 ha1 hb0 hb1)
  have h2 := hide (fun w => rcheck_any c d w hc0 hc1 hd0 hd1)
  cases hE : okR a b
  · have hA : cmpA a b c d = 0 := by unfold cmpA; rw [hE]; rfl
    rw [hA]
    rw [hE] at h1
    clear hA hE
    unfold rv at *
    go_enter Try.func27, Try.ntmps27
    go_wp2_with fail
    refine (unhide h1 _).mono ?_
    rintro e w1 ⟨rfl, b1⟩
    have B1 := hide ((unhide B0).trans (b1.mono (unhide B0).size))
    clear b1
    go_wp2
    go_ret
    exact ⟨rfl, unhide B1⟩
  cases hF : okR c d
  · have hA : cmpA a b c d = 0 := by unfold cmpA; rw [hE, hF]; rfl
    rw [hA]
    rw [hE] at h1
    rw [hF] at h2
    clear hA hE hF
    unfold rv at *
    go_enter Try.func27, Try.ntmps27
    go_wp2_with fail
    refine (unhide h1 _).mono ?_
    rintro e w1 ⟨rfl, b1⟩
    have t2 := (unhide T2).up b1
    have B1 := hide ((unhide B0).trans (b1.mono (unhide B0).size))
    have q0 := t2.c0
    have q1 := t2.c1
    clear b1 t2
    go_wp2_with fail
    refine (unhide h2 _).mono ?_
    rintro e w2 ⟨rfl, b2⟩
    have B2 := hide ((unhide B1).trans (b2.mono (unhide B1).size))
    clear b2
    go_wp2
    go_ret
    exact ⟨rfl, unhide B2⟩
  have hA : cmpA a b c d = cmpV (a * d) (c * b) := by unfold cmpA; rw [hE, hF]; rfl
  rw [hA]
  rw [hE] at h1
  rw [hF] at h2
  obtain ⟨m1, m2, m3, m4, _⟩ := okR_of hE
  obtain ⟨m5, m6, m7, m8, _⟩ := okR_of hF
  have k1 := prod_bound (x := a) (y := d) (by omega) (by omega) (by omega) (by omega)
  have k2 := prod_bound (x := c) (y := b) (by omega) (by omega) (by omega) (by omega)
  obtain ⟨X, hX⟩ : ∃ X, a * d = X := ⟨_, rfl⟩
  obtain ⟨Y, hY⟩ : ∃ Y, c * b = Y := ⟨_, rfl⟩
  rw [hX] at k1 ⊢
  rw [hY] at k2 ⊢
  clear hA hE hF
  unfold rv at *
  unfold cmpV
  by_cases g0 : X = Y
  · rw [if_neg (by omega), if_neg (by omega)]
    subst g0
    go_enter Try.func27, Try.ntmps27
    go_wp2_with fail
    refine (unhide h1 _).mono ?_
    rintro e w1 ⟨rfl, b1⟩
    have t2 := (unhide T2).up b1
    have t1 := (unhide T1).up b1
    have B1 := hide ((unhide B0).trans (b1.mono (unhide B0).size))
    have q0 := t2.c0
    have q1 := t2.c1
    clear b1 T1 T2
    have T1 := hide t1
    have T2 := hide t2
    clear t1 t2
    go_wp2_with fail
    clear q0 q1
    refine (unhide h2 _).mono ?_
    rintro e w2 ⟨rfl, b2⟩
    have t1 := (unhide T1).up b2
    have t2 := (unhide T2).up b2
    have B2 := hide ((unhide B1).trans (b2.mono (unhide B1).size))
    have p0 := t1.c0
    have p1 := t1.c1
    have q0 := t2.c0
    have q1 := t2.c1
    clear b2 t1 t2 T1 T2
    go_wp2
    go_ret
    exact ⟨rfl, unhide B2⟩
  by_cases g1 : X < Y
  · rw [if_pos g1]
    go_enter Try.func27, Try.ntmps27
    go_wp2_with fail
    refine (unhide h1 _).mono ?_
    rintro e w1 ⟨rfl, b1⟩
    have t2 := (unhide T2).up b1
    have t1 := (unhide T1).up b1
    have B1 := hide ((unhide B0).trans (b1.mono (unhide B0).size))
    have q0 := t2.c0
    have q1 := t2.c1
    clear b1 T1 T2
    have T1 := hide t1
    have T2 := hide t2
    clear t1 t2
    go_wp2_with fail
    clear q0 q1
    refine (unhide h2 _).mono ?_
    rintro e w2 ⟨rfl, b2⟩
    have t1 := (unhide T1).up b2
    have t2 := (unhide T2).up b2
    have B2 := hide ((unhide B1).trans (b2.mono (unhide B1).size))
    have p0 := t1.c0
    have p1 := t1.c1
    have q0 := t2.c0
    have q1 := t2.c1
    clear b2 t1 t2 T1 T2
    go_wp2
    go_ret
    exact ⟨rfl, unhide B2⟩
  have g2 : Y < X := by omega
  · rw [if_neg g1, if_pos g2]
    go_enter Try.func27, Try.ntmps27
    go_wp2_with fail
    refine (unhide h1 _).mono ?_
    rintro e w1 ⟨rfl, b1⟩
    have t2 := (unhide T2).up b1
    have t1 := (unhide T1).up b1
    have B1 := hide ((unhide B0).trans (b1.mono (unhide B0).size))
    have q0 := t2.c0
    have q1 := t2.c1
    clear b1 T1 T2
    have T1 := hide t1
    have T2 := hide t2
    clear t1 t2
    go_wp2_with fail
    clear q0 q1
    refine (unhide h2 _).mono ?_
    rintro e w2 ⟨rfl, b2⟩
    have t1 := (unhide T1).up b2
    have t2 := (unhide T2).up b2
    have B2 := hide ((unhide B1).trans (b2.mono (unhide B1).size))
    have p0 := t1.c0
    have p1 := t1.c1
    have q0 := t2.c0
    have q1 := t2.c1
    clear b2 t1 t2 T1 T2
    go_wp2
    go_ret
    exact ⟨rfl, unhide B2⟩

theorem ediv_bound {a b m : Int} (h0 : -m ≤ a) (h1 : a ≤ m) (hb : 0 < b) : -m ≤ a / b ∧ a / b ≤ m := by
  have hm : 0 ≤ m := by omega
  constructor
  · have : -m ≤ -m / 1 := by simp
    rw [Int.le_ediv_iff_mul_le hb]
    have : -m * b ≤ -m * 1 := Int.mul_le_mul_of_nonpos_left (by omega) (by omega)
    omega
  · have h2 : a / b < m + 1 := by
      rw [Int.ediv_lt_iff_lt_mul hb]
      have : (m + 1) * 1 ≤ (m + 1) * b := Int.mul_le_mul_of_nonneg_left (by omega) (by omega)
      omega
    omega
theorem div_ceil (n d : Int) (hd : 0 < d) : (0 < n.tmod d → -(-n / d) = n.tdiv d + 1) ∧ (¬ 0 < n.tmod d → -(-n / d) = n.tdiv d) := by
  obtain ⟨f1, f2⟩ := div_floor (-n) d hd
  rw [Int.neg_tmod, Int.neg_tdiv] at f1 f2
  constructor
  · intro h
    rw [f1 (by omega)]
    omega
  · intro h
    rw [f2 (by omega)]
    omega

set_option maxRecDepth 100000 in
set_option maxHeartbeats 1000000 in
theorem floor_any (a b : Int) (w : World) (ha0 : -9223372036854775808 ≤ a) (ha1 : a ≤ 9223372036854775807) (hb0 : -9223372036854775808 ≤ b) (hb1 : b ≤ 9223372036854775807) : Calls Try.prog 28 #[rv a b] w fun e w' => e = .returned (.int .i64 (floA a b)) ∧ Below w.heap.size w w' := by
  have T1 := hide (two_alloc w (.int .i64 a) (.int .i64 b) 23)
  have B0 : Hid (Below w.heap.size w (w.alloc (.cells #[.int .i64 a, .int .i64 b] 23))) := (Below.refl _ _).alloc (Nat.le_refl _) _
  have h1 := hide (fun w => check_any a b w ha0 ha1 hb0 hb1)
  cases hE : okR a b
  · have hA : floA a b = 0 := by unfold floA; rw [hE]; rfl
    rw [hA]
    rw [hE] at h1
    clear hA hE
    unfold rv at *
    go_enter Try.func28, Try.ntmps28
    go_wp2_with fail
    refine (unhide h1 _).mono ?_
    rintro e w1 ⟨rfl, b1⟩
    have t1 := (unhide T1).up b1
    have B1 := hide ((unhide B0).trans (b1.mono (unhide B0).size))
    have p0 := t1.c0
    have p1 := t1.c1
    clear b1 t1 T1 B0
    go_wp2
    go_ret
    exact ⟨rfl, unhide B1⟩
  · have hA : floA a b = a / b := by unfold floA; rw [hE]; rfl
    rw [hA]
    rw [hE] at h1
    obtain ⟨m1, m2, m3, m4, _⟩ := okR_of hE
    clear hA hE
    unfold rv at *
    have h2 := hide (fun w => notAbove_any a b w (by omega) (by omega) (by omega) (by omega))
    go_enter Try.func28, Try.ntmps28
    go_wp2_with fail
    refine (unhide h1 _).mono ?_
    rintro e w1 ⟨rfl, b1⟩
    have t1 := (unhide T1).up b1
    have B1 := hide ((unhide B0).trans (b1.mono (unhide B0).size))
    have p0 := t1.c0
    have p1 := t1.c1
    clear b1 t1 T1 B0
    go_wp2_with fail
    refine (unhide h2 _).mono ?_
    rintro e w2 ⟨rfl, rfl⟩
    go_wp2
    go_ret
    exact ⟨rfl, unhide B1⟩

set_option maxRecDepth 100000 in
set_option maxHeartbeats 1000000 in
theorem ceil_any (a b : Int) (w : World) (ha0 : -9223372036854775808 ≤ a) (ha1 : a ≤ 9223372036854775807) (hb0 : -9223372036854775808 ≤ b) (hb1 : b ≤ 9223372036854775807) : Calls Try.prog 30 #[rv a b] w fun e w' => e = .returned (.int .i64 (ceA a b)) ∧ Below w.heap.size w w' := by
  have T1 := hide (two_alloc w (.int .i64 a) (.int .i64 b) 23)
  have B0 : Hid (Below w.heap.size w (w.alloc (.cells #[.int .i64 a, .int .i64 b] 23))) := (Below.refl _ _).alloc (Nat.le_refl _) _
  have h1 := hide (fun w => check_any a b w ha0 ha1 hb0 hb1)
  cases hE : okR a b
  · have hA : ceA a b = 0 := by unfold ceA; rw [hE]; rfl
    rw [hA]
    rw [hE] at h1
    clear hA hE
    unfold rv at *
    go_enter Try.func30, Try.ntmps30
    go_wp2_with fail
    refine (unhide h1 _).mono ?_
    rintro e w1 ⟨rfl, b1⟩
    have t1 := (unhide T1).up b1
    have B1 := hide ((unhide B0).trans (b1.mono (unhide B0).size))
    have p0 := t1.c0
    have p1 := t1.c1
    clear b1 t1 T1 B0
    go_wp2
    go_ret
    exact ⟨rfl, unhide B1⟩
  · have hA : ceA a b = -(-a / b) := by unfold ceA; rw [hE]; rfl
    rw [hA]
    rw [hE] at h1
    obtain ⟨m1, m2, m3, m4, _⟩ := okR_of hE
    clear hA hE
    unfold rv at *
    have h2 := hide (fun w => notAbove_any (-a) b w (by omega) (by omega) (by omega) (by omega))
    have hq : -2147483647 ≤ -a / b ∧ -a / b ≤ 2147483647 := ediv_bound (by omega) (by omega) m3
    generalize -a / b = Q at *
    go_enter Try.func30, Try.ntmps30
    go_wp2_with fail
    refine (unhide h1 _).mono ?_
    rintro e w1 ⟨rfl, b1⟩
    have t1 := (unhide T1).up b1
    have B1 := hide ((unhide B0).trans (b1.mono (unhide B0).size))
    have p0 := t1.c0
    have p1 := t1.c1
    clear b1 t1 T1 B0
    go_wp2_with fail
    refine (unhide h2 _).mono ?_
    rintro e w2 ⟨rfl, rfl⟩
    go_wp2
    go_ret
    exact ⟨rfl, unhide B1⟩

set_option maxRecDepth 100000 in
set_option maxHeartbeats 1000000 in
theorem rfloor_any (a b : Int) (w : World) (ha0 : -9223372036854775808 ≤ a) (ha1 : a ≤ 9223372036854775807) (hb0 : -9223372036854775808 ≤ b) (hb1 : b ≤ 9223372036854775807) : Calls Try.prog 29 #[rv a b] w fun e w' => e = .returned (.int .i64 (floA a b)) ∧ Below w.heap.size w w' := by
  have T1 := hide (two_alloc w (.int .i64 a) (.int .i64 b) 27)
  have B0 : Hid (Below w.heap.size w (w.alloc (.cells #[.int .i64 a, .int .i64 b] 27))) := (Below.refl _ _).alloc (Nat.le_refl _) _
  have h1 := hide (fun w => rcheck_any a b w ha0 ha1 hb0 hb1)
  cases hE : okR a b
  · have hA : floA a b = 0 := by unfold floA; rw [hE]; rfl
    rw [hA]
    rw [hE] at h1
    clear hA hE
    unfold rv at *
    go_enter Try.func29, Try.ntmps29
    go_wp2_with fail
    refine (unhide h1 _).mono ?_
    rintro e w1 ⟨rfl, b1⟩
    have t1 := (unhide T1).up b1
    have B1 := hide ((unhide B0).trans (b1.mono (unhide B0).size))
    have p0 := t1.c0
    have p1 := t1.c1
    clear b1 t1 T1 B0
    go_wp2
    go_ret
    exact ⟨rfl, unhide B1⟩
  · have hA : floA a b = a / b := by unfold floA; rw [hE]; rfl
    rw [hA]
    rw [hE] at h1
    obtain ⟨m1, m2, m3, m4, _⟩ := okR_of hE
    clear hA hE
    unfold rv at *
    obtain ⟨f1, f2⟩ := div_floor a b m3
    have hm := Int.mul_tdiv_add_tmod a b
    rw [Int.mul_comm] at hm
    have hr5 : a.tmod b < b := Int.tmod_lt_of_pos a m3
    have hr6 : -b < a.tmod b := by have := Int.lt_tmod_of_pos a m3; omega
    have hqb : -2147483647 ≤ a.tdiv b ∧ a.tdiv b ≤ 2147483647 := by
      have := tdiv_bound a b.toNat (by omega) 2147483647 m1 m2
      rwa [show ((b.toNat : Nat) : Int) = b by omega] at this
    obtain ⟨q, hq⟩ : ∃ q, a.tdiv b = q := ⟨_, rfl⟩
    rw [hq] at hqb hm f1 f2
    generalize a.tmod b = r at *
    have hz : ¬ b = 0 := by omega
    have kb := prod_bound (x := q) (y := b) (by omega) (by omega) (by omega) (by omega)
    obtain ⟨P, hP⟩ : ∃ P, q * b = P := ⟨_, rfl⟩
    rw [hP] at kb hm
    by_cases c : r < 0
    · rw [f1 c]
      have c' : a < P := by omega
      clear f1 f2 hm hr5 hr6
      go_enter Try.func29, Try.ntmps29
      go_wp2_with fail
      refine (unhide h1 _).mono ?_
      rintro e w1 ⟨rfl, b1⟩
      have t1 := (unhide T1).up b1
      have B1 := hide ((unhide B0).trans (b1.mono (unhide B0).size))
      have p0 := t1.c0
      have p1 := t1.c1
      clear b1 t1 T1 B0
      go_wp2
      go_ret
      exact ⟨rfl, unhide B1⟩
    · rw [f2 c]
      have c' : ¬ a < P := by omega
      clear f1 f2 hm hr5 hr6
      go_enter Try.func29, Try.ntmps29
      go_wp2_with fail
      refine (unhide h1 _).mono ?_
      rintro e w1 ⟨rfl, b1⟩
      have t1 := (unhide T1).up b1
      have B1 := hide ((unhide B0).trans (b1.mono (unhide B0).size))
      have p0 := t1.c0
      have p1 := t1.c1
      clear b1 t1 T1 B0
      go_wp2
      go_ret
      exact ⟨rfl, unhide B1⟩

set_option maxRecDepth 100000 in
set_option maxHeartbeats 1000000 in
theorem rceil_any (a b : Int) (w : World) (ha0 : -9223372036854775808 ≤ a) (ha1 : a ≤ 9223372036854775807) (hb0 : -9223372036854775808 ≤ b) (hb1 : b ≤ 9223372036854775807) : Calls Try.prog 31 #[rv a b] w fun e w' => e = .returned (.int .i64 (ceA a b)) ∧ Below w.heap.size w w' := by
  have T1 := hide (two_alloc w (.int .i64 a) (.int .i64 b) 27)
  have B0 : Hid (Below w.heap.size w (w.alloc (.cells #[.int .i64 a, .int .i64 b] 27))) := (Below.refl _ _).alloc (Nat.le_refl _) _
  have h1 := hide (fun w => rcheck_any a b w ha0 ha1 hb0 hb1)
  cases hE : okR a b
  · have hA : ceA a b = 0 := by unfold ceA; rw [hE]; rfl
    rw [hA]
    rw [hE] at h1
    clear hA hE
    unfold rv at *
    go_enter Try.func31, Try.ntmps31
    go_wp2_with fail
    refine (unhide h1 _).mono ?_
    rintro e w1 ⟨rfl, b1⟩
    have t1 := (unhide T1).up b1
    have B1 := hide ((unhide B0).trans (b1.mono (unhide B0).size))
    have p0 := t1.c0
    have p1 := t1.c1
    clear b1 t1 T1 B0
    go_wp2
    go_ret
    exact ⟨rfl, unhide B1⟩
  · have hA : ceA a b = -(-a / b) := by unfold ceA; rw [hE]; rfl
    rw [hA]
    rw [hE] at h1
    obtain ⟨m1, m2, m3, m4, _⟩ := okR_of hE
    clear hA hE
    unfold rv at *
    obtain ⟨f1, f2⟩ := div_ceil a b m3
    have hm := Int.mul_tdiv_add_tmod a b
    rw [Int.mul_comm] at hm
    have hr5 : a.tmod b < b := Int.tmod_lt_of_pos a m3
    have hr6 : -b < a.tmod b := by have := Int.lt_tmod_of_pos a m3; omega
    have hqb : -2147483647 ≤ a.tdiv b ∧ a.tdiv b ≤ 2147483647 := by
      have := tdiv_bound a b.toNat (by omega) 2147483647 m1 m2
      rwa [show ((b.toNat : Nat) : Int) = b by omega] at this
    obtain ⟨q, hq⟩ : ∃ q, a.tdiv b = q := ⟨_, rfl⟩
    rw [hq] at hqb hm f1 f2
    generalize a.tmod b = r at *
    have hz : ¬ b = 0 := by omega
    have kb := prod_bound (x := q) (y := b) (by omega) (by omega) (by omega) (by omega)
    obtain ⟨P, hP⟩ : ∃ P, q * b = P := ⟨_, rfl⟩
    rw [hP] at kb hm
    by_cases c : 0 < r
    · rw [f1 c]
      have c' : P < a := by omega
      clear f1 f2 hm hr5 hr6
      go_enter Try.func31, Try.ntmps31
      go_wp2_with fail
      refine (unhide h1 _).mono ?_
      rintro e w1 ⟨rfl, b1⟩
      have t1 := (unhide T1).up b1
      have B1 := hide ((unhide B0).trans (b1.mono (unhide B0).size))
      have p0 := t1.c0
      have p1 := t1.c1
      clear b1 t1 T1 B0
      go_wp2
      go_ret
      exact ⟨rfl, unhide B1⟩
    · rw [f2 c]
      have c' : ¬ P < a := by omega
      clear f1 f2 hm hr5 hr6
      go_enter Try.func31, Try.ntmps31
      go_wp2_with fail
      refine (unhide h1 _).mono ?_
      rintro e w1 ⟨rfl, b1⟩
      have t1 := (unhide T1).up b1
      have B1 := hide ((unhide B0).trans (b1.mono (unhide B0).size))
      have p0 := t1.c0
      have p1 := t1.c1
      clear b1 t1 T1 B0
      go_wp2
      go_ret
      exact ⟨rfl, unhide B1⟩

end Go.Proofs.Ytmaeebgphblilaa
