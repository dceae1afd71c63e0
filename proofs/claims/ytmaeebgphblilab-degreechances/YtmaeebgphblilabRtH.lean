
/- Contracts of ratio's Scale and the document's; the document's Of; the law's Ref and awake. -/
import Derived.Test.YtmaeebgphblilabRtG
namespace Go.Proofs.Ytmaeebgphblilab
open Go.RowKit
set_option linter.unusedVariables false

theorem scale_bound {x y : Int} (h0 : -2147483647 ≤ x) (h1 : x ≤ 2147483647) (h2 : 0 ≤ y) (h3 : y ≤ 4294967296) : -9223372032559808512 ≤ x * y ∧ x * y ≤ 9223372032559808512 := by
  have a1 : x * y ≤ 2147483647 * y := Int.mul_le_mul_of_nonneg_right h1 h2
  have a2 : -2147483647 * y ≤ x * y := Int.mul_le_mul_of_nonneg_right h0 h2
  omega
theorem scale_split (a b k : Int) (hb : 0 < b) (hk : 0 ≤ k) : a * k / b = a / b * k + a % b * k / b := by
  have h := Int.mul_ediv_add_emod a b
  conv => lhs; rw [← h]
  rw [Int.add_mul, Int.mul_assoc, Int.add_comm, Int.add_mul_ediv_left _ _ (by omega), Int.add_comm]

set_option maxRecDepth 100000 in
set_option maxHeartbeats 1000000 in
theorem scale_any (a b k : Int) (w : World) (ha0 : -9223372036854775808 ≤ a) (ha1 : a ≤ 9223372036854775807) (hb0 : -9223372036854775808 ≤ b) (hb1 : b ≤ 9223372036854775807) (hk0 : -9223372036854775808 ≤ k) (hk1 : k ≤ 9223372036854775807) : Calls Try.prog 23 #[rv a b, .int .i64 k] w fun e w' => e = .returned (.tuple #[.int .i64 (scA a b k).1, .int .i64 (scA a b k).2]) ∧ Below w.heap.size w w' := by
  have T1 := hide (two_alloc w (.int .i64 a) (.int .i64 b) 23)
  have B0 : Hid (Below w.heap.size w (w.alloc (.cells #[.int .i64 a, .int .i64 b] 23))) := (Below.refl _ _).alloc (Nat.le_refl _) _
  have h1 := hide (fun w => check_any a b w ha0 ha1 hb0 hb1)
  cases hE : okR a b
  · have hA : scA a b k = (0, 1) := by unfold scA scOk; rw [hE]; rfl
    rw [hA]
    rw [hE] at h1
    clear hA hE
    unfold rv at *
    go_enter Try.func23, Try.ntmps23
    go_wp2_with fail
    refine (unhide h1 _).mono ?_
    rintro e w1 ⟨rfl, b1⟩
    have t1 := (unhide T1).up b1
    have B1 := hide ((unhide B0).trans (b1.mono (unhide B0).size))
    have p0 := t1.c0
    have p1 := t1.c1
    clear b1 T1 B0
    have T1 := hide t1
    clear t1
    go_wp2
    go_ret2
    exact ⟨rfl, unhide B1⟩
  rw [hE] at h1
  obtain ⟨m1, m2, m3, m4, _⟩ := okR_of hE
  by_cases k1 : k < 0
  · have hA : scA a b k = (0, 1) := by unfold scA scOk; rw [decide_eq_false (by omega), Bool.and_false]; rfl
    rw [hA]
    clear hA hE
    unfold rv at *
    go_enter Try.func23, Try.ntmps23
    go_wp2_with fail
    refine (unhide h1 _).mono ?_
    rintro e w1 ⟨rfl, b1⟩
    have t1 := (unhide T1).up b1
    have B1 := hide ((unhide B0).trans (b1.mono (unhide B0).size))
    have p0 := t1.c0
    have p1 := t1.c1
    clear b1 T1 B0
    have T1 := hide t1
    clear t1
    go_wp2
    go_ret2
    exact ⟨rfl, unhide B1⟩
  by_cases k2 : 4294967296 < k
  · have hA : scA a b k = (0, 1) := by unfold scA scOk; rw [decide_eq_false (by omega), Bool.and_false]; rfl
    rw [hA]
    clear hA hE
    unfold rv at *
    go_enter Try.func23, Try.ntmps23
    go_wp2_with fail
    refine (unhide h1 _).mono ?_
    rintro e w1 ⟨rfl, b1⟩
    have t1 := (unhide T1).up b1
    have B1 := hide ((unhide B0).trans (b1.mono (unhide B0).size))
    have p0 := t1.c0
    have p1 := t1.c1
    clear b1 T1 B0
    have T1 := hide t1
    clear t1
    go_wp2
    go_ret2
    exact ⟨rfl, unhide B1⟩
  have hA : scA a b k = (a * k / b, 0) := by unfold scA scOk; rw [hE, decide_eq_true (by omega)]; rfl
  rw [hA]
  have kb := scale_bound (x := a) (y := k) (by omega) (by omega) (by omega) (by omega)
  have h2 := hide (fun w => notAbove_any (a * k) b w (by omega) (by omega) (by omega) (by omega))
  obtain ⟨X, hX⟩ : ∃ X, a * k = X := ⟨_, rfl⟩
  rw [hX] at kb h2 ⊢
  clear hA hE
  unfold rv at *
  go_enter Try.func23, Try.ntmps23
  go_wp2_with fail
  refine (unhide h1 _).mono ?_
  rintro e w1 ⟨rfl, b1⟩
  have t1 := (unhide T1).up b1
  have B1 := hide ((unhide B0).trans (b1.mono (unhide B0).size))
  have p0 := t1.c0
  have p1 := t1.c1
  clear b1 T1 B0
  have T1 := hide t1
  clear t1
  go_wp2_with fail
  refine (unhide h2 _).mono ?_
  rintro e w2 ⟨rfl, rfl⟩
  go_wp2
  go_ret2
  exact ⟨rfl, unhide B1⟩

set_option maxRecDepth 100000 in
theorem lref_any (a b : Int) (w : World) : Calls Try.prog 18 #[rv a b] w fun e w' => e = .returned (rv a b) ∧ Below w.heap.size w w' := by
  unfold rv
  have t1 : Two ((w.alloc (.cells #[.int .i64 a, .int .i64 b] 23)).alloc (.cells #[.int .i64 a, .int .i64 b] 32)) (w.heap.size + 1) (.int .i64 a) (.int .i64 b) 32 := by
    have := two_alloc (w.alloc (.cells #[.int .i64 a, .int .i64 b] 23)) (.int .i64 a) (.int .i64 b) 32
    rwa [show (w.alloc (.cells #[.int .i64 a, .int .i64 b] 23)).heap.size = w.heap.size + 1 by simp] at this
  have T1 := hide t1
  clear t1
  go_enter Try.func18, Try.ntmps18
  go_wp2
  exact ret_one (p := 2) (ty := 32) (by kernel_rfl) (w.heap.size + 1) 32 _ _ _ rfl (unhide T1) rfl Try.underlying32 (by kernel_rfl) ⟨rfl, ((Below.refl _ _).alloc (Nat.le_refl _) _).alloc (by simp) _⟩

set_option maxRecDepth 100000 in
set_option maxHeartbeats 1000000 in
theorem rof_any (n d : Int) (w : World) : Calls Try.prog 31 #[.int .i64 n, .int .i64 d] w fun e w' => e = .returned (rvE (ofA n d)) ∧ Below w.heap.size w w' := by
  have hA : ofA n d = if d = 0 ∨ n < -4611686018427387904 ∨ 4611686018427387904 < n ∨ d < -4611686018427387904 ∨ 4611686018427387904 < d then (0, 0, 1) else loA n d := rfl
  have hlo := fun w => rlowest_any n d w
  generalize ofA n d = R at *
  generalize loA n d = L at *
  have b0 : Hid (Below w.heap.size w (w.alloc (.cells #[.int .i64 0, .int .i64 0] 32))) := (Below.refl _ _).alloc (Nat.le_refl _) _
  have t0 := hide (two_alloc w (.int .i64 0) (.int .i64 0) 32)
  by_cases c0 : d = 0
  · rw [if_pos (by omega)] at hA
    subst hA
    clear hlo
    go_enter Try.func31, Try.ntmps31
    go_wp2
    exact ret_two (p := 4) (q := 5) (ty := 32) (by kernel_rfl) w.heap.size 32 (.int .i64 0) (.int .i64 0) (.int .i64 1) _ rfl rfl (unhide t0) rfl Try.underlying32 (by kernel_rfl) ⟨rfl, unhide b0⟩
  by_cases c1 : n < -4611686018427387904
  · rw [if_pos (by omega)] at hA
    subst hA
    clear hlo
    go_enter Try.func31, Try.ntmps31
    go_wp2
    exact ret_two (p := 4) (q := 5) (ty := 32) (by kernel_rfl) w.heap.size 32 (.int .i64 0) (.int .i64 0) (.int .i64 1) _ rfl rfl (unhide t0) rfl Try.underlying32 (by kernel_rfl) ⟨rfl, unhide b0⟩
  by_cases c2 : 4611686018427387904 < n
  · rw [if_pos (by omega)] at hA
    subst hA
    clear hlo
    go_enter Try.func31, Try.ntmps31
    go_wp2
    exact ret_two (p := 4) (q := 5) (ty := 32) (by kernel_rfl) w.heap.size 32 (.int .i64 0) (.int .i64 0) (.int .i64 1) _ rfl rfl (unhide t0) rfl Try.underlying32 (by kernel_rfl) ⟨rfl, unhide b0⟩
  by_cases c3 : d < -4611686018427387904
  · rw [if_pos (by omega)] at hA
    subst hA
    clear hlo
    go_enter Try.func31, Try.ntmps31
    go_wp2
    exact ret_two (p := 4) (q := 5) (ty := 32) (by kernel_rfl) w.heap.size 32 (.int .i64 0) (.int .i64 0) (.int .i64 1) _ rfl rfl (unhide t0) rfl Try.underlying32 (by kernel_rfl) ⟨rfl, unhide b0⟩
  by_cases c4 : 4611686018427387904 < d
  · rw [if_pos (by omega)] at hA
    subst hA
    clear hlo
    go_enter Try.func31, Try.ntmps31
    go_wp2
    exact ret_two (p := 4) (q := 5) (ty := 32) (by kernel_rfl) w.heap.size 32 (.int .i64 0) (.int .i64 0) (.int .i64 1) _ rfl rfl (unhide t0) rfl Try.underlying32 (by kernel_rfl) ⟨rfl, unhide b0⟩
  rw [if_neg (by omega)] at hA
  subst hA
  have hlo := hide (fun w => hlo w (by omega) (by omega) (by omega) (by omega) c0)
  obtain ⟨x, y, z⟩ := R
  go_enter Try.func31, Try.ntmps31
  go_wp2_with fail
  refine (unhide hlo _).mono ?_
  rintro e w1 ⟨rfl, b1⟩
  have t1 := (unhide t0).up b1
  have B1 := hide ((unhide b0).trans (b1.mono (unhide b0).size))
  have x0 := t1.c0
  have x1 := t1.c1
  have x2 := t1.free 0
  have x3 := t1.free 1
  have T1 := hide t1
  clear t1 b1 t0 b0
  simp only [rvE, rv]
  go_wp2
  exact ret_two (p := 4) (q := 5) (ty := 32) (by kernel_rfl) w.heap.size 32 (.int .i64 x) (.int .i64 y) (.int .i64 z) _ rfl rfl (((unhide T1).set0 _).set1 _) rfl Try.underlying32 (by kernel_rfl) ⟨rfl, below_two (unhide B1) (Nat.le_refl _) _ _⟩

theorem ex_of : ofA 6 (-4) = (-3, 2, 0) := by decide +kernel
theorem ex_add : addA 1 2 1 3 = (5, 6, 0) := by decide +kernel
theorem ex_sc : scA 1 3 4294967296 = (1431655765, 0) := by decide +kernel
theorem ex_flo : floA (-3) 2 = -2 := by decide +kernel
end Go.Proofs.Ytmaeebgphblilab
