
/- Contracts of ratio's Of, areBoth, Add, Sub, Mul, Div. -/
import Derived.Test.YtmaeebgphblilabRtC
namespace Go.Proofs.Ytmaeebgphblilab
open Go.RowKit
set_option linter.unusedVariables false

/-- what Of answers -/
def ofA (n d : Int) : Int × Int × Int := if d = 0 ∨ n < -4611686018427387904 ∨ 4611686018427387904 < n ∨ d < -4611686018427387904 ∨ 4611686018427387904 < d then (0, 0, 1) else loA n d
def addA (a b c d : Int) : Int × Int × Int := if (okR a b && okR c d) = true then loA (a * d + c * b) (b * d) else (0, 0, 1)
def mulA (a b c d : Int) : Int × Int × Int := if (okR a b && okR c d) = true then loA (a * c) (b * d) else (0, 0, 1)
def divA (a b c d : Int) : Int × Int × Int := if (okR a b && okR c d) = true ∧ c ≠ 0 then loA (a * d) (b * c) else (0, 0, 1)

theorem mul_bound {x y m : Int} (h0 : -m ≤ x) (h1 : x ≤ m) (h2 : -m ≤ y) (h3 : y ≤ m) : -(m * m) ≤ x * y ∧ x * y ≤ m * m := by
  have hx : x.natAbs ≤ m.natAbs := by omega
  have hy : y.natAbs ≤ m.natAbs := by omega
  have h := Nat.mul_le_mul hx hy
  rw [← Int.natAbs_mul, ← Int.natAbs_mul] at h
  have hm : 0 ≤ m * m := Int.mul_nonneg (by omega) (by omega)
  omega
theorem prod_bound {x y : Int} (h0 : -2147483647 ≤ x) (h1 : x ≤ 2147483647) (h2 : -2147483647 ≤ y) (h3 : y ≤ 2147483647) : -4611686014132420609 ≤ x * y ∧ x * y ≤ 4611686014132420609 := mul_bound (m := 2147483647) h0 h1 h2 h3

/-- three blocks of two cells, one behind the other -/
theorem three_new (w : World) (x y u v p q : Value) (t : TypeId) :
    Two (((w.alloc (.cells #[x, y] t)).alloc (.cells #[u, v] t)).alloc (.cells #[p, q] t)) w.heap.size x y t ∧ Two (((w.alloc (.cells #[x, y] t)).alloc (.cells #[u, v] t)).alloc (.cells #[p, q] t)) (w.heap.size + 1) u v t ∧ Two (((w.alloc (.cells #[x, y] t)).alloc (.cells #[u, v] t)).alloc (.cells #[p, q] t)) (w.heap.size + 1 + 1) p q t ∧ Below w.heap.size w (((w.alloc (.cells #[x, y] t)).alloc (.cells #[u, v] t)).alloc (.cells #[p, q] t)) := by
  refine ⟨((two_alloc w x y t).alloc _).alloc _, ?_, ?_, (((Below.refl _ _).alloc (Nat.le_refl _) _).alloc (by simp) _).alloc (by simp; omega) _⟩
  · have := (two_alloc (w.alloc (.cells #[x, y] t)) u v t).alloc (.cells #[p, q] t)
    rwa [show (w.alloc (.cells #[x, y] t)).heap.size = w.heap.size + 1 by simp] at this
  · have := two_alloc ((w.alloc (.cells #[x, y] t)).alloc (.cells #[u, v] t)) p q t
    rwa [show ((w.alloc (.cells #[x, y] t)).alloc (.cells #[u, v] t)).heap.size = w.heap.size + 1 + 1 by simp] at this
theorem twice_new (w : World) (x y u v : Value) (t : TypeId) :
    Two ((w.alloc (.cells #[x, y] t)).alloc (.cells #[u, v] t)) w.heap.size x y t ∧ Two ((w.alloc (.cells #[x, y] t)).alloc (.cells #[u, v] t)) (w.heap.size + 1) u v t ∧ Below w.heap.size w ((w.alloc (.cells #[x, y] t)).alloc (.cells #[u, v] t)) := by
  refine ⟨(two_alloc w x y t).alloc _, ?_, ((Below.refl _ _).alloc (Nat.le_refl _) _).alloc (by simp) _⟩
  have := two_alloc (w.alloc (.cells #[x, y] t)) u v t
  rwa [show (w.alloc (.cells #[x, y] t)).heap.size = w.heap.size + 1 by simp] at this

set_option maxRecDepth 100000 in
set_option maxHeartbeats 1000000 in
theorem of_any (n d : Int) (w : World) (hn0 : -9223372036854775808 ≤ n) (hn1 : n ≤ 9223372036854775807) (hd0 : -9223372036854775808 ≤ d) (hd1 : d ≤ 9223372036854775807) : Calls Try.prog 30 #[.int .i64 n, .int .i64 d] w fun e w' => e = .returned (rvE (ofA n d)) ∧ Below w.heap.size w w' := by
  have hwn := fun w => within_any n 4611686018427387904 w (by omega) (by omega)
  have hwd := fun w => within_any d 4611686018427387904 w (by omega) (by omega)
  have hA : ofA n d = if d = 0 ∨ n < -4611686018427387904 ∨ 4611686018427387904 < n ∨ d < -4611686018427387904 ∨ 4611686018427387904 < d then (0, 0, 1) else loA n d := rfl
  have hlo := fun w => lowest_any n d w
  generalize ofA n d = R at *
  generalize loA n d = L at *
  have b0 : Hid (Below w.heap.size w (w.alloc (.cells #[.int .i64 0, .int .i64 0] 23))) := (Below.refl _ _).alloc (Nat.le_refl _) _
  have t0 := hide (two_alloc w (.int .i64 0) (.int .i64 0) 23)
  by_cases c1 : d = 0
  · rw [if_pos (by omega)] at hA
    subst hA
    clear hlo hwn hwd
    go_enter Try.func30, Try.ntmps30
    go_wp2_with fail
    go_wp2
    refine ret_two (p := 4) (q := 5) (ty := 23) (by kernel_rfl) w.heap.size 23 (.int .i64 0) (.int .i64 0) (.int .i64 1) _ rfl rfl (unhide t0) rfl Try.underlying23 (by kernel_rfl) ⟨rfl, unhide b0⟩
  by_cases c2 : -4611686018427387904 ≤ n ∧ n ≤ 4611686018427387904
  · rw [decide_eq_true c2] at hwn
    by_cases c3 : -4611686018427387904 ≤ d ∧ d ≤ 4611686018427387904
    · rw [decide_eq_true c3] at hwd
      rw [if_neg (by omega)] at hA
      subst hA
      have hlo := hide (fun w => hlo w (by omega) (by omega) (by omega) (by omega) c1)
      clear c2 c3
      have hwn := hide hwn
      have hwd := hide hwd
      obtain ⟨x, y, z⟩ := R
      go_enter Try.func30, Try.ntmps30
      go_wp2_with fail
      refine (unhide hwn _).mono ?_
      rintro e w1 ⟨rfl, rfl⟩
      go_wp2_with fail
      refine (unhide hwd _).mono ?_
      rintro e w1 ⟨rfl, rfl⟩
      go_wp2_with fail
      refine (unhide hlo _).mono ?_
      rintro e w1 ⟨rfl, b1⟩
      have t1 := (unhide t0).up b1
      have B1 := hide ((unhide b0).trans (b1.mono (unhide b0).size))
      have x0 := t1.c0
      have x1 := t1.c1
      have x2 := t1.free 0
      have x3 := t1.free 1
      have T1 := hide t1
      clear t1 b1 t0 b0
      simp only [rvE, rv]
      go_wp2
      refine ret_two (p := 4) (q := 5) (ty := 23) (by kernel_rfl) w.heap.size 23 (.int .i64 x) (.int .i64 y) (.int .i64 z) _ rfl rfl (((unhide T1).set0 _).set1 _) rfl Try.underlying23 (by kernel_rfl) ⟨rfl, below_two (unhide B1) (Nat.le_refl _) _ _⟩
    · rw [decide_eq_false c3] at hwd
      rw [if_pos (by omega)] at hA
      subst hA
      clear hlo c3 c2
      have hwn := hide hwn
      have hwd := hide hwd
      go_enter Try.func30, Try.ntmps30
      go_wp2_with fail
      refine (unhide hwn _).mono ?_
      rintro e w1 ⟨rfl, rfl⟩
      go_wp2_with fail
      refine (unhide hwd _).mono ?_
      rintro e w1 ⟨rfl, rfl⟩
      go_wp2_with fail
      go_wp2
      refine ret_two (p := 4) (q := 5) (ty := 23) (by kernel_rfl) w.heap.size 23 (.int .i64 0) (.int .i64 0) (.int .i64 1) _ rfl rfl (unhide t0) rfl Try.underlying23 (by kernel_rfl) ⟨rfl, unhide b0⟩
  · rw [decide_eq_false c2] at hwn
    rw [if_pos (by omega)] at hA
    subst hA
    clear hlo c2 hwd
    have hwn := hide hwn
    go_enter Try.func30, Try.ntmps30
    go_wp2_with fail
    refine (unhide hwn _).mono ?_
    rintro e w1 ⟨rfl, rfl⟩
    go_wp2_with fail
    go_wp2
    refine ret_two (p := 4) (q := 5) (ty := 23) (by kernel_rfl) w.heap.size 23 (.int .i64 0) (.int .i64 0) (.int .i64 1) _ rfl rfl (unhide t0) rfl Try.underlying23 (by kernel_rfl) ⟨rfl, unhide b0⟩

end Go.Proofs.Ytmaeebgphblilab
