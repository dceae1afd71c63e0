/- Contracts of the law's awake and Ref, and of the document's Check, over, Norm, Dist, Turn. -/
import Derived.Test.YthodhabjcbohcaaPlF
namespace Go.Proofs.Ythodhabjcbohcaa
open Go.RowKit
set_option linter.unusedVariables false

theorem aw1 : mulA 1 2 3 (-1) = (5, 5, 0) := by decide +kernel
theorem aw2 : turnA 1 2 1 = (-2, 1, 0) := by decide +kernel
theorem aw3 : spA 4 = (-1, 1, 0) := by decide +kernel

set_option maxRecDepth 100000 in
theorem awake_any (w : World) : Calls Try.prog 16 #[] w fun e w' => e = .returned (.bool true) ∧ Below w.heap.size w w' := by
  have h1 := hide (fun w => mul_any 1 2 3 (-1) w)
  have h2 := hide (fun w => turn_any 1 2 1 w)
  have h3 := hide (fun w => spiral_any 4 w)
  rw [aw1] at h1
  rw [aw2] at h2
  rw [aw3] at h3
  unfold rvE rv at *
  go_enter Try.func16, Try.ntmps16
  go_wp2_with fail
  refine (unhide h1 _).mono ?_
  rintro e w1 ⟨rfl, b1⟩
  have T1 := hide (two_alloc w1 (.int .i64 5) (.int .i64 5) 23)
  have B1 : Hid (Below w.heap.size w (w1.alloc (.cells #[.int .i64 5, .int .i64 5] 23))) := b1.alloc b1.size _
  clear b1 h1
  go_wp2_with fail
  refine (unhide h2 _).mono ?_
  rintro e w2 ⟨rfl, b2⟩
  have T1n := hide (((unhide T1).up b2).alloc (.cells #[.int .i64 (-2), .int .i64 1] 23))
  have T2 := hide (two_alloc w2 (.int .i64 (-2)) (.int .i64 1) 23)
  have B2 : Hid (Below w.heap.size w (w2.alloc (.cells #[.int .i64 (-2), .int .i64 1] 23))) := by
    have := (unhide B1).trans (b2.mono (unhide B1).size)
    exact this.alloc this.size _
  clear b2 h2 T1 B1
  go_wp2_with fail
  refine (unhide h3 _).mono ?_
  rintro e w3 ⟨rfl, b3⟩
  have T1 := hide (((unhide T1n).up b3).alloc (.cells #[.int .i64 (-1), .int .i64 1] 23))
  have T2n := hide (((unhide T2).up b3).alloc (.cells #[.int .i64 (-1), .int .i64 1] 23))
  have T3 := hide (two_alloc w3 (.int .i64 (-1)) (.int .i64 1) 23)
  have B3 : Hid (Below w.heap.size w (w3.alloc (.cells #[.int .i64 (-1), .int .i64 1] 23))) := by
    have := (unhide B2).trans (b3.mono (unhide B2).size)
    exact this.alloc this.size _
  clear b3 h3 T1n B2 T2
  have f0 := (unhide T1).c0
  have f1 := (unhide T1).c1
  have g0 := (unhide T2n).c0
  have g1 := (unhide T2n).c1
  have k0 := (unhide T3).c0
  have k1 := (unhide T3).c1
  go_wp2
  go_ret
  exact ⟨rfl, unhide B3⟩

set_option maxRecDepth 100000 in
theorem ref_any (x y : Int) (w : World) : Calls Try.prog 13 #[rv x y] w fun e w' => e = .returned (rv x y) ∧ Below w.heap.size w w' := by
  have T0 := hide ((two_alloc w (.int .i64 x) (.int .i64 y) 23).alloc (.cells #[.int .i64 0, .int .i64 0] 27))
  have e1 : (w.alloc (.cells #[.int .i64 x, .int .i64 y] 23)).heap.size = w.heap.size + 1 := by simp
  have t1 := two_alloc (w.alloc (.cells #[.int .i64 x, .int .i64 y] 23)) (.int .i64 0) (.int .i64 0) 27
  have t2 := two_alloc (w.alloc (.cells #[.int .i64 x, .int .i64 y] 23)) (.int .i64 x) (.int .i64 y) 27
  rw [e1] at t1 t2
  have T1 := hide t1
  have T2 := hide t2
  clear e1 t1 t2
  have BB : Hid (Below w.heap.size w ((w.alloc (.cells #[.int .i64 x, .int .i64 y] 23)).alloc (.cells #[.int .i64 x, .int .i64 y] 27))) := ((Below.refl _ _).alloc (Nat.le_refl _) _).alloc (by simp) _
  have f0 := (unhide T0).c0
  have f1 := (unhide T0).c1
  have x0 := (unhide T1).c0
  have x1 := (unhide T1).c1
  have x2 := (unhide T1).free 0
  have x3 := (unhide T1).free 1
  unfold rv
  go_enter Try.func13, Try.ntmps13
  go_wp2
  exact ret_one (p := 2) (ty := 27) (by kernel_rfl) (w.heap.size + 1) 27 (.int .i64 x) (.int .i64 y) _ rfl (unhide T2) rfl Try.underlying27 (by kernel_rfl) ⟨rfl, unhide BB⟩

set_option maxRecDepth 100000 in
theorem dcheck_any (x y : Int) (w : World) : Calls Try.prog 18 #[rv x y] w fun e w' => e = .returned (.bool (okP x y)) ∧ Below w.heap.size w w' := by
  have BB : Hid (Below w.heap.size w (w.alloc (.cells #[.int .i64 x, .int .i64 y] 27))) := (Below.refl _ _).alloc (Nat.le_refl _) _
  obtain ⟨c0, c1⟩ := two_new w (.int .i64 x) (.int .i64 y) 27
  have HA : Hid (okP x y = (decide (-1048576 ≤ x ∧ x ≤ 1048576) && decide (-1048576 ≤ y ∧ y ≤ 1048576))) := rfl
  unfold rv
  generalize okP x y = E at *
  by_cases h1 : -1048576 ≤ x
  · by_cases h2 : x ≤ 1048576
    · by_cases h3 : -1048576 ≤ y
      · by_cases h4 : y ≤ 1048576
        · go_enter Try.func18, Try.ntmps18
          go_wp2
          go_ret
          exact ⟨by rw [unhide HA]; simp [h1, h2, h3, h4], unhide BB⟩
        · have g4 : decide (y ≤ 1048576) = false := decide_eq_false h4
          go_enter Try.func18, Try.ntmps18
          go_wp2
          go_ret
          exact ⟨by rw [unhide HA]; simp; omega, unhide BB⟩
      · have g3 : decide (-1048576 ≤ y) = false := decide_eq_false h3
        go_enter Try.func18, Try.ntmps18
        go_wp2
        go_ret
        exact ⟨by rw [unhide HA]; simp; omega, unhide BB⟩
    · have g2 : decide (x ≤ 1048576) = false := decide_eq_false h2
      go_enter Try.func18, Try.ntmps18
      go_wp2
      go_ret
      exact ⟨by rw [unhide HA]; simp; omega, unhide BB⟩
  · have g1 : decide (-1048576 ≤ x) = false := decide_eq_false h1
    go_enter Try.func18, Try.ntmps18
    go_wp2
    go_ret
    exact ⟨by rw [unhide HA]; simp; omega, unhide BB⟩

end Go.Proofs.Ythodhabjcbohcaa
