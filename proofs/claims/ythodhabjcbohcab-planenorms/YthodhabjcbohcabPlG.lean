
/- Contracts of the law's awake and Ref, and of the document's Check, over, Norm, Dist, Turn. -/
import Derived.Test.YthodhabjcbohcabPlF
namespace Go.Proofs.Ythodhabjcbohcab
open Go.RowKit
set_option linter.unusedVariables false

theorem aw1 : mulA 1 2 3 (-1) = (5, 5, 0) := by decide +kernel
theorem aw2 : turnA 1 2 1 = (-2, 1, 0) := by decide +kernel
theorem aw3 : spA 4 = (-1, 1, 0) := by decide +kernel

set_option maxRecDepth 100000 in
theorem awake_any (w : World) : Calls Try.prog 7 #[] w fun e w' => e = .returned (.bool true) ∧ Below w.heap.size w w' := by
  have h1 := hide (fun w => mul_any 1 2 3 (-1) w)
  have h2 := hide (fun w => turn_any 1 2 1 w)
  have h3 := hide (fun w => spiral_any 4 w)
  rw [aw1] at h1
  rw [aw2] at h2
  rw [aw3] at h3
  unfold rvE rv at *
  go_enter Try.func7, Try.ntmps7
  go_wp2_with fail
  refine (unhide h1 _).mono ?_
  rintro e w1 ⟨rfl, b1⟩
  have T1 := hide (two_alloc w1 (.int .i64 5) (.int .i64 5) 23)
  have B1 : Hid (Below w.heap.size w (w1.alloc (.cells #[.int .i64 5, .int .i64 5] 23))) := b1.alloc b1.size _
  clear b1 h1
  go_wp2_with fail
  refine (unhide h2 _).mono ?_
  rintro e w2 ⟨rfl, b2⟩
  have T1n := hide (((unhide T1).up b2).alloc (.cells #[.int .i64 (-2), .int .i64 1] 23))
  have T2 := hide (two_alloc w2 (.int .i64 (-2)) (.int .i64 1) 23)
  have B2 : Hid (Below w.heap.size w (w2.alloc (.cells #[.int .i64 (-2), .int .i64 1] 23))) := by
    have := (unhide B1).trans (b2.mono (unhide B1).size)
    exact this.alloc this.size _
  clear b2 h2 T1 B1
  go_wp2_with fail
  refine (unhide h3 _).mono ?_
  rintro e w3 ⟨rfl, b3⟩
  have T1 := hide (((unhide T1n).up b3).alloc (.cells #[.int .i64 (-1), .int .i64 1] 23))
  have T2n := hide (((unhide T2).up b3).alloc (.cells #[.int .i64 (-1), .int .i64 1] 23))
  have T3 := hide (two_alloc w3 (.int .i64 (-1)) (.int .i64 1) 23)
  have B3 : Hid (Below w.heap.size w (w3.alloc (.cells #[.int .i64 (-1), .int .i64 1] 23))) := by
    have := (unhide B2).trans (b3.mono (unhide B2).size)
    exact this.alloc this.size _
  clear b3 h3 T1n B2 T2
  have f0 := (unhide T1).c0
  have f1 := (unhide T1).c1
  have g0 := (unhide T2n).c0
  have g1 := (unhide T2n).c1
  have k0 := (unhide T3).c0
  have k1 := (unhide T3).c1
  go_wp2
  go_ret
  exact ⟨rfl, unhide B3⟩

end Go.Proofs.Ythodhabjcbohcab
