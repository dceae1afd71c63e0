/- What the law ShaNil does, whatever the world: it answers true and changes nothing that was there. -/
import Derived.Test.YtahejlimdgniiabShaAwake
namespace Go.Proofs.Ytahejlimdgniiab
open Go.RowKit
set_option linter.unusedVariables false

theorem shaNil_any (s : ByteArray) (w : World) (hs : s.size ≤ maxLen) :
    Calls Try.prog 4 #[.string s] w fun e w' => e = .returned (.bool true) ∧ Below w.heap.size w w' := by
  clear hs
  go_enter Try.func4, Try.ntmps4
  go_wp2_with fail
  refine (awake_any w).mono ?_
  rintro e w1 ⟨rfl, b1⟩
  go_wp2_with (first | (go_at_call 11; refine (write_nil _ _).mono ?_; rintro e w' ⟨rfl, rfl⟩) | (go_at_call 14; refine (sumM_nil _).mono ?_; rintro e w' ⟨rfl, rfl⟩) | (go_at_call 12; refine (len_nil _).mono ?_; rintro e w' ⟨rfl, rfl⟩))
  go_ret
  exact ⟨rfl, b1⟩

end Go.Proofs.Ytahejlimdgniiab
