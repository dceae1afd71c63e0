/- The law OuterEach, of any plan. -/
import Derived.Test.YtdhicfmphjplpaaOeL
import Derived.Test.YtdhicfmphjplpaaOpenPl
namespace Go.Proofs.Ytdhicfmphjplpaa
open Go.RowKit
set_option linter.unusedVariables false

theorem outerEach_any (sd n a q : Int) (w : World) (w0 : (Lit.int .i64 sd).wf = true) (w1 : (Lit.int .i64 n).wf = true) (w2 : (Lit.int .i64 a).wf = true) (w3 : (Lit.int .i64 q).wf = true) :
    Calls Try.prog 3 #[plV sd n a q] w fun e w' => e = .returned (.bool true) ∧ Below w.heap.size w w' := by
  cases hP : plOk sd n a q with
  | false => exact outerEach_no sd n a q hP w
  | true =>
    obtain ⟨sd', n', a', q', rfl, rfl, rfl, rfl, k1, ⟨k2, k3⟩, ⟨k4, k5⟩, k6, k7⟩ := plOk_facts hP
    exact outerEach_yes sd' n' a' q' k1 k2 k3 k4 k5 k6 k7 w
end Go.Proofs.Ytdhicfmphjplpaa
