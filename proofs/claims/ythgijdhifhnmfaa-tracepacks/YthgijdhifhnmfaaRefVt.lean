
/- Contract of the document's own writer's Text. -/
import Derived.Test.YthgijdhifhnmfaaRefV
import Derived.Test.YthgijdhifhnmfaaRegB
import Derived.Deep.DrawnRows
namespace Go.Proofs.Ythgijdhifhnmfaa
open Go.RowKit
set_option linter.unusedVariables false

theorem there_row {w : World} {g : Nat} {Z : Array Value} {t : TypeId} (h : w.heap[g]? = some (.cells Z t (0, 0))) : w.there g 0 Z.size := fun j hj => by
  rw [Nat.zero_add, cell_of_row w g j Z t (0, 0) h, Array.getElem?_eq_getElem hj]
  exact ⟨rfl, frozen_of_row w g j Z t h⟩

end Go.Proofs.Ythgijdhifhnmfaa
