
/- The document's Top and Root. -/
import Derived.Test.YtiaohpkcncbdnabMkR
namespace Go.Proofs.Ytiaohpkcncbdnab
open Go.RowKit
set_option linter.unusedVariables false

theorem Txts.drop {w : World} {g o : Nat} {T : List By} (h : Txts w (some ⟨g, o, none⟩) T) (k : Nat) : Txts w (some ⟨g, o + k, none⟩) (T.drop k) := fun i hi => by
  have hi' : k + i < T.length := by rw [List.length_drop] at hi; omega
  obtain ⟨g', o', h1, h2⟩ := h (k + i) hi'
  simp only [Option.some.injEq, Addr.mk.injEq] at h1
  obtain ⟨rfl, rfl, _⟩ := h1
  exact ⟨g, o + k, rfl, by rw [Nat.add_assoc, h2, List.getElem_drop]⟩

end Go.Proofs.Ytiaohpkcncbdnab
