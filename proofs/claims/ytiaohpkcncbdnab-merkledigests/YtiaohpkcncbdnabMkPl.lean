
/- The document's Path and Same; the law MerklePaths, walked. -/
import Derived.Test.YtiaohpkcncbdnabMkW
namespace Go.Proofs.Ytiaohpkcncbdnab
open Go.RowKit
set_option linter.unusedVariables false

theorem below_drawn {B : Nat} {a w : World} (h : Below B a w) (n : Nat) : Below B a (w.drewN n) := h.trans ⟨rfl, rfl, rfl, Nat.le_refl _, fun _ _ => rfl⟩
theorem OwnS.txts {w : World} {base : Nat} {v : Value} {T : List By} (h : OwnS w base v T) : ∃ a0 c, v = .slice a0 T.length c ∧ Txts w a0 T := by
  obtain ⟨a0, c, h1, h2, _⟩ := own_strs h
  exact ⟨a0, c, h1, h2.txts⟩

end Go.Proofs.Ytiaohpkcncbdnab
