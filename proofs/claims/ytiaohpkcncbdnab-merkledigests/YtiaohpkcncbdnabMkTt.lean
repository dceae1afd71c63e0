
/- Contracts of the document's texts and Texts. -/
import Derived.Test.YtiaohpkcncbdnabMkT
import Derived.Test.YtiaohpkcncbdnabBxZ
import Derived.Deep.AppendLies
namespace Go.Proofs.Ytiaohpkcncbdnab
open Go.RowKit
set_option linter.unusedVariables false

theorem OwnS.form {w : World} {base : Nat} {v : Value} {T : List By} (h : OwnS w base v T) (hT : 1 ≤ T.length) : ∃ g c, v = .slice (some ⟨g, 0, none⟩) T.length c ∧ base ≤ g ∧ g < w.heap.size := World.ownsRow.form (h : World.ownsRow _ _ _ _ _ _ _) hT
theorem OwnS.at0 {w : World} {base g c : Nat} {T : List By} (h : OwnS w base (.slice (some ⟨g, 0, none⟩) T.length c) T) (i : Nat) (hi : i < T.length) : w.cell? ⟨g, i, none⟩ = some (.string (bs T[i])) := by
  have := World.ownsRow.cells (h : World.ownsRow _ _ _ _ _ _ _) rfl i _ (sc_get T i hi)
  rwa [Addr.add_mid, Nat.zero_add] at this
theorem tree_texts_len (ss : List By) (h : 1 ≤ ss.length) : (treeP shaSum (ss.map (leafP shaSum))).2.length = 2 * ss.length - 1 := by
  rw [tree_texts shaSum _ (by rw [List.length_map]; exact h) (fun p hp => by obtain ⟨s, _, rfl⟩ := List.mem_map.1 hp; rfl), List.length_map]

end Go.Proofs.Ytiaohpkcncbdnab
