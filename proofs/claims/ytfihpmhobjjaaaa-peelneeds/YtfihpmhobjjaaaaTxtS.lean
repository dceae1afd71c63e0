
/- Rows of texts of a call's own. -/
import Derived.Test.YtfihpmhobjjaaaaTxt
namespace Go.Proofs.Ytfihpmhobjjaaaa
open Go.RowKit
set_option linter.unusedVariables false

theorem Try.infoS : (Try.prog.info? 9).map (fun i => (i.zero, i.size, i.bytes)) = some (some (.string ⟨#[]⟩), 1, 16) := by kernel_rfl
/-- texts of the call's own -/
def OwnS (w : World) (base : Nat) (v : Value) (T : List By) : Prop := w.ownsRow base 9 1 v T.length (sc T)
theorem OwnS.txts {w : World} {base : Nat} {v : Value} {T : List By} (h : OwnS w base v T) : ∃ a0 c, v = .slice a0 T.length c ∧ Txts w a0 T ∧ T.length ≤ c ∧ c ≤ maxLen := by
  rcases (show World.ownsRow _ _ _ _ _ _ _ from h).2 with ⟨rfl, h0⟩ | ⟨g, cap, cur, rfl, _, hg, hnc, hcm, hcs, htake⟩
  · exact ⟨none, 0, by rw [h0], fun i hi => absurd hi (by omega), by omega, by unfold maxLen; omega⟩
  · refine ⟨some ⟨g, 0, none⟩, cap, rfl, fun i hi => ⟨g, 0, rfl, ?_⟩, hnc, hcm⟩
    rw [Nat.zero_add]
    exact (World.ownsRow.cellAt (h : World.ownsRow _ _ _ _ _ _ _) i (by omega)).trans (sc_get T i hi)
theorem OwnS.more {w' : World} {base : Nat} {v' : Value} {T : List By} {t : By} (h : w'.ownsRow base 9 1 v' (T.length + 1) (sc T ++ [.string (bs t)])) : OwnS w' base v' (T ++ [t]) := by
  show World.ownsRow _ _ _ _ _ _ _
  rw [sc_append, List.length_append]
  exact h
theorem OwnS.mono {w : World} {base base' : Nat} {v : Value} {T : List By} (h : OwnS w base v T) (hb : base' ≤ base) : OwnS w base' v T := own_mono h hb

end Go.Proofs.Ytfihpmhobjjaaaa
