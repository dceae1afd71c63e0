
/- The document's way, Path, Same. -/
import Derived.Test.YtiaohpkcncbdnabOpenT
namespace Go.Proofs.Ytiaohpkcncbdnab
open Go.RowKit
set_option linter.unusedVariables false

theorem OwnS.more {w' : World} {base : Nat} {v' : Value} {T : List By} {t : By} (h : w'.ownsRow base 9 1 v' (T.length + 1) (sc T ++ [.string (bs t)])) : OwnS w' base v' (T ++ [t]) := by
  show World.ownsRow _ _ _ _ _ _ _
  rw [sc_append, List.length_append]
  exact h
theorem wayLen (l : List By) (i : Nat) (hi : i < l.length) (h : l.length ≤ 256) : (way shaSum (l.map (leafP shaSum)) i).length ≤ 8 := by
  rw [way_length shaSum _ _ (by rw [List.length_map]; exact hi), List.length_map]
  exact plan_length _ _ 8 hi h

end Go.Proofs.Ytiaohpkcncbdnab
