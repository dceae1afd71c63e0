/- The library's table out of what the rows lay. -/
import Derived.Test.YtpcndjnhpjhjkaaDoorGaK
import Derived.Lib.LaidTab
namespace Go.Proofs.YtpcndjnhpjhjkaaDoor
open Go.RowKit
set_option linter.unusedVariables false

def tabZ : List Int := tab64.map fun (x : Nat) => (x : Int)
theorem tz_of {W : World} (h : Lib.TabIs Tryd.prog W "math/bits.deBruijn64tab" .u8 tabZ) : Tz W := by
  unfold Lib.TabIs World.var? at h
  rw [show Tryd.prog.globalNamed "math/bits.deBruijn64tab" = some 0 by kernel_rfl] at h
  simp only [Option.bind_some] at h
  cases hb : W.heap[(0 : Nat)]? with
  | none => simp [hb] at h
  | some o =>
    cases o with
    | cells c t fr =>
      simp only [hb, Option.some.injEq] at h
      intro j hj
      rw [cell_of_row W 0 j c t fr hb, h]
      have hl : tab64.length = 64 := rfl
      simp [tabZ, List.getD, show j < tab64.length by omega]
    | _ => simp [hb] at h
theorem tz_laid {W : World} {r : List (String × DataW Unit)} (hL : laidMet Tryd.prog (("math/bits.deBruijn64tab", Lib.tabData .u8 tabZ) :: r) W) : Tz W :=
  tz_of (Lib.tabIs_of_head (g := 0) (t := 99) (e := 5) (n := 64) (by kernel_rfl) (by kernel_rfl) (by kernel_rfl) (by kernel_rfl) (by kernel_rfl) (by kernel_rfl) hL)
end Go.Proofs.YtpcndjnhpjhjkaaDoor
