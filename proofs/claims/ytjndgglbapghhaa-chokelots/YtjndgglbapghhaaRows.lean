/-
  No cell of these rows narrows 'for every input' (looked for: loops, veiled, ifaces, maps, wideKeys, modest, calm, conditions, laid).
  DERIVED. THE GIVEN ROWS OF THIS SEAT. 4 by the template 'for every input the law returns true; each argument reads behind the call as it read before'; 0 by the template 'total and deterministic' (their statements: YtjndgglbapghhaaTotals.lean).
  GIVEN WITH THE SEED: the statements are not yours to turn. If you find one false, say at which input.
  Laid BY PROGRAM, IN A SANDBOX (cutbox-rows.mjs): the forced cells as the released guide's own fill.sh prints them over the translation 07d19588d7cfe31b… (all of the seat's roots in one cut). By AI agents, Wed Nov 11 2026. No macro, syntax, notation, axiom, sorry.
-/
import Derived.Test.YtjndgglbapghhaaChecked
import GoSem.Claim
import GoSem.ClaimJoined
import GoSem.ClaimMapViews
import Derived.JoinedTies
import Derived.KernelRfl
namespace Go.Proofs.Ytjndgglbapghhaa
/- THE CELL 'sum', in the pinned program and in every row, IS THE sha256 OF THE DUMP (.gsa) THAT YtjndgglbapghhaaProg.lean LOADS. Nothing in Lean hashes anything: it is a label: what it is worth is what the hold of that sum in a sandbox is worth. -/
noncomputable def Try.pinned : Pinned := { name := "ytjndgglbapghhaa", sum := "07d19588d7cfe31b1fd1ffc58ba30ad757edb1107a3516c9aaa4be2774927f52", checked := Try.checked }
namespace Rows
def none {H : Type} : Left H := { results := [], args := [] }

/-- 'mosaiclaw19.ChokeChooses': WHATEVER THE INPUT: true; the input reads as it did. -/
def chokeChoosesSpec : ChangeSpec := { name := "chokeChooses", fn := fun _ => fun
  | [d1, d2] => { results := [.lit (.bool true)], args := [d1, d2] }
  | _ => none }
def chokeChoosesRow : OpenClaim := { program := "ytjndgglbapghhaa", sum := "07d19588d7cfe31b1fd1ffc58ba30ad757edb1107a3516c9aaa4be2774927f52", func := "mosaic/mosaiclaw19.ChokeChooses", spec := "chokeChooses", unfollowed := true, recurses := true, apart := false }
def ChokeChoosesSaid : Prop := chokeChoosesRow.holds Try.pinned (OpenSpec.ofChange chokeChoosesSpec)

/-- ITS FALSE NEIGHBOUR: 'it returns false'. Refute it at one input. -/
def chokeChoosesWrong : ChangeSpec := { name := "chokeChooses", fn := fun _ => fun
  | [d1, d2] => { results := [.lit (.bool false)], args := [d1, d2] }
  | _ => none }
def ChokeChoosesWrongFalsely : Prop := chokeChoosesRow.holds Try.pinned (OpenSpec.ofChange chokeChoosesWrong)

/-- 'mosaiclaw19.ChokeTurns': WHATEVER THE INPUT: true; the input reads as it did. -/
def chokeTurnsSpec : ChangeSpec := { name := "chokeTurns", fn := fun _ => fun
  | [d1, d2] => { results := [.lit (.bool true)], args := [d1, d2] }
  | _ => none }
def chokeTurnsRow : OpenClaim := { program := "ytjndgglbapghhaa", sum := "07d19588d7cfe31b1fd1ffc58ba30ad757edb1107a3516c9aaa4be2774927f52", func := "mosaic/mosaiclaw19.ChokeTurns", spec := "chokeTurns", unfollowed := true, recurses := true, apart := false }
def ChokeTurnsSaid : Prop := chokeTurnsRow.holds Try.pinned (OpenSpec.ofChange chokeTurnsSpec)

/-- ITS FALSE NEIGHBOUR: 'it returns false'. Refute it at one input. -/
def chokeTurnsWrong : ChangeSpec := { name := "chokeTurns", fn := fun _ => fun
  | [d1, d2] => { results := [.lit (.bool false)], args := [d1, d2] }
  | _ => none }
def ChokeTurnsWrongFalsely : Prop := chokeTurnsRow.holds Try.pinned (OpenSpec.ofChange chokeTurnsWrong)

/-- 'mosaiclaw19.ChokeSlots': WHATEVER THE INPUT: true; the input reads as it did. -/
def chokeSlotsSpec : ChangeSpec := { name := "chokeSlots", fn := fun _ => fun
  | [d1, d2] => { results := [.lit (.bool true)], args := [d1, d2] }
  | _ => none }
def chokeSlotsRow : OpenClaim := { program := "ytjndgglbapghhaa", sum := "07d19588d7cfe31b1fd1ffc58ba30ad757edb1107a3516c9aaa4be2774927f52", func := "mosaic/mosaiclaw19.ChokeSlots", spec := "chokeSlots", unfollowed := true, recurses := true, apart := false }
def ChokeSlotsSaid : Prop := chokeSlotsRow.holds Try.pinned (OpenSpec.ofChange chokeSlotsSpec)

/-- ITS FALSE NEIGHBOUR: 'it returns false'. Refute it at one input. -/
def chokeSlotsWrong : ChangeSpec := { name := "chokeSlots", fn := fun _ => fun
  | [d1, d2] => { results := [.lit (.bool false)], args := [d1, d2] }
  | _ => none }
def ChokeSlotsWrongFalsely : Prop := chokeSlotsRow.holds Try.pinned (OpenSpec.ofChange chokeSlotsWrong)

/-- 'mosaiclaw19.ChokeLots': WHATEVER THE INPUT: true; the input reads as it did. -/
def chokeLotsSpec : ChangeSpec := { name := "chokeLots", fn := fun _ => fun
  | [d1, d2] => { results := [.lit (.bool true)], args := [d1, d2] }
  | _ => none }
def chokeLotsRow : OpenClaim := { program := "ytjndgglbapghhaa", sum := "07d19588d7cfe31b1fd1ffc58ba30ad757edb1107a3516c9aaa4be2774927f52", func := "mosaic/mosaiclaw19.ChokeLots", spec := "chokeLots", unfollowed := true, recurses := true, apart := false }
def ChokeLotsSaid : Prop := chokeLotsRow.holds Try.pinned (OpenSpec.ofChange chokeLotsSpec)

/-- ITS FALSE NEIGHBOUR: 'it returns false'. Refute it at one input. -/
def chokeLotsWrong : ChangeSpec := { name := "chokeLots", fn := fun _ => fun
  | [d1, d2] => { results := [.lit (.bool false)], args := [d1, d2] }
  | _ => none }
def ChokeLotsWrongFalsely : Prop := chokeLotsRow.holds Try.pinned (OpenSpec.ofChange chokeLotsWrong)

/- THE SECOND FORM. 'bulk': how many values and letters a reading holds, each counted each time it is reached (what is shared counts as often as it is met; a slice's spare places count too). A statement '..UptoSaid' is the law's where the arguments, and the package variables that the reading takes, are together of bulk at most 1048576: NARROWER than '..Said'. Prove '..Said' where nothing that the law and all that it calls make is longer than what came in: it says more and counts as full. Else prove '..UptoSaid'. A law counts once. -/
mutual
def uptoBulk {H : Type} : DataW H → Nat
  | .lit (.string bytes) => bytes.length + 1
  | .lit _ => 1
  | .nil => 1
  | .ptr d => uptoBulk d + 1
  | .slice elems spare => uptoBulkAll elems + uptoBulkAll spare + 1
  | .agg parts => uptoBulkAll parts + 1
  | .iface _ d => uptoBulk d + 1
  | .map entries => uptoBulkEntries entries + 1
  | .held _ => 1
def uptoBulkAll {H : Type} : List (DataW H) → Nat
  | [] => 0
  | d :: r => uptoBulk d + uptoBulkAll r
def uptoBulkEntries {H : Type} : List (Lit × DataW H) → Nat
  | [] => 0
  | x :: r => uptoBulkEntry x + uptoBulkEntries r
def uptoBulkEntry {H : Type} : Lit × DataW H → Nat
  | (.string bytes, d) => bytes.length + uptoBulk d + 1
  | (_, d) => uptoBulk d + 1
 end
def uptoSmall : (H : Type) → List (DataW H) → Bool := fun _ ds => decide (uptoBulkAll ds ≤ 1048576)
def OpenSpec.upto (s : _root_.Go.ChangeSpec) : _root_.Go.OpenSpec := { _root_.Go.OpenSpec.ofChange s with cond := some uptoSmall }

/-- 'mosaiclaw19.ChokeChooses', WHERE WHAT IT READS IS OF BULK AT MOST 1048576: true; the input reads as it did. -/
def chokeChoosesUptoRow : OpenClaim := { program := "ytjndgglbapghhaa", sum := "07d19588d7cfe31b1fd1ffc58ba30ad757edb1107a3516c9aaa4be2774927f52", func := "mosaic/mosaiclaw19.ChokeChooses", spec := "chokeChooses", unfollowed := true, recurses := true, apart := false, narrowed := true }
def ChokeChoosesUptoSaid : Prop := chokeChoosesUptoRow.holds Try.pinned (OpenSpec.upto chokeChoosesSpec)

/-- 'mosaiclaw19.ChokeTurns', WHERE WHAT IT READS IS OF BULK AT MOST 1048576: true; the input reads as it did. -/
def chokeTurnsUptoRow : OpenClaim := { program := "ytjndgglbapghhaa", sum := "07d19588d7cfe31b1fd1ffc58ba30ad757edb1107a3516c9aaa4be2774927f52", func := "mosaic/mosaiclaw19.ChokeTurns", spec := "chokeTurns", unfollowed := true, recurses := true, apart := false, narrowed := true }
def ChokeTurnsUptoSaid : Prop := chokeTurnsUptoRow.holds Try.pinned (OpenSpec.upto chokeTurnsSpec)

/-- 'mosaiclaw19.ChokeSlots', WHERE WHAT IT READS IS OF BULK AT MOST 1048576: true; the input reads as it did. -/
def chokeSlotsUptoRow : OpenClaim := { program := "ytjndgglbapghhaa", sum := "07d19588d7cfe31b1fd1ffc58ba30ad757edb1107a3516c9aaa4be2774927f52", func := "mosaic/mosaiclaw19.ChokeSlots", spec := "chokeSlots", unfollowed := true, recurses := true, apart := false, narrowed := true }
def ChokeSlotsUptoSaid : Prop := chokeSlotsUptoRow.holds Try.pinned (OpenSpec.upto chokeSlotsSpec)

/-- 'mosaiclaw19.ChokeLots', WHERE WHAT IT READS IS OF BULK AT MOST 1048576: true; the input reads as it did. -/
def chokeLotsUptoRow : OpenClaim := { program := "ytjndgglbapghhaa", sum := "07d19588d7cfe31b1fd1ffc58ba30ad757edb1107a3516c9aaa4be2774927f52", func := "mosaic/mosaiclaw19.ChokeLots", spec := "chokeLots", unfollowed := true, recurses := true, apart := false, narrowed := true }
def ChokeLotsUptoSaid : Prop := chokeLotsUptoRow.holds Try.pinned (OpenSpec.upto chokeLotsSpec)

end Rows
end Go.Proofs.Ytjndgglbapghhaa
