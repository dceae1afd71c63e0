/-
  No cell of these rows narrows 'for every input' (looked for: loops, veiled, ifaces, maps, wideKeys, modest, calm, conditions, laid).
  DERIVED. THE GIVEN ROWS OF THIS SEAT. 6 by the template 'for every input the law returns true; each argument reads behind the call as it read before'; 0 by the template 'total and deterministic' (their statements: YtlkbknjcjmpbfaaTotals.lean).
  GIVEN WITH THE SEED: the statements are not yours to turn. If you find one false, say at which input.
  Laid BY PROGRAM, IN A SANDBOX (cutbox-rows.mjs): the forced cells as the released guide's own fill.sh prints them over the translation 0dbdd839d81befb1… (all of the seat's roots in one cut). By AI agents, Wed Nov 11 2026. No macro, syntax, notation, axiom, sorry.
-/
import Derived.Test.YtlkbknjcjmpbfaaChecked
import GoSem.Claim
import GoSem.ClaimJoined
import GoSem.ClaimMapViews
import Derived.JoinedTies
import Derived.KernelRfl
namespace Go.Proofs.Ytlkbknjcjmpbfaa
/- THE CELL 'sum', in the pinned program and in every row, IS THE sha256 OF THE DUMP (.gsa) THAT YtlkbknjcjmpbfaaProg.lean LOADS. Nothing in Lean hashes anything: it is a label: what it is worth is what the hold of that sum in a sandbox is worth. -/
noncomputable def Try.pinned : Pinned := { name := "ytlkbknjcjmpbfaa", sum := "0dbdd839d81befb12704ba3ce4bb5239cccbae18d515fb997203688f4c0f082e", checked := Try.checked }
namespace Rows
def none {H : Type} : Left H := { results := [], args := [] }

/-- 'mosaiclaw04.PrngBlocks': WHATEVER THE INPUT: true; the input reads as it did. -/
def prngBlocksSpec : ChangeSpec := { name := "prngBlocks", fn := fun _ => fun
  | [d1, d2, d3] => { results := [.lit (.bool true)], args := [d1, d2, d3] }
  | _ => none }
def prngBlocksRow : OpenClaim := { program := "ytlkbknjcjmpbfaa", sum := "0dbdd839d81befb12704ba3ce4bb5239cccbae18d515fb997203688f4c0f082e", func := "mosaic/mosaiclaw04.PrngBlocks", spec := "prngBlocks", unfollowed := true, recurses := true, apart := false }
def PrngBlocksSaid : Prop := prngBlocksRow.holds Try.pinned (OpenSpec.ofChange prngBlocksSpec)

/-- ITS FALSE NEIGHBOUR: 'it returns false'. Refute it at one input. -/
def prngBlocksWrong : ChangeSpec := { name := "prngBlocks", fn := fun _ => fun
  | [d1, d2, d3] => { results := [.lit (.bool false)], args := [d1, d2, d3] }
  | _ => none }
def PrngBlocksWrongFalsely : Prop := prngBlocksRow.holds Try.pinned (OpenSpec.ofChange prngBlocksWrong)

/-- 'mosaiclaw04.PrngChooses': WHATEVER THE INPUT: true; the input reads as it did. -/
def prngChoosesSpec : ChangeSpec := { name := "prngChooses", fn := fun _ => fun
  | [d1, d2] => { results := [.lit (.bool true)], args := [d1, d2] }
  | _ => none }
def prngChoosesRow : OpenClaim := { program := "ytlkbknjcjmpbfaa", sum := "0dbdd839d81befb12704ba3ce4bb5239cccbae18d515fb997203688f4c0f082e", func := "mosaic/mosaiclaw04.PrngChooses", spec := "prngChooses", unfollowed := true, recurses := true, apart := false }
def PrngChoosesSaid : Prop := prngChoosesRow.holds Try.pinned (OpenSpec.ofChange prngChoosesSpec)

/-- ITS FALSE NEIGHBOUR: 'it returns false'. Refute it at one input. -/
def prngChoosesWrong : ChangeSpec := { name := "prngChooses", fn := fun _ => fun
  | [d1, d2] => { results := [.lit (.bool false)], args := [d1, d2] }
  | _ => none }
def PrngChoosesWrongFalsely : Prop := prngChoosesRow.holds Try.pinned (OpenSpec.ofChange prngChoosesWrong)

/-- 'mosaiclaw04.PrngDraws': WHATEVER THE INPUT: true; the input reads as it did. -/
def prngDrawsSpec : ChangeSpec := { name := "prngDraws", fn := fun _ => fun
  | [d1, d2] => { results := [.lit (.bool true)], args := [d1, d2] }
  | _ => none }
def prngDrawsRow : OpenClaim := { program := "ytlkbknjcjmpbfaa", sum := "0dbdd839d81befb12704ba3ce4bb5239cccbae18d515fb997203688f4c0f082e", func := "mosaic/mosaiclaw04.PrngDraws", spec := "prngDraws", unfollowed := true, recurses := true, apart := false }
def PrngDrawsSaid : Prop := prngDrawsRow.holds Try.pinned (OpenSpec.ofChange prngDrawsSpec)

/-- ITS FALSE NEIGHBOUR: 'it returns false'. Refute it at one input. -/
def prngDrawsWrong : ChangeSpec := { name := "prngDraws", fn := fun _ => fun
  | [d1, d2] => { results := [.lit (.bool false)], args := [d1, d2] }
  | _ => none }
def PrngDrawsWrongFalsely : Prop := prngDrawsRow.holds Try.pinned (OpenSpec.ofChange prngDrawsWrong)

/-- 'mosaiclaw04.PrngBelow': WHATEVER THE INPUT: true; the input reads as it did. -/
def prngBelowSpec : ChangeSpec := { name := "prngBelow", fn := fun _ => fun
  | [d1, d2] => { results := [.lit (.bool true)], args := [d1, d2] }
  | _ => none }
def prngBelowRow : OpenClaim := { program := "ytlkbknjcjmpbfaa", sum := "0dbdd839d81befb12704ba3ce4bb5239cccbae18d515fb997203688f4c0f082e", func := "mosaic/mosaiclaw04.PrngBelow", spec := "prngBelow", unfollowed := true, recurses := true, apart := false }
def PrngBelowSaid : Prop := prngBelowRow.holds Try.pinned (OpenSpec.ofChange prngBelowSpec)

/-- ITS FALSE NEIGHBOUR: 'it returns false'. Refute it at one input. -/
def prngBelowWrong : ChangeSpec := { name := "prngBelow", fn := fun _ => fun
  | [d1, d2] => { results := [.lit (.bool false)], args := [d1, d2] }
  | _ => none }
def PrngBelowWrongFalsely : Prop := prngBelowRow.holds Try.pinned (OpenSpec.ofChange prngBelowWrong)

/-- 'mosaiclaw04.PrngPicks': WHATEVER THE INPUT: true; the input reads as it did. -/
def prngPicksSpec : ChangeSpec := { name := "prngPicks", fn := fun _ => fun
  | [d1, d2, d3] => { results := [.lit (.bool true)], args := [d1, d2, d3] }
  | _ => none }
def prngPicksRow : OpenClaim := { program := "ytlkbknjcjmpbfaa", sum := "0dbdd839d81befb12704ba3ce4bb5239cccbae18d515fb997203688f4c0f082e", func := "mosaic/mosaiclaw04.PrngPicks", spec := "prngPicks", unfollowed := true, recurses := true, apart := false }
def PrngPicksSaid : Prop := prngPicksRow.holds Try.pinned (OpenSpec.ofChange prngPicksSpec)

/-- ITS FALSE NEIGHBOUR: 'it returns false'. Refute it at one input. -/
def prngPicksWrong : ChangeSpec := { name := "prngPicks", fn := fun _ => fun
  | [d1, d2, d3] => { results := [.lit (.bool false)], args := [d1, d2, d3] }
  | _ => none }
def PrngPicksWrongFalsely : Prop := prngPicksRow.holds Try.pinned (OpenSpec.ofChange prngPicksWrong)

/-- 'mosaiclaw04.PrngNil': WHATEVER THE INPUT: true; the input reads as it did. -/
def prngNilSpec : ChangeSpec := { name := "prngNil", fn := fun _ => fun
  | [d1, d2] => { results := [.lit (.bool true)], args := [d1, d2] }
  | _ => none }
def prngNilRow : OpenClaim := { program := "ytlkbknjcjmpbfaa", sum := "0dbdd839d81befb12704ba3ce4bb5239cccbae18d515fb997203688f4c0f082e", func := "mosaic/mosaiclaw04.PrngNil", spec := "prngNil", unfollowed := true, recurses := true, apart := false }
def PrngNilSaid : Prop := prngNilRow.holds Try.pinned (OpenSpec.ofChange prngNilSpec)

/-- ITS FALSE NEIGHBOUR: 'it returns false'. Refute it at one input. -/
def prngNilWrong : ChangeSpec := { name := "prngNil", fn := fun _ => fun
  | [d1, d2] => { results := [.lit (.bool false)], args := [d1, d2] }
  | _ => none }
def PrngNilWrongFalsely : Prop := prngNilRow.holds Try.pinned (OpenSpec.ofChange prngNilWrong)

/- THE SECOND FORM. 'bulk': how many values and letters a reading holds, each counted each time it is reached (what is shared counts as often as it is met; a slice's spare places count too). A statement '..UptoSaid' is the law's where the arguments, and the package variables that the reading takes, are together of bulk at most 1048576: NARROWER than '..Said'. Prove '..Said' where nothing that the law and all that it calls make is longer than what came in: it says more and counts as full. Else prove '..UptoSaid'. A law counts once. -/
mutual
def uptoBulk {H : Type} : DataW H → Nat
  | .lit (.string bytes) => bytes.length + 1
  | .lit _ => 1
  | .nil => 1
  | .ptr d => uptoBulk d + 1
  | .slice elems spare => uptoBulkAll elems + uptoBulkAll spare + 1
  | .agg parts => uptoBulkAll parts + 1
  | .iface _ d => uptoBulk d + 1
  | .map entries => uptoBulkEntries entries + 1
  | .held _ => 1
def uptoBulkAll {H : Type} : List (DataW H) → Nat
  | [] => 0
  | d :: r => uptoBulk d + uptoBulkAll r
def uptoBulkEntries {H : Type} : List (Lit × DataW H) → Nat
  | [] => 0
  | x :: r => uptoBulkEntry x + uptoBulkEntries r
def uptoBulkEntry {H : Type} : Lit × DataW H → Nat
  | (.string bytes, d) => bytes.length + uptoBulk d + 1
  | (_, d) => uptoBulk d + 1
 end
def uptoSmall : (H : Type) → List (DataW H) → Bool := fun _ ds => decide (uptoBulkAll ds ≤ 1048576)
def OpenSpec.upto (s : _root_.Go.ChangeSpec) : _root_.Go.OpenSpec := { _root_.Go.OpenSpec.ofChange s with cond := some uptoSmall }

/-- 'mosaiclaw04.PrngBlocks', WHERE WHAT IT READS IS OF BULK AT MOST 1048576: true; the input reads as it did. -/
def prngBlocksUptoRow : OpenClaim := { program := "ytlkbknjcjmpbfaa", sum := "0dbdd839d81befb12704ba3ce4bb5239cccbae18d515fb997203688f4c0f082e", func := "mosaic/mosaiclaw04.PrngBlocks", spec := "prngBlocks", unfollowed := true, recurses := true, apart := false, narrowed := true }
def PrngBlocksUptoSaid : Prop := prngBlocksUptoRow.holds Try.pinned (OpenSpec.upto prngBlocksSpec)

/-- 'mosaiclaw04.PrngChooses', WHERE WHAT IT READS IS OF BULK AT MOST 1048576: true; the input reads as it did. -/
def prngChoosesUptoRow : OpenClaim := { program := "ytlkbknjcjmpbfaa", sum := "0dbdd839d81befb12704ba3ce4bb5239cccbae18d515fb997203688f4c0f082e", func := "mosaic/mosaiclaw04.PrngChooses", spec := "prngChooses", unfollowed := true, recurses := true, apart := false, narrowed := true }
def PrngChoosesUptoSaid : Prop := prngChoosesUptoRow.holds Try.pinned (OpenSpec.upto prngChoosesSpec)

/-- 'mosaiclaw04.PrngDraws', WHERE WHAT IT READS IS OF BULK AT MOST 1048576: true; the input reads as it did. -/
def prngDrawsUptoRow : OpenClaim := { program := "ytlkbknjcjmpbfaa", sum := "0dbdd839d81befb12704ba3ce4bb5239cccbae18d515fb997203688f4c0f082e", func := "mosaic/mosaiclaw04.PrngDraws", spec := "prngDraws", unfollowed := true, recurses := true, apart := false, narrowed := true }
def PrngDrawsUptoSaid : Prop := prngDrawsUptoRow.holds Try.pinned (OpenSpec.upto prngDrawsSpec)

/-- 'mosaiclaw04.PrngBelow', WHERE WHAT IT READS IS OF BULK AT MOST 1048576: true; the input reads as it did. -/
def prngBelowUptoRow : OpenClaim := { program := "ytlkbknjcjmpbfaa", sum := "0dbdd839d81befb12704ba3ce4bb5239cccbae18d515fb997203688f4c0f082e", func := "mosaic/mosaiclaw04.PrngBelow", spec := "prngBelow", unfollowed := true, recurses := true, apart := false, narrowed := true }
def PrngBelowUptoSaid : Prop := prngBelowUptoRow.holds Try.pinned (OpenSpec.upto prngBelowSpec)

/-- 'mosaiclaw04.PrngPicks', WHERE WHAT IT READS IS OF BULK AT MOST 1048576: true; the input reads as it did. -/
def prngPicksUptoRow : OpenClaim := { program := "ytlkbknjcjmpbfaa", sum := "0dbdd839d81befb12704ba3ce4bb5239cccbae18d515fb997203688f4c0f082e", func := "mosaic/mosaiclaw04.PrngPicks", spec := "prngPicks", unfollowed := true, recurses := true, apart := false, narrowed := true }
def PrngPicksUptoSaid : Prop := prngPicksUptoRow.holds Try.pinned (OpenSpec.upto prngPicksSpec)

/-- 'mosaiclaw04.PrngNil', WHERE WHAT IT READS IS OF BULK AT MOST 1048576: true; the input reads as it did. -/
def prngNilUptoRow : OpenClaim := { program := "ytlkbknjcjmpbfaa", sum := "0dbdd839d81befb12704ba3ce4bb5239cccbae18d515fb997203688f4c0f082e", func := "mosaic/mosaiclaw04.PrngNil", spec := "prngNil", unfollowed := true, recurses := true, apart := false, narrowed := true }
def PrngNilUptoSaid : Prop := prngNilUptoRow.holds Try.pinned (OpenSpec.upto prngNilSpec)

end Rows
end Go.Proofs.Ytlkbknjcjmpbfaa
