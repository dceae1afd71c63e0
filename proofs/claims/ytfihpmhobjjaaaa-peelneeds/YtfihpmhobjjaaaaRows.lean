/-
  No cell of these rows narrows 'for every input' (looked for: loops, veiled, ifaces, maps, wideKeys, modest, calm, conditions, laid).
  DERIVED. THE GIVEN ROWS OF THIS SEAT. 5 by the template 'for every input the law returns true; each argument reads behind the call as it read before'; 0 by the template 'total and deterministic' (their statements: YtfihpmhobjjaaaaTotals.lean).
  GIVEN WITH THE SEED: the statements are not yours to turn. If you find one false, say at which input.
  Laid BY PROGRAM, IN A SANDBOX (cutbox-rows.mjs): the forced cells as the released guide's own fill.sh prints them over the translation 3d1a1c25f66436b8… (all of the seat's roots in one cut). By AI agents, Wed Nov 11 2026. No macro, syntax, notation, axiom, sorry.
-/
import Derived.Test.YtfihpmhobjjaaaaChecked
import GoSem.Claim
import GoSem.ClaimJoined
import GoSem.ClaimMapViews
import Derived.JoinedTies
import Derived.KernelRfl
namespace Go.Proofs.Ytfihpmhobjjaaaa
/- THE CELL 'sum', in the pinned program and in every row, IS THE sha256 OF THE DUMP (.gsa) THAT YtfihpmhobjjaaaaProg.lean LOADS. Nothing in Lean hashes anything: it is a label: what it is worth is what the hold of that sum in a sandbox is worth. -/
noncomputable def Try.pinned : Pinned := { name := "ytfihpmhobjjaaaa", sum := "3d1a1c25f66436b8ed81133be3f4c8be770720b7e3e19b220c76f2be9771f782", checked := Try.checked }
namespace Rows
def none {H : Type} : Left H := { results := [], args := [] }

/-- 'mosaiclaw13.PeelSteps': WHATEVER THE INPUT: true; the input reads as it did. -/
def peelStepsSpec : ChangeSpec := { name := "peelSteps", fn := fun _ => fun
  | [d1, d2, d3] => { results := [.lit (.bool true)], args := [d1, d2, d3] }
  | _ => none }
def peelStepsRow : OpenClaim := { program := "ytfihpmhobjjaaaa", sum := "3d1a1c25f66436b8ed81133be3f4c8be770720b7e3e19b220c76f2be9771f782", func := "mosaic/mosaiclaw13.PeelSteps", spec := "peelSteps", unfollowed := true, recurses := true, apart := false }
def PeelStepsSaid : Prop := peelStepsRow.holds Try.pinned (OpenSpec.ofChange peelStepsSpec)

/-- ITS FALSE NEIGHBOUR: 'it returns false'. Refute it at one input. -/
def peelStepsWrong : ChangeSpec := { name := "peelSteps", fn := fun _ => fun
  | [d1, d2, d3] => { results := [.lit (.bool false)], args := [d1, d2, d3] }
  | _ => none }
def PeelStepsWrongFalsely : Prop := peelStepsRow.holds Try.pinned (OpenSpec.ofChange peelStepsWrong)

/-- 'mosaiclaw13.PeelNeeds': WHATEVER THE INPUT: true; the input reads as it did. -/
def peelNeedsSpec : ChangeSpec := { name := "peelNeeds", fn := fun _ => fun
  | [d1, d2, d3] => { results := [.lit (.bool true)], args := [d1, d2, d3] }
  | _ => none }
def peelNeedsRow : OpenClaim := { program := "ytfihpmhobjjaaaa", sum := "3d1a1c25f66436b8ed81133be3f4c8be770720b7e3e19b220c76f2be9771f782", func := "mosaic/mosaiclaw13.PeelNeeds", spec := "peelNeeds", unfollowed := true, recurses := true, apart := false }
def PeelNeedsSaid : Prop := peelNeedsRow.holds Try.pinned (OpenSpec.ofChange peelNeedsSpec)

/-- ITS FALSE NEIGHBOUR: 'it returns false'. Refute it at one input. -/
def peelNeedsWrong : ChangeSpec := { name := "peelNeeds", fn := fun _ => fun
  | [d1, d2, d3] => { results := [.lit (.bool false)], args := [d1, d2, d3] }
  | _ => none }
def PeelNeedsWrongFalsely : Prop := peelNeedsRow.holds Try.pinned (OpenSpec.ofChange peelNeedsWrong)

/-- 'mosaiclaw13.PeelOrder': WHATEVER THE INPUT: true; the input reads as it did. -/
def peelOrderSpec : ChangeSpec := { name := "peelOrder", fn := fun _ => fun
  | [d1, d2, d3] => { results := [.lit (.bool true)], args := [d1, d2, d3] }
  | _ => none }
def peelOrderRow : OpenClaim := { program := "ytfihpmhobjjaaaa", sum := "3d1a1c25f66436b8ed81133be3f4c8be770720b7e3e19b220c76f2be9771f782", func := "mosaic/mosaiclaw13.PeelOrder", spec := "peelOrder", unfollowed := true, recurses := true, apart := false }
def PeelOrderSaid : Prop := peelOrderRow.holds Try.pinned (OpenSpec.ofChange peelOrderSpec)

/-- ITS FALSE NEIGHBOUR: 'it returns false'. Refute it at one input. -/
def peelOrderWrong : ChangeSpec := { name := "peelOrder", fn := fun _ => fun
  | [d1, d2, d3] => { results := [.lit (.bool false)], args := [d1, d2, d3] }
  | _ => none }
def PeelOrderWrongFalsely : Prop := peelOrderRow.holds Try.pinned (OpenSpec.ofChange peelOrderWrong)

/-- 'mosaiclaw13.PeelGrows': WHATEVER THE INPUT: true; the input reads as it did. -/
def peelGrowsSpec : ChangeSpec := { name := "peelGrows", fn := fun _ => fun
  | [d1, d2, d3] => { results := [.lit (.bool true)], args := [d1, d2, d3] }
  | _ => none }
def peelGrowsRow : OpenClaim := { program := "ytfihpmhobjjaaaa", sum := "3d1a1c25f66436b8ed81133be3f4c8be770720b7e3e19b220c76f2be9771f782", func := "mosaic/mosaiclaw13.PeelGrows", spec := "peelGrows", unfollowed := true, recurses := true, apart := false }
def PeelGrowsSaid : Prop := peelGrowsRow.holds Try.pinned (OpenSpec.ofChange peelGrowsSpec)

/-- ITS FALSE NEIGHBOUR: 'it returns false'. Refute it at one input. -/
def peelGrowsWrong : ChangeSpec := { name := "peelGrows", fn := fun _ => fun
  | [d1, d2, d3] => { results := [.lit (.bool false)], args := [d1, d2, d3] }
  | _ => none }
def PeelGrowsWrongFalsely : Prop := peelGrowsRow.holds Try.pinned (OpenSpec.ofChange peelGrowsWrong)

/-- 'mosaiclaw13.PeelGauss': WHATEVER THE INPUT: true; the input reads as it did. -/
def peelGaussSpec : ChangeSpec := { name := "peelGauss", fn := fun _ => fun
  | [d1, d2, d3] => { results := [.lit (.bool true)], args := [d1, d2, d3] }
  | _ => none }
def peelGaussRow : OpenClaim := { program := "ytfihpmhobjjaaaa", sum := "3d1a1c25f66436b8ed81133be3f4c8be770720b7e3e19b220c76f2be9771f782", func := "mosaic/mosaiclaw13.PeelGauss", spec := "peelGauss", unfollowed := true, recurses := true, apart := false }
def PeelGaussSaid : Prop := peelGaussRow.holds Try.pinned (OpenSpec.ofChange peelGaussSpec)

/-- ITS FALSE NEIGHBOUR: 'it returns false'. Refute it at one input. -/
def peelGaussWrong : ChangeSpec := { name := "peelGauss", fn := fun _ => fun
  | [d1, d2, d3] => { results := [.lit (.bool false)], args := [d1, d2, d3] }
  | _ => none }
def PeelGaussWrongFalsely : Prop := peelGaussRow.holds Try.pinned (OpenSpec.ofChange peelGaussWrong)

/- THE SECOND FORM. 'bulk': how many values and letters a reading holds, each counted each time it is reached (what is shared counts as often as it is met; a slice's spare places count too). A statement '..UptoSaid' is the law's where the arguments, and the package variables that the reading takes, are together of bulk at most 1048576: NARROWER than '..Said'. Prove '..Said' where nothing that the law and all that it calls make is longer than what came in: it says more and counts as full. Else prove '..UptoSaid'. A law counts once. -/
mutual
def uptoBulk {H : Type} : DataW H → Nat
  | .lit (.string bytes) => bytes.length + 1
  | .lit _ => 1
  | .nil => 1
  | .ptr d => uptoBulk d + 1
  | .slice elems spare => uptoBulkAll elems + uptoBulkAll spare + 1
  | .agg parts => uptoBulkAll parts + 1
  | .iface _ d => uptoBulk d + 1
  | .map entries => uptoBulkEntries entries + 1
  | .held _ => 1
def uptoBulkAll {H : Type} : List (DataW H) → Nat
  | [] => 0
  | d :: r => uptoBulk d + uptoBulkAll r
def uptoBulkEntries {H : Type} : List (Lit × DataW H) → Nat
  | [] => 0
  | x :: r => uptoBulkEntry x + uptoBulkEntries r
def uptoBulkEntry {H : Type} : Lit × DataW H → Nat
  | (.string bytes, d) => bytes.length + uptoBulk d + 1
  | (_, d) => uptoBulk d + 1
 end
def uptoSmall : (H : Type) → List (DataW H) → Bool := fun _ ds => decide (uptoBulkAll ds ≤ 1048576)
def OpenSpec.upto (s : _root_.Go.ChangeSpec) : _root_.Go.OpenSpec := { _root_.Go.OpenSpec.ofChange s with cond := some uptoSmall }

/-- 'mosaiclaw13.PeelSteps', WHERE WHAT IT READS IS OF BULK AT MOST 1048576: true; the input reads as it did. -/
def peelStepsUptoRow : OpenClaim := { program := "ytfihpmhobjjaaaa", sum := "3d1a1c25f66436b8ed81133be3f4c8be770720b7e3e19b220c76f2be9771f782", func := "mosaic/mosaiclaw13.PeelSteps", spec := "peelSteps", unfollowed := true, recurses := true, apart := false, narrowed := true }
def PeelStepsUptoSaid : Prop := peelStepsUptoRow.holds Try.pinned (OpenSpec.upto peelStepsSpec)

/-- 'mosaiclaw13.PeelNeeds', WHERE WHAT IT READS IS OF BULK AT MOST 1048576: true; the input reads as it did. -/
def peelNeedsUptoRow : OpenClaim := { program := "ytfihpmhobjjaaaa", sum := "3d1a1c25f66436b8ed81133be3f4c8be770720b7e3e19b220c76f2be9771f782", func := "mosaic/mosaiclaw13.PeelNeeds", spec := "peelNeeds", unfollowed := true, recurses := true, apart := false, narrowed := true }
def PeelNeedsUptoSaid : Prop := peelNeedsUptoRow.holds Try.pinned (OpenSpec.upto peelNeedsSpec)

/-- 'mosaiclaw13.PeelOrder', WHERE WHAT IT READS IS OF BULK AT MOST 1048576: true; the input reads as it did. -/
def peelOrderUptoRow : OpenClaim := { program := "ytfihpmhobjjaaaa", sum := "3d1a1c25f66436b8ed81133be3f4c8be770720b7e3e19b220c76f2be9771f782", func := "mosaic/mosaiclaw13.PeelOrder", spec := "peelOrder", unfollowed := true, recurses := true, apart := false, narrowed := true }
def PeelOrderUptoSaid : Prop := peelOrderUptoRow.holds Try.pinned (OpenSpec.upto peelOrderSpec)

/-- 'mosaiclaw13.PeelGrows', WHERE WHAT IT READS IS OF BULK AT MOST 1048576: true; the input reads as it did. -/
def peelGrowsUptoRow : OpenClaim := { program := "ytfihpmhobjjaaaa", sum := "3d1a1c25f66436b8ed81133be3f4c8be770720b7e3e19b220c76f2be9771f782", func := "mosaic/mosaiclaw13.PeelGrows", spec := "peelGrows", unfollowed := true, recurses := true, apart := false, narrowed := true }
def PeelGrowsUptoSaid : Prop := peelGrowsUptoRow.holds Try.pinned (OpenSpec.upto peelGrowsSpec)

/-- 'mosaiclaw13.PeelGauss', WHERE WHAT IT READS IS OF BULK AT MOST 1048576: true; the input reads as it did. -/
def peelGaussUptoRow : OpenClaim := { program := "ytfihpmhobjjaaaa", sum := "3d1a1c25f66436b8ed81133be3f4c8be770720b7e3e19b220c76f2be9771f782", func := "mosaic/mosaiclaw13.PeelGauss", spec := "peelGauss", unfollowed := true, recurses := true, apart := false, narrowed := true }
def PeelGaussUptoSaid : Prop := peelGaussUptoRow.holds Try.pinned (OpenSpec.upto peelGaussSpec)

end Rows
end Go.Proofs.Ytfihpmhobjjaaaa
