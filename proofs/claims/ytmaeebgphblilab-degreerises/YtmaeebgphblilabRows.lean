/-
  No cell of these rows narrows 'for every input' (looked for: loops, veiled, ifaces, maps, wideKeys, modest, calm, conditions, laid).
  DERIVED. THE GIVEN ROWS OF THIS SEAT. 6 by the template 'for every input the law returns true; each argument reads behind the call as it read before'; 0 by the template 'total and deterministic' (their statements: YtmaeebgphblilabTotals.lean).
  GIVEN WITH THE SEED: the statements are not yours to turn. If you find one false, say at which input.
  Laid BY PROGRAM, IN A SANDBOX (cutbox-rows.mjs): the forced cells as the released guide's own fill.sh prints them over the translation b63da253f8b50de8… (all of the seat's roots in one cut). By AI agents, Wed Nov 11 2026. No macro, syntax, notation, axiom, sorry.
-/
import Derived.Test.YtmaeebgphblilabChecked
import GoSem.Claim
import GoSem.ClaimJoined
import GoSem.ClaimMapViews
import Derived.JoinedTies
import Derived.KernelRfl
namespace Go.Proofs.Ytmaeebgphblilab
/- THE CELL 'sum', in the pinned program and in every row, IS THE sha256 OF THE DUMP (.gsa) THAT YtmaeebgphblilabProg.lean LOADS. Nothing in Lean hashes anything: it is a label: what it is worth is what the hold of that sum in a sandbox is worth. -/
noncomputable def Try.pinned : Pinned := { name := "ytmaeebgphblilab", sum := "b63da253f8b50de8a268b7290367966b0a50678fc844837d398dd2745c704005", checked := Try.checked }
namespace Rows
def none {H : Type} : Left H := { results := [], args := [] }

/-- 'mosaiclaw06.DegreeTables': WHATEVER THE INPUT: true; the input reads as it did. -/
def degreeTablesSpec : ChangeSpec := { name := "degreeTables", fn := fun _ => fun
  | [d] => { results := [.lit (.bool true)], args := [d] }
  | _ => none }
def degreeTablesRow : OpenClaim := { program := "ytmaeebgphblilab", sum := "b63da253f8b50de8a268b7290367966b0a50678fc844837d398dd2745c704005", func := "mosaic/mosaiclaw06.DegreeTables", spec := "degreeTables", apart := false }
def DegreeTablesSaid : Prop := degreeTablesRow.holds Try.pinned (OpenSpec.ofChange degreeTablesSpec)

/-- ITS FALSE NEIGHBOUR: 'it returns false'. Refute it at one input. -/
def degreeTablesWrong : ChangeSpec := { name := "degreeTables", fn := fun _ => fun
  | [d] => { results := [.lit (.bool false)], args := [d] }
  | _ => none }
def DegreeTablesWrongFalsely : Prop := degreeTablesRow.holds Try.pinned (OpenSpec.ofChange degreeTablesWrong)

/-- 'mosaiclaw06.DegreeChances': WHATEVER THE INPUT: true; the input reads as it did. -/
def degreeChancesSpec : ChangeSpec := { name := "degreeChances", fn := fun _ => fun
  | [d1, d2] => { results := [.lit (.bool true)], args := [d1, d2] }
  | _ => none }
def degreeChancesRow : OpenClaim := { program := "ytmaeebgphblilab", sum := "b63da253f8b50de8a268b7290367966b0a50678fc844837d398dd2745c704005", func := "mosaic/mosaiclaw06.DegreeChances", spec := "degreeChances", apart := false }
def DegreeChancesSaid : Prop := degreeChancesRow.holds Try.pinned (OpenSpec.ofChange degreeChancesSpec)

/-- ITS FALSE NEIGHBOUR: 'it returns false'. Refute it at one input. -/
def degreeChancesWrong : ChangeSpec := { name := "degreeChances", fn := fun _ => fun
  | [d1, d2] => { results := [.lit (.bool false)], args := [d1, d2] }
  | _ => none }
def DegreeChancesWrongFalsely : Prop := degreeChancesRow.holds Try.pinned (OpenSpec.ofChange degreeChancesWrong)

/-- 'mosaiclaw06.DegreeWords': WHATEVER THE INPUT: true; the input reads as it did. -/
def degreeWordsSpec : ChangeSpec := { name := "degreeWords", fn := fun _ => fun
  | [d1, d2] => { results := [.lit (.bool true)], args := [d1, d2] }
  | _ => none }
def degreeWordsRow : OpenClaim := { program := "ytmaeebgphblilab", sum := "b63da253f8b50de8a268b7290367966b0a50678fc844837d398dd2745c704005", func := "mosaic/mosaiclaw06.DegreeWords", spec := "degreeWords", apart := false }
def DegreeWordsSaid : Prop := degreeWordsRow.holds Try.pinned (OpenSpec.ofChange degreeWordsSpec)

/-- ITS FALSE NEIGHBOUR: 'it returns false'. Refute it at one input. -/
def degreeWordsWrong : ChangeSpec := { name := "degreeWords", fn := fun _ => fun
  | [d1, d2] => { results := [.lit (.bool false)], args := [d1, d2] }
  | _ => none }
def DegreeWordsWrongFalsely : Prop := degreeWordsRow.holds Try.pinned (OpenSpec.ofChange degreeWordsWrong)

/-- 'mosaiclaw06.DegreeAux': WHATEVER THE INPUT: true; the input reads as it did. -/
def degreeAuxSpec : ChangeSpec := { name := "degreeAux", fn := fun _ => fun
  | [d1, d2] => { results := [.lit (.bool true)], args := [d1, d2] }
  | _ => none }
def degreeAuxRow : OpenClaim := { program := "ytmaeebgphblilab", sum := "b63da253f8b50de8a268b7290367966b0a50678fc844837d398dd2745c704005", func := "mosaic/mosaiclaw06.DegreeAux", spec := "degreeAux", apart := false }
def DegreeAuxSaid : Prop := degreeAuxRow.holds Try.pinned (OpenSpec.ofChange degreeAuxSpec)

/-- ITS FALSE NEIGHBOUR: 'it returns false'. Refute it at one input. -/
def degreeAuxWrong : ChangeSpec := { name := "degreeAux", fn := fun _ => fun
  | [d1, d2] => { results := [.lit (.bool false)], args := [d1, d2] }
  | _ => none }
def DegreeAuxWrongFalsely : Prop := degreeAuxRow.holds Try.pinned (OpenSpec.ofChange degreeAuxWrong)

/-- 'mosaiclaw06.DegreeRises': WHATEVER THE INPUT: true; the input reads as it did. -/
def degreeRisesSpec : ChangeSpec := { name := "degreeRises", fn := fun _ => fun
  | [d] => { results := [.lit (.bool true)], args := [d] }
  | _ => none }
def degreeRisesRow : OpenClaim := { program := "ytmaeebgphblilab", sum := "b63da253f8b50de8a268b7290367966b0a50678fc844837d398dd2745c704005", func := "mosaic/mosaiclaw06.DegreeRises", spec := "degreeRises", apart := false }
def DegreeRisesSaid : Prop := degreeRisesRow.holds Try.pinned (OpenSpec.ofChange degreeRisesSpec)

/-- ITS FALSE NEIGHBOUR: 'it returns false'. Refute it at one input. -/
def degreeRisesWrong : ChangeSpec := { name := "degreeRises", fn := fun _ => fun
  | [d] => { results := [.lit (.bool false)], args := [d] }
  | _ => none }
def DegreeRisesWrongFalsely : Prop := degreeRisesRow.holds Try.pinned (OpenSpec.ofChange degreeRisesWrong)

/-- 'mosaiclaw06.DegreeEach': WHATEVER THE INPUT: true; the input reads as it did. -/
def degreeEachSpec : ChangeSpec := { name := "degreeEach", fn := fun _ => fun
  | [d1, d2, d3] => { results := [.lit (.bool true)], args := [d1, d2, d3] }
  | _ => none }
def degreeEachRow : OpenClaim := { program := "ytmaeebgphblilab", sum := "b63da253f8b50de8a268b7290367966b0a50678fc844837d398dd2745c704005", func := "mosaic/mosaiclaw06.DegreeEach", spec := "degreeEach", apart := false }
def DegreeEachSaid : Prop := degreeEachRow.holds Try.pinned (OpenSpec.ofChange degreeEachSpec)

/-- ITS FALSE NEIGHBOUR: 'it returns false'. Refute it at one input. -/
def degreeEachWrong : ChangeSpec := { name := "degreeEach", fn := fun _ => fun
  | [d1, d2, d3] => { results := [.lit (.bool false)], args := [d1, d2, d3] }
  | _ => none }
def DegreeEachWrongFalsely : Prop := degreeEachRow.holds Try.pinned (OpenSpec.ofChange degreeEachWrong)

/- THE SECOND FORM. 'bulk': how many values and letters a reading holds, each counted each time it is reached (what is shared counts as often as it is met; a slice's spare places count too). A statement '..UptoSaid' is the law's where the arguments, and the package variables that the reading takes, are together of bulk at most 1048576: NARROWER than '..Said'. Prove '..Said' where nothing that the law and all that it calls make is longer than what came in: it says more and counts as full. Else prove '..UptoSaid'. A law counts once. -/
mutual
def uptoBulk {H : Type} : DataW H → Nat
  | .lit (.string bytes) => bytes.length + 1
  | .lit _ => 1
  | .nil => 1
  | .ptr d => uptoBulk d + 1
  | .slice elems spare => uptoBulkAll elems + uptoBulkAll spare + 1
  | .agg parts => uptoBulkAll parts + 1
  | .iface _ d => uptoBulk d + 1
  | .map entries => uptoBulkEntries entries + 1
  | .held _ => 1
def uptoBulkAll {H : Type} : List (DataW H) → Nat
  | [] => 0
  | d :: r => uptoBulk d + uptoBulkAll r
def uptoBulkEntries {H : Type} : List (Lit × DataW H) → Nat
  | [] => 0
  | x :: r => uptoBulkEntry x + uptoBulkEntries r
def uptoBulkEntry {H : Type} : Lit × DataW H → Nat
  | (.string bytes, d) => bytes.length + uptoBulk d + 1
  | (_, d) => uptoBulk d + 1
 end
def uptoSmall : (H : Type) → List (DataW H) → Bool := fun _ ds => decide (uptoBulkAll ds ≤ 1048576)
def OpenSpec.upto (s : _root_.Go.ChangeSpec) : _root_.Go.OpenSpec := { _root_.Go.OpenSpec.ofChange s with cond := some uptoSmall }

/-- 'mosaiclaw06.DegreeTables', WHERE WHAT IT READS IS OF BULK AT MOST 1048576: true; the input reads as it did. -/
def degreeTablesUptoRow : OpenClaim := { program := "ytmaeebgphblilab", sum := "b63da253f8b50de8a268b7290367966b0a50678fc844837d398dd2745c704005", func := "mosaic/mosaiclaw06.DegreeTables", spec := "degreeTables", apart := false, narrowed := true }
def DegreeTablesUptoSaid : Prop := degreeTablesUptoRow.holds Try.pinned (OpenSpec.upto degreeTablesSpec)

/-- 'mosaiclaw06.DegreeChances', WHERE WHAT IT READS IS OF BULK AT MOST 1048576: true; the input reads as it did. -/
def degreeChancesUptoRow : OpenClaim := { program := "ytmaeebgphblilab", sum := "b63da253f8b50de8a268b7290367966b0a50678fc844837d398dd2745c704005", func := "mosaic/mosaiclaw06.DegreeChances", spec := "degreeChances", apart := false, narrowed := true }
def DegreeChancesUptoSaid : Prop := degreeChancesUptoRow.holds Try.pinned (OpenSpec.upto degreeChancesSpec)

/-- 'mosaiclaw06.DegreeWords', WHERE WHAT IT READS IS OF BULK AT MOST 1048576: true; the input reads as it did. -/
def degreeWordsUptoRow : OpenClaim := { program := "ytmaeebgphblilab", sum := "b63da253f8b50de8a268b7290367966b0a50678fc844837d398dd2745c704005", func := "mosaic/mosaiclaw06.DegreeWords", spec := "degreeWords", apart := false, narrowed := true }
def DegreeWordsUptoSaid : Prop := degreeWordsUptoRow.holds Try.pinned (OpenSpec.upto degreeWordsSpec)

/-- 'mosaiclaw06.DegreeAux', WHERE WHAT IT READS IS OF BULK AT MOST 1048576: true; the input reads as it did. -/
def degreeAuxUptoRow : OpenClaim := { program := "ytmaeebgphblilab", sum := "b63da253f8b50de8a268b7290367966b0a50678fc844837d398dd2745c704005", func := "mosaic/mosaiclaw06.DegreeAux", spec := "degreeAux", apart := false, narrowed := true }
def DegreeAuxUptoSaid : Prop := degreeAuxUptoRow.holds Try.pinned (OpenSpec.upto degreeAuxSpec)

/-- 'mosaiclaw06.DegreeRises', WHERE WHAT IT READS IS OF BULK AT MOST 1048576: true; the input reads as it did. -/
def degreeRisesUptoRow : OpenClaim := { program := "ytmaeebgphblilab", sum := "b63da253f8b50de8a268b7290367966b0a50678fc844837d398dd2745c704005", func := "mosaic/mosaiclaw06.DegreeRises", spec := "degreeRises", apart := false, narrowed := true }
def DegreeRisesUptoSaid : Prop := degreeRisesUptoRow.holds Try.pinned (OpenSpec.upto degreeRisesSpec)

/-- 'mosaiclaw06.DegreeEach', WHERE WHAT IT READS IS OF BULK AT MOST 1048576: true; the input reads as it did. -/
def degreeEachUptoRow : OpenClaim := { program := "ytmaeebgphblilab", sum := "b63da253f8b50de8a268b7290367966b0a50678fc844837d398dd2745c704005", func := "mosaic/mosaiclaw06.DegreeEach", spec := "degreeEach", apart := false, narrowed := true }
def DegreeEachUptoSaid : Prop := degreeEachUptoRow.holds Try.pinned (OpenSpec.upto degreeEachSpec)

end Rows
end Go.Proofs.Ytmaeebgphblilab
