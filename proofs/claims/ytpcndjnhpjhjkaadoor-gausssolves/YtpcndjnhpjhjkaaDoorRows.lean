/-
  NARROWER THAN 'FOR EVERY INPUT', by the rows' own cells (each row's printed sentence says how): GaussReduces: laid · GaussSolves: laid · GaussForm: laid · GaussOrder: laid · GaussMore: laid · GaussTrue: laid.
  DERIVED. THE GIVEN ROWS OF THIS SEAT. 6 by the template 'for every input the law returns true; each argument reads behind the call as it read before'; 0 by the template 'total and deterministic' (their statements: YtpcndjnhpjhjkaaDoorTotals.lean).
  GIVEN WITH THE SEED: the statements are not yours to turn. If you find one false, say at which input.
  Laid BY PROGRAM, IN A SANDBOX (cutbox-rows.mjs): the forced cells as the released guide's own fill.sh prints them over the translation 9bbc98aeaea18e95… (all of the seat's roots in one cut). By AI agents, Wed Nov 11 2026. No macro, syntax, notation, axiom, sorry.
-/
import Derived.Test.YtpcndjnhpjhjkaaDoorChecked
import GoSem.Claim
import GoSem.ClaimJoined
import GoSem.ClaimMapViews
import Derived.JoinedTies
import Derived.KernelRfl
namespace Go.Proofs.YtpcndjnhpjhjkaaDoor
/- THE CELL 'sum', in the pinned program and in every row, IS THE sha256 OF THE DUMP (.gsa) THAT YtpcndjnhpjhjkaaDoorProg.lean LOADS. Nothing in Lean hashes anything: it is a label: what it is worth is what the hold of that sum in a sandbox is worth. -/
noncomputable def Tryd.pinned : Pinned := { name := "ytpcndjnhpjhjkaadoor", sum := "9bbc98aeaea18e95819af0936935434b2690d270b30f2116382e9eae5be41c17", checked := Tryd.checked }
namespace Rows
def none {H : Type} : Left H := { results := [], args := [] }

/- WHAT THE LISTED PACKAGE-LEVEL VARIABLES READ AS WHEN THE CALL BEGINS. Each datum BY PROGRAM (the guide's laid-datum.mjs) off the statement by which the dump's own 'gosem.cut.vars' lays the variable. In a bare row this is a premise. The card (YtpcndjnhpjhjkaaDoorCards.lean) ties it to the program's text. -/
def laid_math_bits_deBruijn64tab {H : Type} : DataW H := .agg [.lit (.int .u8 0), .lit (.int .u8 1), .lit (.int .u8 56), .lit (.int .u8 2), .lit (.int .u8 57), .lit (.int .u8 49), .lit (.int .u8 28), .lit (.int .u8 3), .lit (.int .u8 61), .lit (.int .u8 58), .lit (.int .u8 42), .lit (.int .u8 50), .lit (.int .u8 38), .lit (.int .u8 29), .lit (.int .u8 17), .lit (.int .u8 4), .lit (.int .u8 62), .lit (.int .u8 47), .lit (.int .u8 59), .lit (.int .u8 36), .lit (.int .u8 45), .lit (.int .u8 43), .lit (.int .u8 51), .lit (.int .u8 22), .lit (.int .u8 53), .lit (.int .u8 39), .lit (.int .u8 33), .lit (.int .u8 30), .lit (.int .u8 24), .lit (.int .u8 18), .lit (.int .u8 12), .lit (.int .u8 5), .lit (.int .u8 63), .lit (.int .u8 55), .lit (.int .u8 48), .lit (.int .u8 27), .lit (.int .u8 60), .lit (.int .u8 41), .lit (.int .u8 37), .lit (.int .u8 16), .lit (.int .u8 46), .lit (.int .u8 35), .lit (.int .u8 44), .lit (.int .u8 21), .lit (.int .u8 52), .lit (.int .u8 32), .lit (.int .u8 23), .lit (.int .u8 11), .lit (.int .u8 54), .lit (.int .u8 26), .lit (.int .u8 40), .lit (.int .u8 15), .lit (.int .u8 34), .lit (.int .u8 20), .lit (.int .u8 31), .lit (.int .u8 10), .lit (.int .u8 25), .lit (.int .u8 14), .lit (.int .u8 19), .lit (.int .u8 9), .lit (.int .u8 13), .lit (.int .u8 8), .lit (.int .u8 7), .lit (.int .u8 6)]

/-- 'mosaiclaw12.GaussReduces': WHATEVER THE INPUT: true; the input reads as it did. -/
def gaussReducesSpec : ChangeSpec := { name := "gaussReduces", fn := fun _ => fun
  | [d1, d2] => { results := [.lit (.bool true)], args := [d1, d2] }
  | _ => none }
def gaussReducesRow : OpenClaim := { program := "ytpcndjnhpjhjkaadoor", sum := "9bbc98aeaea18e95819af0936935434b2690d270b30f2116382e9eae5be41c17", func := "mosaic/mosaiclaw12.GaussReduces", spec := "gaussReduces", unfollowed := true, recurses := true, named := ["math/bits.deBruijn64tab"], apart := false, laid := [("math/bits.deBruijn64tab", laid_math_bits_deBruijn64tab)] }
def GaussReducesSaid : Prop := gaussReducesRow.holds Tryd.pinned (OpenSpec.ofChange gaussReducesSpec)

/-- ITS FALSE NEIGHBOUR: 'it returns false'. Refute it at one input. -/
def gaussReducesWrong : ChangeSpec := { name := "gaussReduces", fn := fun _ => fun
  | [d1, d2] => { results := [.lit (.bool false)], args := [d1, d2] }
  | _ => none }
def GaussReducesWrongFalsely : Prop := gaussReducesRow.holds Tryd.pinned (OpenSpec.ofChange gaussReducesWrong)

/-- 'mosaiclaw12.GaussSolves': WHATEVER THE INPUT: true; the input reads as it did. -/
def gaussSolvesSpec : ChangeSpec := { name := "gaussSolves", fn := fun _ => fun
  | [d1, d2, d3] => { results := [.lit (.bool true)], args := [d1, d2, d3] }
  | _ => none }
def gaussSolvesRow : OpenClaim := { program := "ytpcndjnhpjhjkaadoor", sum := "9bbc98aeaea18e95819af0936935434b2690d270b30f2116382e9eae5be41c17", func := "mosaic/mosaiclaw12.GaussSolves", spec := "gaussSolves", unfollowed := true, recurses := true, named := ["math/bits.deBruijn64tab"], apart := false, laid := [("math/bits.deBruijn64tab", laid_math_bits_deBruijn64tab)] }
def GaussSolvesSaid : Prop := gaussSolvesRow.holds Tryd.pinned (OpenSpec.ofChange gaussSolvesSpec)

/-- ITS FALSE NEIGHBOUR: 'it returns false'. Refute it at one input. -/
def gaussSolvesWrong : ChangeSpec := { name := "gaussSolves", fn := fun _ => fun
  | [d1, d2, d3] => { results := [.lit (.bool false)], args := [d1, d2, d3] }
  | _ => none }
def GaussSolvesWrongFalsely : Prop := gaussSolvesRow.holds Tryd.pinned (OpenSpec.ofChange gaussSolvesWrong)

/-- 'mosaiclaw12.GaussForm': WHATEVER THE INPUT: true; the input reads as it did. -/
def gaussFormSpec : ChangeSpec := { name := "gaussForm", fn := fun _ => fun
  | [d1, d2] => { results := [.lit (.bool true)], args := [d1, d2] }
  | _ => none }
def gaussFormRow : OpenClaim := { program := "ytpcndjnhpjhjkaadoor", sum := "9bbc98aeaea18e95819af0936935434b2690d270b30f2116382e9eae5be41c17", func := "mosaic/mosaiclaw12.GaussForm", spec := "gaussForm", unfollowed := true, recurses := true, named := ["math/bits.deBruijn64tab"], apart := false, laid := [("math/bits.deBruijn64tab", laid_math_bits_deBruijn64tab)] }
def GaussFormSaid : Prop := gaussFormRow.holds Tryd.pinned (OpenSpec.ofChange gaussFormSpec)

/-- ITS FALSE NEIGHBOUR: 'it returns false'. Refute it at one input. -/
def gaussFormWrong : ChangeSpec := { name := "gaussForm", fn := fun _ => fun
  | [d1, d2] => { results := [.lit (.bool false)], args := [d1, d2] }
  | _ => none }
def GaussFormWrongFalsely : Prop := gaussFormRow.holds Tryd.pinned (OpenSpec.ofChange gaussFormWrong)

/-- 'mosaiclaw12.GaussOrder': WHATEVER THE INPUT: true; the input reads as it did. -/
def gaussOrderSpec : ChangeSpec := { name := "gaussOrder", fn := fun _ => fun
  | [d1, d2, d3] => { results := [.lit (.bool true)], args := [d1, d2, d3] }
  | _ => none }
def gaussOrderRow : OpenClaim := { program := "ytpcndjnhpjhjkaadoor", sum := "9bbc98aeaea18e95819af0936935434b2690d270b30f2116382e9eae5be41c17", func := "mosaic/mosaiclaw12.GaussOrder", spec := "gaussOrder", unfollowed := true, recurses := true, named := ["math/bits.deBruijn64tab"], apart := false, laid := [("math/bits.deBruijn64tab", laid_math_bits_deBruijn64tab)] }
def GaussOrderSaid : Prop := gaussOrderRow.holds Tryd.pinned (OpenSpec.ofChange gaussOrderSpec)

/-- ITS FALSE NEIGHBOUR: 'it returns false'. Refute it at one input. -/
def gaussOrderWrong : ChangeSpec := { name := "gaussOrder", fn := fun _ => fun
  | [d1, d2, d3] => { results := [.lit (.bool false)], args := [d1, d2, d3] }
  | _ => none }
def GaussOrderWrongFalsely : Prop := gaussOrderRow.holds Tryd.pinned (OpenSpec.ofChange gaussOrderWrong)

/-- 'mosaiclaw12.GaussMore': WHATEVER THE INPUT: true; the input reads as it did. -/
def gaussMoreSpec : ChangeSpec := { name := "gaussMore", fn := fun _ => fun
  | [d1, d2, d3] => { results := [.lit (.bool true)], args := [d1, d2, d3] }
  | _ => none }
def gaussMoreRow : OpenClaim := { program := "ytpcndjnhpjhjkaadoor", sum := "9bbc98aeaea18e95819af0936935434b2690d270b30f2116382e9eae5be41c17", func := "mosaic/mosaiclaw12.GaussMore", spec := "gaussMore", unfollowed := true, recurses := true, named := ["math/bits.deBruijn64tab"], apart := false, laid := [("math/bits.deBruijn64tab", laid_math_bits_deBruijn64tab)] }
def GaussMoreSaid : Prop := gaussMoreRow.holds Tryd.pinned (OpenSpec.ofChange gaussMoreSpec)

/-- ITS FALSE NEIGHBOUR: 'it returns false'. Refute it at one input. -/
def gaussMoreWrong : ChangeSpec := { name := "gaussMore", fn := fun _ => fun
  | [d1, d2, d3] => { results := [.lit (.bool false)], args := [d1, d2, d3] }
  | _ => none }
def GaussMoreWrongFalsely : Prop := gaussMoreRow.holds Tryd.pinned (OpenSpec.ofChange gaussMoreWrong)

/-- 'mosaiclaw12.GaussTrue': WHATEVER THE INPUT: true; the input reads as it did. -/
def gaussTrueSpec : ChangeSpec := { name := "gaussTrue", fn := fun _ => fun
  | [d1, d2, d3] => { results := [.lit (.bool true)], args := [d1, d2, d3] }
  | _ => none }
def gaussTrueRow : OpenClaim := { program := "ytpcndjnhpjhjkaadoor", sum := "9bbc98aeaea18e95819af0936935434b2690d270b30f2116382e9eae5be41c17", func := "mosaic/mosaiclaw12.GaussTrue", spec := "gaussTrue", unfollowed := true, recurses := true, named := ["math/bits.deBruijn64tab"], apart := false, laid := [("math/bits.deBruijn64tab", laid_math_bits_deBruijn64tab)] }
def GaussTrueSaid : Prop := gaussTrueRow.holds Tryd.pinned (OpenSpec.ofChange gaussTrueSpec)

/-- ITS FALSE NEIGHBOUR: 'it returns false'. Refute it at one input. -/
def gaussTrueWrong : ChangeSpec := { name := "gaussTrue", fn := fun _ => fun
  | [d1, d2, d3] => { results := [.lit (.bool false)], args := [d1, d2, d3] }
  | _ => none }
def GaussTrueWrongFalsely : Prop := gaussTrueRow.holds Tryd.pinned (OpenSpec.ofChange gaussTrueWrong)

/- THE SECOND FORM. 'bulk': how many values and letters a reading holds, each counted each time it is reached (what is shared counts as often as it is met; a slice's spare places count too). A statement '..UptoSaid' is the law's where the arguments, and the package variables that the reading takes, are together of bulk at most 1048576: NARROWER than '..Said'. Prove '..Said' where nothing that the law and all that it calls make is longer than what came in: it says more and counts as full. Else prove '..UptoSaid'. A law counts once. -/
mutual
def uptoBulk {H : Type} : DataW H → Nat
  | .lit (.string bytes) => bytes.length + 1
  | .lit _ => 1
  | .nil => 1
  | .ptr d => uptoBulk d + 1
  | .slice elems spare => uptoBulkAll elems + uptoBulkAll spare + 1
  | .agg parts => uptoBulkAll parts + 1
  | .iface _ d => uptoBulk d + 1
  | .map entries => uptoBulkEntries entries + 1
  | .held _ => 1
def uptoBulkAll {H : Type} : List (DataW H) → Nat
  | [] => 0
  | d :: r => uptoBulk d + uptoBulkAll r
def uptoBulkEntries {H : Type} : List (Lit × DataW H) → Nat
  | [] => 0
  | x :: r => uptoBulkEntry x + uptoBulkEntries r
def uptoBulkEntry {H : Type} : Lit × DataW H → Nat
  | (.string bytes, d) => bytes.length + uptoBulk d + 1
  | (_, d) => uptoBulk d + 1
 end
def uptoSmall : (H : Type) → List (DataW H) → Bool := fun _ ds => decide (uptoBulkAll ds ≤ 1048576)
def OpenSpec.upto (s : _root_.Go.ChangeSpec) : _root_.Go.OpenSpec := { _root_.Go.OpenSpec.ofChange s with cond := some uptoSmall }

/-- 'mosaiclaw12.GaussReduces', WHERE WHAT IT READS IS OF BULK AT MOST 1048576: true; the input reads as it did. -/
def gaussReducesUptoRow : OpenClaim := { program := "ytpcndjnhpjhjkaadoor", sum := "9bbc98aeaea18e95819af0936935434b2690d270b30f2116382e9eae5be41c17", func := "mosaic/mosaiclaw12.GaussReduces", spec := "gaussReduces", unfollowed := true, recurses := true, named := ["math/bits.deBruijn64tab"], apart := false, laid := [("math/bits.deBruijn64tab", laid_math_bits_deBruijn64tab)], narrowed := true }
def GaussReducesUptoSaid : Prop := gaussReducesUptoRow.holds Tryd.pinned (OpenSpec.upto gaussReducesSpec)

/-- 'mosaiclaw12.GaussSolves', WHERE WHAT IT READS IS OF BULK AT MOST 1048576: true; the input reads as it did. -/
def gaussSolvesUptoRow : OpenClaim := { program := "ytpcndjnhpjhjkaadoor", sum := "9bbc98aeaea18e95819af0936935434b2690d270b30f2116382e9eae5be41c17", func := "mosaic/mosaiclaw12.GaussSolves", spec := "gaussSolves", unfollowed := true, recurses := true, named := ["math/bits.deBruijn64tab"], apart := false, laid := [("math/bits.deBruijn64tab", laid_math_bits_deBruijn64tab)], narrowed := true }
def GaussSolvesUptoSaid : Prop := gaussSolvesUptoRow.holds Tryd.pinned (OpenSpec.upto gaussSolvesSpec)

/-- 'mosaiclaw12.GaussForm', WHERE WHAT IT READS IS OF BULK AT MOST 1048576: true; the input reads as it did. -/
def gaussFormUptoRow : OpenClaim := { program := "ytpcndjnhpjhjkaadoor", sum := "9bbc98aeaea18e95819af0936935434b2690d270b30f2116382e9eae5be41c17", func := "mosaic/mosaiclaw12.GaussForm", spec := "gaussForm", unfollowed := true, recurses := true, named := ["math/bits.deBruijn64tab"], apart := false, laid := [("math/bits.deBruijn64tab", laid_math_bits_deBruijn64tab)], narrowed := true }
def GaussFormUptoSaid : Prop := gaussFormUptoRow.holds Tryd.pinned (OpenSpec.upto gaussFormSpec)

/-- 'mosaiclaw12.GaussOrder', WHERE WHAT IT READS IS OF BULK AT MOST 1048576: true; the input reads as it did. -/
def gaussOrderUptoRow : OpenClaim := { program := "ytpcndjnhpjhjkaadoor", sum := "9bbc98aeaea18e95819af0936935434b2690d270b30f2116382e9eae5be41c17", func := "mosaic/mosaiclaw12.GaussOrder", spec := "gaussOrder", unfollowed := true, recurses := true, named := ["math/bits.deBruijn64tab"], apart := false, laid := [("math/bits.deBruijn64tab", laid_math_bits_deBruijn64tab)], narrowed := true }
def GaussOrderUptoSaid : Prop := gaussOrderUptoRow.holds Tryd.pinned (OpenSpec.upto gaussOrderSpec)

/-- 'mosaiclaw12.GaussMore', WHERE WHAT IT READS IS OF BULK AT MOST 1048576: true; the input reads as it did. -/
def gaussMoreUptoRow : OpenClaim := { program := "ytpcndjnhpjhjkaadoor", sum := "9bbc98aeaea18e95819af0936935434b2690d270b30f2116382e9eae5be41c17", func := "mosaic/mosaiclaw12.GaussMore", spec := "gaussMore", unfollowed := true, recurses := true, named := ["math/bits.deBruijn64tab"], apart := false, laid := [("math/bits.deBruijn64tab", laid_math_bits_deBruijn64tab)], narrowed := true }
def GaussMoreUptoSaid : Prop := gaussMoreUptoRow.holds Tryd.pinned (OpenSpec.upto gaussMoreSpec)

/-- 'mosaiclaw12.GaussTrue', WHERE WHAT IT READS IS OF BULK AT MOST 1048576: true; the input reads as it did. -/
def gaussTrueUptoRow : OpenClaim := { program := "ytpcndjnhpjhjkaadoor", sum := "9bbc98aeaea18e95819af0936935434b2690d270b30f2116382e9eae5be41c17", func := "mosaic/mosaiclaw12.GaussTrue", spec := "gaussTrue", unfollowed := true, recurses := true, named := ["math/bits.deBruijn64tab"], apart := false, laid := [("math/bits.deBruijn64tab", laid_math_bits_deBruijn64tab)], narrowed := true }
def GaussTrueUptoSaid : Prop := gaussTrueUptoRow.holds Tryd.pinned (OpenSpec.upto gaussTrueSpec)

end Rows
end Go.Proofs.YtpcndjnhpjhjkaaDoor
