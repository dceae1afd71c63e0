/-
  DERIVED. GIVEN WITH THE SEED: THE CARDS: each row of YtpcndjnhpjhjkaaDoorRows.lean that lists a variable, with what it lists TIED to the program's text (the seventh form; the later family's looks); each row that meets fmt, with fmt's text TOLD by the authors' own Lean function (tested against real Go, not proved from fmt's source: count such statements apart). THE CARD IS WHAT COUNTS. Prove the row's statement (the work); the ties are given (YtpcndjnhpjhjkaaDoorTie.lean); close each card by the builder's one call (the guide's Derived/Test/ToyasCard.lean, 'card_holds'). Laid BY PROGRAM, IN A SANDBOX (cutbox-door.mjs). By AI agents, Wed Nov 11 2026. No macro, syntax, notation, axiom, sorry.
-/
import Derived.Test.YtpcndjnhpjhjkaaDoorRows
import GoSem.ClaimSeven
namespace Go.Proofs.YtpcndjnhpjhjkaaDoor
namespace Rows

/-- THE TIED CARD OF 'mosaiclaw12.GaussReduces'. -/
def gaussReducesCard : Claim7 := { stood := { row := gaussReducesRow, standIns := [], harness := (true, "8c616f2c619677bdff343486c5f103d095a9df08d72551a6a013f624232740cf"), looks := false }, kinds := [], alts := [], laidByText := true, laidKinds := [.data], laidTests := true, laidLooks := .later }
def GaussReducesCardSaid : Prop := Claim7.holds Tryd.pinned (.plain (OpenSpec.ofChange gaussReducesSpec)) gaussReducesCard

/-- THE TIED CARD OF 'mosaiclaw12.GaussSolves'. -/
def gaussSolvesCard : Claim7 := { stood := { row := gaussSolvesRow, standIns := [], harness := (true, "8c616f2c619677bdff343486c5f103d095a9df08d72551a6a013f624232740cf"), looks := false }, kinds := [], alts := [], laidByText := true, laidKinds := [.data], laidTests := true, laidLooks := .later }
def GaussSolvesCardSaid : Prop := Claim7.holds Tryd.pinned (.plain (OpenSpec.ofChange gaussSolvesSpec)) gaussSolvesCard

/-- THE TIED CARD OF 'mosaiclaw12.GaussForm'. -/
def gaussFormCard : Claim7 := { stood := { row := gaussFormRow, standIns := [], harness := (true, "8c616f2c619677bdff343486c5f103d095a9df08d72551a6a013f624232740cf"), looks := false }, kinds := [], alts := [], laidByText := true, laidKinds := [.data], laidTests := true, laidLooks := .later }
def GaussFormCardSaid : Prop := Claim7.holds Tryd.pinned (.plain (OpenSpec.ofChange gaussFormSpec)) gaussFormCard

/-- THE TIED CARD OF 'mosaiclaw12.GaussOrder'. -/
def gaussOrderCard : Claim7 := { stood := { row := gaussOrderRow, standIns := [], harness := (true, "8c616f2c619677bdff343486c5f103d095a9df08d72551a6a013f624232740cf"), looks := false }, kinds := [], alts := [], laidByText := true, laidKinds := [.data], laidTests := true, laidLooks := .later }
def GaussOrderCardSaid : Prop := Claim7.holds Tryd.pinned (.plain (OpenSpec.ofChange gaussOrderSpec)) gaussOrderCard

/-- THE TIED CARD OF 'mosaiclaw12.GaussMore'. -/
def gaussMoreCard : Claim7 := { stood := { row := gaussMoreRow, standIns := [], harness := (true, "8c616f2c619677bdff343486c5f103d095a9df08d72551a6a013f624232740cf"), looks := false }, kinds := [], alts := [], laidByText := true, laidKinds := [.data], laidTests := true, laidLooks := .later }
def GaussMoreCardSaid : Prop := Claim7.holds Tryd.pinned (.plain (OpenSpec.ofChange gaussMoreSpec)) gaussMoreCard

/-- THE TIED CARD OF 'mosaiclaw12.GaussTrue'. -/
def gaussTrueCard : Claim7 := { stood := { row := gaussTrueRow, standIns := [], harness := (true, "8c616f2c619677bdff343486c5f103d095a9df08d72551a6a013f624232740cf"), looks := false }, kinds := [], alts := [], laidByText := true, laidKinds := [.data], laidTests := true, laidLooks := .later }
def GaussTrueCardSaid : Prop := Claim7.holds Tryd.pinned (.plain (OpenSpec.ofChange gaussTrueSpec)) gaussTrueCard

/-- THE SECOND FORM's CARD OF 'mosaiclaw12.GaussReduces'. -/
def gaussReducesUptoCard : Claim7 := { stood := { row := gaussReducesUptoRow, standIns := [], harness := (true, "8c616f2c619677bdff343486c5f103d095a9df08d72551a6a013f624232740cf"), looks := false }, kinds := [], alts := [], laidByText := true, laidKinds := [.data], laidTests := true, laidLooks := .later }
def GaussReducesUptoCardSaid : Prop := Claim7.holds Tryd.pinned (.plain (OpenSpec.upto gaussReducesSpec)) gaussReducesUptoCard

/-- THE SECOND FORM's CARD OF 'mosaiclaw12.GaussSolves'. -/
def gaussSolvesUptoCard : Claim7 := { stood := { row := gaussSolvesUptoRow, standIns := [], harness := (true, "8c616f2c619677bdff343486c5f103d095a9df08d72551a6a013f624232740cf"), looks := false }, kinds := [], alts := [], laidByText := true, laidKinds := [.data], laidTests := true, laidLooks := .later }
def GaussSolvesUptoCardSaid : Prop := Claim7.holds Tryd.pinned (.plain (OpenSpec.upto gaussSolvesSpec)) gaussSolvesUptoCard

/-- THE SECOND FORM's CARD OF 'mosaiclaw12.GaussForm'. -/
def gaussFormUptoCard : Claim7 := { stood := { row := gaussFormUptoRow, standIns := [], harness := (true, "8c616f2c619677bdff343486c5f103d095a9df08d72551a6a013f624232740cf"), looks := false }, kinds := [], alts := [], laidByText := true, laidKinds := [.data], laidTests := true, laidLooks := .later }
def GaussFormUptoCardSaid : Prop := Claim7.holds Tryd.pinned (.plain (OpenSpec.upto gaussFormSpec)) gaussFormUptoCard

/-- THE SECOND FORM's CARD OF 'mosaiclaw12.GaussOrder'. -/
def gaussOrderUptoCard : Claim7 := { stood := { row := gaussOrderUptoRow, standIns := [], harness := (true, "8c616f2c619677bdff343486c5f103d095a9df08d72551a6a013f624232740cf"), looks := false }, kinds := [], alts := [], laidByText := true, laidKinds := [.data], laidTests := true, laidLooks := .later }
def GaussOrderUptoCardSaid : Prop := Claim7.holds Tryd.pinned (.plain (OpenSpec.upto gaussOrderSpec)) gaussOrderUptoCard

/-- THE SECOND FORM's CARD OF 'mosaiclaw12.GaussMore'. -/
def gaussMoreUptoCard : Claim7 := { stood := { row := gaussMoreUptoRow, standIns := [], harness := (true, "8c616f2c619677bdff343486c5f103d095a9df08d72551a6a013f624232740cf"), looks := false }, kinds := [], alts := [], laidByText := true, laidKinds := [.data], laidTests := true, laidLooks := .later }
def GaussMoreUptoCardSaid : Prop := Claim7.holds Tryd.pinned (.plain (OpenSpec.upto gaussMoreSpec)) gaussMoreUptoCard

/-- THE SECOND FORM's CARD OF 'mosaiclaw12.GaussTrue'. -/
def gaussTrueUptoCard : Claim7 := { stood := { row := gaussTrueUptoRow, standIns := [], harness := (true, "8c616f2c619677bdff343486c5f103d095a9df08d72551a6a013f624232740cf"), looks := false }, kinds := [], alts := [], laidByText := true, laidKinds := [.data], laidTests := true, laidLooks := .later }
def GaussTrueUptoCardSaid : Prop := Claim7.holds Tryd.pinned (.plain (OpenSpec.upto gaussTrueSpec)) gaussTrueUptoCard
end Rows
end Go.Proofs.YtpcndjnhpjhjkaaDoor
