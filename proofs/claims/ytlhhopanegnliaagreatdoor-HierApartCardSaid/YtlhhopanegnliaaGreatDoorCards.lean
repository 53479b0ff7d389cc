/-
  DERIVED. GIVEN WITH THE SEED: THE CARDS: each row of YtlhhopanegnliaaGreatDoorRows.lean that lists a variable, with what it lists TIED to the program's text (the seventh form; the later family's looks); each row that meets fmt, with fmt's text TOLD by the authors' own Lean function (tested against real Go, not proved from fmt's source: count such statements apart). THE CARD IS WHAT COUNTS. Prove the row's statement (the work); the ties are given (YtlhhopanegnliaaGreatDoorTie.lean); close each card by the builder's one call (the guide's Derived/Test/ToyasCard.lean, 'card_holds'). Laid BY PROGRAM, IN A SANDBOX (cutbox-door.mjs). By AI agents, Wed Nov 11 2026. No macro, syntax, notation, axiom, sorry.
-/
import Derived.Test.YtlhhopanegnliaaGreatDoorRows
import GoSem.ClaimSeven
namespace Go.Proofs.YtlhhopanegnliaaGreatDoor
namespace Rows

/-- THE TIED CARD OF 'escutcheonlaw19.HierDoes'. -/
def hierDoesCard : Claim7 := { stood := { row := hierDoesRow, standIns := [], harness := (true, "7b1477ca36baef9ba8bd64c78c8ed51ce93546670e34144c6fbea4dc6a0f75e8"), looks := false }, kinds := [], alts := [], laidByText := true, laidKinds := [.data], laidTests := true, laidLooks := .later }
def HierDoesCardSaid : Prop := Claim7.holds Tryz.pinned (.plain (OpenSpec.ofChange hierDoesSpec)) hierDoesCard

/-- THE TIED CARD OF 'escutcheonlaw19.HierApart'. -/
def hierApartCard : Claim7 := { stood := { row := hierApartRow, standIns := [], harness := (true, "7b1477ca36baef9ba8bd64c78c8ed51ce93546670e34144c6fbea4dc6a0f75e8"), looks := false }, kinds := [], alts := [], laidByText := true, laidKinds := [.data], laidTests := true, laidLooks := .later }
def HierApartCardSaid : Prop := Claim7.holds Tryz.pinned (.plain (OpenSpec.ofChange hierApartSpec)) hierApartCard

/-- THE TIED CARD OF 'escutcheonlaw19.HierFree'. -/
def hierFreeCard : Claim7 := { stood := { row := hierFreeRow, standIns := [], harness := (true, "7b1477ca36baef9ba8bd64c78c8ed51ce93546670e34144c6fbea4dc6a0f75e8"), looks := false }, kinds := [], alts := [], laidByText := true, laidKinds := [.data], laidTests := true, laidLooks := .later }
def HierFreeCardSaid : Prop := Claim7.holds Tryz.pinned (.plain (OpenSpec.ofChange hierFreeSpec)) hierFreeCard

/-- THE SECOND FORM's CARD OF 'escutcheonlaw19.HierDoes'. -/
def hierDoesUptoCard : Claim7 := { stood := { row := hierDoesUptoRow, standIns := [], harness := (true, "7b1477ca36baef9ba8bd64c78c8ed51ce93546670e34144c6fbea4dc6a0f75e8"), looks := false }, kinds := [], alts := [], laidByText := true, laidKinds := [.data], laidTests := true, laidLooks := .later }
def HierDoesUptoCardSaid : Prop := Claim7.holds Tryz.pinned (.plain (OpenSpec.upto hierDoesSpec)) hierDoesUptoCard

/-- THE SECOND FORM's CARD OF 'escutcheonlaw19.HierApart'. -/
def hierApartUptoCard : Claim7 := { stood := { row := hierApartUptoRow, standIns := [], harness := (true, "7b1477ca36baef9ba8bd64c78c8ed51ce93546670e34144c6fbea4dc6a0f75e8"), looks := false }, kinds := [], alts := [], laidByText := true, laidKinds := [.data], laidTests := true, laidLooks := .later }
def HierApartUptoCardSaid : Prop := Claim7.holds Tryz.pinned (.plain (OpenSpec.upto hierApartSpec)) hierApartUptoCard

/-- THE SECOND FORM's CARD OF 'escutcheonlaw19.HierFree'. -/
def hierFreeUptoCard : Claim7 := { stood := { row := hierFreeUptoRow, standIns := [], harness := (true, "7b1477ca36baef9ba8bd64c78c8ed51ce93546670e34144c6fbea4dc6a0f75e8"), looks := false }, kinds := [], alts := [], laidByText := true, laidKinds := [.data], laidTests := true, laidLooks := .later }
def HierFreeUptoCardSaid : Prop := Claim7.holds Tryz.pinned (.plain (OpenSpec.upto hierFreeSpec)) hierFreeUptoCard
end Rows
end Go.Proofs.YtlhhopanegnliaaGreatDoor
