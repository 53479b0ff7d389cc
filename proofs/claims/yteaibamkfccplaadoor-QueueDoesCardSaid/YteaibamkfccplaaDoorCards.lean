/-
  DERIVED. GIVEN WITH THE SEED: THE CARDS: each row of YteaibamkfccplaaDoorRows.lean that lists a variable, with what it lists TIED to the program's text (the seventh form; the later family's looks); each row that meets fmt, with fmt's text TOLD by the authors' own Lean function (tested against real Go, not proved from fmt's source: count such statements apart). THE CARD IS WHAT COUNTS. Prove the row's statement (the work); the ties are given (YteaibamkfccplaaDoorTie.lean); close each card by the builder's one call (the guide's Derived/Test/ToyasCard.lean, 'card_holds'). Laid BY PROGRAM, IN A SANDBOX (cutbox-door.mjs). By AI agents, Wed Nov 11 2026. No macro, syntax, notation, axiom, sorry.
-/
import Derived.Test.YteaibamkfccplaaDoorRows
import GoSem.ClaimSeven
namespace Go.Proofs.YteaibamkfccplaaDoor
namespace Rows

/-- THE TIED CARD OF 'escutcheonlaw12.QueueDoes'. -/
def queueDoesCard : Claim7 := { stood := { row := queueDoesRow, standIns := [], harness := (true, "0c28cd02e26a4cbf2704daff613b2260b71544a6a558094c373b16e01a11478c"), looks := false }, kinds := [], alts := [], laidByText := true, laidKinds := [.data], laidTests := true, laidLooks := .later }
def QueueDoesCardSaid : Prop := Claim7.holds Tryd.pinned (.plain (OpenSpec.ofChange queueDoesSpec)) queueDoesCard

/-- THE TIED CARD OF 'escutcheonlaw12.QueueRight'. -/
def queueRightCard : Claim7 := { stood := { row := queueRightRow, standIns := [], harness := (true, "0c28cd02e26a4cbf2704daff613b2260b71544a6a558094c373b16e01a11478c"), looks := false }, kinds := [], alts := [], laidByText := true, laidKinds := [.data], laidTests := true, laidLooks := .later }
def QueueRightCardSaid : Prop := Claim7.holds Tryd.pinned (.plain (OpenSpec.ofChange queueRightSpec)) queueRightCard

/-- THE TIED CARD OF 'escutcheonlaw12.QueueTurn'. -/
def queueTurnCard : Claim7 := { stood := { row := queueTurnRow, standIns := [], harness := (true, "0c28cd02e26a4cbf2704daff613b2260b71544a6a558094c373b16e01a11478c"), looks := false }, kinds := [], alts := [], laidByText := true, laidKinds := [.data], laidTests := true, laidLooks := .later }
def QueueTurnCardSaid : Prop := Claim7.holds Tryd.pinned (.plain (OpenSpec.ofChange queueTurnSpec)) queueTurnCard

/-- THE TIED CARD OF 'escutcheonlaw12.QueueAlone'. -/
def queueAloneCard : Claim7 := { stood := { row := queueAloneRow, standIns := [], harness := (true, "0c28cd02e26a4cbf2704daff613b2260b71544a6a558094c373b16e01a11478c"), looks := false }, kinds := [], alts := [], laidByText := true, laidKinds := [.data], laidTests := true, laidLooks := .later }
def QueueAloneCardSaid : Prop := Claim7.holds Tryd.pinned (.plain (OpenSpec.ofChange queueAloneSpec)) queueAloneCard

/-- THE SECOND FORM's CARD OF 'escutcheonlaw12.QueueDoes'. -/
def queueDoesUptoCard : Claim7 := { stood := { row := queueDoesUptoRow, standIns := [], harness := (true, "0c28cd02e26a4cbf2704daff613b2260b71544a6a558094c373b16e01a11478c"), looks := false }, kinds := [], alts := [], laidByText := true, laidKinds := [.data], laidTests := true, laidLooks := .later }
def QueueDoesUptoCardSaid : Prop := Claim7.holds Tryd.pinned (.plain (OpenSpec.upto queueDoesSpec)) queueDoesUptoCard

/-- THE SECOND FORM's CARD OF 'escutcheonlaw12.QueueRight'. -/
def queueRightUptoCard : Claim7 := { stood := { row := queueRightUptoRow, standIns := [], harness := (true, "0c28cd02e26a4cbf2704daff613b2260b71544a6a558094c373b16e01a11478c"), looks := false }, kinds := [], alts := [], laidByText := true, laidKinds := [.data], laidTests := true, laidLooks := .later }
def QueueRightUptoCardSaid : Prop := Claim7.holds Tryd.pinned (.plain (OpenSpec.upto queueRightSpec)) queueRightUptoCard

/-- THE SECOND FORM's CARD OF 'escutcheonlaw12.QueueTurn'. -/
def queueTurnUptoCard : Claim7 := { stood := { row := queueTurnUptoRow, standIns := [], harness := (true, "0c28cd02e26a4cbf2704daff613b2260b71544a6a558094c373b16e01a11478c"), looks := false }, kinds := [], alts := [], laidByText := true, laidKinds := [.data], laidTests := true, laidLooks := .later }
def QueueTurnUptoCardSaid : Prop := Claim7.holds Tryd.pinned (.plain (OpenSpec.upto queueTurnSpec)) queueTurnUptoCard

/-- THE SECOND FORM's CARD OF 'escutcheonlaw12.QueueAlone'. -/
def queueAloneUptoCard : Claim7 := { stood := { row := queueAloneUptoRow, standIns := [], harness := (true, "0c28cd02e26a4cbf2704daff613b2260b71544a6a558094c373b16e01a11478c"), looks := false }, kinds := [], alts := [], laidByText := true, laidKinds := [.data], laidTests := true, laidLooks := .later }
def QueueAloneUptoCardSaid : Prop := Claim7.holds Tryd.pinned (.plain (OpenSpec.upto queueAloneSpec)) queueAloneUptoCard
end Rows
end Go.Proofs.YteaibamkfccplaaDoor
