/-
  DERIVED. GIVEN WITH THE SEED: THE CARDS: each row of YtfapgecpndlibaaDoorRows.lean that lists a variable, with what it lists TIED to the program's text (the seventh form; the later family's looks); each row that meets fmt, with fmt's text TOLD by the authors' own Lean function (tested against real Go, not proved from fmt's source: count such statements apart). THE CARD IS WHAT COUNTS. Prove the row's statement (the work); the ties are given (YtfapgecpndlibaaDoorTie.lean); close each card by the builder's one call (the guide's Derived/Test/ToyasCard.lean, 'card_holds'). Laid BY PROGRAM, IN A SANDBOX (cutbox-door.mjs). By AI agents, Wed Nov 11 2026. No macro, syntax, notation, axiom, sorry.
-/
import Derived.Test.YtfapgecpndlibaaDoorRows
import GoSem.ClaimSeven
namespace Go.Proofs.YtfapgecpndlibaaDoor
namespace Rows

/-- THE TIED CARD OF 'escutcheonlaw11.GroupDoes'. -/
def groupDoesCard : Claim7 := { stood := { row := groupDoesRow, standIns := [], harness := (true, "6ed4b0f6d81d7f141e24fbea6b35314ab2f00e2240602d659acdd460a4a626d5"), looks := false }, kinds := [], alts := [], laidByText := true, laidKinds := [.data], laidTests := true, laidLooks := .later }
def GroupDoesCardSaid : Prop := Claim7.holds Tryd.pinned (.plain (OpenSpec.ofChange groupDoesSpec)) groupDoesCard

/-- THE TIED CARD OF 'escutcheonlaw11.GroupStays'. -/
def groupStaysCard : Claim7 := { stood := { row := groupStaysRow, standIns := [], harness := (true, "6ed4b0f6d81d7f141e24fbea6b35314ab2f00e2240602d659acdd460a4a626d5"), looks := false }, kinds := [], alts := [], laidByText := true, laidKinds := [.data], laidTests := true, laidLooks := .later }
def GroupStaysCardSaid : Prop := Claim7.holds Tryd.pinned (.plain (OpenSpec.ofChange groupStaysSpec)) groupStaysCard

/-- THE TIED CARD OF 'escutcheonlaw11.GroupLess'. -/
def groupLessCard : Claim7 := { stood := { row := groupLessRow, standIns := [], harness := (true, "6ed4b0f6d81d7f141e24fbea6b35314ab2f00e2240602d659acdd460a4a626d5"), looks := false }, kinds := [], alts := [], laidByText := true, laidKinds := [.data], laidTests := true, laidLooks := .later }
def GroupLessCardSaid : Prop := Claim7.holds Tryd.pinned (.plain (OpenSpec.ofChange groupLessSpec)) groupLessCard

/-- THE SECOND FORM's CARD OF 'escutcheonlaw11.GroupDoes'. -/
def groupDoesUptoCard : Claim7 := { stood := { row := groupDoesUptoRow, standIns := [], harness := (true, "6ed4b0f6d81d7f141e24fbea6b35314ab2f00e2240602d659acdd460a4a626d5"), looks := false }, kinds := [], alts := [], laidByText := true, laidKinds := [.data], laidTests := true, laidLooks := .later }
def GroupDoesUptoCardSaid : Prop := Claim7.holds Tryd.pinned (.plain (OpenSpec.upto groupDoesSpec)) groupDoesUptoCard

/-- THE SECOND FORM's CARD OF 'escutcheonlaw11.GroupStays'. -/
def groupStaysUptoCard : Claim7 := { stood := { row := groupStaysUptoRow, standIns := [], harness := (true, "6ed4b0f6d81d7f141e24fbea6b35314ab2f00e2240602d659acdd460a4a626d5"), looks := false }, kinds := [], alts := [], laidByText := true, laidKinds := [.data], laidTests := true, laidLooks := .later }
def GroupStaysUptoCardSaid : Prop := Claim7.holds Tryd.pinned (.plain (OpenSpec.upto groupStaysSpec)) groupStaysUptoCard

/-- THE SECOND FORM's CARD OF 'escutcheonlaw11.GroupLess'. -/
def groupLessUptoCard : Claim7 := { stood := { row := groupLessUptoRow, standIns := [], harness := (true, "6ed4b0f6d81d7f141e24fbea6b35314ab2f00e2240602d659acdd460a4a626d5"), looks := false }, kinds := [], alts := [], laidByText := true, laidKinds := [.data], laidTests := true, laidLooks := .later }
def GroupLessUptoCardSaid : Prop := Claim7.holds Tryd.pinned (.plain (OpenSpec.upto groupLessSpec)) groupLessUptoCard
end Rows
end Go.Proofs.YtfapgecpndlibaaDoor
