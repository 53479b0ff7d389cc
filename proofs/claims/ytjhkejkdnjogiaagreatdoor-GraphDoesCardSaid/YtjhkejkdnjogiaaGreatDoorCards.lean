/-
  DERIVED. GIVEN WITH THE SEED: THE CARDS: each row of YtjhkejkdnjogiaaGreatDoorRows.lean that lists a variable, with what it lists TIED to the program's text (the seventh form; the later family's looks); each row that meets fmt, with fmt's text TOLD by the authors' own Lean function (tested against real Go, not proved from fmt's source: count such statements apart). THE CARD IS WHAT COUNTS. Prove the row's statement (the work); the ties are given (YtjhkejkdnjogiaaGreatDoorTie.lean); close each card by the builder's one call (the guide's Derived/Test/ToyasCard.lean, 'card_holds'). Laid BY PROGRAM, IN A SANDBOX (cutbox-door.mjs). By AI agents, Wed Nov 11 2026. No macro, syntax, notation, axiom, sorry.
-/
import Derived.Test.YtjhkejkdnjogiaaGreatDoorRows
import GoSem.ClaimSeven
namespace Go.Proofs.YtjhkejkdnjogiaaGreatDoor
namespace Rows

/-- THE TIED CARD OF 'escutcheonlaw14.GraphDoes'. -/
def graphDoesCard : Claim7 := { stood := { row := graphDoesRow, standIns := [], harness := (true, "bce149b13ea4e228bd3bee270fb0bf526b761ce926f408448a1a1c76ffa2566c"), looks := false }, kinds := [], alts := [], laidByText := true, laidKinds := [.data], laidTests := true, laidLooks := .later }
def GraphDoesCardSaid : Prop := Claim7.holds Tryz.pinned (.plain (OpenSpec.ofChange graphDoesSpec)) graphDoesCard

/-- THE TIED CARD OF 'escutcheonlaw14.GraphLists'. -/
def graphListsCard : Claim7 := { stood := { row := graphListsRow, standIns := [], harness := (true, "bce149b13ea4e228bd3bee270fb0bf526b761ce926f408448a1a1c76ffa2566c"), looks := false }, kinds := [], alts := [], laidByText := true, laidKinds := [.data], laidTests := true, laidLooks := .later }
def GraphListsCardSaid : Prop := Claim7.holds Tryz.pinned (.plain (OpenSpec.ofChange graphListsSpec)) graphListsCard

/-- THE TIED CARD OF 'escutcheonlaw14.GraphWaits'. -/
def graphWaitsCard : Claim7 := { stood := { row := graphWaitsRow, standIns := [], harness := (true, "bce149b13ea4e228bd3bee270fb0bf526b761ce926f408448a1a1c76ffa2566c"), looks := false }, kinds := [], alts := [], laidByText := true, laidKinds := [.data], laidTests := true, laidLooks := .later }
def GraphWaitsCardSaid : Prop := Claim7.holds Tryz.pinned (.plain (OpenSpec.ofChange graphWaitsSpec)) graphWaitsCard

/-- THE SECOND FORM's CARD OF 'escutcheonlaw14.GraphDoes'. -/
def graphDoesUptoCard : Claim7 := { stood := { row := graphDoesUptoRow, standIns := [], harness := (true, "bce149b13ea4e228bd3bee270fb0bf526b761ce926f408448a1a1c76ffa2566c"), looks := false }, kinds := [], alts := [], laidByText := true, laidKinds := [.data], laidTests := true, laidLooks := .later }
def GraphDoesUptoCardSaid : Prop := Claim7.holds Tryz.pinned (.plain (OpenSpec.upto graphDoesSpec)) graphDoesUptoCard

/-- THE SECOND FORM's CARD OF 'escutcheonlaw14.GraphLists'. -/
def graphListsUptoCard : Claim7 := { stood := { row := graphListsUptoRow, standIns := [], harness := (true, "bce149b13ea4e228bd3bee270fb0bf526b761ce926f408448a1a1c76ffa2566c"), looks := false }, kinds := [], alts := [], laidByText := true, laidKinds := [.data], laidTests := true, laidLooks := .later }
def GraphListsUptoCardSaid : Prop := Claim7.holds Tryz.pinned (.plain (OpenSpec.upto graphListsSpec)) graphListsUptoCard

/-- THE SECOND FORM's CARD OF 'escutcheonlaw14.GraphWaits'. -/
def graphWaitsUptoCard : Claim7 := { stood := { row := graphWaitsUptoRow, standIns := [], harness := (true, "bce149b13ea4e228bd3bee270fb0bf526b761ce926f408448a1a1c76ffa2566c"), looks := false }, kinds := [], alts := [], laidByText := true, laidKinds := [.data], laidTests := true, laidLooks := .later }
def GraphWaitsUptoCardSaid : Prop := Claim7.holds Tryz.pinned (.plain (OpenSpec.upto graphWaitsSpec)) graphWaitsUptoCard
end Rows
end Go.Proofs.YtjhkejkdnjogiaaGreatDoor
