/-
  DERIVED. GIVEN WITH THE SEED: THE CARDS: each row of YtagbfonmeolnjaaDoorRows.lean that lists a variable, with what it lists TIED to the program's text (the seventh form; the later family's looks); each row that meets fmt, with fmt's text TOLD by the authors' own Lean function (tested against real Go, not proved from fmt's source: count such statements apart). THE CARD IS WHAT COUNTS. Prove the row's statement (the work); the ties are given (YtagbfonmeolnjaaDoorTie.lean); close each card by the builder's one call (the guide's Derived/Test/ToyasCard.lean, 'card_holds'). Laid BY PROGRAM, IN A SANDBOX (cutbox-door.mjs). By AI agents, Wed Nov 11 2026. No macro, syntax, notation, axiom, sorry.
-/
import Derived.Test.YtagbfonmeolnjaaDoorRows
import GoSem.ClaimSeven
namespace Go.Proofs.YtagbfonmeolnjaaDoor
namespace Rows

/-- THE TIED CARD OF 'escutcheonlaw01.ModeTables'. -/
def modeTablesCard : Claim7 := { stood := { row := modeTablesRow, standIns := [], harness := (true, "216d499f8ab039e4909d3b3602d9b2076fc1afc764a01f76074d89ed47fbc546"), looks := false }, kinds := [], alts := [], laidByText := true, laidKinds := [.data, .data], laidTests := true, laidLooks := .later }
def ModeTablesCardSaid : Prop := Claim7.holds Tryd.pinned (.plain (OpenSpec.ofChange modeTablesSpec)) modeTablesCard

/-- THE TIED CARD OF 'escutcheonlaw01.ModeLattice'. -/
def modeLatticeCard : Claim7 := { stood := { row := modeLatticeRow, standIns := [], harness := (true, "216d499f8ab039e4909d3b3602d9b2076fc1afc764a01f76074d89ed47fbc546"), looks := false }, kinds := [], alts := [], laidByText := true, laidKinds := [.data], laidTests := true, laidLooks := .later }
def ModeLatticeCardSaid : Prop := Claim7.holds Tryd.pinned (.plain (OpenSpec.ofChange modeLatticeSpec)) modeLatticeCard

/-- THE TIED CARD OF 'escutcheonlaw01.ModeLess'. -/
def modeLessCard : Claim7 := { stood := { row := modeLessRow, standIns := [], harness := (true, "216d499f8ab039e4909d3b3602d9b2076fc1afc764a01f76074d89ed47fbc546"), looks := false }, kinds := [], alts := [], laidByText := true, laidKinds := [.data], laidTests := true, laidLooks := .later }
def ModeLessCardSaid : Prop := Claim7.holds Tryd.pinned (.plain (OpenSpec.ofChange modeLessSpec)) modeLessCard

/-- THE TIED CARD OF 'escutcheonlaw01.ModeGroups'. -/
def modeGroupsCard : Claim7 := { stood := { row := modeGroupsRow, standIns := [], harness := (true, "216d499f8ab039e4909d3b3602d9b2076fc1afc764a01f76074d89ed47fbc546"), looks := false }, kinds := [], alts := [], laidByText := true, laidKinds := [.data], laidTests := true, laidLooks := .later }
def ModeGroupsCardSaid : Prop := Claim7.holds Tryd.pinned (.plain (OpenSpec.ofChange modeGroupsSpec)) modeGroupsCard

/-- THE TIED CARD OF 'escutcheonlaw01.ModeParents'. -/
def modeParentsCard : Claim7 := { stood := { row := modeParentsRow, standIns := [], harness := (true, "216d499f8ab039e4909d3b3602d9b2076fc1afc764a01f76074d89ed47fbc546"), looks := false }, kinds := [], alts := [], laidByText := true, laidKinds := [.data, .data], laidTests := true, laidLooks := .later }
def ModeParentsCardSaid : Prop := Claim7.holds Tryd.pinned (.plain (OpenSpec.ofChange modeParentsSpec)) modeParentsCard

/-- THE SECOND FORM's CARD OF 'escutcheonlaw01.ModeTables'. -/
def modeTablesUptoCard : Claim7 := { stood := { row := modeTablesUptoRow, standIns := [], harness := (true, "216d499f8ab039e4909d3b3602d9b2076fc1afc764a01f76074d89ed47fbc546"), looks := false }, kinds := [], alts := [], laidByText := true, laidKinds := [.data, .data], laidTests := true, laidLooks := .later }
def ModeTablesUptoCardSaid : Prop := Claim7.holds Tryd.pinned (.plain (OpenSpec.upto modeTablesSpec)) modeTablesUptoCard

/-- THE SECOND FORM's CARD OF 'escutcheonlaw01.ModeLattice'. -/
def modeLatticeUptoCard : Claim7 := { stood := { row := modeLatticeUptoRow, standIns := [], harness := (true, "216d499f8ab039e4909d3b3602d9b2076fc1afc764a01f76074d89ed47fbc546"), looks := false }, kinds := [], alts := [], laidByText := true, laidKinds := [.data], laidTests := true, laidLooks := .later }
def ModeLatticeUptoCardSaid : Prop := Claim7.holds Tryd.pinned (.plain (OpenSpec.upto modeLatticeSpec)) modeLatticeUptoCard

/-- THE SECOND FORM's CARD OF 'escutcheonlaw01.ModeLess'. -/
def modeLessUptoCard : Claim7 := { stood := { row := modeLessUptoRow, standIns := [], harness := (true, "216d499f8ab039e4909d3b3602d9b2076fc1afc764a01f76074d89ed47fbc546"), looks := false }, kinds := [], alts := [], laidByText := true, laidKinds := [.data], laidTests := true, laidLooks := .later }
def ModeLessUptoCardSaid : Prop := Claim7.holds Tryd.pinned (.plain (OpenSpec.upto modeLessSpec)) modeLessUptoCard

/-- THE SECOND FORM's CARD OF 'escutcheonlaw01.ModeGroups'. -/
def modeGroupsUptoCard : Claim7 := { stood := { row := modeGroupsUptoRow, standIns := [], harness := (true, "216d499f8ab039e4909d3b3602d9b2076fc1afc764a01f76074d89ed47fbc546"), looks := false }, kinds := [], alts := [], laidByText := true, laidKinds := [.data], laidTests := true, laidLooks := .later }
def ModeGroupsUptoCardSaid : Prop := Claim7.holds Tryd.pinned (.plain (OpenSpec.upto modeGroupsSpec)) modeGroupsUptoCard

/-- THE SECOND FORM's CARD OF 'escutcheonlaw01.ModeParents'. -/
def modeParentsUptoCard : Claim7 := { stood := { row := modeParentsUptoRow, standIns := [], harness := (true, "216d499f8ab039e4909d3b3602d9b2076fc1afc764a01f76074d89ed47fbc546"), looks := false }, kinds := [], alts := [], laidByText := true, laidKinds := [.data, .data], laidTests := true, laidLooks := .later }
def ModeParentsUptoCardSaid : Prop := Claim7.holds Tryd.pinned (.plain (OpenSpec.upto modeParentsSpec)) modeParentsUptoCard
end Rows
end Go.Proofs.YtagbfonmeolnjaaDoor
