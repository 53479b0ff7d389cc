/-
  NARROWER THAN 'FOR EVERY INPUT', by the rows' own cells (each row's printed sentence says how): ModeTables: laid · ModeLattice: laid · ModeLess: laid · ModeGroups: laid · ModeParents: laid.
  DERIVED. THE GIVEN ROWS OF THIS SEAT. 5 by the template 'for every input the law returns true; each argument reads behind the call as it read before'; 0 by the template 'total and deterministic' (their statements: YtagbfonmeolnjaaDoorTotals.lean).
  GIVEN WITH THE SEED: the statements are not yours to turn. If you find one false, say at which input.
  Laid BY PROGRAM, IN A SANDBOX (cutbox-rows.mjs): the forced cells as the released guide's own fill.sh prints them over the translation 79c02a8e153db91e… (all of the seat's roots in one cut). By AI agents, Wed Nov 11 2026. No macro, syntax, notation, axiom, sorry.
-/
import Derived.Test.YtagbfonmeolnjaaDoorChecked
import GoSem.Claim
import GoSem.ClaimJoined
import GoSem.ClaimMapViews
import Derived.JoinedTies
import Derived.KernelRfl
namespace Go.Proofs.YtagbfonmeolnjaaDoor
/- THE CELL 'sum', in the pinned program and in every row, IS THE sha256 OF THE DUMP (.gsa) THAT YtagbfonmeolnjaaDoorProg.lean LOADS. Nothing in Lean hashes anything: it is a label: what it is worth is what the hold of that sum in a sandbox is worth. -/
noncomputable def Tryd.pinned : Pinned := { name := "ytagbfonmeolnjaadoor", sum := "79c02a8e153db91ea4e54c3f6a76843146e44d49f604323dd83b15f9aa24f133", checked := Tryd.checked }
namespace Rows
def none {H : Type} : Left H := { results := [], args := [] }

/- WHAT THE LISTED PACKAGE-LEVEL VARIABLES READ AS WHEN THE CALL BEGINS. Each datum BY PROGRAM (the guide's laid-datum.mjs) off the statement by which the dump's own 'gosem.cut.vars' lays the variable. In a bare row this is a premise. The card (YtagbfonmeolnjaaDoorCards.lean) ties it to the program's text. -/
def laid_escutcheon_mode_goes {H : Type} : DataW H := .agg [.agg [.lit (.bool true), .lit (.bool true), .lit (.bool true), .lit (.bool true), .lit (.bool true), .lit (.bool true), .lit (.bool true)], .agg [.lit (.bool true), .lit (.bool true), .lit (.bool true), .lit (.bool true), .lit (.bool true), .lit (.bool true), .lit (.bool false)], .agg [.lit (.bool true), .lit (.bool true), .lit (.bool true), .lit (.bool false), .lit (.bool false), .lit (.bool false), .lit (.bool false)], .agg [.lit (.bool true), .lit (.bool true), .lit (.bool false), .lit (.bool true), .lit (.bool false), .lit (.bool true), .lit (.bool false)], .agg [.lit (.bool true), .lit (.bool true), .lit (.bool false), .lit (.bool false), .lit (.bool false), .lit (.bool false), .lit (.bool false)], .agg [.lit (.bool true), .lit (.bool true), .lit (.bool false), .lit (.bool false), .lit (.bool false), .lit (.bool false), .lit (.bool false)], .agg [.lit (.bool true), .lit (.bool false), .lit (.bool false), .lit (.bool false), .lit (.bool false), .lit (.bool false), .lit (.bool false)]]
def laid_escutcheon_mode_names {H : Type} : DataW H := .agg [.lit (.string [110, 111, 110, 101]), .lit (.string [73, 83]), .lit (.string [73, 88]), .lit (.string [83]), .lit (.string [83, 73, 88]), .lit (.string [85]), .lit (.string [88])]

/-- 'escutcheonlaw01.ModeTables': WHATEVER THE INPUT: true; the input reads as it did. -/
def modeTablesSpec : ChangeSpec := { name := "modeTables", fn := fun _ => fun
  | [d1, d2, d3] => { results := [.lit (.bool true)], args := [d1, d2, d3] }
  | _ => none }
def modeTablesRow : OpenClaim := { program := "ytagbfonmeolnjaadoor", sum := "79c02a8e153db91ea4e54c3f6a76843146e44d49f604323dd83b15f9aa24f133", func := "escutcheon/escutcheonlaw01.ModeTables", spec := "modeTables", named := ["escutcheon/mode.goes", "escutcheon/mode.names"], apart := false, laid := [("escutcheon/mode.goes", laid_escutcheon_mode_goes), ("escutcheon/mode.names", laid_escutcheon_mode_names)] }
def ModeTablesSaid : Prop := modeTablesRow.holds Tryd.pinned (OpenSpec.ofChange modeTablesSpec)

/-- ITS FALSE NEIGHBOUR: 'it returns false'. Refute it at one input. -/
def modeTablesWrong : ChangeSpec := { name := "modeTables", fn := fun _ => fun
  | [d1, d2, d3] => { results := [.lit (.bool false)], args := [d1, d2, d3] }
  | _ => none }
def ModeTablesWrongFalsely : Prop := modeTablesRow.holds Tryd.pinned (OpenSpec.ofChange modeTablesWrong)

/-- 'escutcheonlaw01.ModeLattice': WHATEVER THE INPUT: true; the input reads as it did. -/
def modeLatticeSpec : ChangeSpec := { name := "modeLattice", fn := fun _ => fun
  | [d1, d2, d3] => { results := [.lit (.bool true)], args := [d1, d2, d3] }
  | _ => none }
def modeLatticeRow : OpenClaim := { program := "ytagbfonmeolnjaadoor", sum := "79c02a8e153db91ea4e54c3f6a76843146e44d49f604323dd83b15f9aa24f133", func := "escutcheon/escutcheonlaw01.ModeLattice", spec := "modeLattice", named := ["escutcheon/mode.goes"], apart := false, laid := [("escutcheon/mode.goes", laid_escutcheon_mode_goes)] }
def ModeLatticeSaid : Prop := modeLatticeRow.holds Tryd.pinned (OpenSpec.ofChange modeLatticeSpec)

/-- ITS FALSE NEIGHBOUR: 'it returns false'. Refute it at one input. -/
def modeLatticeWrong : ChangeSpec := { name := "modeLattice", fn := fun _ => fun
  | [d1, d2, d3] => { results := [.lit (.bool false)], args := [d1, d2, d3] }
  | _ => none }
def ModeLatticeWrongFalsely : Prop := modeLatticeRow.holds Tryd.pinned (OpenSpec.ofChange modeLatticeWrong)

/-- 'escutcheonlaw01.ModeLess': WHATEVER THE INPUT: true; the input reads as it did. -/
def modeLessSpec : ChangeSpec := { name := "modeLess", fn := fun _ => fun
  | [d1, d2, d3] => { results := [.lit (.bool true)], args := [d1, d2, d3] }
  | _ => none }
def modeLessRow : OpenClaim := { program := "ytagbfonmeolnjaadoor", sum := "79c02a8e153db91ea4e54c3f6a76843146e44d49f604323dd83b15f9aa24f133", func := "escutcheon/escutcheonlaw01.ModeLess", spec := "modeLess", named := ["escutcheon/mode.goes"], apart := false, laid := [("escutcheon/mode.goes", laid_escutcheon_mode_goes)] }
def ModeLessSaid : Prop := modeLessRow.holds Tryd.pinned (OpenSpec.ofChange modeLessSpec)

/-- ITS FALSE NEIGHBOUR: 'it returns false'. Refute it at one input. -/
def modeLessWrong : ChangeSpec := { name := "modeLess", fn := fun _ => fun
  | [d1, d2, d3] => { results := [.lit (.bool false)], args := [d1, d2, d3] }
  | _ => none }
def ModeLessWrongFalsely : Prop := modeLessRow.holds Tryd.pinned (OpenSpec.ofChange modeLessWrong)

/-- 'escutcheonlaw01.ModeGroups': WHATEVER THE INPUT: true; the input reads as it did. -/
def modeGroupsSpec : ChangeSpec := { name := "modeGroups", fn := fun _ => fun
  | [d1, d2] => { results := [.lit (.bool true)], args := [d1, d2] }
  | _ => none }
def modeGroupsRow : OpenClaim := { program := "ytagbfonmeolnjaadoor", sum := "79c02a8e153db91ea4e54c3f6a76843146e44d49f604323dd83b15f9aa24f133", func := "escutcheon/escutcheonlaw01.ModeGroups", spec := "modeGroups", named := ["escutcheon/mode.goes"], apart := false, laid := [("escutcheon/mode.goes", laid_escutcheon_mode_goes)] }
def ModeGroupsSaid : Prop := modeGroupsRow.holds Tryd.pinned (OpenSpec.ofChange modeGroupsSpec)

/-- ITS FALSE NEIGHBOUR: 'it returns false'. Refute it at one input. -/
def modeGroupsWrong : ChangeSpec := { name := "modeGroups", fn := fun _ => fun
  | [d1, d2] => { results := [.lit (.bool false)], args := [d1, d2] }
  | _ => none }
def ModeGroupsWrongFalsely : Prop := modeGroupsRow.holds Tryd.pinned (OpenSpec.ofChange modeGroupsWrong)

/-- 'escutcheonlaw01.ModeParents': WHATEVER THE INPUT: true; the input reads as it did. -/
def modeParentsSpec : ChangeSpec := { name := "modeParents", fn := fun _ => fun
  | [d1, d2] => { results := [.lit (.bool true)], args := [d1, d2] }
  | _ => none }
def modeParentsRow : OpenClaim := { program := "ytagbfonmeolnjaadoor", sum := "79c02a8e153db91ea4e54c3f6a76843146e44d49f604323dd83b15f9aa24f133", func := "escutcheon/escutcheonlaw01.ModeParents", spec := "modeParents", named := ["escutcheon/mode.goes", "escutcheon/mode.names"], apart := false, laid := [("escutcheon/mode.goes", laid_escutcheon_mode_goes), ("escutcheon/mode.names", laid_escutcheon_mode_names)] }
def ModeParentsSaid : Prop := modeParentsRow.holds Tryd.pinned (OpenSpec.ofChange modeParentsSpec)

/-- ITS FALSE NEIGHBOUR: 'it returns false'. Refute it at one input. -/
def modeParentsWrong : ChangeSpec := { name := "modeParents", fn := fun _ => fun
  | [d1, d2] => { results := [.lit (.bool false)], args := [d1, d2] }
  | _ => none }
def ModeParentsWrongFalsely : Prop := modeParentsRow.holds Tryd.pinned (OpenSpec.ofChange modeParentsWrong)

/- THE SECOND FORM. 'bulk': how many values and letters a reading holds, each counted each time it is reached (what is shared counts as often as it is met; a slice's spare places count too). A statement '..UptoSaid' is the law's where the arguments, and the package variables that the reading takes, are together of bulk at most 1048576: NARROWER than '..Said'. Prove '..Said' where nothing that the law and all that it calls make is longer than what came in: it says more and counts as full. Else prove '..UptoSaid'. A law counts once. -/
mutual
def uptoBulk {H : Type} : DataW H → Nat
  | .lit (.string bytes) => bytes.length + 1
  | .lit _ => 1
  | .nil => 1
  | .ptr d => uptoBulk d + 1
  | .slice elems spare => uptoBulkAll elems + uptoBulkAll spare + 1
  | .agg parts => uptoBulkAll parts + 1
  | .iface _ d => uptoBulk d + 1
  | .map entries => uptoBulkEntries entries + 1
  | .held _ => 1
def uptoBulkAll {H : Type} : List (DataW H) → Nat
  | [] => 0
  | d :: r => uptoBulk d + uptoBulkAll r
def uptoBulkEntries {H : Type} : List (Lit × DataW H) → Nat
  | [] => 0
  | x :: r => uptoBulkEntry x + uptoBulkEntries r
def uptoBulkEntry {H : Type} : Lit × DataW H → Nat
  | (.string bytes, d) => bytes.length + uptoBulk d + 1
  | (_, d) => uptoBulk d + 1
 end
def uptoSmall : (H : Type) → List (DataW H) → Bool := fun _ ds => decide (uptoBulkAll ds ≤ 1048576)
def OpenSpec.upto (s : _root_.Go.ChangeSpec) : _root_.Go.OpenSpec := { _root_.Go.OpenSpec.ofChange s with cond := some uptoSmall }

/-- 'escutcheonlaw01.ModeTables', WHERE WHAT IT READS IS OF BULK AT MOST 1048576: true; the input reads as it did. -/
def modeTablesUptoRow : OpenClaim := { program := "ytagbfonmeolnjaadoor", sum := "79c02a8e153db91ea4e54c3f6a76843146e44d49f604323dd83b15f9aa24f133", func := "escutcheon/escutcheonlaw01.ModeTables", spec := "modeTables", named := ["escutcheon/mode.goes", "escutcheon/mode.names"], apart := false, laid := [("escutcheon/mode.goes", laid_escutcheon_mode_goes), ("escutcheon/mode.names", laid_escutcheon_mode_names)], narrowed := true }
def ModeTablesUptoSaid : Prop := modeTablesUptoRow.holds Tryd.pinned (OpenSpec.upto modeTablesSpec)

/-- 'escutcheonlaw01.ModeLattice', WHERE WHAT IT READS IS OF BULK AT MOST 1048576: true; the input reads as it did. -/
def modeLatticeUptoRow : OpenClaim := { program := "ytagbfonmeolnjaadoor", sum := "79c02a8e153db91ea4e54c3f6a76843146e44d49f604323dd83b15f9aa24f133", func := "escutcheon/escutcheonlaw01.ModeLattice", spec := "modeLattice", named := ["escutcheon/mode.goes"], apart := false, laid := [("escutcheon/mode.goes", laid_escutcheon_mode_goes)], narrowed := true }
def ModeLatticeUptoSaid : Prop := modeLatticeUptoRow.holds Tryd.pinned (OpenSpec.upto modeLatticeSpec)

/-- 'escutcheonlaw01.ModeLess', WHERE WHAT IT READS IS OF BULK AT MOST 1048576: true; the input reads as it did. -/
def modeLessUptoRow : OpenClaim := { program := "ytagbfonmeolnjaadoor", sum := "79c02a8e153db91ea4e54c3f6a76843146e44d49f604323dd83b15f9aa24f133", func := "escutcheon/escutcheonlaw01.ModeLess", spec := "modeLess", named := ["escutcheon/mode.goes"], apart := false, laid := [("escutcheon/mode.goes", laid_escutcheon_mode_goes)], narrowed := true }
def ModeLessUptoSaid : Prop := modeLessUptoRow.holds Tryd.pinned (OpenSpec.upto modeLessSpec)

/-- 'escutcheonlaw01.ModeGroups', WHERE WHAT IT READS IS OF BULK AT MOST 1048576: true; the input reads as it did. -/
def modeGroupsUptoRow : OpenClaim := { program := "ytagbfonmeolnjaadoor", sum := "79c02a8e153db91ea4e54c3f6a76843146e44d49f604323dd83b15f9aa24f133", func := "escutcheon/escutcheonlaw01.ModeGroups", spec := "modeGroups", named := ["escutcheon/mode.goes"], apart := false, laid := [("escutcheon/mode.goes", laid_escutcheon_mode_goes)], narrowed := true }
def ModeGroupsUptoSaid : Prop := modeGroupsUptoRow.holds Tryd.pinned (OpenSpec.upto modeGroupsSpec)

/-- 'escutcheonlaw01.ModeParents', WHERE WHAT IT READS IS OF BULK AT MOST 1048576: true; the input reads as it did. -/
def modeParentsUptoRow : OpenClaim := { program := "ytagbfonmeolnjaadoor", sum := "79c02a8e153db91ea4e54c3f6a76843146e44d49f604323dd83b15f9aa24f133", func := "escutcheon/escutcheonlaw01.ModeParents", spec := "modeParents", named := ["escutcheon/mode.goes", "escutcheon/mode.names"], apart := false, laid := [("escutcheon/mode.goes", laid_escutcheon_mode_goes), ("escutcheon/mode.names", laid_escutcheon_mode_names)], narrowed := true }
def ModeParentsUptoSaid : Prop := modeParentsUptoRow.holds Tryd.pinned (OpenSpec.upto modeParentsSpec)

end Rows
end Go.Proofs.YtagbfonmeolnjaaDoor
