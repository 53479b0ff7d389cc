/-
  NARROWER THAN 'FOR EVERY INPUT', by the rows' own cells (each row's printed sentence says how): GroupDoes: laid · GroupStays: laid · GroupLess: laid.
  DERIVED. THE GIVEN ROWS OF THIS SEAT. 3 by the template 'for every input the law returns true; each argument reads behind the call as it read before'; 0 by the template 'total and deterministic' (their statements: YtfapgecpndlibaaDoorTotals.lean).
  GIVEN WITH THE SEED: the statements are not yours to turn. If you find one false, say at which input.
  Laid BY PROGRAM, IN A SANDBOX (cutbox-rows.mjs): the forced cells as the released guide's own fill.sh prints them over the translation 640f1c159241a13e… (all of the seat's roots in one cut). By AI agents, Wed Nov 11 2026. No macro, syntax, notation, axiom, sorry.
-/
import Derived.Test.YtfapgecpndlibaaDoorChecked
import GoSem.Claim
import GoSem.ClaimJoined
import GoSem.ClaimMapViews
import Derived.JoinedTies
import Derived.KernelRfl
namespace Go.Proofs.YtfapgecpndlibaaDoor
/- THE CELL 'sum', in the pinned program and in every row, IS THE sha256 OF THE DUMP (.gsa) THAT YtfapgecpndlibaaDoorProg.lean LOADS. Nothing in Lean hashes anything: it is a label: what it is worth is what the hold of that sum in a sandbox is worth. -/
noncomputable def Tryd.pinned : Pinned := { name := "ytfapgecpndlibaadoor", sum := "640f1c159241a13e478d244eaee5745ad9524305a30e40711e935f10b968fb24", checked := Tryd.checked }
namespace Rows
def none {H : Type} : Left H := { results := [], args := [] }

/- WHAT THE LISTED PACKAGE-LEVEL VARIABLES READ AS WHEN THE CALL BEGINS. Each datum BY PROGRAM (the guide's laid-datum.mjs) off the statement by which the dump's own 'gosem.cut.vars' lays the variable. In a bare row this is a premise. The card (YtfapgecpndlibaaDoorCards.lean) ties it to the program's text. -/
def laid_escutcheon_mode_goes {H : Type} : DataW H := .agg [.agg [.lit (.bool true), .lit (.bool true), .lit (.bool true), .lit (.bool true), .lit (.bool true), .lit (.bool true), .lit (.bool true)], .agg [.lit (.bool true), .lit (.bool true), .lit (.bool true), .lit (.bool true), .lit (.bool true), .lit (.bool true), .lit (.bool false)], .agg [.lit (.bool true), .lit (.bool true), .lit (.bool true), .lit (.bool false), .lit (.bool false), .lit (.bool false), .lit (.bool false)], .agg [.lit (.bool true), .lit (.bool true), .lit (.bool false), .lit (.bool true), .lit (.bool false), .lit (.bool true), .lit (.bool false)], .agg [.lit (.bool true), .lit (.bool true), .lit (.bool false), .lit (.bool false), .lit (.bool false), .lit (.bool false), .lit (.bool false)], .agg [.lit (.bool true), .lit (.bool true), .lit (.bool false), .lit (.bool false), .lit (.bool false), .lit (.bool false), .lit (.bool false)], .agg [.lit (.bool true), .lit (.bool false), .lit (.bool false), .lit (.bool false), .lit (.bool false), .lit (.bool false), .lit (.bool false)]]

/-- 'escutcheonlaw11.GroupDoes': WHATEVER THE INPUT: true; the input reads as it did. -/
def groupDoesSpec : ChangeSpec := { name := "groupDoes", fn := fun _ => fun
  | [d1, d2, d3] => { results := [.lit (.bool true)], args := [d1, d2, d3] }
  | _ => none }
def groupDoesRow : OpenClaim := { program := "ytfapgecpndlibaadoor", sum := "640f1c159241a13e478d244eaee5745ad9524305a30e40711e935f10b968fb24", func := "escutcheon/escutcheonlaw11.GroupDoes", spec := "groupDoes", unfollowed := true, recurses := true, named := ["escutcheon/mode.goes"], apart := false, laid := [("escutcheon/mode.goes", laid_escutcheon_mode_goes)] }
def GroupDoesSaid : Prop := groupDoesRow.holds Tryd.pinned (OpenSpec.ofChange groupDoesSpec)

/-- ITS FALSE NEIGHBOUR: 'it returns false'. Refute it at one input. -/
def groupDoesWrong : ChangeSpec := { name := "groupDoes", fn := fun _ => fun
  | [d1, d2, d3] => { results := [.lit (.bool false)], args := [d1, d2, d3] }
  | _ => none }
def GroupDoesWrongFalsely : Prop := groupDoesRow.holds Tryd.pinned (OpenSpec.ofChange groupDoesWrong)

/-- 'escutcheonlaw11.GroupStays': WHATEVER THE INPUT: true; the input reads as it did. -/
def groupStaysSpec : ChangeSpec := { name := "groupStays", fn := fun _ => fun
  | [d1, d2, d3] => { results := [.lit (.bool true)], args := [d1, d2, d3] }
  | _ => none }
def groupStaysRow : OpenClaim := { program := "ytfapgecpndlibaadoor", sum := "640f1c159241a13e478d244eaee5745ad9524305a30e40711e935f10b968fb24", func := "escutcheon/escutcheonlaw11.GroupStays", spec := "groupStays", unfollowed := true, recurses := true, named := ["escutcheon/mode.goes"], apart := false, laid := [("escutcheon/mode.goes", laid_escutcheon_mode_goes)] }
def GroupStaysSaid : Prop := groupStaysRow.holds Tryd.pinned (OpenSpec.ofChange groupStaysSpec)

/-- ITS FALSE NEIGHBOUR: 'it returns false'. Refute it at one input. -/
def groupStaysWrong : ChangeSpec := { name := "groupStays", fn := fun _ => fun
  | [d1, d2, d3] => { results := [.lit (.bool false)], args := [d1, d2, d3] }
  | _ => none }
def GroupStaysWrongFalsely : Prop := groupStaysRow.holds Tryd.pinned (OpenSpec.ofChange groupStaysWrong)

/-- 'escutcheonlaw11.GroupLess': WHATEVER THE INPUT: true; the input reads as it did. -/
def groupLessSpec : ChangeSpec := { name := "groupLess", fn := fun _ => fun
  | [d1, d2, d3, d4] => { results := [.lit (.bool true)], args := [d1, d2, d3, d4] }
  | _ => none }
def groupLessRow : OpenClaim := { program := "ytfapgecpndlibaadoor", sum := "640f1c159241a13e478d244eaee5745ad9524305a30e40711e935f10b968fb24", func := "escutcheon/escutcheonlaw11.GroupLess", spec := "groupLess", unfollowed := true, recurses := true, named := ["escutcheon/mode.goes"], apart := false, laid := [("escutcheon/mode.goes", laid_escutcheon_mode_goes)] }
def GroupLessSaid : Prop := groupLessRow.holds Tryd.pinned (OpenSpec.ofChange groupLessSpec)

/-- ITS FALSE NEIGHBOUR: 'it returns false'. Refute it at one input. -/
def groupLessWrong : ChangeSpec := { name := "groupLess", fn := fun _ => fun
  | [d1, d2, d3, d4] => { results := [.lit (.bool false)], args := [d1, d2, d3, d4] }
  | _ => none }
def GroupLessWrongFalsely : Prop := groupLessRow.holds Tryd.pinned (OpenSpec.ofChange groupLessWrong)

/- THE SECOND FORM. 'bulk': how many values and letters a reading holds, each counted each time it is reached (what is shared counts as often as it is met; a slice's spare places count too). A statement '..UptoSaid' is the law's where the arguments, and the package variables that the reading takes, are together of bulk at most 1048576: NARROWER than '..Said'. Prove '..Said' where nothing that the law and all that it calls make is longer than what came in: it says more and counts as full. Else prove '..UptoSaid'. A law counts once. -/
mutual
def uptoBulk {H : Type} : DataW H → Nat
  | .lit (.string bytes) => bytes.length + 1
  | .lit _ => 1
  | .nil => 1
  | .ptr d => uptoBulk d + 1
  | .slice elems spare => uptoBulkAll elems + uptoBulkAll spare + 1
  | .agg parts => uptoBulkAll parts + 1
  | .iface _ d => uptoBulk d + 1
  | .map entries => uptoBulkEntries entries + 1
  | .held _ => 1
def uptoBulkAll {H : Type} : List (DataW H) → Nat
  | [] => 0
  | d :: r => uptoBulk d + uptoBulkAll r
def uptoBulkEntries {H : Type} : List (Lit × DataW H) → Nat
  | [] => 0
  | x :: r => uptoBulkEntry x + uptoBulkEntries r
def uptoBulkEntry {H : Type} : Lit × DataW H → Nat
  | (.string bytes, d) => bytes.length + uptoBulk d + 1
  | (_, d) => uptoBulk d + 1
 end
def uptoSmall : (H : Type) → List (DataW H) → Bool := fun _ ds => decide (uptoBulkAll ds ≤ 1048576)
def OpenSpec.upto (s : _root_.Go.ChangeSpec) : _root_.Go.OpenSpec := { _root_.Go.OpenSpec.ofChange s with cond := some uptoSmall }

/-- 'escutcheonlaw11.GroupDoes', WHERE WHAT IT READS IS OF BULK AT MOST 1048576: true; the input reads as it did. -/
def groupDoesUptoRow : OpenClaim := { program := "ytfapgecpndlibaadoor", sum := "640f1c159241a13e478d244eaee5745ad9524305a30e40711e935f10b968fb24", func := "escutcheon/escutcheonlaw11.GroupDoes", spec := "groupDoes", unfollowed := true, recurses := true, named := ["escutcheon/mode.goes"], apart := false, laid := [("escutcheon/mode.goes", laid_escutcheon_mode_goes)], narrowed := true }
def GroupDoesUptoSaid : Prop := groupDoesUptoRow.holds Tryd.pinned (OpenSpec.upto groupDoesSpec)

/-- 'escutcheonlaw11.GroupStays', WHERE WHAT IT READS IS OF BULK AT MOST 1048576: true; the input reads as it did. -/
def groupStaysUptoRow : OpenClaim := { program := "ytfapgecpndlibaadoor", sum := "640f1c159241a13e478d244eaee5745ad9524305a30e40711e935f10b968fb24", func := "escutcheon/escutcheonlaw11.GroupStays", spec := "groupStays", unfollowed := true, recurses := true, named := ["escutcheon/mode.goes"], apart := false, laid := [("escutcheon/mode.goes", laid_escutcheon_mode_goes)], narrowed := true }
def GroupStaysUptoSaid : Prop := groupStaysUptoRow.holds Tryd.pinned (OpenSpec.upto groupStaysSpec)

/-- 'escutcheonlaw11.GroupLess', WHERE WHAT IT READS IS OF BULK AT MOST 1048576: true; the input reads as it did. -/
def groupLessUptoRow : OpenClaim := { program := "ytfapgecpndlibaadoor", sum := "640f1c159241a13e478d244eaee5745ad9524305a30e40711e935f10b968fb24", func := "escutcheon/escutcheonlaw11.GroupLess", spec := "groupLess", unfollowed := true, recurses := true, named := ["escutcheon/mode.goes"], apart := false, laid := [("escutcheon/mode.goes", laid_escutcheon_mode_goes)], narrowed := true }
def GroupLessUptoSaid : Prop := groupLessUptoRow.holds Tryd.pinned (OpenSpec.upto groupLessSpec)

end Rows
end Go.Proofs.YtfapgecpndlibaaDoor
