/-
  NARROWER THAN 'FOR EVERY INPUT', by the rows' own cells (each row's printed sentence says how): QueueDoes: laid · QueueRight: laid · QueueTurn: laid · QueueAlone: laid.
  DERIVED. THE GIVEN ROWS OF THIS SEAT. 4 by the template 'for every input the law returns true; each argument reads behind the call as it read before'; 0 by the template 'total and deterministic' (their statements: YteaibamkfccplaaDoorTotals.lean).
  GIVEN WITH THE SEED: the statements are not yours to turn. If you find one false, say at which input.
  Laid BY PROGRAM, IN A SANDBOX (cutbox-rows.mjs): the forced cells as the released guide's own fill.sh prints them over the translation e3d69f2359c38efa… (all of the seat's roots in one cut). By AI agents, Wed Nov 11 2026. No macro, syntax, notation, axiom, sorry.
-/
import Derived.Test.YteaibamkfccplaaDoorChecked
import GoSem.Claim
import GoSem.ClaimJoined
import GoSem.ClaimMapViews
import Derived.JoinedTies
import Derived.KernelRfl
namespace Go.Proofs.YteaibamkfccplaaDoor
/- THE CELL 'sum', in the pinned program and in every row, IS THE sha256 OF THE DUMP (.gsa) THAT YteaibamkfccplaaDoorProg.lean LOADS. Nothing in Lean hashes anything: it is a label: what it is worth is what the hold of that sum in a sandbox is worth. -/
noncomputable def Tryd.pinned : Pinned := { name := "yteaibamkfccplaadoor", sum := "e3d69f2359c38efa1a1aee5176acca8a33d0407335b0cedcd2f587ed2767fb6e", checked := Tryd.checked }
namespace Rows
def none {H : Type} : Left H := { results := [], args := [] }

/- WHAT THE LISTED PACKAGE-LEVEL VARIABLES READ AS WHEN THE CALL BEGINS. Each datum BY PROGRAM (the guide's laid-datum.mjs) off the statement by which the dump's own 'gosem.cut.vars' lays the variable. In a bare row this is a premise. The card (YteaibamkfccplaaDoorCards.lean) ties it to the program's text. -/
def laid_escutcheon_mode_goes {H : Type} : DataW H := .agg [.agg [.lit (.bool true), .lit (.bool true), .lit (.bool true), .lit (.bool true), .lit (.bool true), .lit (.bool true), .lit (.bool true)], .agg [.lit (.bool true), .lit (.bool true), .lit (.bool true), .lit (.bool true), .lit (.bool true), .lit (.bool true), .lit (.bool false)], .agg [.lit (.bool true), .lit (.bool true), .lit (.bool true), .lit (.bool false), .lit (.bool false), .lit (.bool false), .lit (.bool false)], .agg [.lit (.bool true), .lit (.bool true), .lit (.bool false), .lit (.bool true), .lit (.bool false), .lit (.bool true), .lit (.bool false)], .agg [.lit (.bool true), .lit (.bool true), .lit (.bool false), .lit (.bool false), .lit (.bool false), .lit (.bool false), .lit (.bool false)], .agg [.lit (.bool true), .lit (.bool true), .lit (.bool false), .lit (.bool false), .lit (.bool false), .lit (.bool false), .lit (.bool false)], .agg [.lit (.bool true), .lit (.bool false), .lit (.bool false), .lit (.bool false), .lit (.bool false), .lit (.bool false), .lit (.bool false)]]

/-- 'escutcheonlaw12.QueueDoes': WHATEVER THE INPUT: true; the input reads as it did. -/
def queueDoesSpec : ChangeSpec := { name := "queueDoes", fn := fun _ => fun
  | [d] => { results := [.lit (.bool true)], args := [d] }
  | _ => none }
def queueDoesRow : OpenClaim := { program := "yteaibamkfccplaadoor", sum := "e3d69f2359c38efa1a1aee5176acca8a33d0407335b0cedcd2f587ed2767fb6e", func := "escutcheon/escutcheonlaw12.QueueDoes", spec := "queueDoes", unfollowed := true, recurses := true, named := ["escutcheon/mode.goes"], apart := false, laid := [("escutcheon/mode.goes", laid_escutcheon_mode_goes)] }
def QueueDoesSaid : Prop := queueDoesRow.holds Tryd.pinned (OpenSpec.ofChange queueDoesSpec)

/-- ITS FALSE NEIGHBOUR: 'it returns false'. Refute it at one input. -/
def queueDoesWrong : ChangeSpec := { name := "queueDoes", fn := fun _ => fun
  | [d] => { results := [.lit (.bool false)], args := [d] }
  | _ => none }
def QueueDoesWrongFalsely : Prop := queueDoesRow.holds Tryd.pinned (OpenSpec.ofChange queueDoesWrong)

/-- 'escutcheonlaw12.QueueRight': WHATEVER THE INPUT: true; the input reads as it did. -/
def queueRightSpec : ChangeSpec := { name := "queueRight", fn := fun _ => fun
  | [d] => { results := [.lit (.bool true)], args := [d] }
  | _ => none }
def queueRightRow : OpenClaim := { program := "yteaibamkfccplaadoor", sum := "e3d69f2359c38efa1a1aee5176acca8a33d0407335b0cedcd2f587ed2767fb6e", func := "escutcheon/escutcheonlaw12.QueueRight", spec := "queueRight", unfollowed := true, recurses := true, named := ["escutcheon/mode.goes"], apart := false, laid := [("escutcheon/mode.goes", laid_escutcheon_mode_goes)] }
def QueueRightSaid : Prop := queueRightRow.holds Tryd.pinned (OpenSpec.ofChange queueRightSpec)

/-- ITS FALSE NEIGHBOUR: 'it returns false'. Refute it at one input. -/
def queueRightWrong : ChangeSpec := { name := "queueRight", fn := fun _ => fun
  | [d] => { results := [.lit (.bool false)], args := [d] }
  | _ => none }
def QueueRightWrongFalsely : Prop := queueRightRow.holds Tryd.pinned (OpenSpec.ofChange queueRightWrong)

/-- 'escutcheonlaw12.QueueTurn': WHATEVER THE INPUT: true; the input reads as it did. -/
def queueTurnSpec : ChangeSpec := { name := "queueTurn", fn := fun _ => fun
  | [d1, d2] => { results := [.lit (.bool true)], args := [d1, d2] }
  | _ => none }
def queueTurnRow : OpenClaim := { program := "yteaibamkfccplaadoor", sum := "e3d69f2359c38efa1a1aee5176acca8a33d0407335b0cedcd2f587ed2767fb6e", func := "escutcheon/escutcheonlaw12.QueueTurn", spec := "queueTurn", unfollowed := true, recurses := true, named := ["escutcheon/mode.goes"], apart := false, laid := [("escutcheon/mode.goes", laid_escutcheon_mode_goes)] }
def QueueTurnSaid : Prop := queueTurnRow.holds Tryd.pinned (OpenSpec.ofChange queueTurnSpec)

/-- ITS FALSE NEIGHBOUR: 'it returns false'. Refute it at one input. -/
def queueTurnWrong : ChangeSpec := { name := "queueTurn", fn := fun _ => fun
  | [d1, d2] => { results := [.lit (.bool false)], args := [d1, d2] }
  | _ => none }
def QueueTurnWrongFalsely : Prop := queueTurnRow.holds Tryd.pinned (OpenSpec.ofChange queueTurnWrong)

/-- 'escutcheonlaw12.QueueAlone': WHATEVER THE INPUT: true; the input reads as it did. -/
def queueAloneSpec : ChangeSpec := { name := "queueAlone", fn := fun _ => fun
  | [d1, d2, d3] => { results := [.lit (.bool true)], args := [d1, d2, d3] }
  | _ => none }
def queueAloneRow : OpenClaim := { program := "yteaibamkfccplaadoor", sum := "e3d69f2359c38efa1a1aee5176acca8a33d0407335b0cedcd2f587ed2767fb6e", func := "escutcheon/escutcheonlaw12.QueueAlone", spec := "queueAlone", unfollowed := true, recurses := true, named := ["escutcheon/mode.goes"], apart := false, laid := [("escutcheon/mode.goes", laid_escutcheon_mode_goes)] }
def QueueAloneSaid : Prop := queueAloneRow.holds Tryd.pinned (OpenSpec.ofChange queueAloneSpec)

/-- ITS FALSE NEIGHBOUR: 'it returns false'. Refute it at one input. -/
def queueAloneWrong : ChangeSpec := { name := "queueAlone", fn := fun _ => fun
  | [d1, d2, d3] => { results := [.lit (.bool false)], args := [d1, d2, d3] }
  | _ => none }
def QueueAloneWrongFalsely : Prop := queueAloneRow.holds Tryd.pinned (OpenSpec.ofChange queueAloneWrong)

/- THE SECOND FORM. 'bulk': how many values and letters a reading holds, each counted each time it is reached (what is shared counts as often as it is met; a slice's spare places count too). A statement '..UptoSaid' is the law's where the arguments, and the package variables that the reading takes, are together of bulk at most 1048576: NARROWER than '..Said'. Prove '..Said' where nothing that the law and all that it calls make is longer than what came in: it says more and counts as full. Else prove '..UptoSaid'. A law counts once. -/
mutual
def uptoBulk {H : Type} : DataW H → Nat
  | .lit (.string bytes) => bytes.length + 1
  | .lit _ => 1
  | .nil => 1
  | .ptr d => uptoBulk d + 1
  | .slice elems spare => uptoBulkAll elems + uptoBulkAll spare + 1
  | .agg parts => uptoBulkAll parts + 1
  | .iface _ d => uptoBulk d + 1
  | .map entries => uptoBulkEntries entries + 1
  | .held _ => 1
def uptoBulkAll {H : Type} : List (DataW H) → Nat
  | [] => 0
  | d :: r => uptoBulk d + uptoBulkAll r
def uptoBulkEntries {H : Type} : List (Lit × DataW H) → Nat
  | [] => 0
  | x :: r => uptoBulkEntry x + uptoBulkEntries r
def uptoBulkEntry {H : Type} : Lit × DataW H → Nat
  | (.string bytes, d) => bytes.length + uptoBulk d + 1
  | (_, d) => uptoBulk d + 1
 end
def uptoSmall : (H : Type) → List (DataW H) → Bool := fun _ ds => decide (uptoBulkAll ds ≤ 1048576)
def OpenSpec.upto (s : _root_.Go.ChangeSpec) : _root_.Go.OpenSpec := { _root_.Go.OpenSpec.ofChange s with cond := some uptoSmall }

/-- 'escutcheonlaw12.QueueDoes', WHERE WHAT IT READS IS OF BULK AT MOST 1048576: true; the input reads as it did. -/
def queueDoesUptoRow : OpenClaim := { program := "yteaibamkfccplaadoor", sum := "e3d69f2359c38efa1a1aee5176acca8a33d0407335b0cedcd2f587ed2767fb6e", func := "escutcheon/escutcheonlaw12.QueueDoes", spec := "queueDoes", unfollowed := true, recurses := true, named := ["escutcheon/mode.goes"], apart := false, laid := [("escutcheon/mode.goes", laid_escutcheon_mode_goes)], narrowed := true }
def QueueDoesUptoSaid : Prop := queueDoesUptoRow.holds Tryd.pinned (OpenSpec.upto queueDoesSpec)

/-- 'escutcheonlaw12.QueueRight', WHERE WHAT IT READS IS OF BULK AT MOST 1048576: true; the input reads as it did. -/
def queueRightUptoRow : OpenClaim := { program := "yteaibamkfccplaadoor", sum := "e3d69f2359c38efa1a1aee5176acca8a33d0407335b0cedcd2f587ed2767fb6e", func := "escutcheon/escutcheonlaw12.QueueRight", spec := "queueRight", unfollowed := true, recurses := true, named := ["escutcheon/mode.goes"], apart := false, laid := [("escutcheon/mode.goes", laid_escutcheon_mode_goes)], narrowed := true }
def QueueRightUptoSaid : Prop := queueRightUptoRow.holds Tryd.pinned (OpenSpec.upto queueRightSpec)

/-- 'escutcheonlaw12.QueueTurn', WHERE WHAT IT READS IS OF BULK AT MOST 1048576: true; the input reads as it did. -/
def queueTurnUptoRow : OpenClaim := { program := "yteaibamkfccplaadoor", sum := "e3d69f2359c38efa1a1aee5176acca8a33d0407335b0cedcd2f587ed2767fb6e", func := "escutcheon/escutcheonlaw12.QueueTurn", spec := "queueTurn", unfollowed := true, recurses := true, named := ["escutcheon/mode.goes"], apart := false, laid := [("escutcheon/mode.goes", laid_escutcheon_mode_goes)], narrowed := true }
def QueueTurnUptoSaid : Prop := queueTurnUptoRow.holds Tryd.pinned (OpenSpec.upto queueTurnSpec)

/-- 'escutcheonlaw12.QueueAlone', WHERE WHAT IT READS IS OF BULK AT MOST 1048576: true; the input reads as it did. -/
def queueAloneUptoRow : OpenClaim := { program := "yteaibamkfccplaadoor", sum := "e3d69f2359c38efa1a1aee5176acca8a33d0407335b0cedcd2f587ed2767fb6e", func := "escutcheon/escutcheonlaw12.QueueAlone", spec := "queueAlone", unfollowed := true, recurses := true, named := ["escutcheon/mode.goes"], apart := false, laid := [("escutcheon/mode.goes", laid_escutcheon_mode_goes)], narrowed := true }
def QueueAloneUptoSaid : Prop := queueAloneUptoRow.holds Tryd.pinned (OpenSpec.upto queueAloneSpec)

end Rows
end Go.Proofs.YteaibamkfccplaaDoor
