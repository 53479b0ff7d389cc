/-
  NARROWER THAN 'FOR EVERY INPUT', by the rows' own cells (each row's printed sentence says how): HierDoes: laid · HierApart: laid · HierFree: laid.
  DERIVED. THE GIVEN ROWS OF THIS SEAT. 3 by the template 'for every input the law returns true; each argument reads behind the call as it read before'; 0 by the template 'total and deterministic' (their statements: YtlhhopanegnliaaGreatDoorTotals.lean).
  GIVEN WITH THE SEED: the statements are not yours to turn. If you find one false, say at which input.
  Laid BY PROGRAM, IN A SANDBOX (cutbox-rows.mjs): the forced cells as the released guide's own fill.sh prints them over the translation 6aac0d6579c6ecac… (all of the seat's roots in one cut). By AI agents, Wed Nov 11 2026. No macro, syntax, notation, axiom, sorry.
-/
import Derived.Test.YtlhhopanegnliaaGreatDoorChecked
import GoSem.Claim
import GoSem.ClaimJoined
import GoSem.ClaimMapViews
import Derived.JoinedTies
import Derived.KernelRfl
namespace Go.Proofs.YtlhhopanegnliaaGreatDoor
/- THE CELL 'sum', in the pinned program and in every row, IS THE sha256 OF THE DUMP (.gsa) THAT YtlhhopanegnliaaGreatDoorProg.lean LOADS. Nothing in Lean hashes anything: it is a label: what it is worth is what the hold of that sum in a sandbox is worth. -/
noncomputable def Tryz.pinned : Pinned := { name := "ytlhhopanegnliaagreatdoor", sum := "6aac0d6579c6ecac284fbf31d7245036de3524c6182c2e2a351cb0f66806bf3f", checked := Tryz.checked }
namespace Rows
def none {H : Type} : Left H := { results := [], args := [] }

/- WHAT THE LISTED PACKAGE-LEVEL VARIABLES READ AS WHEN THE CALL BEGINS. Each datum BY PROGRAM (the guide's laid-datum.mjs) off the statement by which the dump's own 'gosem.cut.vars' lays the variable. In a bare row this is a premise. The card (YtlhhopanegnliaaGreatDoorCards.lean) ties it to the program's text. -/
def laid_escutcheon_mode_goes {H : Type} : DataW H := .agg [.agg [.lit (.bool true), .lit (.bool true), .lit (.bool true), .lit (.bool true), .lit (.bool true), .lit (.bool true), .lit (.bool true)], .agg [.lit (.bool true), .lit (.bool true), .lit (.bool true), .lit (.bool true), .lit (.bool true), .lit (.bool true), .lit (.bool false)], .agg [.lit (.bool true), .lit (.bool true), .lit (.bool true), .lit (.bool false), .lit (.bool false), .lit (.bool false), .lit (.bool false)], .agg [.lit (.bool true), .lit (.bool true), .lit (.bool false), .lit (.bool true), .lit (.bool false), .lit (.bool true), .lit (.bool false)], .agg [.lit (.bool true), .lit (.bool true), .lit (.bool false), .lit (.bool false), .lit (.bool false), .lit (.bool false), .lit (.bool false)], .agg [.lit (.bool true), .lit (.bool true), .lit (.bool false), .lit (.bool false), .lit (.bool false), .lit (.bool false), .lit (.bool false)], .agg [.lit (.bool true), .lit (.bool false), .lit (.bool false), .lit (.bool false), .lit (.bool false), .lit (.bool false), .lit (.bool false)]]

/-- 'escutcheonlaw19.HierDoes': WHATEVER THE INPUT: true; the input reads as it did. -/
def hierDoesSpec : ChangeSpec := { name := "hierDoes", fn := fun _ => fun
  | [d1, d2, d3] => { results := [.lit (.bool true)], args := [d1, d2, d3] }
  | _ => none }
def hierDoesRow : OpenClaim := { program := "ytlhhopanegnliaagreatdoor", sum := "6aac0d6579c6ecac284fbf31d7245036de3524c6182c2e2a351cb0f66806bf3f", func := "escutcheon/escutcheonlaw19.HierDoes", spec := "hierDoes", unfollowed := true, recurses := true, named := ["escutcheon/mode.goes"], plainKeys := false, apart := false, laid := [("escutcheon/mode.goes", laid_escutcheon_mode_goes)] }
def HierDoesSaid : Prop := hierDoesRow.holds Tryz.pinned (OpenSpec.ofChange hierDoesSpec)

/-- ITS FALSE NEIGHBOUR: 'it returns false'. Refute it at one input. -/
def hierDoesWrong : ChangeSpec := { name := "hierDoes", fn := fun _ => fun
  | [d1, d2, d3] => { results := [.lit (.bool false)], args := [d1, d2, d3] }
  | _ => none }
def HierDoesWrongFalsely : Prop := hierDoesRow.holds Tryz.pinned (OpenSpec.ofChange hierDoesWrong)

/-- 'escutcheonlaw19.HierApart': WHATEVER THE INPUT: true; the input reads as it did. -/
def hierApartSpec : ChangeSpec := { name := "hierApart", fn := fun _ => fun
  | [d1, d2] => { results := [.lit (.bool true)], args := [d1, d2] }
  | _ => none }
def hierApartRow : OpenClaim := { program := "ytlhhopanegnliaagreatdoor", sum := "6aac0d6579c6ecac284fbf31d7245036de3524c6182c2e2a351cb0f66806bf3f", func := "escutcheon/escutcheonlaw19.HierApart", spec := "hierApart", unfollowed := true, recurses := true, named := ["escutcheon/mode.goes"], plainKeys := false, apart := false, laid := [("escutcheon/mode.goes", laid_escutcheon_mode_goes)] }
def HierApartSaid : Prop := hierApartRow.holds Tryz.pinned (OpenSpec.ofChange hierApartSpec)

/-- ITS FALSE NEIGHBOUR: 'it returns false'. Refute it at one input. -/
def hierApartWrong : ChangeSpec := { name := "hierApart", fn := fun _ => fun
  | [d1, d2] => { results := [.lit (.bool false)], args := [d1, d2] }
  | _ => none }
def HierApartWrongFalsely : Prop := hierApartRow.holds Tryz.pinned (OpenSpec.ofChange hierApartWrong)

/-- 'escutcheonlaw19.HierFree': WHATEVER THE INPUT: true; the input reads as it did. -/
def hierFreeSpec : ChangeSpec := { name := "hierFree", fn := fun _ => fun
  | [d1, d2] => { results := [.lit (.bool true)], args := [d1, d2] }
  | _ => none }
def hierFreeRow : OpenClaim := { program := "ytlhhopanegnliaagreatdoor", sum := "6aac0d6579c6ecac284fbf31d7245036de3524c6182c2e2a351cb0f66806bf3f", func := "escutcheon/escutcheonlaw19.HierFree", spec := "hierFree", unfollowed := true, recurses := true, named := ["escutcheon/mode.goes"], plainKeys := false, apart := false, laid := [("escutcheon/mode.goes", laid_escutcheon_mode_goes)] }
def HierFreeSaid : Prop := hierFreeRow.holds Tryz.pinned (OpenSpec.ofChange hierFreeSpec)

/-- ITS FALSE NEIGHBOUR: 'it returns false'. Refute it at one input. -/
def hierFreeWrong : ChangeSpec := { name := "hierFree", fn := fun _ => fun
  | [d1, d2] => { results := [.lit (.bool false)], args := [d1, d2] }
  | _ => none }
def HierFreeWrongFalsely : Prop := hierFreeRow.holds Tryz.pinned (OpenSpec.ofChange hierFreeWrong)

/- THE SECOND FORM. 'bulk': how many values and letters a reading holds, each counted each time it is reached (what is shared counts as often as it is met; a slice's spare places count too). A statement '..UptoSaid' is the law's where the arguments, and the package variables that the reading takes, are together of bulk at most 1048576: NARROWER than '..Said'. Prove '..Said' where nothing that the law and all that it calls make is longer than what came in: it says more and counts as full. Else prove '..UptoSaid'. A law counts once. -/
mutual
def uptoBulk {H : Type} : DataW H → Nat
  | .lit (.string bytes) => bytes.length + 1
  | .lit _ => 1
  | .nil => 1
  | .ptr d => uptoBulk d + 1
  | .slice elems spare => uptoBulkAll elems + uptoBulkAll spare + 1
  | .agg parts => uptoBulkAll parts + 1
  | .iface _ d => uptoBulk d + 1
  | .map entries => uptoBulkEntries entries + 1
  | .held _ => 1
def uptoBulkAll {H : Type} : List (DataW H) → Nat
  | [] => 0
  | d :: r => uptoBulk d + uptoBulkAll r
def uptoBulkEntries {H : Type} : List (Lit × DataW H) → Nat
  | [] => 0
  | x :: r => uptoBulkEntry x + uptoBulkEntries r
def uptoBulkEntry {H : Type} : Lit × DataW H → Nat
  | (.string bytes, d) => bytes.length + uptoBulk d + 1
  | (_, d) => uptoBulk d + 1
 end
def uptoSmall : (H : Type) → List (DataW H) → Bool := fun _ ds => decide (uptoBulkAll ds ≤ 1048576)
def OpenSpec.upto (s : _root_.Go.ChangeSpec) : _root_.Go.OpenSpec := { _root_.Go.OpenSpec.ofChange s with cond := some uptoSmall }

/-- 'escutcheonlaw19.HierDoes', WHERE WHAT IT READS IS OF BULK AT MOST 1048576: true; the input reads as it did. -/
def hierDoesUptoRow : OpenClaim := { program := "ytlhhopanegnliaagreatdoor", sum := "6aac0d6579c6ecac284fbf31d7245036de3524c6182c2e2a351cb0f66806bf3f", func := "escutcheon/escutcheonlaw19.HierDoes", spec := "hierDoes", unfollowed := true, recurses := true, named := ["escutcheon/mode.goes"], plainKeys := false, apart := false, laid := [("escutcheon/mode.goes", laid_escutcheon_mode_goes)], narrowed := true }
def HierDoesUptoSaid : Prop := hierDoesUptoRow.holds Tryz.pinned (OpenSpec.upto hierDoesSpec)

/-- 'escutcheonlaw19.HierApart', WHERE WHAT IT READS IS OF BULK AT MOST 1048576: true; the input reads as it did. -/
def hierApartUptoRow : OpenClaim := { program := "ytlhhopanegnliaagreatdoor", sum := "6aac0d6579c6ecac284fbf31d7245036de3524c6182c2e2a351cb0f66806bf3f", func := "escutcheon/escutcheonlaw19.HierApart", spec := "hierApart", unfollowed := true, recurses := true, named := ["escutcheon/mode.goes"], plainKeys := false, apart := false, laid := [("escutcheon/mode.goes", laid_escutcheon_mode_goes)], narrowed := true }
def HierApartUptoSaid : Prop := hierApartUptoRow.holds Tryz.pinned (OpenSpec.upto hierApartSpec)

/-- 'escutcheonlaw19.HierFree', WHERE WHAT IT READS IS OF BULK AT MOST 1048576: true; the input reads as it did. -/
def hierFreeUptoRow : OpenClaim := { program := "ytlhhopanegnliaagreatdoor", sum := "6aac0d6579c6ecac284fbf31d7245036de3524c6182c2e2a351cb0f66806bf3f", func := "escutcheon/escutcheonlaw19.HierFree", spec := "hierFree", unfollowed := true, recurses := true, named := ["escutcheon/mode.goes"], plainKeys := false, apart := false, laid := [("escutcheon/mode.goes", laid_escutcheon_mode_goes)], narrowed := true }
def HierFreeUptoSaid : Prop := hierFreeUptoRow.holds Tryz.pinned (OpenSpec.upto hierFreeSpec)

end Rows
end Go.Proofs.YtlhhopanegnliaaGreatDoor
