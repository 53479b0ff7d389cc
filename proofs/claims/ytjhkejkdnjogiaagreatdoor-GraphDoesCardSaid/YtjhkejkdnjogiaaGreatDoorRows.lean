/-
  NARROWER THAN 'FOR EVERY INPUT', by the rows' own cells (each row's printed sentence says how): GraphDoes: laid · GraphLists: laid · GraphWaits: laid.
  DERIVED. THE GIVEN ROWS OF THIS SEAT. 3 by the template 'for every input the law returns true; each argument reads behind the call as it read before'; 0 by the template 'total and deterministic' (their statements: YtjhkejkdnjogiaaGreatDoorTotals.lean).
  GIVEN WITH THE SEED: the statements are not yours to turn. If you find one false, say at which input.
  Laid BY PROGRAM, IN A SANDBOX (cutbox-rows.mjs): the forced cells as the released guide's own fill.sh prints them over the translation 2b34d6eaa69b6d77… (all of the seat's roots in one cut). By AI agents, Wed Nov 11 2026. No macro, syntax, notation, axiom, sorry.
-/
import Derived.Test.YtjhkejkdnjogiaaGreatDoorChecked
import GoSem.Claim
import GoSem.ClaimJoined
import GoSem.ClaimMapViews
import Derived.JoinedTies
import Derived.KernelRfl
namespace Go.Proofs.YtjhkejkdnjogiaaGreatDoor
/- THE CELL 'sum', in the pinned program and in every row, IS THE sha256 OF THE DUMP (.gsa) THAT YtjhkejkdnjogiaaGreatDoorProg.lean LOADS. Nothing in Lean hashes anything: it is a label: what it is worth is what the hold of that sum in a sandbox is worth. -/
noncomputable def Tryz.pinned : Pinned := { name := "ytjhkejkdnjogiaagreatdoor", sum := "2b34d6eaa69b6d771ed6914dac54a8741839f2d80fa02fc0cdbbe327bcf6e6ff", checked := Tryz.checked }
namespace Rows
def none {H : Type} : Left H := { results := [], args := [] }

/- WHAT THE LISTED PACKAGE-LEVEL VARIABLES READ AS WHEN THE CALL BEGINS. Each datum BY PROGRAM (the guide's laid-datum.mjs) off the statement by which the dump's own 'gosem.cut.vars' lays the variable. In a bare row this is a premise. The card (YtjhkejkdnjogiaaGreatDoorCards.lean) ties it to the program's text. -/
def laid_escutcheon_mode_goes {H : Type} : DataW H := .agg [.agg [.lit (.bool true), .lit (.bool true), .lit (.bool true), .lit (.bool true), .lit (.bool true), .lit (.bool true), .lit (.bool true)], .agg [.lit (.bool true), .lit (.bool true), .lit (.bool true), .lit (.bool true), .lit (.bool true), .lit (.bool true), .lit (.bool false)], .agg [.lit (.bool true), .lit (.bool true), .lit (.bool true), .lit (.bool false), .lit (.bool false), .lit (.bool false), .lit (.bool false)], .agg [.lit (.bool true), .lit (.bool true), .lit (.bool false), .lit (.bool true), .lit (.bool false), .lit (.bool true), .lit (.bool false)], .agg [.lit (.bool true), .lit (.bool true), .lit (.bool false), .lit (.bool false), .lit (.bool false), .lit (.bool false), .lit (.bool false)], .agg [.lit (.bool true), .lit (.bool true), .lit (.bool false), .lit (.bool false), .lit (.bool false), .lit (.bool false), .lit (.bool false)], .agg [.lit (.bool true), .lit (.bool false), .lit (.bool false), .lit (.bool false), .lit (.bool false), .lit (.bool false), .lit (.bool false)]]

/-- 'escutcheonlaw14.GraphDoes': WHATEVER THE INPUT: true; the input reads as it did. -/
def graphDoesSpec : ChangeSpec := { name := "graphDoes", fn := fun _ => fun
  | [d1, d2] => { results := [.lit (.bool true)], args := [d1, d2] }
  | _ => none }
def graphDoesRow : OpenClaim := { program := "ytjhkejkdnjogiaagreatdoor", sum := "2b34d6eaa69b6d771ed6914dac54a8741839f2d80fa02fc0cdbbe327bcf6e6ff", func := "escutcheon/escutcheonlaw14.GraphDoes", spec := "graphDoes", unfollowed := true, recurses := true, named := ["escutcheon/mode.goes"], apart := false, laid := [("escutcheon/mode.goes", laid_escutcheon_mode_goes)] }
def GraphDoesSaid : Prop := graphDoesRow.holds Tryz.pinned (OpenSpec.ofChange graphDoesSpec)

/-- ITS FALSE NEIGHBOUR: 'it returns false'. Refute it at one input. -/
def graphDoesWrong : ChangeSpec := { name := "graphDoes", fn := fun _ => fun
  | [d1, d2] => { results := [.lit (.bool false)], args := [d1, d2] }
  | _ => none }
def GraphDoesWrongFalsely : Prop := graphDoesRow.holds Tryz.pinned (OpenSpec.ofChange graphDoesWrong)

/-- 'escutcheonlaw14.GraphLists': WHATEVER THE INPUT: true; the input reads as it did. -/
def graphListsSpec : ChangeSpec := { name := "graphLists", fn := fun _ => fun
  | [d1, d2] => { results := [.lit (.bool true)], args := [d1, d2] }
  | _ => none }
def graphListsRow : OpenClaim := { program := "ytjhkejkdnjogiaagreatdoor", sum := "2b34d6eaa69b6d771ed6914dac54a8741839f2d80fa02fc0cdbbe327bcf6e6ff", func := "escutcheon/escutcheonlaw14.GraphLists", spec := "graphLists", unfollowed := true, recurses := true, named := ["escutcheon/mode.goes"], apart := false, laid := [("escutcheon/mode.goes", laid_escutcheon_mode_goes)] }
def GraphListsSaid : Prop := graphListsRow.holds Tryz.pinned (OpenSpec.ofChange graphListsSpec)

/-- ITS FALSE NEIGHBOUR: 'it returns false'. Refute it at one input. -/
def graphListsWrong : ChangeSpec := { name := "graphLists", fn := fun _ => fun
  | [d1, d2] => { results := [.lit (.bool false)], args := [d1, d2] }
  | _ => none }
def GraphListsWrongFalsely : Prop := graphListsRow.holds Tryz.pinned (OpenSpec.ofChange graphListsWrong)

/-- 'escutcheonlaw14.GraphWaits': WHATEVER THE INPUT: true; the input reads as it did. -/
def graphWaitsSpec : ChangeSpec := { name := "graphWaits", fn := fun _ => fun
  | [d1, d2] => { results := [.lit (.bool true)], args := [d1, d2] }
  | _ => none }
def graphWaitsRow : OpenClaim := { program := "ytjhkejkdnjogiaagreatdoor", sum := "2b34d6eaa69b6d771ed6914dac54a8741839f2d80fa02fc0cdbbe327bcf6e6ff", func := "escutcheon/escutcheonlaw14.GraphWaits", spec := "graphWaits", unfollowed := true, recurses := true, named := ["escutcheon/mode.goes"], apart := false, laid := [("escutcheon/mode.goes", laid_escutcheon_mode_goes)] }
def GraphWaitsSaid : Prop := graphWaitsRow.holds Tryz.pinned (OpenSpec.ofChange graphWaitsSpec)

/-- ITS FALSE NEIGHBOUR: 'it returns false'. Refute it at one input. -/
def graphWaitsWrong : ChangeSpec := { name := "graphWaits", fn := fun _ => fun
  | [d1, d2] => { results := [.lit (.bool false)], args := [d1, d2] }
  | _ => none }
def GraphWaitsWrongFalsely : Prop := graphWaitsRow.holds Tryz.pinned (OpenSpec.ofChange graphWaitsWrong)

/- THE SECOND FORM. 'bulk': how many values and letters a reading holds, each counted each time it is reached (what is shared counts as often as it is met; a slice's spare places count too). A statement '..UptoSaid' is the law's where the arguments, and the package variables that the reading takes, are together of bulk at most 1048576: NARROWER than '..Said'. Prove '..Said' where nothing that the law and all that it calls make is longer than what came in: it says more and counts as full. Else prove '..UptoSaid'. A law counts once. -/
mutual
def uptoBulk {H : Type} : DataW H → Nat
  | .lit (.string bytes) => bytes.length + 1
  | .lit _ => 1
  | .nil => 1
  | .ptr d => uptoBulk d + 1
  | .slice elems spare => uptoBulkAll elems + uptoBulkAll spare + 1
  | .agg parts => uptoBulkAll parts + 1
  | .iface _ d => uptoBulk d + 1
  | .map entries => uptoBulkEntries entries + 1
  | .held _ => 1
def uptoBulkAll {H : Type} : List (DataW H) → Nat
  | [] => 0
  | d :: r => uptoBulk d + uptoBulkAll r
def uptoBulkEntries {H : Type} : List (Lit × DataW H) → Nat
  | [] => 0
  | x :: r => uptoBulkEntry x + uptoBulkEntries r
def uptoBulkEntry {H : Type} : Lit × DataW H → Nat
  | (.string bytes, d) => bytes.length + uptoBulk d + 1
  | (_, d) => uptoBulk d + 1
 end
def uptoSmall : (H : Type) → List (DataW H) → Bool := fun _ ds => decide (uptoBulkAll ds ≤ 1048576)
def OpenSpec.upto (s : _root_.Go.ChangeSpec) : _root_.Go.OpenSpec := { _root_.Go.OpenSpec.ofChange s with cond := some uptoSmall }

/-- 'escutcheonlaw14.GraphDoes', WHERE WHAT IT READS IS OF BULK AT MOST 1048576: true; the input reads as it did. -/
def graphDoesUptoRow : OpenClaim := { program := "ytjhkejkdnjogiaagreatdoor", sum := "2b34d6eaa69b6d771ed6914dac54a8741839f2d80fa02fc0cdbbe327bcf6e6ff", func := "escutcheon/escutcheonlaw14.GraphDoes", spec := "graphDoes", unfollowed := true, recurses := true, named := ["escutcheon/mode.goes"], apart := false, laid := [("escutcheon/mode.goes", laid_escutcheon_mode_goes)], narrowed := true }
def GraphDoesUptoSaid : Prop := graphDoesUptoRow.holds Tryz.pinned (OpenSpec.upto graphDoesSpec)

/-- 'escutcheonlaw14.GraphLists', WHERE WHAT IT READS IS OF BULK AT MOST 1048576: true; the input reads as it did. -/
def graphListsUptoRow : OpenClaim := { program := "ytjhkejkdnjogiaagreatdoor", sum := "2b34d6eaa69b6d771ed6914dac54a8741839f2d80fa02fc0cdbbe327bcf6e6ff", func := "escutcheon/escutcheonlaw14.GraphLists", spec := "graphLists", unfollowed := true, recurses := true, named := ["escutcheon/mode.goes"], apart := false, laid := [("escutcheon/mode.goes", laid_escutcheon_mode_goes)], narrowed := true }
def GraphListsUptoSaid : Prop := graphListsUptoRow.holds Tryz.pinned (OpenSpec.upto graphListsSpec)

/-- 'escutcheonlaw14.GraphWaits', WHERE WHAT IT READS IS OF BULK AT MOST 1048576: true; the input reads as it did. -/
def graphWaitsUptoRow : OpenClaim := { program := "ytjhkejkdnjogiaagreatdoor", sum := "2b34d6eaa69b6d771ed6914dac54a8741839f2d80fa02fc0cdbbe327bcf6e6ff", func := "escutcheon/escutcheonlaw14.GraphWaits", spec := "graphWaits", unfollowed := true, recurses := true, named := ["escutcheon/mode.goes"], apart := false, laid := [("escutcheon/mode.goes", laid_escutcheon_mode_goes)], narrowed := true }
def GraphWaitsUptoSaid : Prop := graphWaitsUptoRow.holds Tryz.pinned (OpenSpec.upto graphWaitsSpec)

end Rows
end Go.Proofs.YtjhkejkdnjogiaaGreatDoor
