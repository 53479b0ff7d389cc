/-
  No cell of these rows narrows 'for every input' (looked for: loops, veiled, ifaces, maps, wideKeys, modest, calm, conditions, laid).
  DERIVED. THE GIVEN ROWS OF THIS SEAT. 3 by the template 'for every input the law returns true; each argument reads behind the call as it read before'; 0 by the template 'total and deterministic' (their statements: YtmlljgijbffepaaTotals.lean).
  GIVEN WITH THE SEED: the statements are not yours to turn. If you find one false, say at which input.
  Laid BY PROGRAM, IN A SANDBOX (cutbox-rows.mjs): the forced cells as the released guide's own fill.sh prints them over the translation f9a014c1cb4845aa… (all of the seat's roots in one cut). By AI agents, Wed Nov 11 2026. No macro, syntax, notation, axiom, sorry.
-/
import Derived.Test.YtmlljgijbffepaaChecked
import GoSem.Claim
import GoSem.ClaimJoined
import GoSem.ClaimMapViews
import Derived.JoinedTies
import Derived.KernelRfl
namespace Go.Proofs.Ytmlljgijbffepaa
/- THE CELL 'sum', in the pinned program and in every row, IS THE sha256 OF THE DUMP (.gsa) THAT YtmlljgijbffepaaProg.lean LOADS. Nothing in Lean hashes anything: it is a label: what it is worth is what the hold of that sum in a sandbox is worth. -/
noncomputable def Try.pinned : Pinned := { name := "ytmlljgijbffepaa", sum := "f9a014c1cb4845aae696ab383b5321360d34d1efe03bc36c19167a964ac14c98", checked := Try.checked }
namespace Rows
def none {H : Type} : Left H := { results := [], args := [] }

/-- 'escutcheonlaw02.PathOrder': WHATEVER THE INPUT: true; the input reads as it did. -/
def pathOrderSpec : ChangeSpec := { name := "pathOrder", fn := fun _ => fun
  | [d1, d2, d3] => { results := [.lit (.bool true)], args := [d1, d2, d3] }
  | _ => none }
def pathOrderRow : OpenClaim := { program := "ytmlljgijbffepaa", sum := "f9a014c1cb4845aae696ab383b5321360d34d1efe03bc36c19167a964ac14c98", func := "escutcheon/escutcheonlaw02.PathOrder", spec := "pathOrder", apart := false }
def PathOrderSaid : Prop := pathOrderRow.holds Try.pinned (OpenSpec.ofChange pathOrderSpec)

/-- ITS FALSE NEIGHBOUR: 'it returns false'. Refute it at one input. -/
def pathOrderWrong : ChangeSpec := { name := "pathOrder", fn := fun _ => fun
  | [d1, d2, d3] => { results := [.lit (.bool false)], args := [d1, d2, d3] }
  | _ => none }
def PathOrderWrongFalsely : Prop := pathOrderRow.holds Try.pinned (OpenSpec.ofChange pathOrderWrong)

/-- 'escutcheonlaw02.PathTree': WHATEVER THE INPUT: true; the input reads as it did. -/
def pathTreeSpec : ChangeSpec := { name := "pathTree", fn := fun _ => fun
  | [d1, d2, d3] => { results := [.lit (.bool true)], args := [d1, d2, d3] }
  | _ => none }
def pathTreeRow : OpenClaim := { program := "ytmlljgijbffepaa", sum := "f9a014c1cb4845aae696ab383b5321360d34d1efe03bc36c19167a964ac14c98", func := "escutcheon/escutcheonlaw02.PathTree", spec := "pathTree", apart := false }
def PathTreeSaid : Prop := pathTreeRow.holds Try.pinned (OpenSpec.ofChange pathTreeSpec)

/-- ITS FALSE NEIGHBOUR: 'it returns false'. Refute it at one input. -/
def pathTreeWrong : ChangeSpec := { name := "pathTree", fn := fun _ => fun
  | [d1, d2, d3] => { results := [.lit (.bool false)], args := [d1, d2, d3] }
  | _ => none }
def PathTreeWrongFalsely : Prop := pathTreeRow.holds Try.pinned (OpenSpec.ofChange pathTreeWrong)

/-- 'escutcheonlaw02.PathKids': WHATEVER THE INPUT: true; the input reads as it did. -/
def pathKidsSpec : ChangeSpec := { name := "pathKids", fn := fun _ => fun
  | [d1, d2, d3] => { results := [.lit (.bool true)], args := [d1, d2, d3] }
  | _ => none }
def pathKidsRow : OpenClaim := { program := "ytmlljgijbffepaa", sum := "f9a014c1cb4845aae696ab383b5321360d34d1efe03bc36c19167a964ac14c98", func := "escutcheon/escutcheonlaw02.PathKids", spec := "pathKids", apart := false }
def PathKidsSaid : Prop := pathKidsRow.holds Try.pinned (OpenSpec.ofChange pathKidsSpec)

/-- ITS FALSE NEIGHBOUR: 'it returns false'. Refute it at one input. -/
def pathKidsWrong : ChangeSpec := { name := "pathKids", fn := fun _ => fun
  | [d1, d2, d3] => { results := [.lit (.bool false)], args := [d1, d2, d3] }
  | _ => none }
def PathKidsWrongFalsely : Prop := pathKidsRow.holds Try.pinned (OpenSpec.ofChange pathKidsWrong)

/- THE SECOND FORM. 'bulk': how many values and letters a reading holds, each counted each time it is reached (what is shared counts as often as it is met; a slice's spare places count too). A statement '..UptoSaid' is the law's where the arguments, and the package variables that the reading takes, are together of bulk at most 1048576: NARROWER than '..Said'. Prove '..Said' where nothing that the law and all that it calls make is longer than what came in: it says more and counts as full. Else prove '..UptoSaid'. A law counts once. -/
mutual
def uptoBulk {H : Type} : DataW H → Nat
  | .lit (.string bytes) => bytes.length + 1
  | .lit _ => 1
  | .nil => 1
  | .ptr d => uptoBulk d + 1
  | .slice elems spare => uptoBulkAll elems + uptoBulkAll spare + 1
  | .agg parts => uptoBulkAll parts + 1
  | .iface _ d => uptoBulk d + 1
  | .map entries => uptoBulkEntries entries + 1
  | .held _ => 1
def uptoBulkAll {H : Type} : List (DataW H) → Nat
  | [] => 0
  | d :: r => uptoBulk d + uptoBulkAll r
def uptoBulkEntries {H : Type} : List (Lit × DataW H) → Nat
  | [] => 0
  | x :: r => uptoBulkEntry x + uptoBulkEntries r
def uptoBulkEntry {H : Type} : Lit × DataW H → Nat
  | (.string bytes, d) => bytes.length + uptoBulk d + 1
  | (_, d) => uptoBulk d + 1
 end
def uptoSmall : (H : Type) → List (DataW H) → Bool := fun _ ds => decide (uptoBulkAll ds ≤ 1048576)
def OpenSpec.upto (s : _root_.Go.ChangeSpec) : _root_.Go.OpenSpec := { _root_.Go.OpenSpec.ofChange s with cond := some uptoSmall }

/-- 'escutcheonlaw02.PathOrder', WHERE WHAT IT READS IS OF BULK AT MOST 1048576: true; the input reads as it did. -/
def pathOrderUptoRow : OpenClaim := { program := "ytmlljgijbffepaa", sum := "f9a014c1cb4845aae696ab383b5321360d34d1efe03bc36c19167a964ac14c98", func := "escutcheon/escutcheonlaw02.PathOrder", spec := "pathOrder", apart := false, narrowed := true }
def PathOrderUptoSaid : Prop := pathOrderUptoRow.holds Try.pinned (OpenSpec.upto pathOrderSpec)

/-- 'escutcheonlaw02.PathTree', WHERE WHAT IT READS IS OF BULK AT MOST 1048576: true; the input reads as it did. -/
def pathTreeUptoRow : OpenClaim := { program := "ytmlljgijbffepaa", sum := "f9a014c1cb4845aae696ab383b5321360d34d1efe03bc36c19167a964ac14c98", func := "escutcheon/escutcheonlaw02.PathTree", spec := "pathTree", apart := false, narrowed := true }
def PathTreeUptoSaid : Prop := pathTreeUptoRow.holds Try.pinned (OpenSpec.upto pathTreeSpec)

/-- 'escutcheonlaw02.PathKids', WHERE WHAT IT READS IS OF BULK AT MOST 1048576: true; the input reads as it did. -/
def pathKidsUptoRow : OpenClaim := { program := "ytmlljgijbffepaa", sum := "f9a014c1cb4845aae696ab383b5321360d34d1efe03bc36c19167a964ac14c98", func := "escutcheon/escutcheonlaw02.PathKids", spec := "pathKids", apart := false, narrowed := true }
def PathKidsUptoSaid : Prop := pathKidsUptoRow.holds Try.pinned (OpenSpec.upto pathKidsSpec)

end Rows
end Go.Proofs.Ytmlljgijbffepaa
