/-
  No cell of these rows narrows 'for every input' (looked for: loops, veiled, ifaces, maps, wideKeys, modest, calm, conditions, laid).
  DERIVED. THE GIVEN ROWS OF THIS SEAT. 3 by the template 'for every input the law returns true; each argument reads behind the call as it read before'; 0 by the template 'total and deterministic' (their statements: YtpoibgiajaeegaaTotals.lean).
  GIVEN WITH THE SEED: the statements are not yours to turn. If you find one false, say at which input.
  Laid BY PROGRAM, IN A SANDBOX (cutbox-rows.mjs): the forced cells as the released guide's own fill.sh prints them over the translation f96136559a7c10d8… (all of the seat's roots in one cut). By AI agents, Wed Nov 11 2026. No macro, syntax, notation, axiom, sorry.
-/
import Derived.Test.YtpoibgiajaeegaaChecked
import GoSem.Claim
import GoSem.ClaimJoined
import GoSem.ClaimMapViews
import Derived.JoinedTies
import Derived.KernelRfl
namespace Go.Proofs.Ytpoibgiajaeegaa
/- THE CELL 'sum', in the pinned program and in every row, IS THE sha256 OF THE DUMP (.gsa) THAT YtpoibgiajaeegaaProg.lean LOADS. Nothing in Lean hashes anything: it is a label: what it is worth is what the hold of that sum in a sandbox is worth. -/
noncomputable def Try.pinned : Pinned := { name := "ytpoibgiajaeegaa", sum := "f96136559a7c10d8af2cf9cf9e5c121ab871090adfd58cb6900c10546926ff94", checked := Try.checked }
namespace Rows
def none {H : Type} : Left H := { results := [], args := [] }

/-- 'escutcheonlaw10.RequestDoes': WHATEVER THE INPUT: true; the input reads as it did. -/
def requestDoesSpec : ChangeSpec := { name := "requestDoes", fn := fun _ => fun
  | [d1, d2, d3, d4, d5] => { results := [.lit (.bool true)], args := [d1, d2, d3, d4, d5] }
  | _ => none }
def requestDoesRow : OpenClaim := { program := "ytpoibgiajaeegaa", sum := "f96136559a7c10d8af2cf9cf9e5c121ab871090adfd58cb6900c10546926ff94", func := "escutcheon/escutcheonlaw10.RequestDoes", spec := "requestDoes", unfollowed := true, recurses := true, apart := false }
def RequestDoesSaid : Prop := requestDoesRow.holds Try.pinned (OpenSpec.ofChange requestDoesSpec)

/-- ITS FALSE NEIGHBOUR: 'it returns false'. Refute it at one input. -/
def requestDoesWrong : ChangeSpec := { name := "requestDoes", fn := fun _ => fun
  | [d1, d2, d3, d4, d5] => { results := [.lit (.bool false)], args := [d1, d2, d3, d4, d5] }
  | _ => none }
def RequestDoesWrongFalsely : Prop := requestDoesRow.holds Try.pinned (OpenSpec.ofChange requestDoesWrong)

/-- 'escutcheonlaw10.RequestStays': WHATEVER THE INPUT: true; the input reads as it did. -/
def requestStaysSpec : ChangeSpec := { name := "requestStays", fn := fun _ => fun
  | [d1, d2] => { results := [.lit (.bool true)], args := [d1, d2] }
  | _ => none }
def requestStaysRow : OpenClaim := { program := "ytpoibgiajaeegaa", sum := "f96136559a7c10d8af2cf9cf9e5c121ab871090adfd58cb6900c10546926ff94", func := "escutcheon/escutcheonlaw10.RequestStays", spec := "requestStays", unfollowed := true, recurses := true, apart := false }
def RequestStaysSaid : Prop := requestStaysRow.holds Try.pinned (OpenSpec.ofChange requestStaysSpec)

/-- ITS FALSE NEIGHBOUR: 'it returns false'. Refute it at one input. -/
def requestStaysWrong : ChangeSpec := { name := "requestStays", fn := fun _ => fun
  | [d1, d2] => { results := [.lit (.bool false)], args := [d1, d2] }
  | _ => none }
def RequestStaysWrongFalsely : Prop := requestStaysRow.holds Try.pinned (OpenSpec.ofChange requestStaysWrong)

/-- 'escutcheonlaw10.RequestTargets': WHATEVER THE INPUT: true; the input reads as it did. -/
def requestTargetsSpec : ChangeSpec := { name := "requestTargets", fn := fun _ => fun
  | [d1, d2, d3, d4] => { results := [.lit (.bool true)], args := [d1, d2, d3, d4] }
  | _ => none }
def requestTargetsRow : OpenClaim := { program := "ytpoibgiajaeegaa", sum := "f96136559a7c10d8af2cf9cf9e5c121ab871090adfd58cb6900c10546926ff94", func := "escutcheon/escutcheonlaw10.RequestTargets", spec := "requestTargets", unfollowed := true, recurses := true, apart := false }
def RequestTargetsSaid : Prop := requestTargetsRow.holds Try.pinned (OpenSpec.ofChange requestTargetsSpec)

/-- ITS FALSE NEIGHBOUR: 'it returns false'. Refute it at one input. -/
def requestTargetsWrong : ChangeSpec := { name := "requestTargets", fn := fun _ => fun
  | [d1, d2, d3, d4] => { results := [.lit (.bool false)], args := [d1, d2, d3, d4] }
  | _ => none }
def RequestTargetsWrongFalsely : Prop := requestTargetsRow.holds Try.pinned (OpenSpec.ofChange requestTargetsWrong)

/- THE SECOND FORM. 'bulk': how many values and letters a reading holds, each counted each time it is reached (what is shared counts as often as it is met; a slice's spare places count too). A statement '..UptoSaid' is the law's where the arguments, and the package variables that the reading takes, are together of bulk at most 1048576: NARROWER than '..Said'. Prove '..Said' where nothing that the law and all that it calls make is longer than what came in: it says more and counts as full. Else prove '..UptoSaid'. A law counts once. -/
mutual
def uptoBulk {H : Type} : DataW H → Nat
  | .lit (.string bytes) => bytes.length + 1
  | .lit _ => 1
  | .nil => 1
  | .ptr d => uptoBulk d + 1
  | .slice elems spare => uptoBulkAll elems + uptoBulkAll spare + 1
  | .agg parts => uptoBulkAll parts + 1
  | .iface _ d => uptoBulk d + 1
  | .map entries => uptoBulkEntries entries + 1
  | .held _ => 1
def uptoBulkAll {H : Type} : List (DataW H) → Nat
  | [] => 0
  | d :: r => uptoBulk d + uptoBulkAll r
def uptoBulkEntries {H : Type} : List (Lit × DataW H) → Nat
  | [] => 0
  | x :: r => uptoBulkEntry x + uptoBulkEntries r
def uptoBulkEntry {H : Type} : Lit × DataW H → Nat
  | (.string bytes, d) => bytes.length + uptoBulk d + 1
  | (_, d) => uptoBulk d + 1
 end
def uptoSmall : (H : Type) → List (DataW H) → Bool := fun _ ds => decide (uptoBulkAll ds ≤ 1048576)
def OpenSpec.upto (s : _root_.Go.ChangeSpec) : _root_.Go.OpenSpec := { _root_.Go.OpenSpec.ofChange s with cond := some uptoSmall }

/-- 'escutcheonlaw10.RequestDoes', WHERE WHAT IT READS IS OF BULK AT MOST 1048576: true; the input reads as it did. -/
def requestDoesUptoRow : OpenClaim := { program := "ytpoibgiajaeegaa", sum := "f96136559a7c10d8af2cf9cf9e5c121ab871090adfd58cb6900c10546926ff94", func := "escutcheon/escutcheonlaw10.RequestDoes", spec := "requestDoes", unfollowed := true, recurses := true, apart := false, narrowed := true }
def RequestDoesUptoSaid : Prop := requestDoesUptoRow.holds Try.pinned (OpenSpec.upto requestDoesSpec)

/-- 'escutcheonlaw10.RequestStays', WHERE WHAT IT READS IS OF BULK AT MOST 1048576: true; the input reads as it did. -/
def requestStaysUptoRow : OpenClaim := { program := "ytpoibgiajaeegaa", sum := "f96136559a7c10d8af2cf9cf9e5c121ab871090adfd58cb6900c10546926ff94", func := "escutcheon/escutcheonlaw10.RequestStays", spec := "requestStays", unfollowed := true, recurses := true, apart := false, narrowed := true }
def RequestStaysUptoSaid : Prop := requestStaysUptoRow.holds Try.pinned (OpenSpec.upto requestStaysSpec)

/-- 'escutcheonlaw10.RequestTargets', WHERE WHAT IT READS IS OF BULK AT MOST 1048576: true; the input reads as it did. -/
def requestTargetsUptoRow : OpenClaim := { program := "ytpoibgiajaeegaa", sum := "f96136559a7c10d8af2cf9cf9e5c121ab871090adfd58cb6900c10546926ff94", func := "escutcheon/escutcheonlaw10.RequestTargets", spec := "requestTargets", unfollowed := true, recurses := true, apart := false, narrowed := true }
def RequestTargetsUptoSaid : Prop := requestTargetsUptoRow.holds Try.pinned (OpenSpec.upto requestTargetsSpec)

end Rows
end Go.Proofs.Ytpoibgiajaeegaa
