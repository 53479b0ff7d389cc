/-
  No cell of these rows narrows 'for every input' (looked for: loops, veiled, ifaces, maps, wideKeys, modest, calm, conditions, laid).
  DERIVED. THE GIVEN ROWS OF THIS SEAT. 3 by the template 'for every input the law returns true; each argument reads behind the call as it read before'; 0 by the template 'total and deterministic' (their statements: YtmaiogaeibmpnaaTotals.lean).
  GIVEN WITH THE SEED: the statements are not yours to turn. If you find one false, say at which input.
  Laid BY PROGRAM, IN A SANDBOX (cutbox-rows.mjs): the forced cells as the released guide's own fill.sh prints them over the translation 4d98669c542a66af… (all of the seat's roots in one cut). By AI agents, Wed Nov 11 2026. No macro, syntax, notation, axiom, sorry.
-/
import Derived.Test.YtmaiogaeibmpnaaChecked
import GoSem.Claim
import GoSem.ClaimJoined
import GoSem.ClaimMapViews
import Derived.JoinedTies
import Derived.KernelRfl
namespace Go.Proofs.Ytmaiogaeibmpnaa
/- THE CELL 'sum', in the pinned program and in every row, IS THE sha256 OF THE DUMP (.gsa) THAT YtmaiogaeibmpnaaProg.lean LOADS. Nothing in Lean hashes anything: it is a label: what it is worth is what the hold of that sum in a sandbox is worth. -/
noncomputable def Try.pinned : Pinned := { name := "ytmaiogaeibmpnaa", sum := "4d98669c542a66afed3cc797b8e9001b758fdc11cc0a67da544e12b0fbb6a988", checked := Try.checked }
namespace Rows
def none {H : Type} : Left H := { results := [], args := [] }

/-- 'escutcheonlaw09.LatchDoes': WHATEVER THE INPUT: true; the input reads as it did. -/
def latchDoesSpec : ChangeSpec := { name := "latchDoes", fn := fun _ => fun
  | [d1, d2] => { results := [.lit (.bool true)], args := [d1, d2] }
  | _ => none }
def latchDoesRow : OpenClaim := { program := "ytmaiogaeibmpnaa", sum := "4d98669c542a66afed3cc797b8e9001b758fdc11cc0a67da544e12b0fbb6a988", func := "escutcheon/escutcheonlaw09.LatchDoes", spec := "latchDoes", unfollowed := true, recurses := true, apart := false }
def LatchDoesSaid : Prop := latchDoesRow.holds Try.pinned (OpenSpec.ofChange latchDoesSpec)

/-- ITS FALSE NEIGHBOUR: 'it returns false'. Refute it at one input. -/
def latchDoesWrong : ChangeSpec := { name := "latchDoes", fn := fun _ => fun
  | [d1, d2] => { results := [.lit (.bool false)], args := [d1, d2] }
  | _ => none }
def LatchDoesWrongFalsely : Prop := latchDoesRow.holds Try.pinned (OpenSpec.ofChange latchDoesWrong)

/-- 'escutcheonlaw09.LatchRank': WHATEVER THE INPUT: true; the input reads as it did. -/
def latchRankSpec : ChangeSpec := { name := "latchRank", fn := fun _ => fun
  | [d1, d2, d3] => { results := [.lit (.bool true)], args := [d1, d2, d3] }
  | _ => none }
def latchRankRow : OpenClaim := { program := "ytmaiogaeibmpnaa", sum := "4d98669c542a66afed3cc797b8e9001b758fdc11cc0a67da544e12b0fbb6a988", func := "escutcheon/escutcheonlaw09.LatchRank", spec := "latchRank", unfollowed := true, recurses := true, apart := false }
def LatchRankSaid : Prop := latchRankRow.holds Try.pinned (OpenSpec.ofChange latchRankSpec)

/-- ITS FALSE NEIGHBOUR: 'it returns false'. Refute it at one input. -/
def latchRankWrong : ChangeSpec := { name := "latchRank", fn := fun _ => fun
  | [d1, d2, d3] => { results := [.lit (.bool false)], args := [d1, d2, d3] }
  | _ => none }
def LatchRankWrongFalsely : Prop := latchRankRow.holds Try.pinned (OpenSpec.ofChange latchRankWrong)

/-- 'escutcheonlaw09.LatchGives': WHATEVER THE INPUT: true; the input reads as it did. -/
def latchGivesSpec : ChangeSpec := { name := "latchGives", fn := fun _ => fun
  | [d1, d2, d3, d4] => { results := [.lit (.bool true)], args := [d1, d2, d3, d4] }
  | _ => none }
def latchGivesRow : OpenClaim := { program := "ytmaiogaeibmpnaa", sum := "4d98669c542a66afed3cc797b8e9001b758fdc11cc0a67da544e12b0fbb6a988", func := "escutcheon/escutcheonlaw09.LatchGives", spec := "latchGives", unfollowed := true, recurses := true, apart := false }
def LatchGivesSaid : Prop := latchGivesRow.holds Try.pinned (OpenSpec.ofChange latchGivesSpec)

/-- ITS FALSE NEIGHBOUR: 'it returns false'. Refute it at one input. -/
def latchGivesWrong : ChangeSpec := { name := "latchGives", fn := fun _ => fun
  | [d1, d2, d3, d4] => { results := [.lit (.bool false)], args := [d1, d2, d3, d4] }
  | _ => none }
def LatchGivesWrongFalsely : Prop := latchGivesRow.holds Try.pinned (OpenSpec.ofChange latchGivesWrong)

/- THE SECOND FORM. 'bulk': how many values and letters a reading holds, each counted each time it is reached (what is shared counts as often as it is met; a slice's spare places count too). A statement '..UptoSaid' is the law's where the arguments, and the package variables that the reading takes, are together of bulk at most 1048576: NARROWER than '..Said'. Prove '..Said' where nothing that the law and all that it calls make is longer than what came in: it says more and counts as full. Else prove '..UptoSaid'. A law counts once. -/
mutual
def uptoBulk {H : Type} : DataW H → Nat
  | .lit (.string bytes) => bytes.length + 1
  | .lit _ => 1
  | .nil => 1
  | .ptr d => uptoBulk d + 1
  | .slice elems spare => uptoBulkAll elems + uptoBulkAll spare + 1
  | .agg parts => uptoBulkAll parts + 1
  | .iface _ d => uptoBulk d + 1
  | .map entries => uptoBulkEntries entries + 1
  | .held _ => 1
def uptoBulkAll {H : Type} : List (DataW H) → Nat
  | [] => 0
  | d :: r => uptoBulk d + uptoBulkAll r
def uptoBulkEntries {H : Type} : List (Lit × DataW H) → Nat
  | [] => 0
  | x :: r => uptoBulkEntry x + uptoBulkEntries r
def uptoBulkEntry {H : Type} : Lit × DataW H → Nat
  | (.string bytes, d) => bytes.length + uptoBulk d + 1
  | (_, d) => uptoBulk d + 1
 end
def uptoSmall : (H : Type) → List (DataW H) → Bool := fun _ ds => decide (uptoBulkAll ds ≤ 1048576)
def OpenSpec.upto (s : _root_.Go.ChangeSpec) : _root_.Go.OpenSpec := { _root_.Go.OpenSpec.ofChange s with cond := some uptoSmall }

/-- 'escutcheonlaw09.LatchDoes', WHERE WHAT IT READS IS OF BULK AT MOST 1048576: true; the input reads as it did. -/
def latchDoesUptoRow : OpenClaim := { program := "ytmaiogaeibmpnaa", sum := "4d98669c542a66afed3cc797b8e9001b758fdc11cc0a67da544e12b0fbb6a988", func := "escutcheon/escutcheonlaw09.LatchDoes", spec := "latchDoes", unfollowed := true, recurses := true, apart := false, narrowed := true }
def LatchDoesUptoSaid : Prop := latchDoesUptoRow.holds Try.pinned (OpenSpec.upto latchDoesSpec)

/-- 'escutcheonlaw09.LatchRank', WHERE WHAT IT READS IS OF BULK AT MOST 1048576: true; the input reads as it did. -/
def latchRankUptoRow : OpenClaim := { program := "ytmaiogaeibmpnaa", sum := "4d98669c542a66afed3cc797b8e9001b758fdc11cc0a67da544e12b0fbb6a988", func := "escutcheon/escutcheonlaw09.LatchRank", spec := "latchRank", unfollowed := true, recurses := true, apart := false, narrowed := true }
def LatchRankUptoSaid : Prop := latchRankUptoRow.holds Try.pinned (OpenSpec.upto latchRankSpec)

/-- 'escutcheonlaw09.LatchGives', WHERE WHAT IT READS IS OF BULK AT MOST 1048576: true; the input reads as it did. -/
def latchGivesUptoRow : OpenClaim := { program := "ytmaiogaeibmpnaa", sum := "4d98669c542a66afed3cc797b8e9001b758fdc11cc0a67da544e12b0fbb6a988", func := "escutcheon/escutcheonlaw09.LatchGives", spec := "latchGives", unfollowed := true, recurses := true, apart := false, narrowed := true }
def LatchGivesUptoSaid : Prop := latchGivesUptoRow.holds Try.pinned (OpenSpec.upto latchGivesSpec)

end Rows
end Go.Proofs.Ytmaiogaeibmpnaa
