/-
  No cell of these rows narrows 'for every input' (looked for: loops, veiled, ifaces, maps, wideKeys, modest, calm, conditions, laid).
  DERIVED. THE GIVEN ROWS OF THIS SEAT. 4 by the template 'for every input the law returns true; each argument reads behind the call as it read before'; 0 by the template 'total and deterministic' (their statements: YtggmnjnigmbooaaTotals.lean).
  GIVEN WITH THE SEED: the statements are not yours to turn. If you find one false, say at which input.
  Laid BY PROGRAM, IN A SANDBOX (cutbox-rows.mjs): the forced cells as the released guide's own fill.sh prints them over the translation 87c3bf1e330405a1… (all of the seat's roots in one cut). By AI agents, Wed Nov 11 2026. No macro, syntax, notation, axiom, sorry.
-/
import Derived.Test.YtggmnjnigmbooaaChecked
import GoSem.Claim
import GoSem.ClaimJoined
import GoSem.ClaimMapViews
import Derived.JoinedTies
import Derived.KernelRfl
namespace Go.Proofs.Ytggmnjnigmbooaa
/- THE CELL 'sum', in the pinned program and in every row, IS THE sha256 OF THE DUMP (.gsa) THAT YtggmnjnigmbooaaProg.lean LOADS. Nothing in Lean hashes anything: it is a label: what it is worth is what the hold of that sum in a sandbox is worth. -/
noncomputable def Try.pinned : Pinned := { name := "ytggmnjnigmbooaa", sum := "87c3bf1e330405a1cb88de93055ac4227b1d02c13b40c30680acdfee70123ab2", checked := Try.checked }
namespace Rows
def none {H : Type} : Left H := { results := [], args := [] }

/-- 'escutcheonlaw16.VictimDoes': WHATEVER THE INPUT: true; the input reads as it did. -/
def victimDoesSpec : ChangeSpec := { name := "victimDoes", fn := fun _ => fun
  | [d1, d2, d3, d4, d5, d6, d7] => { results := [.lit (.bool true)], args := [d1, d2, d3, d4, d5, d6, d7] }
  | _ => none }
def victimDoesRow : OpenClaim := { program := "ytggmnjnigmbooaa", sum := "87c3bf1e330405a1cb88de93055ac4227b1d02c13b40c30680acdfee70123ab2", func := "escutcheon/escutcheonlaw16.VictimDoes", spec := "victimDoes", apart := false }
def VictimDoesSaid : Prop := victimDoesRow.holds Try.pinned (OpenSpec.ofChange victimDoesSpec)

/-- ITS FALSE NEIGHBOUR: 'it returns false'. Refute it at one input. -/
def victimDoesWrong : ChangeSpec := { name := "victimDoes", fn := fun _ => fun
  | [d1, d2, d3, d4, d5, d6, d7] => { results := [.lit (.bool false)], args := [d1, d2, d3, d4, d5, d6, d7] }
  | _ => none }
def VictimDoesWrongFalsely : Prop := victimDoesRow.holds Try.pinned (OpenSpec.ofChange victimDoesWrong)

/-- 'escutcheonlaw16.VictimOldest': WHATEVER THE INPUT: true; the input reads as it did. -/
def victimOldestSpec : ChangeSpec := { name := "victimOldest", fn := fun _ => fun
  | [d1, d2, d3, d4, d5] => { results := [.lit (.bool true)], args := [d1, d2, d3, d4, d5] }
  | _ => none }
def victimOldestRow : OpenClaim := { program := "ytggmnjnigmbooaa", sum := "87c3bf1e330405a1cb88de93055ac4227b1d02c13b40c30680acdfee70123ab2", func := "escutcheon/escutcheonlaw16.VictimOldest", spec := "victimOldest", apart := false }
def VictimOldestSaid : Prop := victimOldestRow.holds Try.pinned (OpenSpec.ofChange victimOldestSpec)

/-- ITS FALSE NEIGHBOUR: 'it returns false'. Refute it at one input. -/
def victimOldestWrong : ChangeSpec := { name := "victimOldest", fn := fun _ => fun
  | [d1, d2, d3, d4, d5] => { results := [.lit (.bool false)], args := [d1, d2, d3, d4, d5] }
  | _ => none }
def VictimOldestWrongFalsely : Prop := victimOldestRow.holds Try.pinned (OpenSpec.ofChange victimOldestWrong)

/-- 'escutcheonlaw16.VictimRings': WHATEVER THE INPUT: true; the input reads as it did. -/
def victimRingsSpec : ChangeSpec := { name := "victimRings", fn := fun _ => fun
  | [d1, d2, d3] => { results := [.lit (.bool true)], args := [d1, d2, d3] }
  | _ => none }
def victimRingsRow : OpenClaim := { program := "ytggmnjnigmbooaa", sum := "87c3bf1e330405a1cb88de93055ac4227b1d02c13b40c30680acdfee70123ab2", func := "escutcheon/escutcheonlaw16.VictimRings", spec := "victimRings", unfollowed := true, recurses := true, apart := false }
def VictimRingsSaid : Prop := victimRingsRow.holds Try.pinned (OpenSpec.ofChange victimRingsSpec)

/-- ITS FALSE NEIGHBOUR: 'it returns false'. Refute it at one input. -/
def victimRingsWrong : ChangeSpec := { name := "victimRings", fn := fun _ => fun
  | [d1, d2, d3] => { results := [.lit (.bool false)], args := [d1, d2, d3] }
  | _ => none }
def VictimRingsWrongFalsely : Prop := victimRingsRow.holds Try.pinned (OpenSpec.ofChange victimRingsWrong)

/-- 'escutcheonlaw16.VictimJudge': WHATEVER THE INPUT: true; the input reads as it did. -/
def victimJudgeSpec : ChangeSpec := { name := "victimJudge", fn := fun _ => fun
  | [d1, d2, d3] => { results := [.lit (.bool true)], args := [d1, d2, d3] }
  | _ => none }
def victimJudgeRow : OpenClaim := { program := "ytggmnjnigmbooaa", sum := "87c3bf1e330405a1cb88de93055ac4227b1d02c13b40c30680acdfee70123ab2", func := "escutcheon/escutcheonlaw16.VictimJudge", spec := "victimJudge", apart := false }
def VictimJudgeSaid : Prop := victimJudgeRow.holds Try.pinned (OpenSpec.ofChange victimJudgeSpec)

/-- ITS FALSE NEIGHBOUR: 'it returns false'. Refute it at one input. -/
def victimJudgeWrong : ChangeSpec := { name := "victimJudge", fn := fun _ => fun
  | [d1, d2, d3] => { results := [.lit (.bool false)], args := [d1, d2, d3] }
  | _ => none }
def VictimJudgeWrongFalsely : Prop := victimJudgeRow.holds Try.pinned (OpenSpec.ofChange victimJudgeWrong)

/- THE SECOND FORM. 'bulk': how many values and letters a reading holds, each counted each time it is reached (what is shared counts as often as it is met; a slice's spare places count too). A statement '..UptoSaid' is the law's where the arguments, and the package variables that the reading takes, are together of bulk at most 1048576: NARROWER than '..Said'. Prove '..Said' where nothing that the law and all that it calls make is longer than what came in: it says more and counts as full. Else prove '..UptoSaid'. A law counts once. -/
mutual
def uptoBulk {H : Type} : DataW H → Nat
  | .lit (.string bytes) => bytes.length + 1
  | .lit _ => 1
  | .nil => 1
  | .ptr d => uptoBulk d + 1
  | .slice elems spare => uptoBulkAll elems + uptoBulkAll spare + 1
  | .agg parts => uptoBulkAll parts + 1
  | .iface _ d => uptoBulk d + 1
  | .map entries => uptoBulkEntries entries + 1
  | .held _ => 1
def uptoBulkAll {H : Type} : List (DataW H) → Nat
  | [] => 0
  | d :: r => uptoBulk d + uptoBulkAll r
def uptoBulkEntries {H : Type} : List (Lit × DataW H) → Nat
  | [] => 0
  | x :: r => uptoBulkEntry x + uptoBulkEntries r
def uptoBulkEntry {H : Type} : Lit × DataW H → Nat
  | (.string bytes, d) => bytes.length + uptoBulk d + 1
  | (_, d) => uptoBulk d + 1
 end
def uptoSmall : (H : Type) → List (DataW H) → Bool := fun _ ds => decide (uptoBulkAll ds ≤ 1048576)
def OpenSpec.upto (s : _root_.Go.ChangeSpec) : _root_.Go.OpenSpec := { _root_.Go.OpenSpec.ofChange s with cond := some uptoSmall }

/-- 'escutcheonlaw16.VictimDoes', WHERE WHAT IT READS IS OF BULK AT MOST 1048576: true; the input reads as it did. -/
def victimDoesUptoRow : OpenClaim := { program := "ytggmnjnigmbooaa", sum := "87c3bf1e330405a1cb88de93055ac4227b1d02c13b40c30680acdfee70123ab2", func := "escutcheon/escutcheonlaw16.VictimDoes", spec := "victimDoes", apart := false, narrowed := true }
def VictimDoesUptoSaid : Prop := victimDoesUptoRow.holds Try.pinned (OpenSpec.upto victimDoesSpec)

/-- 'escutcheonlaw16.VictimOldest', WHERE WHAT IT READS IS OF BULK AT MOST 1048576: true; the input reads as it did. -/
def victimOldestUptoRow : OpenClaim := { program := "ytggmnjnigmbooaa", sum := "87c3bf1e330405a1cb88de93055ac4227b1d02c13b40c30680acdfee70123ab2", func := "escutcheon/escutcheonlaw16.VictimOldest", spec := "victimOldest", apart := false, narrowed := true }
def VictimOldestUptoSaid : Prop := victimOldestUptoRow.holds Try.pinned (OpenSpec.upto victimOldestSpec)

/-- 'escutcheonlaw16.VictimRings', WHERE WHAT IT READS IS OF BULK AT MOST 1048576: true; the input reads as it did. -/
def victimRingsUptoRow : OpenClaim := { program := "ytggmnjnigmbooaa", sum := "87c3bf1e330405a1cb88de93055ac4227b1d02c13b40c30680acdfee70123ab2", func := "escutcheon/escutcheonlaw16.VictimRings", spec := "victimRings", unfollowed := true, recurses := true, apart := false, narrowed := true }
def VictimRingsUptoSaid : Prop := victimRingsUptoRow.holds Try.pinned (OpenSpec.upto victimRingsSpec)

/-- 'escutcheonlaw16.VictimJudge', WHERE WHAT IT READS IS OF BULK AT MOST 1048576: true; the input reads as it did. -/
def victimJudgeUptoRow : OpenClaim := { program := "ytggmnjnigmbooaa", sum := "87c3bf1e330405a1cb88de93055ac4227b1d02c13b40c30680acdfee70123ab2", func := "escutcheon/escutcheonlaw16.VictimJudge", spec := "victimJudge", apart := false, narrowed := true }
def VictimJudgeUptoSaid : Prop := victimJudgeUptoRow.holds Try.pinned (OpenSpec.upto victimJudgeSpec)

end Rows
end Go.Proofs.Ytggmnjnigmbooaa
