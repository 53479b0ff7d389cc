/-
  No cell of these rows narrows 'for every input' (looked for: loops, veiled, ifaces, maps, wideKeys, modest, calm, conditions, laid).
  DERIVED. THE GIVEN ROWS OF THIS SEAT. 3 by the template 'for every input the law returns true; each argument reads behind the call as it read before'; 0 by the template 'total and deterministic' (their statements: YthjlapcccmbhbaaTotals.lean).
  GIVEN WITH THE SEED: the statements are not yours to turn. If you find one false, say at which input.
  Laid BY PROGRAM, IN A SANDBOX (cutbox-rows.mjs): the forced cells as the released guide's own fill.sh prints them over the translation 2a06b8294e4c7b7b… (all of the seat's roots in one cut). By AI agents, Wed Nov 11 2026. No macro, syntax, notation, axiom, sorry.
-/
import Derived.Test.YthjlapcccmbhbaaChecked
import GoSem.Claim
import GoSem.ClaimJoined
import GoSem.ClaimMapViews
import Derived.JoinedTies
import Derived.KernelRfl
namespace Go.Proofs.Ythjlapcccmbhbaa
/- THE CELL 'sum', in the pinned program and in every row, IS THE sha256 OF THE DUMP (.gsa) THAT YthjlapcccmbhbaaProg.lean LOADS. Nothing in Lean hashes anything: it is a label: what it is worth is what the hold of that sum in a sandbox is worth. -/
noncomputable def Try.pinned : Pinned := { name := "ythjlapcccmbhbaa", sum := "2a06b8294e4c7b7b1677b73b646722e19e757541993eb77f7744e2893b2cc407", checked := Try.checked }
namespace Rows
def none {H : Type} : Left H := { results := [], args := [] }

/-- 'escutcheonlaw18.GrowDoes': WHATEVER THE INPUT: true; the input reads as it did. -/
def growDoesSpec : ChangeSpec := { name := "growDoes", fn := fun _ => fun
  | [d1, d2, d3, d4] => { results := [.lit (.bool true)], args := [d1, d2, d3, d4] }
  | _ => none }
def growDoesRow : OpenClaim := { program := "ythjlapcccmbhbaa", sum := "2a06b8294e4c7b7b1677b73b646722e19e757541993eb77f7744e2893b2cc407", func := "escutcheon/escutcheonlaw18.GrowDoes", spec := "growDoes", unfollowed := true, recurses := true, plainKeys := false, apart := false }
def GrowDoesSaid : Prop := growDoesRow.holds Try.pinned (OpenSpec.ofChange growDoesSpec)

/-- ITS FALSE NEIGHBOUR: 'it returns false'. Refute it at one input. -/
def growDoesWrong : ChangeSpec := { name := "growDoes", fn := fun _ => fun
  | [d1, d2, d3, d4] => { results := [.lit (.bool false)], args := [d1, d2, d3, d4] }
  | _ => none }
def GrowDoesWrongFalsely : Prop := growDoesRow.holds Try.pinned (OpenSpec.ofChange growDoesWrong)

/-- 'escutcheonlaw18.GrowKeeps': WHATEVER THE INPUT: true; the input reads as it did. -/
def growKeepsSpec : ChangeSpec := { name := "growKeeps", fn := fun _ => fun
  | [d1, d2, d3] => { results := [.lit (.bool true)], args := [d1, d2, d3] }
  | _ => none }
def growKeepsRow : OpenClaim := { program := "ythjlapcccmbhbaa", sum := "2a06b8294e4c7b7b1677b73b646722e19e757541993eb77f7744e2893b2cc407", func := "escutcheon/escutcheonlaw18.GrowKeeps", spec := "growKeeps", unfollowed := true, recurses := true, plainKeys := false, apart := false }
def GrowKeepsSaid : Prop := growKeepsRow.holds Try.pinned (OpenSpec.ofChange growKeepsSpec)

/-- ITS FALSE NEIGHBOUR: 'it returns false'. Refute it at one input. -/
def growKeepsWrong : ChangeSpec := { name := "growKeeps", fn := fun _ => fun
  | [d1, d2, d3] => { results := [.lit (.bool false)], args := [d1, d2, d3] }
  | _ => none }
def GrowKeepsWrongFalsely : Prop := growKeepsRow.holds Try.pinned (OpenSpec.ofChange growKeepsWrong)

/-- 'escutcheonlaw18.GrowPicks': WHATEVER THE INPUT: true; the input reads as it did. -/
def growPicksSpec : ChangeSpec := { name := "growPicks", fn := fun _ => fun
  | [d1, d2] => { results := [.lit (.bool true)], args := [d1, d2] }
  | _ => none }
def growPicksRow : OpenClaim := { program := "ythjlapcccmbhbaa", sum := "2a06b8294e4c7b7b1677b73b646722e19e757541993eb77f7744e2893b2cc407", func := "escutcheon/escutcheonlaw18.GrowPicks", spec := "growPicks", unfollowed := true, recurses := true, plainKeys := false, apart := false }
def GrowPicksSaid : Prop := growPicksRow.holds Try.pinned (OpenSpec.ofChange growPicksSpec)

/-- ITS FALSE NEIGHBOUR: 'it returns false'. Refute it at one input. -/
def growPicksWrong : ChangeSpec := { name := "growPicks", fn := fun _ => fun
  | [d1, d2] => { results := [.lit (.bool false)], args := [d1, d2] }
  | _ => none }
def GrowPicksWrongFalsely : Prop := growPicksRow.holds Try.pinned (OpenSpec.ofChange growPicksWrong)

/- THE SECOND FORM. 'bulk': how many values and letters a reading holds, each counted each time it is reached (what is shared counts as often as it is met; a slice's spare places count too). A statement '..UptoSaid' is the law's where the arguments, and the package variables that the reading takes, are together of bulk at most 1048576: NARROWER than '..Said'. Prove '..Said' where nothing that the law and all that it calls make is longer than what came in: it says more and counts as full. Else prove '..UptoSaid'. A law counts once. -/
mutual
def uptoBulk {H : Type} : DataW H → Nat
  | .lit (.string bytes) => bytes.length + 1
  | .lit _ => 1
  | .nil => 1
  | .ptr d => uptoBulk d + 1
  | .slice elems spare => uptoBulkAll elems + uptoBulkAll spare + 1
  | .agg parts => uptoBulkAll parts + 1
  | .iface _ d => uptoBulk d + 1
  | .map entries => uptoBulkEntries entries + 1
  | .held _ => 1
def uptoBulkAll {H : Type} : List (DataW H) → Nat
  | [] => 0
  | d :: r => uptoBulk d + uptoBulkAll r
def uptoBulkEntries {H : Type} : List (Lit × DataW H) → Nat
  | [] => 0
  | x :: r => uptoBulkEntry x + uptoBulkEntries r
def uptoBulkEntry {H : Type} : Lit × DataW H → Nat
  | (.string bytes, d) => bytes.length + uptoBulk d + 1
  | (_, d) => uptoBulk d + 1
 end
def uptoSmall : (H : Type) → List (DataW H) → Bool := fun _ ds => decide (uptoBulkAll ds ≤ 1048576)
def OpenSpec.upto (s : _root_.Go.ChangeSpec) : _root_.Go.OpenSpec := { _root_.Go.OpenSpec.ofChange s with cond := some uptoSmall }

/-- 'escutcheonlaw18.GrowDoes', WHERE WHAT IT READS IS OF BULK AT MOST 1048576: true; the input reads as it did. -/
def growDoesUptoRow : OpenClaim := { program := "ythjlapcccmbhbaa", sum := "2a06b8294e4c7b7b1677b73b646722e19e757541993eb77f7744e2893b2cc407", func := "escutcheon/escutcheonlaw18.GrowDoes", spec := "growDoes", unfollowed := true, recurses := true, plainKeys := false, apart := false, narrowed := true }
def GrowDoesUptoSaid : Prop := growDoesUptoRow.holds Try.pinned (OpenSpec.upto growDoesSpec)

/-- 'escutcheonlaw18.GrowKeeps', WHERE WHAT IT READS IS OF BULK AT MOST 1048576: true; the input reads as it did. -/
def growKeepsUptoRow : OpenClaim := { program := "ythjlapcccmbhbaa", sum := "2a06b8294e4c7b7b1677b73b646722e19e757541993eb77f7744e2893b2cc407", func := "escutcheon/escutcheonlaw18.GrowKeeps", spec := "growKeeps", unfollowed := true, recurses := true, plainKeys := false, apart := false, narrowed := true }
def GrowKeepsUptoSaid : Prop := growKeepsUptoRow.holds Try.pinned (OpenSpec.upto growKeepsSpec)

/-- 'escutcheonlaw18.GrowPicks', WHERE WHAT IT READS IS OF BULK AT MOST 1048576: true; the input reads as it did. -/
def growPicksUptoRow : OpenClaim := { program := "ythjlapcccmbhbaa", sum := "2a06b8294e4c7b7b1677b73b646722e19e757541993eb77f7744e2893b2cc407", func := "escutcheon/escutcheonlaw18.GrowPicks", spec := "growPicks", unfollowed := true, recurses := true, plainKeys := false, apart := false, narrowed := true }
def GrowPicksUptoSaid : Prop := growPicksUptoRow.holds Try.pinned (OpenSpec.upto growPicksSpec)

end Rows
end Go.Proofs.Ythjlapcccmbhbaa
