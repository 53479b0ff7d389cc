/-
  No cell of these rows narrows 'for every input' (looked for: loops, veiled, ifaces, maps, wideKeys, modest, calm, conditions, laid).
  DERIVED. THE GIVEN ROWS OF THIS SEAT. 3 by the template 'for every input the law returns true; each argument reads behind the call as it read before'; 0 by the template 'total and deterministic' (their statements: YtahafjhcebnokaaTotals.lean).
  GIVEN WITH THE SEED: the statements are not yours to turn. If you find one false, say at which input.
  Laid BY PROGRAM, IN A SANDBOX (cutbox-rows.mjs): the forced cells as the released guide's own fill.sh prints them over the translation 782e409ae667e981… (all of the seat's roots in one cut). By AI agents, Wed Nov 11 2026. No macro, syntax, notation, axiom, sorry.
-/
import Derived.Test.YtahafjhcebnokaaChecked
import GoSem.Claim
import GoSem.ClaimJoined
import GoSem.ClaimMapViews
import Derived.JoinedTies
import Derived.KernelRfl
namespace Go.Proofs.Ytahafjhcebnokaa
/- THE CELL 'sum', in the pinned program and in every row, IS THE sha256 OF THE DUMP (.gsa) THAT YtahafjhcebnokaaProg.lean LOADS. Nothing in Lean hashes anything: it is a label: what it is worth is what the hold of that sum in a sandbox is worth. -/
noncomputable def Try.pinned : Pinned := { name := "ytahafjhcebnokaa", sum := "782e409ae667e9812b495f3a1ddfb04bcf196f520b5d426b45a30448794d4d15", checked := Try.checked }
namespace Rows
def none {H : Type} : Left H := { results := [], args := [] }

/-- 'escutcheonlaw17.NeedEnough': WHATEVER THE INPUT: true; the input reads as it did. -/
def needEnoughSpec : ChangeSpec := { name := "needEnough", fn := fun _ => fun
  | [d1, d2, d3, d4] => { results := [.lit (.bool true)], args := [d1, d2, d3, d4] }
  | _ => none }
def needEnoughRow : OpenClaim := { program := "ytahafjhcebnokaa", sum := "782e409ae667e9812b495f3a1ddfb04bcf196f520b5d426b45a30448794d4d15", func := "escutcheon/escutcheonlaw17.NeedEnough", spec := "needEnough", unfollowed := true, recurses := true, plainKeys := false, apart := false }
def NeedEnoughSaid : Prop := needEnoughRow.holds Try.pinned (OpenSpec.ofChange needEnoughSpec)

/-- ITS FALSE NEIGHBOUR: 'it returns false'. Refute it at one input. -/
def needEnoughWrong : ChangeSpec := { name := "needEnough", fn := fun _ => fun
  | [d1, d2, d3, d4] => { results := [.lit (.bool false)], args := [d1, d2, d3, d4] }
  | _ => none }
def NeedEnoughWrongFalsely : Prop := needEnoughRow.holds Try.pinned (OpenSpec.ofChange needEnoughWrong)

/-- 'escutcheonlaw17.NeedBack': WHATEVER THE INPUT: true; the input reads as it did. -/
def needBackSpec : ChangeSpec := { name := "needBack", fn := fun _ => fun
  | [d] => { results := [.lit (.bool true)], args := [d] }
  | _ => none }
def needBackRow : OpenClaim := { program := "ytahafjhcebnokaa", sum := "782e409ae667e9812b495f3a1ddfb04bcf196f520b5d426b45a30448794d4d15", func := "escutcheon/escutcheonlaw17.NeedBack", spec := "needBack", unfollowed := true, recurses := true, plainKeys := false, apart := false }
def NeedBackSaid : Prop := needBackRow.holds Try.pinned (OpenSpec.ofChange needBackSpec)

/-- ITS FALSE NEIGHBOUR: 'it returns false'. Refute it at one input. -/
def needBackWrong : ChangeSpec := { name := "needBack", fn := fun _ => fun
  | [d] => { results := [.lit (.bool false)], args := [d] }
  | _ => none }
def NeedBackWrongFalsely : Prop := needBackRow.holds Try.pinned (OpenSpec.ofChange needBackWrong)

/-- 'escutcheonlaw17.NeedPlans': WHATEVER THE INPUT: true; the input reads as it did. -/
def needPlansSpec : ChangeSpec := { name := "needPlans", fn := fun _ => fun
  | [d1, d2, d3] => { results := [.lit (.bool true)], args := [d1, d2, d3] }
  | _ => none }
def needPlansRow : OpenClaim := { program := "ytahafjhcebnokaa", sum := "782e409ae667e9812b495f3a1ddfb04bcf196f520b5d426b45a30448794d4d15", func := "escutcheon/escutcheonlaw17.NeedPlans", spec := "needPlans", unfollowed := true, recurses := true, plainKeys := false, apart := false }
def NeedPlansSaid : Prop := needPlansRow.holds Try.pinned (OpenSpec.ofChange needPlansSpec)

/-- ITS FALSE NEIGHBOUR: 'it returns false'. Refute it at one input. -/
def needPlansWrong : ChangeSpec := { name := "needPlans", fn := fun _ => fun
  | [d1, d2, d3] => { results := [.lit (.bool false)], args := [d1, d2, d3] }
  | _ => none }
def NeedPlansWrongFalsely : Prop := needPlansRow.holds Try.pinned (OpenSpec.ofChange needPlansWrong)

/- THE SECOND FORM. 'bulk': how many values and letters a reading holds, each counted each time it is reached (what is shared counts as often as it is met; a slice's spare places count too). A statement '..UptoSaid' is the law's where the arguments, and the package variables that the reading takes, are together of bulk at most 1048576: NARROWER than '..Said'. Prove '..Said' where nothing that the law and all that it calls make is longer than what came in: it says more and counts as full. Else prove '..UptoSaid'. A law counts once. -/
mutual
def uptoBulk {H : Type} : DataW H → Nat
  | .lit (.string bytes) => bytes.length + 1
  | .lit _ => 1
  | .nil => 1
  | .ptr d => uptoBulk d + 1
  | .slice elems spare => uptoBulkAll elems + uptoBulkAll spare + 1
  | .agg parts => uptoBulkAll parts + 1
  | .iface _ d => uptoBulk d + 1
  | .map entries => uptoBulkEntries entries + 1
  | .held _ => 1
def uptoBulkAll {H : Type} : List (DataW H) → Nat
  | [] => 0
  | d :: r => uptoBulk d + uptoBulkAll r
def uptoBulkEntries {H : Type} : List (Lit × DataW H) → Nat
  | [] => 0
  | x :: r => uptoBulkEntry x + uptoBulkEntries r
def uptoBulkEntry {H : Type} : Lit × DataW H → Nat
  | (.string bytes, d) => bytes.length + uptoBulk d + 1
  | (_, d) => uptoBulk d + 1
 end
def uptoSmall : (H : Type) → List (DataW H) → Bool := fun _ ds => decide (uptoBulkAll ds ≤ 1048576)
def OpenSpec.upto (s : _root_.Go.ChangeSpec) : _root_.Go.OpenSpec := { _root_.Go.OpenSpec.ofChange s with cond := some uptoSmall }

/-- 'escutcheonlaw17.NeedEnough', WHERE WHAT IT READS IS OF BULK AT MOST 1048576: true; the input reads as it did. -/
def needEnoughUptoRow : OpenClaim := { program := "ytahafjhcebnokaa", sum := "782e409ae667e9812b495f3a1ddfb04bcf196f520b5d426b45a30448794d4d15", func := "escutcheon/escutcheonlaw17.NeedEnough", spec := "needEnough", unfollowed := true, recurses := true, plainKeys := false, apart := false, narrowed := true }
def NeedEnoughUptoSaid : Prop := needEnoughUptoRow.holds Try.pinned (OpenSpec.upto needEnoughSpec)

/-- 'escutcheonlaw17.NeedBack', WHERE WHAT IT READS IS OF BULK AT MOST 1048576: true; the input reads as it did. -/
def needBackUptoRow : OpenClaim := { program := "ytahafjhcebnokaa", sum := "782e409ae667e9812b495f3a1ddfb04bcf196f520b5d426b45a30448794d4d15", func := "escutcheon/escutcheonlaw17.NeedBack", spec := "needBack", unfollowed := true, recurses := true, plainKeys := false, apart := false, narrowed := true }
def NeedBackUptoSaid : Prop := needBackUptoRow.holds Try.pinned (OpenSpec.upto needBackSpec)

/-- 'escutcheonlaw17.NeedPlans', WHERE WHAT IT READS IS OF BULK AT MOST 1048576: true; the input reads as it did. -/
def needPlansUptoRow : OpenClaim := { program := "ytahafjhcebnokaa", sum := "782e409ae667e9812b495f3a1ddfb04bcf196f520b5d426b45a30448794d4d15", func := "escutcheon/escutcheonlaw17.NeedPlans", spec := "needPlans", unfollowed := true, recurses := true, plainKeys := false, apart := false, narrowed := true }
def NeedPlansUptoSaid : Prop := needPlansUptoRow.holds Try.pinned (OpenSpec.upto needPlansSpec)

end Rows
end Go.Proofs.Ytahafjhcebnokaa
