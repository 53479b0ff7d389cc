/-
  No cell of these rows narrows 'for every input' (looked for: loops, veiled, ifaces, maps, wideKeys, modest, calm, conditions, laid).
  DERIVED. THE GIVEN ROWS OF THIS SEAT. 4 by the template 'for every input the law returns true; each argument reads behind the call as it read before'; 0 by the template 'total and deterministic' (their statements: YtjaiahnibeieiaaTotals.lean).
  GIVEN WITH THE SEED: the statements are not yours to turn. If you find one false, say at which input.
  Laid BY PROGRAM, IN A SANDBOX (cutbox-rows.mjs): the forced cells as the released guide's own fill.sh prints them over the translation 24681026b6544fe5… (all of the seat's roots in one cut). By AI agents, Wed Nov 11 2026. No macro, syntax, notation, axiom, sorry.
-/
import Derived.Test.YtjaiahnibeieiaaChecked
import GoSem.Claim
import GoSem.ClaimJoined
import GoSem.ClaimMapViews
import Derived.JoinedTies
import Derived.KernelRfl
namespace Go.Proofs.Ytjaiahnibeieiaa
/- THE CELL 'sum', in the pinned program and in every row, IS THE sha256 OF THE DUMP (.gsa) THAT YtjaiahnibeieiaaProg.lean LOADS. Nothing in Lean hashes anything: it is a label: what it is worth is what the hold of that sum in a sandbox is worth. -/
noncomputable def Try.pinned : Pinned := { name := "ytjaiahnibeieiaa", sum := "24681026b6544fe5845e6f0c00e80f2d1b9ddf20f4a5a89bfa9d7bba0362ccea", checked := Try.checked }
namespace Rows
def none {H : Type} : Left H := { results := [], args := [] }

/-- 'escutcheonlaw08.OrderDraws': WHATEVER THE INPUT: true; the input reads as it did. -/
def orderDrawsSpec : ChangeSpec := { name := "orderDraws", fn := fun _ => fun
  | [d1, d2, d3, d4] => { results := [.lit (.bool true)], args := [d1, d2, d3, d4] }
  | _ => none }
def orderDrawsRow : OpenClaim := { program := "ytjaiahnibeieiaa", sum := "24681026b6544fe5845e6f0c00e80f2d1b9ddf20f4a5a89bfa9d7bba0362ccea", func := "escutcheon/escutcheonlaw08.OrderDraws", spec := "orderDraws", unfollowed := true, recurses := true, apart := false }
def OrderDrawsSaid : Prop := orderDrawsRow.holds Try.pinned (OpenSpec.ofChange orderDrawsSpec)

/-- ITS FALSE NEIGHBOUR: 'it returns false'. Refute it at one input. -/
def orderDrawsWrong : ChangeSpec := { name := "orderDraws", fn := fun _ => fun
  | [d1, d2, d3, d4] => { results := [.lit (.bool false)], args := [d1, d2, d3, d4] }
  | _ => none }
def OrderDrawsWrongFalsely : Prop := orderDrawsRow.holds Try.pinned (OpenSpec.ofChange orderDrawsWrong)

/-- 'escutcheonlaw08.OrderFair': WHATEVER THE INPUT: true; the input reads as it did. -/
def orderFairSpec : ChangeSpec := { name := "orderFair", fn := fun _ => fun
  | [d1, d2, d3] => { results := [.lit (.bool true)], args := [d1, d2, d3] }
  | _ => none }
def orderFairRow : OpenClaim := { program := "ytjaiahnibeieiaa", sum := "24681026b6544fe5845e6f0c00e80f2d1b9ddf20f4a5a89bfa9d7bba0362ccea", func := "escutcheon/escutcheonlaw08.OrderFair", spec := "orderFair", unfollowed := true, recurses := true, apart := false }
def OrderFairSaid : Prop := orderFairRow.holds Try.pinned (OpenSpec.ofChange orderFairSpec)

/-- ITS FALSE NEIGHBOUR: 'it returns false'. Refute it at one input. -/
def orderFairWrong : ChangeSpec := { name := "orderFair", fn := fun _ => fun
  | [d1, d2, d3] => { results := [.lit (.bool false)], args := [d1, d2, d3] }
  | _ => none }
def OrderFairWrongFalsely : Prop := orderFairRow.holds Try.pinned (OpenSpec.ofChange orderFairWrong)

/-- 'escutcheonlaw08.OrderRound': WHATEVER THE INPUT: true; the input reads as it did. -/
def orderRoundSpec : ChangeSpec := { name := "orderRound", fn := fun _ => fun
  | [d1, d2, d3, d4, d5] => { results := [.lit (.bool true)], args := [d1, d2, d3, d4, d5] }
  | _ => none }
def orderRoundRow : OpenClaim := { program := "ytjaiahnibeieiaa", sum := "24681026b6544fe5845e6f0c00e80f2d1b9ddf20f4a5a89bfa9d7bba0362ccea", func := "escutcheon/escutcheonlaw08.OrderRound", spec := "orderRound", unfollowed := true, recurses := true, apart := false }
def OrderRoundSaid : Prop := orderRoundRow.holds Try.pinned (OpenSpec.ofChange orderRoundSpec)

/-- ITS FALSE NEIGHBOUR: 'it returns false'. Refute it at one input. -/
def orderRoundWrong : ChangeSpec := { name := "orderRound", fn := fun _ => fun
  | [d1, d2, d3, d4, d5] => { results := [.lit (.bool false)], args := [d1, d2, d3, d4, d5] }
  | _ => none }
def OrderRoundWrongFalsely : Prop := orderRoundRow.holds Try.pinned (OpenSpec.ofChange orderRoundWrong)

/-- 'escutcheonlaw08.OrderSeeds': WHATEVER THE INPUT: true; the input reads as it did. -/
def orderSeedsSpec : ChangeSpec := { name := "orderSeeds", fn := fun _ => fun
  | [d1, d2] => { results := [.lit (.bool true)], args := [d1, d2] }
  | _ => none }
def orderSeedsRow : OpenClaim := { program := "ytjaiahnibeieiaa", sum := "24681026b6544fe5845e6f0c00e80f2d1b9ddf20f4a5a89bfa9d7bba0362ccea", func := "escutcheon/escutcheonlaw08.OrderSeeds", spec := "orderSeeds", apart := false }
def OrderSeedsSaid : Prop := orderSeedsRow.holds Try.pinned (OpenSpec.ofChange orderSeedsSpec)

/-- ITS FALSE NEIGHBOUR: 'it returns false'. Refute it at one input. -/
def orderSeedsWrong : ChangeSpec := { name := "orderSeeds", fn := fun _ => fun
  | [d1, d2] => { results := [.lit (.bool false)], args := [d1, d2] }
  | _ => none }
def OrderSeedsWrongFalsely : Prop := orderSeedsRow.holds Try.pinned (OpenSpec.ofChange orderSeedsWrong)

/- THE SECOND FORM. 'bulk': how many values and letters a reading holds, each counted each time it is reached (what is shared counts as often as it is met; a slice's spare places count too). A statement '..UptoSaid' is the law's where the arguments, and the package variables that the reading takes, are together of bulk at most 1048576: NARROWER than '..Said'. Prove '..Said' where nothing that the law and all that it calls make is longer than what came in: it says more and counts as full. Else prove '..UptoSaid'. A law counts once. -/
mutual
def uptoBulk {H : Type} : DataW H → Nat
  | .lit (.string bytes) => bytes.length + 1
  | .lit _ => 1
  | .nil => 1
  | .ptr d => uptoBulk d + 1
  | .slice elems spare => uptoBulkAll elems + uptoBulkAll spare + 1
  | .agg parts => uptoBulkAll parts + 1
  | .iface _ d => uptoBulk d + 1
  | .map entries => uptoBulkEntries entries + 1
  | .held _ => 1
def uptoBulkAll {H : Type} : List (DataW H) → Nat
  | [] => 0
  | d :: r => uptoBulk d + uptoBulkAll r
def uptoBulkEntries {H : Type} : List (Lit × DataW H) → Nat
  | [] => 0
  | x :: r => uptoBulkEntry x + uptoBulkEntries r
def uptoBulkEntry {H : Type} : Lit × DataW H → Nat
  | (.string bytes, d) => bytes.length + uptoBulk d + 1
  | (_, d) => uptoBulk d + 1
 end
def uptoSmall : (H : Type) → List (DataW H) → Bool := fun _ ds => decide (uptoBulkAll ds ≤ 1048576)
def OpenSpec.upto (s : _root_.Go.ChangeSpec) : _root_.Go.OpenSpec := { _root_.Go.OpenSpec.ofChange s with cond := some uptoSmall }

/-- 'escutcheonlaw08.OrderDraws', WHERE WHAT IT READS IS OF BULK AT MOST 1048576: true; the input reads as it did. -/
def orderDrawsUptoRow : OpenClaim := { program := "ytjaiahnibeieiaa", sum := "24681026b6544fe5845e6f0c00e80f2d1b9ddf20f4a5a89bfa9d7bba0362ccea", func := "escutcheon/escutcheonlaw08.OrderDraws", spec := "orderDraws", unfollowed := true, recurses := true, apart := false, narrowed := true }
def OrderDrawsUptoSaid : Prop := orderDrawsUptoRow.holds Try.pinned (OpenSpec.upto orderDrawsSpec)

/-- 'escutcheonlaw08.OrderFair', WHERE WHAT IT READS IS OF BULK AT MOST 1048576: true; the input reads as it did. -/
def orderFairUptoRow : OpenClaim := { program := "ytjaiahnibeieiaa", sum := "24681026b6544fe5845e6f0c00e80f2d1b9ddf20f4a5a89bfa9d7bba0362ccea", func := "escutcheon/escutcheonlaw08.OrderFair", spec := "orderFair", unfollowed := true, recurses := true, apart := false, narrowed := true }
def OrderFairUptoSaid : Prop := orderFairUptoRow.holds Try.pinned (OpenSpec.upto orderFairSpec)

/-- 'escutcheonlaw08.OrderRound', WHERE WHAT IT READS IS OF BULK AT MOST 1048576: true; the input reads as it did. -/
def orderRoundUptoRow : OpenClaim := { program := "ytjaiahnibeieiaa", sum := "24681026b6544fe5845e6f0c00e80f2d1b9ddf20f4a5a89bfa9d7bba0362ccea", func := "escutcheon/escutcheonlaw08.OrderRound", spec := "orderRound", unfollowed := true, recurses := true, apart := false, narrowed := true }
def OrderRoundUptoSaid : Prop := orderRoundUptoRow.holds Try.pinned (OpenSpec.upto orderRoundSpec)

/-- 'escutcheonlaw08.OrderSeeds', WHERE WHAT IT READS IS OF BULK AT MOST 1048576: true; the input reads as it did. -/
def orderSeedsUptoRow : OpenClaim := { program := "ytjaiahnibeieiaa", sum := "24681026b6544fe5845e6f0c00e80f2d1b9ddf20f4a5a89bfa9d7bba0362ccea", func := "escutcheon/escutcheonlaw08.OrderSeeds", spec := "orderSeeds", apart := false, narrowed := true }
def OrderSeedsUptoSaid : Prop := orderSeedsUptoRow.holds Try.pinned (OpenSpec.upto orderSeedsSpec)

end Rows
end Go.Proofs.Ytjaiahnibeieiaa
