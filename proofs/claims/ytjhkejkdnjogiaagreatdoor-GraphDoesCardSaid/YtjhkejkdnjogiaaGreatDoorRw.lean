/- Regions that draw their order, in a round: whatever the plain walk shows of their operations holds there, too. -/
import Derived.Test.YtjhkejkdnjogiaaGreatDoorRg
import Derived.Deep.QuietTactic
import Derived.Deep.RegionHeld3
import Derived.BigQuiet
namespace Go.Proofs.YtjhkejkdnjogiaaGreatDoor
open Go Go.RowKit

section
variable {P : Program} {ops : Array Oper} {r m : Nat} {Q : Exit → Act → World → Prop} {md : Region.Mode}
/-- an operation that puts no call off -/
theorem oper_in {o : Oper} {a : Act} {w : World} {K K' : Act → World → Prop} (hd : ∀ c, o.op ≠ .defer c) (h : o.wp P a w K Q) (hk : ∀ a w, K a w → K' a w) : o.wpIn (inR r) m P a w K' Q := by
  refine ⟨fun _ _ => trivial, ?_⟩
  rw [show Oper.semAt (inR r).round a.eval o = execOp a.eval o from Oper.semAt_eq _ _ _ hd]
  unfold Oper.wp at h
  generalize (execOp a.eval o).run P w = x at *
  cases x with
  | ok n w' =>
    cases n <;> simp only [Oper.upon] at h <;> simp only [Oper.uponIn]
    case value => exact hk _ _ h
    case skip => exact hk _ _ h
    case defer => exact hk _ _ h
    case enter f args =>
      refine ⟨nofun, CallsIn.inRound r (callsIn_wide.2 (h.mono ?_))⟩
      intro e w'' he
      cases e
      · exact hk _ _ he
      · exact he
      · exact he
    case row row args =>
      refine ⟨nofun, fun c cs _ => ?_⟩
      obtain ⟨v, w'', hv, hs⟩ := h c cs
      exact ⟨v, w'', hk _ _ hv, (StepsIn.of_steps hs).mono fun mm _ => by rw [fenced_inRound]; exact fenced_wide P mm⟩
  | halt n w' => cases n <;> simp only [Oper.upon] at h <;> simp only [Oper.uponIn] <;> exact h
theorem op_in {i : Nat} {a : Act} {w : World} {K K' : Act → World → Prop} (calm : ∀ (i : Nat) (o : Oper), ops[i]? = some o → ∀ c, o.op ≠ .defer c) (hout : ¬ LetsOut Q) (hk : ∀ a w, K a w → K' a w) (h : wpOp P ops Q i K a w) : wpOpIn (inR r) m P ops Q i K' a w := by
  unfold wpOp at h
  unfold wpOpIn
  split
  · rename_i ho
    simp only [ho] at h
    exact hk _ _ h
  · rename_i o ho
    simp only [ho] at h
    split
    · rename_i hw
      simp only [hw, if_true] at h
      rcases h with h | h
      · exact oper_in (calm i o ho) h hk
      · exact absurd h.2 hout
    · rename_i hw
      simp only [hw] at h
      exact ⟨fun _ _ => trivial, hk _ _ h⟩
theorem any_in (calm : ∀ (i : Nat) (o : Oper), ops[i]? = some o → ∀ c, o.op ≠ .defer c) (hout : ¬ LetsOut Q) : ∀ (fuel : Nat) (done : Array Bool) (a : Act) (w : World), wpAny P md ops Q fuel done a w → wpAnyIn (inR r) m P md ops Q fuel done a w
  | 0, _, _, _, h => h
  | fuel + 1, _, _, _, h => ⟨h.1, fun i hi => op_in calm hout (fun a w h' => any_in calm hout fuel _ a w h') (h.2 i hi)⟩
end
section
variable {P : Program} {r m id : Nat} {Q : Exit → Act → World → Prop} {a : Act} {w : World} {l : List Oper}
theorem calm_all (h : calmB l = true) : ∀ (i : Nat) (o : Oper), l.toArray[i]? = some o → ∀ c, o.op ≠ .defer c := fun i o ho c => calm_at h (by simpa using Array.mem_of_getElem? ho) c
/-- in a round, a region is walked in whatever order -/
theorem round_any (mixed : P.follows .mixedOrders = true) (calm : calmB l = true) (hout : ¬ LetsOut Q) (h : wpAny P .any l.toArray Q l.toArray.size (Array.replicate l.toArray.size false) a w.drew) : (Code.region id l.toArray true).wpIn (inR r) m P Q a w :=
  wpIn_region_any mixed (any_in (calm_all calm) hout _ _ _ _ h)
/-- .. a condition being held -/
theorem round_held {S : World → Prop} (mixed : P.follows .mixedOrders = true) (calm : calmB l = true) (hout : ¬ LetsOut Q) (hS : S w.drew) (h : S w.drew → wpAnyH P .any l.toArray Q S l.toArray.size (Array.replicate l.toArray.size false) a w.drew) : (Code.region id l.toArray true).wpIn (inR r) m P Q a w :=
  round_any mixed calm hout (wpAny_of_held _ _ _ _ (h hS))
/-- .. quietly -/
theorem round_quiet {C : World → Prop} (mixed : P.follows .mixedOrders = true) (calm : calmB l = true) (hout : ¬ LetsOut Q) (hB : Region.lexB .any l.toArray = true) (hC : C w.drew) (h : wpQuiet P l.toArray C (fun a' => ∀ w', C w' → Q .normal a' w') l a) : (Code.region id l.toArray true).wpIn (inR r) m P Q a w := by
  simp only [Region.lexB, Bool.and_eq_true] at hB
  refine round_any mixed calm hout (wpAny_of_quiet (Q := fun a' => ∀ w', C w' → Q .normal a' w') (fun _ w' hw' h => h w' hw') _ _ _ _ hC ?_)
  have := wpAnyQ_lex (C := C) (md := .any) hB.1 l 0 (Array.replicate l.length false) a (by simp) (by simpa using hB.2) h
  simpa using this
end
end Go.Proofs.YtjhkejkdnjogiaaGreatDoor
