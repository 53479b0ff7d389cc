/- A region that draws its order, in a round: what only reads stands ahead, the rest in a chain behind it. The library's law for the plain walk hands over what the reads yield; here each of them is taken in a round, and the chain is walked there. -/
import Derived.Test.YtmolohncllcgbaaGreatDoorRg
import Derived.StillTailTactics
import Derived.OrdersIn
import Derived.TacticsIn
namespace Go.Proofs.YtmolohncllcgbaaGreatDoor
open Go Go.RowKit

/-- no operation puts a call off -/
def calmB (l : List Oper) : Bool := l.all fun o => match o.op with | .defer _ => false | _ => true
/-- the fence of a round of the loop r -/
abbrev inR (r : Nat) : Fence := Fence.wide.inRound r
theorem calm_at {l : List Oper} (h : calmB l = true) {o : Oper} (ho : o ∈ l) (c : Call) : o.op ≠ .defer c := by
  intro e
  have h1 := List.all_eq_true.1 h o ho
  simp [e] at h1
section
variable {P : Program} {ops : Array Oper} {r m : Nat} {Q : Exit → Act → World → Prop}
/-- what yields a value, and leaves the world, is taken in a round -/
theorem yields_in {w : World} {i : Nat} {o : Oper} {v : Value} {a : Act} {K : Act → World → Prop} (hi : ops[i]? = some o) (hd : ∀ c, o.op ≠ .defer c) (hy : YieldsAt P ops w o v a) (hK : K (a.put o.dst v) w) :
    wpOpIn (inR r) m P ops Q i K a w := by
  have sem : Oper.semAt (inR r).round a.eval o = execOp a.eval o := Oper.semAt_eq _ _ _ hd
  rcases hy with ⟨want, how⟩ | ⟨want, rfl⟩
  · have goal : Oper.wpIn (inR r) m P o a w K Q := by
      refine ⟨fun _ _ => trivial, ?_⟩
      rw [sem]
      rcases how with e | ⟨e, rfl⟩ | ⟨f, args, e, hc⟩
      · rw [e]; exact hK
      · rw [e]; exact hK
      · rw [e]
        refine ⟨nofun, CallsIn.inRound r ((callsIn_wide.2 hc).mono ?_)⟩
        rintro e' w' ⟨rfl, rfl⟩
        exact hK
    simp only [wpOpIn, hi, want]
    exact goal
  · simp only [wpOpIn, hi, want]
    exact ⟨fun _ _ => trivial, hK⟩
/-- the reads: whatever order is drawn -/
theorem reads_in {w : World} {n g : Nat} {T : Array Bool → Act → Prop} (calm : ∀ o ∈ ops.toList, ∀ c, o.op ≠ .defer c)
    (tail : ∀ done a, T done a → wpAnyIn (inR r) m P .any ops Q g done a w) (f : Nat) : ∀ done a, wpAnyL P .any ops w n T f done a → wpAnyIn (inR r) m P .any ops Q (g + f) done a w := by
  induction f with
  | zero => exact tail
  | succ f ih =>
    rintro done a ⟨some1, each⟩
    refine wpAnyIn_all (rs := Region.ready .any ops done) rfl some1 fun i hi => ?_
    obtain ⟨-, o, ho, -⟩ := mem_ready.1 hi
    obtain ⟨v, hy, next⟩ := yieldsAt_of_stOp ho (each i hi).2
    exact yields_in ho (calm o (Array.mem_toList_iff.2 (Array.mem_of_getElem? ho))) hy (ih _ _ next)
/-- the chain: one order alone -/
theorem chain_in (rest : List Oper) : ∀ (k : Nat) (done : Array Bool) (a : Act) (w : World), (∀ j o, rest[j]? = some o → ops[k + j]? = some o) → Region.seqB .any ops rest.length k done = true →
    wpListIn (inR r) m P ops Q rest a w → wpAnyIn (inR r) m P .any ops Q rest.length done a w := by
  induction rest with
  | nil =>
    intro k done a w _ hB h
    exact wpAnyIn_done (List.isEmpty_iff.1 hB) h 0
  | cons o rest ih =>
    intro k done a w at' hB h
    obtain ⟨one, more⟩ := Bool.and_eq_true_iff.1 (show (decide (Region.ready .any ops done = [k]) && Region.seqB .any ops rest.length (k + 1) (done.setIfInBounds k true)) = true from hB)
    have here : ops[k]? = some o := at' 0 o rfl
    refine wpAnyIn_all (of_decide_eq_true one) (List.cons_ne_nil _ _) fun i hi => ?_
    cases List.mem_singleton.1 hi
    have step : wpOpIn (inR r) m P ops Q k (wpListIn (inR r) m P ops Q rest) a w := by
      simp only [wpOpIn, here]
      exact h
    refine wpOpIn_mono (fun a' w' h' => ih (k + 1) _ a' w' (fun j o' hj => ?_) more h') step
    have := at' (j + 1) o' hj
    rwa [show k + (j + 1) = k + 1 + j by omega] at this
end
/-- a region of a round that draws its order: n reads, then a chain -/
theorem region_in {P : Program} {r m id : Nat} {Q : Exit → Act → World → Prop} {a : Act} {w : World} {l : List Oper} (n : Nat) (mixed : P.follows .mixedOrders = true) (k1 : Region.noSelect l.toArray = true) (k2 : Region.sinkB .any l.toArray n = true)
    (k3 : Region.chainB .any l.toArray n = true) (k4 : (l.take n).length = n) (k5 : n < l.toArray.size) (k6 : Region.lexHead .any l.toArray (l.drop n).length n 0 (Array.replicate l.toArray.size false) = true) (k7 : calmB l = true)
    (walk : wpStill P l.toArray w.drew (fun a' => wpListIn (inR r) m P l.toArray Q (l.drop n) a' w.drew) (l.take n) a) : (Code.region id l.toArray true).wpIn (inR r) m P Q a w := by
  have fresh : HeadInv .any l.toArray n (Array.replicate l.toArray.size false) := by
    constructor
    · simp
    · intro j oj _ h
      rw [getD_replicate_false] at h
      cases h
    · intro t _ ht
      exact getD_in (by simpa using ht) (getD_replicate_false _ _)
  have reads := wpAnyL_lex (P := P) (w := w.drew) (g := (l.drop n).length) k1 k2 k3 k5 (l.take n) 0 _ a (fun j hj => by rw [k4] at hj; simp [hj]) (by rw [k4, Nat.zero_add]) fresh (by rw [k4]; exact k6) walk
  have all := reads_in (r := r) (m := m) (Q := Q) (g := (l.drop n).length) (fun o ho => calm_at k7 (by simpa using ho))
    (fun done a' h => chain_in (l.drop n) n done a' w.drew (fun j o hj => by simpa [List.getElem?_drop] using hj) h.1 h.2) _ _ _ reads
  have many : (l.drop n).length + (l.take n).length = l.toArray.size := by simp; omega
  rw [many] at all
  exact wpIn_region_any mixed all
end Go.Proofs.YtmolohncllcgbaaGreatDoor
