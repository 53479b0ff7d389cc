import Derived.RangeFuncNested
import Derived.Shelf.Abstract
import Derived.WalkKit
import Derived.Lib.Hide
import Derived.Test.YtlhhopanegnliaaGreatDoorR1
import Derived.StillTailTactics
import Derived.OrdersIn
import Derived.TacticsIn
import Derived.Deep.QuietTactic
import Derived.Deep.RegionHeld3
import Derived.BigQuiet
namespace Go.Proofs.YtlhhopanegnliaaGreatDoor
open Go Go.RowKit
structure Turn (B : Nat) (W W' : World) : Prop where
  os : W'.os = W.os
  tape : W'.tape = W.tape
  output : W'.output = W.output
  size : W.heap.size ≤ W'.heap.size
  low : ∀ k, k < B → k < W.heap.size → W'.heap[k]? = W.heap[k]?
  cells : ∀ (k : Nat) (o : Obj), W.heap[k]? = some o → o.isCells = true → W'.heap[k]? = some o
def Abides (B : Nat) (p : World → Prop) : Prop := ∀ W W', p W → Turn B W W' → p W'

theorem Turn.later {B : Nat} {W W' : World} (h : Below W.heap.size W W') : Turn B W W' :=
  ⟨h.os, h.tape, h.output, h.size, fun k _ hk => h.block k hk, fun k _ hk _ => (h.block k (Array.getElem?_eq_some_iff.1 hk).1).trans hk⟩
theorem Turn.put {B l : Nat} {W : World} {o : Obj} (o' : Obj) (hB : B ≤ l) (hl : W.heap[l]? = some o) (ho : o.isCells = false) : Turn B W (W.putObj l o') := by
  refine ⟨rfl, rfl, rfl, by simp, fun k hk _ => World.putObj_heap_other (by omega), fun k o2 hk hc => ?_⟩
  refine (World.putObj_heap_other (fun e => ?_)).trans hk
  subst e
  rw [hl] at hk
  cases hk
  rw [ho] at hc
  cases hc
theorem Turn.below {B n₀ : Nat} {w W W' : World} (h : Turn B W W') (hw : Below n₀ w W) (h1 : n₀ ≤ B) (h2 : n₀ ≤ w.heap.size) : Below n₀ w W' := by
  have hs := hw.size
  exact ⟨h.os.trans hw.os, h.tape.trans hw.tape, h.output.trans hw.output, Nat.le_trans hs h.size, fun k hk => (h.low k (by omega) (by omega)).trans (hw.block k hk)⟩
theorem Turn.cell {B : Nat} {W W' : World} (h : Turn B W W') {a : Addr} {v : Value} (hc : W.cell? a = some v) : W'.cell? a = some v := by
  obtain ⟨o, ho, hoc⟩ := cells_of_cell hc
  have e : W'.heap[a.block]? = W.heap[a.block]? := (h.cells _ _ ho hoc).trans ho.symm
  rw [World.cell?_of_block (w := W) e]; exact hc
theorem Turn.frozen {B : Nat} {W W' : World} (h : Turn B W W') {a : Addr} {v : Value} (hc : W.cell? a = some v) : W'.frozen? a = W.frozen? a := by
  obtain ⟨o, ho, hoc⟩ := cells_of_cell hc
  have e : W'.heap[a.block]? = W.heap[a.block]? := (h.cells _ _ ho hoc).trans ho.symm
  exact World.frozen?_of_block (w := W) e

theorem Abides.and {B : Nat} {p q : World → Prop} (hp : Abides B p) (hq : Abides B q) : Abides B (fun W => p W ∧ q W) := fun _ _ h t => ⟨hp _ _ h.1 t, hq _ _ h.2 t⟩
theorem Abides.pure (B : Nat) (p : Prop) : Abides B (fun _ => p) := fun _ _ h _ => h
theorem Abides.below {B n₀ : Nat} {w : World} (h1 : n₀ ≤ B) (h2 : n₀ ≤ w.heap.size) : Abides B (Below n₀ w) := fun _ _ h t => t.below h h1 h2
theorem Abides.boxed (B b : Nat) (t : TypeId) (v : Value) : Abides B (fun W => Boxed W b t v) := fun _ _ h t => t.cells _ _ h rfl
structure Keeps (S : Nat → Prop) (W W' : World) : Prop where
  size : W.heap.size ≤ W'.heap.size
  block : ∀ k, S k → W'.heap[k]? = W.heap[k]?
theorem Keeps.refl (S : Nat → Prop) (W : World) : Keeps S W W := ⟨Nat.le_refl _, fun _ _ => rfl⟩
theorem Keeps.trans {S : Nat → Prop} {X Y Z : World} (h : Keeps S X Y) (k : Keeps S Y Z) : Keeps S X Z := ⟨Nat.le_trans h.size k.size, fun i hi => (k.block i hi).trans (h.block i hi)⟩
theorem keeps_of {B : Nat} {S : Nat → Prop} {W W' : World} (h : Below B W W') (hS : ∀ k, S k → k < B) : Keeps S W W' := ⟨h.size, fun k hk => h.block k (hS k hk)⟩
theorem Keeps.put {S : Nat → Prop} {W : World} {l : Nat} (o : Obj) (hS : ∀ k, S k → k < l) : Keeps S W (W.putObj l o) :=
  ⟨by simp, fun k hk => World.putObj_heap_other (by have := hS k hk; omega)⟩
def Tells {α : Type} (P : Program) (gf : Nat) (bs lb : Array Value) (encs : α → Array Value) (S : Nat → Prop) (xs : List α) (w : World) : Prop :=
  ∀ (l : Nat) (J Jx : List α → World → Prop) (W : World), Below w.heap.size w W → (∀ s A B, J s A → Below A.heap.size A B → J s B) →
    (∀ pre x post W1, xs = pre ++ x :: post → J pre W1 → YieldAt Fence.wide 7 P l (encs x) W1 fun e W' =>
      (e = .returned (.bool true) ∧ J (pre ++ [x]) W' ∧ Keeps S W1 W') ∨ (e = .returned (.bool false) ∧ Jx (pre ++ [x]) W')) →
    J [] W →
    CallsIn Fence.wide 8 P gf (bs ++ #[.func (.yield l) #[] #[]] ++ lb) W fun e W' => (∃ v, e = .returned v) ∧ (J xs W' ∨ ∃ pre post, xs = pre ++ post ∧ Jx pre W')
def RoundEnds {α : Type} (B : Nat) (S : Nat → Prop) (I : List α → World → Prop) (Ix : Code → List α → World → Prop) (s : List α) (W : World) : Exit → Act → World → Prop
  | .normal, _, W' => KeepsFrom B W W' ∧ Keeps S W W' ∧ I s W'
  | .ret, _, W' => KeepsFrom B W W' ∧ Ix .ret s W'
  | .exit id, _, W' => KeepsFrom B W W' ∧ Ix (.exit id) s W'
  | .goto t, _, W' => KeepsFrom B W W' ∧ Ix (.goto t) s W'
  | .panic _, _, _ => False
  | .outgrown, _, _ => False

theorem wp_range {α : Type} {P : Program} {g : Operand} {ps : Array Tmp} {assign body : Code} {Q : Exit → Act → World → Prop} {a : Act} {w : World}
    {gf : Nat} {bs lb : Array Value} (hg : a.eval g = .func (.func gf) bs lb) (eg : ∀ args w, (callFunc gf args).run P w = .ok (.enter gf args) w)
    {encs : α → Array Value} {S : Nat → Prop} {xs : List α} (hseq : Tells P gf bs lb encs S xs w) (hS : ∀ k, S k → k < w.heap.size) (hps : ∀ x, (encs x).size = ps.size)
    (I : List α → World → Prop) (Ix : Code → List α → World → Prop) (A : List α → α → Act → World → Prop)
    (hI : ∀ s, Abides w.heap.size (I s)) (hIx : ∀ c s, Abides w.heap.size (Ix c s)) (hA : ∀ s x a', Abides w.heap.size (A s x a')) (h0 : I [] w)
    (hassign : ∀ (l : Nat) (pre : List α) (x : α) (W : World), I pre W → assign.wpIn (Fence.wide.inRound l) 7 P
      (Exit.then (fun a' W' => KeepsFrom w.heap.size W W' ∧ Keeps S W W' ∧ A pre x a' W') (fun _ _ _ => False))
      { tmps := (ps.zip (encs x)).foldl (fun t (p, v) => t.setIfInBounds p v) a.tmps, defers := [] } W)
    (hbody : ∀ (l : Nat) (pre : List α) (x : α) (post : List α) (a' : Act) (W : World), xs = pre ++ x :: post → A pre x a' W →
      body.wpIn (Fence.wide.inRound l) 7 P (RoundEnds w.heap.size S I Ix (pre ++ [x]) W) a' W)
    (hdone : ∀ (D : Nat) (W : World), w.heap.size ≤ D → I xs W → W.heap[D]? = some (.deferred (some [])) → Q .normal { a with defers := { target := .collected D, args := #[] } :: a.defers } W)
    (hstop : ∀ (D : Nat) (c : Code) (pre post : List α) (W : World), w.heap.size ≤ D → xs = pre ++ post → Ix c pre W → W.heap[D]? = some (.deferred (some [])) → c.wpIn Fence.wide 9 P Q { a with defers := { target := .collected D, args := #[] } :: a.defers } W) :
    (Code.rangeFunc g ps assign body).wpIn Fence.wide 9 P Q a w := by
  refine wpIn_rangeFunc fun fn hfn => ?_
  let mk : LoopState → Option Code → Loop := fun st pe => { state := st, pending := pe, fn, tmps := a.tmps, params := ps, assign, body, defers := w.heap.size }
  let R := w.heap.size + 1
  let W1 := (w.alloc (.deferred (some []))).alloc (.loop (mk .ready none))
  have later1 : Below w.heap.size w W1 := ((Below.refl _ w).alloc (Nat.le_refl _) _).alloc (by simp) _
  have rec1 : W1.heap[R]? = some (.loop (mk .ready none)) := by
    have := World.alloc_heap_new (w.alloc (.deferred (some []))) (.loop (mk .ready none)); rwa [World.size_alloc] at this
  have def1 : W1.heap[w.heap.size]? = some (.deferred (some [])) := (Below.heap_alloc _ _ _ (by simp)).trans (World.alloc_heap_new w _)
  refine ⟨R, [{ target := .collected w.heap.size, args := #[] }], W1, { target := .fn (.func gf) lb, args := bs ++ #[.func (.yield R) #[] #[]] }, W1, gf,
    bs ++ #[.func (.yield R) #[] #[]] ++ lb, W1, run_enterLoop_outer _ _ _ _ _, ?_, fun _ _ => trivial, ?_, fun h => by simp [Fence.wide] at h, ?_⟩
  · simp only [resolve, hg]
    simp [go_sem, Deferred.ofValue]
  · simp [invoke, eg]
  · refine (hseq R (fun s W => I s W ∧ W.heap[R]? = some (.loop (mk .ready none)) ∧ W.heap[w.heap.size]? = some (.deferred (some [])))
      (fun s W => ∃ c, Ix c s W ∧ W.heap[R]? = some (.loop (mk .done (some c))) ∧ W.heap[w.heap.size]? = some (.deferred (some []))) W1 later1 ?_ ?_ ⟨hI _ _ _ h0 (Turn.later later1), rec1, def1⟩).mono ?_
    · rintro s X Y ⟨h1, h2, h3⟩ hb
      exact ⟨hI s _ _ h1 (Turn.later hb), (hb.block _ (Array.getElem?_eq_some_iff.1 h2).1).trans h2, (hb.block _ (Array.getElem?_eq_some_iff.1 h3).1).trans h3⟩
    · rintro pre x post W hx ⟨hi, hr, hd⟩
      refine ⟨fn, _, assign, body, run_yield hr (hps x), roundIn_of_wpIn hfn (wpIn_mono (hassign R pre x W hi) ?_)⟩
      rintro e a' W2 he
      cases e with
      | normal =>
        obtain ⟨hk2, hb2, hA2⟩ := he
        have hr2 := hk2.same R _ (Nat.le_succ _) hr rfl
        have hd2 := hk2.same _ _ (Nat.le_refl _) hd rfl
        refine ⟨_, run_beginRound hr2 rfl, ?_⟩
        have hlt2 := (Array.getElem?_eq_some_iff.1 hr2).1
        have hSR : ∀ k, S k → k < R := fun k hk => Nat.lt_succ_of_lt (hS k hk)
        have hb3 : Keeps S W2 (W2.putObj R (.loop { mk .ready none with state := .busy })) := Keeps.put _ hSR
        have hr3 : (W2.putObj R (.loop { mk .ready none with state := .busy })).heap[R]? = some (.loop { mk .ready none with state := .busy }) := World.putObj_heap_same hlt2
        have hd3 : (W2.putObj R (.loop { mk .ready none with state := .busy })).heap[w.heap.size]? = some (.deferred (some [])) := (World.putObj_heap_other (by show w.heap.size ≠ w.heap.size + 1; omega)).trans hd2
        refine wpIn_mono (hbody R pre x post a' _ hx (hA _ _ _ _ _ hA2 (Turn.put _ (Nat.le_succ _) hr2 rfl))) ?_
        have leave : ∀ (jump : Option Code) (W4 : World), KeepsFrom w.heap.size (W2.putObj R (.loop { mk .ready none with state := .busy })) W4 →
            (Instr.endRound R jump).run P W4 = .ok (.bool jump.isNone) (W4.putObj R (.loop (mk (if jump.isNone then .ready else .done) jump))) ∧
            W4.heap[R]? = some (.loop { mk .ready none with state := .busy }) ∧
            (W4.putObj R (.loop (mk (if jump.isNone then .ready else .done) jump))).heap[R]? = some (.loop (mk (if jump.isNone then .ready else .done) jump)) ∧
            (W4.putObj R (.loop (mk (if jump.isNone then .ready else .done) jump))).heap[w.heap.size]? = some (.deferred (some [])) := by
          intro jump W4 hk4
          have hr4 := hk4.same R _ (Nat.le_succ _) hr3 rfl
          have hd4 := hk4.same _ _ (Nat.le_refl _) hd3 rfl
          exact ⟨run_endRound jump hr4, hr4, World.putObj_heap_same (Array.getElem?_eq_some_iff.1 hr4).1, (World.putObj_heap_other (by show w.heap.size ≠ w.heap.size + 1; omega)).trans hd4⟩
        rintro e a4 W4 he4
        cases e with
        | normal =>
          obtain ⟨hk4, hb4, hi4⟩ := he4
          obtain ⟨g1, g2, g3, g4⟩ := leave none W4 hk4
          have hb5 : Keeps S W4 (W4.putObj R (.loop (mk .ready none))) := Keeps.put _ hSR
          exact ⟨_, _, g1, .inl ⟨rfl, ⟨hI _ _ _ hi4 (Turn.put _ (Nat.le_succ _) g2 rfl), g3, g4⟩, hb2.trans (hb3.trans (hb4.trans hb5))⟩⟩
        | ret =>
          obtain ⟨g1, g2, g3, g4⟩ := leave (some .ret) W4 he4.1
          exact ⟨_, _, g1, .inr ⟨rfl, .ret, hIx _ _ _ _ he4.2 (Turn.put _ (Nat.le_succ _) g2 rfl), g3, g4⟩⟩
        | exit id =>
          obtain ⟨g1, g2, g3, g4⟩ := leave (some (.exit id)) W4 he4.1
          exact ⟨_, _, g1, .inr ⟨rfl, .exit id, hIx _ _ _ _ he4.2 (Turn.put _ (Nat.le_succ _) g2 rfl), g3, g4⟩⟩
        | goto t =>
          obtain ⟨g1, g2, g3, g4⟩ := leave (some (.goto t)) W4 he4.1
          exact ⟨_, _, g1, .inr ⟨rfl, .goto t, hIx _ _ _ _ he4.2 (Turn.put _ (Nat.le_succ _) g2 rfl), g3, g4⟩⟩
        | panic ch => exact he4.elim
        | outgrown => exact he4.elim
      | exit id => exact he.elim
      | goto t => exact he.elim
      | ret => exact he.elim
      | panic ch => exact he.elim
      | outgrown => exact he.elim
    · rintro e W2 ⟨⟨v, rfl⟩, ⟨hi, hr, hd⟩ | ⟨pre, post, hx, c, hi, hr, hd⟩⟩
      · exact ⟨none, _, run_endLoop hr (by simp [mk]), hdone _ _ (Nat.le_refl _) (hI _ _ _ hi (Turn.put _ (Nat.le_succ _) hr rfl)) ((World.putObj_heap_other (by show w.heap.size ≠ w.heap.size + 1; omega)).trans hd)⟩
      · exact ⟨some c, _, run_endLoop hr (by simp [mk]), hstop _ c pre post _ (Nat.le_refl _) hx (hIx _ _ _ _ hi (Turn.put _ (Nat.le_succ _) hr rfl)) ((World.putObj_heap_other (by show w.heap.size ≠ w.heap.size + 1; omega)).trans hd)⟩
def Tells2 {α : Type} (P : Program) (gf : Nat) (bs lb : Array Value) (encs : α → Array Value) (T : Nat → Prop) (xs : List α) (w : World) : Prop :=
  ∀ (l : Nat) (J Jx : List α → World → Prop) (W : World), Below w.heap.size w W → (∀ s A B, J s A → Below W.heap.size A B → J s B) → (∀ s A B, Jx s A → Below W.heap.size A B → Jx s B) →
    (∀ pre x post W1, xs = pre ++ x :: post → J pre W1 → YieldAt Fence.wide 7 P l (encs x) W1 fun e W' =>
      (e = .returned (.bool true) ∧ J (pre ++ [x]) W' ∧ OnlyS (fun k => T k ∨ (w.heap.size ≤ k ∧ k < W.heap.size)) W1 W') ∨ (e = .returned (.bool false) ∧ Jx (pre ++ [x]) W' ∧ OnlyS (fun k => T k ∨ (w.heap.size ≤ k ∧ k < W.heap.size)) W1 W')) →
    J [] W →
    CallsIn Fence.wide 8 P gf (bs ++ #[.func (.yield l) #[] #[]] ++ lb) W fun e W' => (∃ v, e = .returned v) ∧ (J xs W' ∨ ∃ pre post, xs = pre ++ post ∧ Jx pre W')
def RoundEnds2 {α : Type} (T : Nat → Prop) (I : List α → World → Prop) (Ix : Code → List α → World → Prop) (s : List α) (W : World) : Exit → Act → World → Prop
  | .normal, _, W' => OnlyS T W W' ∧ I s W'
  | .ret, _, W' => OnlyS T W W' ∧ Ix .ret s W'
  | .exit id, _, W' => OnlyS T W W' ∧ Ix (.exit id) s W'
  | .goto t, _, W' => OnlyS T W W' ∧ Ix (.goto t) s W'
  | .panic _, _, _ => False
  | .outgrown, _, _ => False
theorem OnlyS.put {S : Nat → Prop} (W : World) (l : Nat) (o : Obj) (hl : S l) : OnlyS S W (W.putObj l o) :=
  ⟨rfl, rfl, rfl, by simp, fun k _ hn => World.putObj_heap_other (fun e => hn (by subst e; exact hl))⟩
theorem below_put {B l : Nat} (W : World) (o : Obj) (h : B ≤ l) : Below B W (W.putObj l o) := ⟨rfl, rfl, rfl, by simp, fun k hk => World.putObj_heap_other (by omega)⟩
end Go.Proofs.YtlhhopanegnliaaGreatDoor
namespace Go.Proofs.YtlhhopanegnliaaGreatDoor
open Go Go.RowKit
def calmB (l : List Oper) : Bool := l.all fun o => match o.op with | .defer _ => false | _ => true
abbrev inR (r : Nat) : Fence := Fence.wide.inRound r
theorem calm_at {l : List Oper} (h : calmB l = true) {o : Oper} (ho : o ∈ l) (c : Call) : o.op ≠ .defer c := by
  intro e
  have h1 := List.all_eq_true.1 h o ho
  simp [e] at h1
end Go.Proofs.YtlhhopanegnliaaGreatDoor
namespace Go.Proofs.YtlhhopanegnliaaGreatDoor
open Go Go.RowKit

section
variable {P : Program} {ops : Array Oper} {r m : Nat} {Q : Exit → Act → World → Prop} {md : Region.Mode}
theorem oper_in {o : Oper} {a : Act} {w : World} {K K' : Act → World → Prop} (hd : ∀ c, o.op ≠ .defer c) (h : o.wp P a w K Q) (hk : ∀ a w, K a w → K' a w) : o.wpIn (inR r) m P a w K' Q := by
  refine ⟨fun _ _ => trivial, ?_⟩
  rw [show Oper.semAt (inR r).round a.eval o = execOp a.eval o from Oper.semAt_eq _ _ _ hd]
  unfold Oper.wp at h
  generalize (execOp a.eval o).run P w = x at *
  cases x with
  | ok n w' =>
    cases n <;> simp only [Oper.upon] at h <;> simp only [Oper.uponIn]
    case value => exact hk _ _ h
    case skip => exact hk _ _ h
    case defer => exact hk _ _ h
    case enter f args =>
      refine ⟨nofun, CallsIn.inRound r (callsIn_wide.2 (h.mono ?_))⟩
      intro e w'' he
      cases e
      · exact hk _ _ he
      · exact he
      · exact he
    case row row args =>
      refine ⟨nofun, fun c cs _ => ?_⟩
      obtain ⟨v, w'', hv, hs⟩ := h c cs
      exact ⟨v, w'', hk _ _ hv, (StepsIn.of_steps hs).mono fun mm _ => by rw [fenced_inRound]; exact fenced_wide P mm⟩
  | halt n w' => cases n <;> simp only [Oper.upon] at h <;> simp only [Oper.uponIn] <;> exact h
theorem op_in {i : Nat} {a : Act} {w : World} {K K' : Act → World → Prop} (calm : ∀ (i : Nat) (o : Oper), ops[i]? = some o → ∀ c, o.op ≠ .defer c) (hout : ¬ LetsOut Q) (hk : ∀ a w, K a w → K' a w) (h : wpOp P ops Q i K a w) : wpOpIn (inR r) m P ops Q i K' a w := by
  unfold wpOp at h
  unfold wpOpIn
  split
  · rename_i ho
    simp only [ho] at h
    exact hk _ _ h
  · rename_i o ho
    simp only [ho] at h
    split
    · rename_i hw
      simp only [hw, if_true] at h
      rcases h with h | h
      · exact oper_in (calm i o ho) h hk
      · exact absurd h.2 hout
    · rename_i hw
      simp only [hw] at h
      exact ⟨fun _ _ => trivial, hk _ _ h⟩
theorem any_in (calm : ∀ (i : Nat) (o : Oper), ops[i]? = some o → ∀ c, o.op ≠ .defer c) (hout : ¬ LetsOut Q) : ∀ (fuel : Nat) (done : Array Bool) (a : Act) (w : World), wpAny P md ops Q fuel done a w → wpAnyIn (inR r) m P md ops Q fuel done a w
  | 0, _, _, _, h => h
  | fuel + 1, _, _, _, h => ⟨h.1, fun i hi => op_in calm hout (fun a w h' => any_in calm hout fuel _ a w h') (h.2 i hi)⟩
end
section
variable {P : Program} {r m id : Nat} {Q : Exit → Act → World → Prop} {a : Act} {w : World} {l : List Oper}
theorem calm_all (h : calmB l = true) : ∀ (i : Nat) (o : Oper), l.toArray[i]? = some o → ∀ c, o.op ≠ .defer c := fun i o ho c => calm_at h (by simpa using Array.mem_of_getElem? ho) c
theorem round_any (mixed : P.follows .mixedOrders = true) (calm : calmB l = true) (hout : ¬ LetsOut Q) (h : wpAny P .any l.toArray Q l.toArray.size (Array.replicate l.toArray.size false) a w.drew) : (Code.region id l.toArray true).wpIn (inR r) m P Q a w :=
  wpIn_region_any mixed (any_in (calm_all calm) hout _ _ _ _ h)
theorem round_held {S : World → Prop} (mixed : P.follows .mixedOrders = true) (calm : calmB l = true) (hout : ¬ LetsOut Q) (hS : S w.drew) (h : S w.drew → wpAnyH P .any l.toArray Q S l.toArray.size (Array.replicate l.toArray.size false) a w.drew) : (Code.region id l.toArray true).wpIn (inR r) m P Q a w :=
  round_any mixed calm hout (wpAny_of_held _ _ _ _ (h hS))
end
end Go.Proofs.YtlhhopanegnliaaGreatDoor
