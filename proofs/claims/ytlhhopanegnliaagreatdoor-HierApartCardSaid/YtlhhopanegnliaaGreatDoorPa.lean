/- The contracts of the two functions that say whether a node may be: for any five numbers. -/
import Derived.Test.YtlhhopanegnliaaGreatDoorProg
import Derived.WalkKit
import Derived.WalkLawsBesides
import Derived.Deep.QuietTactic
import Derived.BigQuiet
import Derived.WalkSmall
import Derived.KernelRfl
import Derived.Lib.Hide
import Derived.StillTailTactics
import Derived.Laws.IdiomCopy
import Derived.Deep.RegionLaw
import Derived.Deep.RegionHeld3
namespace Go.Proofs.YtlhhopanegnliaaGreatDoor.Pa
open Go Go.RowKit

/-- a node's five numbers: four numbers and a depth -/
structure Pt where
  a : Int
  b : Int
  c : Int
  d : Int
  e : Int
abbrev Pt.v (p : Pt) : Value := .agg #[.int .i64 p.a, .int .i64 p.b, .int .i64 p.c, .int .i64 p.d, .int .i64 p.e]

def numB (n : Int) : Bool := decide (0 ≤ n ∧ n ≤ 999)
/-- whether the number at a place is fine -/
def atB (n k e : Int) : Bool := numB n && (decide (k < e) || !(n != 0))
def rightB (p : Pt) : Bool := decide (1 ≤ p.e) && decide (p.e ≤ 4) && atB p.a 0 p.e && atB p.b 1 p.e && atB p.c 2 p.e && atB p.d 3 p.e

theorem num_yes (n : Int) (w : World) (h : numB n = true) :
    Calls Tryz.prog 121 #[.int .i64 n] w fun e w' => e = .returned (.bool true) ∧ w = w' := by
  unfold numB at h
  obtain ⟨h0, h1⟩ := of_decide_eq_true h
  clear h
  go_enter Tryz.func121, Tryz.ntmps121
  go_wp2
  go_ret
  exact ⟨rfl, rfl⟩
theorem num_no (n : Int) (w : World) (h : numB n = false) :
    Calls Tryz.prog 121 #[.int .i64 n] w fun e w' => e = .returned (.bool false) ∧ w = w' := by
  unfold numB at h
  have h := of_decide_eq_false h
  by_cases h0 : 0 ≤ n
  · have h1 : ¬ n ≤ 999 := fun q => h ⟨h0, q⟩
    clear h
    go_enter Tryz.func121, Tryz.ntmps121
    go_wp2
    go_ret
    exact ⟨rfl, rfl⟩
  · clear h
    go_enter Tryz.func121, Tryz.ntmps121
    go_wp2
    go_ret
    exact ⟨rfl, rfl⟩

theorem ret_bool {a b : Bool} (h : a = b) : Ending.returned (.bool a) = .returned (.bool b) := by rw [h]
theorem box_below (w : World) (o : Obj) : Below w.heap.size w (w.alloc o) := (Below.refl _ _).alloc (Nat.le_refl _) _

section
variable (w : World) (x0 x1 x2 x3 : Value)
theorem elem22 : Tryz.prog.elem 28 = 3 := by kernel_rfl
@[go_sem ↓] theorem run_index0 : (Instr.index 28 (.agg #[x0, x1, x2, x3]) (.int .i64 0)).run Tryz.prog w = .ok x0 w := by
  simp [Instr.index, asIntOf, run_underlying Tryz.underlying28, go_sem]
@[go_sem ↓] theorem run_index1 : (Instr.index 28 (.agg #[x0, x1, x2, x3]) (.int .i64 1)).run Tryz.prog w = .ok x1 w := by
  simp [Instr.index, asIntOf, run_underlying Tryz.underlying28, go_sem]
@[go_sem ↓] theorem run_index2 : (Instr.index 28 (.agg #[x0, x1, x2, x3]) (.int .i64 2)).run Tryz.prog w = .ok x2 w := by
  simp [Instr.index, asIntOf, run_underlying Tryz.underlying28, go_sem]
@[go_sem ↓] theorem run_index3 : (Instr.index 28 (.agg #[x0, x1, x2, x3]) (.int .i64 3)).run Tryz.prog w = .ok x3 w := by
  simp [Instr.index, asIntOf, run_underlying Tryz.underlying28, go_sem]
end

/-- an index that goes from 0 to 4, with what has been seen so far -/
def Idx (P : Nat → Prop) (i : Value) : Prop :=
  (i = .int .i64 0 ∧ P 0) ∨ (i = .int .i64 1 ∧ P 1) ∨ (i = .int .i64 2 ∧ P 2) ∨ (i = .int .i64 3 ∧ P 3) ∨ (i = .int .i64 4 ∧ P 4)
def atN (a b c d e : Int) : Nat → Bool
  | 0 => atB a 0 e
  | 1 => atB b 1 e
  | 2 => atB c 2 e
  | _ => atB d 3 e
def Seen (f : Nat → Bool) (k : Nat) : Prop := ∀ j, j < k → f j = true
theorem seen0 (f : Nat → Bool) : Seen f 0 := fun _ h => absurd h (Nat.not_lt_zero _)
theorem Seen.next {f : Nat → Bool} {k : Nat} (h : Seen f k) (hk : f k = true) : Seen f (k + 1) := fun j hj => by
  rcases Nat.lt_or_ge j k with h' | h'
  · exact h j h'
  · have : j = k := by omega
    rw [this]; exact hk
def allB (f : Nat → Bool) : Bool := f 0 && f 1 && f 2 && f 3
theorem Seen.all {f : Nat → Bool} (h : Seen f 4) : allB f = true := by unfold allB; rw [h 0 (by omega), h 1 (by omega), h 2 (by omega), h 3 (by omega)]; rfl
theorem not_all {f : Nat → Bool} {k : Nat} (hk : k < 4) (h : f k = false) : allB f = false := by
  unfold allB
  rcases (by omega : k = 0 ∨ k = 1 ∨ k = 2 ∨ k = 3) with rfl | rfl | rfl | rfl <;> rw [h] <;> simp

set_option maxHeartbeats 1000000 in
theorem may_in (a b c d e : Int) (w : World) (he : e = 1 ∨ e = 2 ∨ e = 3 ∨ e = 4) :
    Calls Tryz.prog 70 #[Pt.v ⟨a, b, c, d, e⟩] w fun e' w' => e' = .returned (.bool (allB (atN a b c d e))) ∧ Below w.heap.size w w' := by
  obtain ⟨f, hf⟩ : ∃ f, atN a b c d e = f := ⟨_, rfl⟩
  have f0 : atB a 0 e = f 0 := by rw [← hf]; rfl
  have f1 : atB b 1 e = f 1 := by rw [← hf]; rfl
  have f2 : atB c 2 e = f 2 := by rw [← hf]; rfl
  have f3 : atB d 3 e = f 3 := by rw [← hf]; rfl
  rw [hf]
  clear hf
  unfold atB at f0 f1 f2 f3
  replace f0 := Lib.hid f0
  replace f1 := Lib.hid f1
  replace f2 := Lib.hid f2
  replace f3 := Lib.hid f3
  rcases he with rfl | rfl | rfl | rfl
  all_goals
    go_enter Tryz.func70, Tryz.ntmps70
    go_wp2
    go_loop [15] (fun i => Idx (Seen f) i) (fun i => (4 - intOf i).toNat)
    case atStart => exact .inl ⟨rfl, seen0 f⟩
    case round =>
      rcases hrel with ⟨rfl, hs⟩ | ⟨rfl, hs⟩ | ⟨rfl, hs⟩ | ⟨rfl, hs⟩ | ⟨rfl, hs⟩
      · cases h : numB a
        · go_wp2_with (go_at_call 121; ((with_reducible refine (num_no _ _ (by assumption)).mono ?_); rintro e w' ⟨rfl, rfl⟩))
          go_ret
          exact ⟨ret_bool (not_all (k := 0) (by omega) (by rw [← f0.out, h]; rfl)).symm, box_below _ _⟩
        · go_wp2_with (go_at_call 121; ((with_reducible refine (num_yes _ _ (by assumption)).mono ?_); rintro e w' ⟨rfl, rfl⟩))
          go_round
          case rel => exact .inr (.inl ⟨by go_num, hs.next (by rw [← f0.out, h]; rfl)⟩)
          case measure => simp [intOf]
      · cases h : numB b
        · go_wp2_with (go_at_call 121; ((with_reducible refine (num_no _ _ (by assumption)).mono ?_); rintro e w' ⟨rfl, rfl⟩))
          go_ret
          exact ⟨ret_bool (not_all (k := 1) (by omega) (by rw [← f1.out, h]; rfl)).symm, box_below _ _⟩
        · cases hz : (b != 0)
          all_goals
            go_wp2_with (go_at_call 121; ((with_reducible refine (num_yes _ _ (by assumption)).mono ?_); rintro e w' ⟨rfl, rfl⟩))
            first
            | (go_ret
               exact ⟨ret_bool (not_all (k := 1) (by omega) (by rw [← f1.out, h, hz]; rfl)).symm, box_below _ _⟩)
            | (go_round
               case rel => exact .inr (.inr (.inl ⟨by go_num, hs.next (by rw [← f1.out, h, hz]; rfl)⟩))
               case measure => simp [intOf])
      · cases h : numB c
        · go_wp2_with (go_at_call 121; ((with_reducible refine (num_no _ _ (by assumption)).mono ?_); rintro e w' ⟨rfl, rfl⟩))
          go_ret
          exact ⟨ret_bool (not_all (k := 2) (by omega) (by rw [← f2.out, h]; rfl)).symm, box_below _ _⟩
        · cases hz : (c != 0)
          all_goals
            go_wp2_with (go_at_call 121; ((with_reducible refine (num_yes _ _ (by assumption)).mono ?_); rintro e w' ⟨rfl, rfl⟩))
            first
            | (go_ret
               exact ⟨ret_bool (not_all (k := 2) (by omega) (by rw [← f2.out, h, hz]; rfl)).symm, box_below _ _⟩)
            | (go_round
               case rel => exact .inr (.inr (.inr (.inl ⟨by go_num, hs.next (by rw [← f2.out, h, hz]; rfl)⟩)))
               case measure => simp [intOf])
      · cases h : numB d
        · go_wp2_with (go_at_call 121; ((with_reducible refine (num_no _ _ (by assumption)).mono ?_); rintro e w' ⟨rfl, rfl⟩))
          go_ret
          exact ⟨ret_bool (not_all (k := 3) (by omega) (by rw [← f3.out, h]; rfl)).symm, box_below _ _⟩
        · cases hz : (d != 0)
          all_goals
            go_wp2_with (go_at_call 121; ((with_reducible refine (num_yes _ _ (by assumption)).mono ?_); rintro e w' ⟨rfl, rfl⟩))
            first
            | (go_ret
               exact ⟨ret_bool (not_all (k := 3) (by omega) (by rw [← f3.out, h, hz]; rfl)).symm, box_below _ _⟩)
            | (go_round
               case rel => exact .inr (.inr (.inr (.inr ⟨by go_num, hs.next (by rw [← f3.out, h, hz]; rfl)⟩)))
               case measure => simp [intOf])
      · go_wp2
        go_ret
        exact ⟨ret_bool hs.all.symm, box_below _ _⟩
theorem rightB_in {p : Pt} (h1 : 1 ≤ p.e) (h4 : p.e ≤ 4) : rightB p = allB (atN p.a p.b p.c p.d p.e) := by
  unfold rightB allB atN; simp [h1, h4]
theorem rightB_out {p : Pt} (h : ¬ (1 ≤ p.e ∧ p.e ≤ 4)) : rightB p = false := by
  unfold rightB
  by_cases h1 : 1 ≤ p.e
  · have h4 : ¬ p.e ≤ 4 := fun q => h ⟨h1, q⟩
    simp [h4]
  · simp [h1]

theorem may_any (p : Pt) (w : World) :
    Calls Tryz.prog 70 #[p.v] w fun e w' => e = .returned (.bool (rightB p)) ∧ Below w.heap.size w w' := by
  by_cases h : 1 ≤ p.e ∧ p.e ≤ 4
  · rw [rightB_in h.1 h.2]
    obtain ⟨a, b, c, d, e⟩ := p
    exact may_in a b c d e w (by simp only at h; omega)
  · rw [rightB_out h]
    obtain ⟨a, b, c, d, e⟩ := p
    simp only at h
    by_cases h1 : 1 ≤ e
    · have h4 : 4 < e := by omega
      have h1' : ¬ e < 1 := by omega
      clear h
      go_enter Tryz.func70, Tryz.ntmps70
      go_wp2
      go_ret
      exact ⟨rfl, box_below _ _⟩
    · have h1' : e < 1 := by omega
      clear h
      go_enter Tryz.func70, Tryz.ntmps70
      go_wp2
      go_ret
      exact ⟨rfl, box_below _ _⟩
end Go.Proofs.YtlhhopanegnliaaGreatDoor.Pa
/- The contract of the function that makes a node of the first numbers of another. -/
namespace Go.Proofs.YtlhhopanegnliaaGreatDoor.Pa
open Go Go.RowKit

def cutP (p : Pt) (k : Int) : Pt := ⟨p.a, if 1 < k then p.b else 0, if 2 < k then p.c else 0, if 3 < k then p.d else 0, k⟩

abbrev boxed (w : World) (a b c d e : Int) : World := w.alloc (.cells #[.int .i64 a, .int .i64 b, .int .i64 c, .int .i64 d, .int .i64 e] 30)

theorem copy_run (W : World) (g s k : Nat) (cs : List Value) (hk : k = cs.length) (h4 : k ≤ 4)
    (hsrc : ∀ j v, cs[j]? = some v → W.cell? ⟨s, j, none⟩ = some v) (hc : ∀ j, j < k → (W.cell? ⟨g, j, none⟩).isSome = true) (hf : ∀ j, j < k → W.frozen? ⟨g, j, none⟩ = false) (h1 : ∀ v ∈ cs, v.oneCell' = true) :
    (Builtin.copy_ #[50, 50] 3 #[.slice (some ⟨g, 0, none⟩) k 4, .slice (some ⟨s, 0, none⟩) 4 4]).run Tryz.prog W = .ok (.int .i64 (k : Nat)) (W.setCells g 0 cs) := by
  subst hk
  have h := run_copy_cells (P := Tryz.prog) W 50 50 3 3 g 0 cs.length 4 ⟨s, 0, none⟩ 4 4 cs Tryz.underlying50 (by kernel_rfl) (by simp [Nat.min_def]; omega)
    (fun j v hj => by have := hsrc j v hj; cases j <;> simpa [Addr.add] using this) (fun j hj => by simpa using hc j hj) (fun j hj => by simpa using hf j hj) h1
  exact h

end Go.Proofs.YtlhhopanegnliaaGreatDoor.Pa
/- The contracts of the functions that give the node above and a kid. -/
namespace Go.Proofs.YtlhhopanegnliaaGreatDoor.Pa
open Go Go.RowKit

/-- a call gives a value, from whatever later world, and changes nothing that was there at first -/
def Gives (w0 : World) (f : Nat) (args : Array Value) (v : Value) : Prop :=
  ∀ w', Below w0.heap.size w0 w' → Calls Tryz.prog f args w' fun e w'' => e = .returned v ∧ Below w0.heap.size w0 w''
theorem Gives.use {w0 w' : World} {f : Nat} {args : Array Value} {v : Value} {Q : Ending → World → Prop} (h : Gives w0 f args v) (hb : Below w0.heap.size w0 w')
    (hq : ∀ w'', Below w0.heap.size w0 w'' → Q (.returned v) w'') : Calls Tryz.prog f args w' Q :=
  (h w' hb).mono fun _ w'' ⟨he, hb'⟩ => he ▸ hq w'' hb'
theorem Gives.of {w0 : World} {f : Nat} {args : Array Value} {v : Value} (h : ∀ w, Calls Tryz.prog f args w fun e w' => e = .returned v ∧ Below w.heap.size w w') : Gives w0 f args v :=
  fun w' hb => (h w').mono fun _ _ ⟨he, hb'⟩ => ⟨he, hb.trans (hb'.mono hb.size)⟩

def upV (p : Pt) : Value := if rightB p = true ∧ p.e ≠ 1 then .tuple #[(cutP p (p.e - 1)).v, .bool true] else .tuple #[Pt.v ⟨0, 0, 0, 0, 0⟩, .bool false]

theorem below_box {w w1 : World} {o : Obj} (h : Below (w.alloc o).heap.size (w.alloc o) w1) : Below w.heap.size w w1 := (box_below w o).trans (h.mono (by simp))

theorem kept {W w1 : World} (hb : Below W.heap.size W w1) :
    (∀ b o, b < W.heap.size → w1.cell? ⟨b, o, none⟩ = W.cell? ⟨b, o, none⟩) ∧ (∀ b o, b < W.heap.size → w1.frozen? ⟨b, o, none⟩ = W.frozen? ⟨b, o, none⟩) :=
  ⟨fun b o h => hb.cell (p := ⟨b, o, none⟩) h, fun b o h => hb.frozen (p := ⟨b, o, none⟩) h⟩

theorem below_set5 {B g : Nat} {w0 w : World} (h : Below B w0 w) (hg : B ≤ g) (x0 x1 x2 x3 x4 : Value) :
    Below B w0 (((((w.setCell ⟨g, 0, none⟩ x0).setCell ⟨g, 1, none⟩ x1).setCell ⟨g, 2, none⟩ x2).setCell ⟨g, 3, none⟩ x3).setCell ⟨g, 4, none⟩ x4) :=
  ((((h.setCell hg _).setCell hg _).setCell hg _).setCell hg _).setCell hg _
theorem below_2 (w : World) (o o' : Obj) : Below w.heap.size w ((w.alloc o).alloc o') := ((Below.refl _ _).alloc (Nat.le_refl _) _).alloc (by simp) _
theorem below_past {w w1 : World} {o o' : Obj} (h : Below ((w.alloc o).alloc o').heap.size ((w.alloc o).alloc o') w1) : Below w.heap.size w w1 := (below_2 w o o').trans (h.mono (by simp; omega))
theorem lt_two {w w1 : World} {o o' : Obj} (h : Below ((w.alloc o).alloc o').heap.size ((w.alloc o).alloc o') w1) : w.heap.size + 1 < w1.heap.size := by have := h.size; simp at this; omega
theorem right_depth {p : Pt} (h : rightB p = true) : 1 ≤ p.e ∧ p.e ≤ 4 := by
  by_cases q : 1 ≤ p.e ∧ p.e ≤ 4
  · exact q
  · rw [rightB_out q] at h; cases h

/-- the two blocks that a call has laid are as they were, behind a call that keeps what was there -/
theorem kept_two {w w1 : World} {a b c d e : Int} (hb : Below (boxed (boxed w a b c d e) 0 0 0 0 0).heap.size (boxed (boxed w a b c d e) 0 0 0 0 0) w1) :
    (w1.cell? ⟨w.heap.size, 0, none⟩ = some (.int .i64 a) ∧ w1.cell? ⟨w.heap.size, 1, none⟩ = some (.int .i64 b) ∧ w1.cell? ⟨w.heap.size, 2, none⟩ = some (.int .i64 c) ∧ w1.cell? ⟨w.heap.size, 3, none⟩ = some (.int .i64 d) ∧ w1.cell? ⟨w.heap.size, 4, none⟩ = some (.int .i64 e)) ∧ (w1.frozen? ⟨w.heap.size, 0, none⟩ = false ∧ w1.frozen? ⟨w.heap.size, 1, none⟩ = false ∧ w1.frozen? ⟨w.heap.size, 2, none⟩ = false ∧ w1.frozen? ⟨w.heap.size, 3, none⟩ = false ∧ w1.frozen? ⟨w.heap.size, 4, none⟩ = false) ∧ (w1.cell? ⟨w.heap.size + 1, 0, none⟩ = some (.int .i64 0) ∧ w1.cell? ⟨w.heap.size + 1, 1, none⟩ = some (.int .i64 0) ∧ w1.cell? ⟨w.heap.size + 1, 2, none⟩ = some (.int .i64 0) ∧ w1.cell? ⟨w.heap.size + 1, 3, none⟩ = some (.int .i64 0) ∧ w1.cell? ⟨w.heap.size + 1, 4, none⟩ = some (.int .i64 0)) ∧ (w1.frozen? ⟨w.heap.size + 1, 0, none⟩ = false ∧ w1.frozen? ⟨w.heap.size + 1, 1, none⟩ = false ∧ w1.frozen? ⟨w.heap.size + 1, 2, none⟩ = false ∧ w1.frozen? ⟨w.heap.size + 1, 3, none⟩ = false ∧ w1.frozen? ⟨w.heap.size + 1, 4, none⟩ = false) := by
  obtain ⟨h1, h2⟩ := kept hb
  refine ⟨⟨?_, ?_, ?_, ?_, ?_⟩, ⟨?_, ?_, ?_, ?_, ?_⟩, ⟨?_, ?_, ?_, ?_, ?_⟩, ⟨?_, ?_, ?_, ?_, ?_⟩⟩
  all_goals first | rw [h1 _ _ (by simp; omega)] | rw [h2 _ _ (by simp; omega)] | rw [h1 _ _ (by simp)] | rw [h2 _ _ (by simp)]
  all_goals simp [go_sem]

/-- a node with a number behind its -/
def kidP (p : Pt) (n : Int) : Pt := ⟨p.a, if p.e = 1 then n else p.b, if p.e = 2 then n else p.c, if p.e = 3 then n else p.d, p.e + 1⟩
def kidB (p : Pt) (n : Int) : Bool := rightB p && (p.e != 4) && numB n
def kidV (p : Pt) (n : Int) : Value := if kidB p n = true then .tuple #[(kidP p n).v, .bool true] else .tuple #[Pt.v ⟨0, 0, 0, 0, 0⟩, .bool false]

end Go.Proofs.YtlhhopanegnliaaGreatDoor.Pa
/- A region that draws its order, whose operations read what was there and whose calls keep it: one walk in the order of the text, in whatever later world. -/
namespace Go.Proofs.YtlhhopanegnliaaGreatDoor.Pa
open Go Go.RowKit

/-- the worlds in which all that was in W is as it was -/
structure Later (W : World) where
  w : World
  h : Below W.heap.size W w
instance {W : World} : Inhabited (Later W) := ⟨⟨W, Below.refl _ _⟩⟩
@[go_sem] theorem Later.cell {W : World} (x : Later W) (b o : Nat) (h : b < W.heap.size) : x.w.cell? ⟨b, o, none⟩ = W.cell? ⟨b, o, none⟩ := x.h.cell (p := ⟨b, o, none⟩) h
def InLater (W : World) (w' : World) : Prop := ∃ x : Later W, w' = x.w
theorem wp_region_later {P : Program} (W : World) {id : Nat} {Q : Exit → Act → World → Prop} {a : Act} {w : World} {l : List Oper} (hm : P.follows .mixedOrders = true) (hB : Region.lexB .any l.toArray = true)
    (hw : Below W.heap.size W w)
    (h : wpQuiet P l.toArray (fun w' => ∃ x : Later W, w' = x.w) (fun a' => ∀ w', (∃ x : Later W, w' = x.w) → Q .normal a' w') l a) : (Code.region id l.toArray true).wp P Q a w :=
  wp_region_quiet (C := fun w' => ∃ x : Later W, w' = x.w) hm hB ⟨⟨w.drew, hw.drew⟩, rfl⟩ (by simpa using h)
theorem Gives.later {W : World} {f : Nat} {args : Array Value} {v : Value} {x : Later W} (h : Gives W f args v) :
    Calls Tryz.prog f args x.w fun e w'' => e = .returned v ∧ ∃ y : Later W, w'' = y.w :=
  (h x.w x.h).mono fun _ w'' ⟨he, hb⟩ => ⟨he, ⟨w'', hb⟩, rfl⟩
theorem may_g {w : World} {p : Pt} {b : Bool} (h : rightB p = b) : Gives w 70 #[p.v] (.bool b) := by
  subst h; exact Gives.of (may_any p)
theorem ret_int {k : IntKind} {a b : Int} (h : a = b) : Ending.returned (.int k a) = .returned (.int k b) := by rw [h]
end Go.Proofs.YtlhhopanegnliaaGreatDoor.Pa
/- The contract of the function that gives a node's key. -/
namespace Go.Proofs.YtlhhopanegnliaaGreatDoor.Pa
open Go Go.RowKit

def keyP (p : Pt) : Int :=
  if rightB p = true then (if p.e = 1 then p.a + 1 else if p.e = 2 then (p.a + 1) * 1001 + p.b + 1 else if p.e = 3 then ((p.a + 1) * 1001 + p.b + 1) * 1001 + p.c + 1 else (((p.a + 1) * 1001 + p.b + 1) * 1001 + p.c + 1) * 1001 + p.d + 1) else 0

theorem kept_one {w w1 : World} {a b c d e : Int} (hb : Below (boxed w a b c d e).heap.size (boxed w a b c d e) w1) :
    w1.cell? ⟨w.heap.size, 0, none⟩ = some (.int .i64 a) ∧ w1.cell? ⟨w.heap.size, 1, none⟩ = some (.int .i64 b) ∧ w1.cell? ⟨w.heap.size, 2, none⟩ = some (.int .i64 c) ∧ w1.cell? ⟨w.heap.size, 3, none⟩ = some (.int .i64 d) ∧ w1.cell? ⟨w.heap.size, 4, none⟩ = some (.int .i64 e) := by
  obtain ⟨h1, _⟩ := kept hb
  refine ⟨?_, ?_, ?_, ?_, ?_⟩
  all_goals rw [h1 _ _ (by simp)]
  all_goals simp [go_sem]
theorem num_bd {n k e : Int} (h : atB n k e = true) : 0 ≤ n ∧ n ≤ 999 := by
  unfold atB numB at h
  simp only [Bool.and_eq_true, decide_eq_true_eq] at h
  exact h.1
theorem right_bd {p : Pt} (h : rightB p = true) : (0 ≤ p.a ∧ p.a ≤ 999) ∧ (0 ≤ p.b ∧ p.b ≤ 999) ∧ (0 ≤ p.c ∧ p.c ≤ 999) ∧ (0 ≤ p.d ∧ p.d ≤ 999) := by
  unfold rightB at h
  simp only [Bool.and_eq_true] at h
  exact ⟨num_bd h.1.1.1.2, num_bd h.1.1.2, num_bd h.1.2, num_bd h.2⟩

set_option maxHeartbeats 1000000 in
theorem key_any (p : Pt) (w : World) :
    Calls Tryz.prog 114 #[p.v] w fun e w' => e = .returned (.int .u64 (keyP p)) ∧ Below w.heap.size w w' := by
  obtain ⟨a, b, c, d, e⟩ := p
  cases hr : rightB ⟨a, b, c, d, e⟩
  · have HV := Lib.hid (show keyP ⟨a, b, c, d, e⟩ = 0 by simp [keyP, hr])
    go_enter Tryz.func114, Tryz.ntmps114
    go_wp2_with (go_at_call 70; ((with_reducible refine (may_any ⟨a, b, c, d, e⟩ _).mono ?_); rintro e1 w1 ⟨rfl, hb1⟩; rw [hr]; obtain ⟨c0, c1, c2, c3, c4⟩ := kept_one hb1))
    go_ret
    exact ⟨ret_int HV.out.symm, below_box hb1⟩
  · have hd := right_depth hr
    have hbd := right_bd hr
    simp only at hd hbd
    obtain ⟨⟨a0, a9⟩, ⟨b0, b9⟩, ⟨g0, g9⟩, ⟨d0, d9⟩⟩ := hbd
    rcases (by omega : e = 1 ∨ e = 2 ∨ e = 3 ∨ e = 4) with rfl | rfl | rfl | rfl
    · have HV := Lib.hid (show keyP ⟨a, b, c, d, 1⟩ = a + 1 by simp [keyP, hr])
      clear hd
      go_enter Tryz.func114, Tryz.ntmps114
      go_wp2_with (go_at_call 70; ((with_reducible refine (may_any ⟨a, b, c, d, _⟩ _).mono ?_); rintro e1 w1 ⟨rfl, hb1⟩; rw [hr]; obtain ⟨c0, c1, c2, c3, c4⟩ := kept_one hb1))
      go_loop [3, 14] (fun key i => (i = .int .i64 0 ∧ key = .int .u64 (0)) ∨ (i = .int .i64 1 ∧ key = .int .u64 (a + 1))) (fun _ i => (1 - intOf i).toNat)
      case atStart => exact .inl ⟨rfl, rfl⟩
      case round =>
        rcases hrel with ⟨rfl, rfl⟩ | ⟨rfl, rfl⟩
        · go_wp2
          go_round
          case rel => exact .inr (⟨by go_num, by go_num⟩)
          case measure => simp [intOf]
        · go_wp2
          go_ret
          exact ⟨ret_int HV.out.symm, below_box hb1⟩
    · have HV := Lib.hid (show keyP ⟨a, b, c, d, 2⟩ = (a + 1) * 1001 + b + 1 by simp [keyP, hr])
      clear hd
      go_enter Tryz.func114, Tryz.ntmps114
      go_wp2_with (go_at_call 70; ((with_reducible refine (may_any ⟨a, b, c, d, _⟩ _).mono ?_); rintro e1 w1 ⟨rfl, hb1⟩; rw [hr]; obtain ⟨c0, c1, c2, c3, c4⟩ := kept_one hb1))
      go_loop [3, 14] (fun key i => (i = .int .i64 0 ∧ key = .int .u64 (0)) ∨ (i = .int .i64 1 ∧ key = .int .u64 (a + 1)) ∨ (i = .int .i64 2 ∧ key = .int .u64 ((a + 1) * 1001 + b + 1))) (fun _ i => (2 - intOf i).toNat)
      case atStart => exact .inl ⟨rfl, rfl⟩
      case round =>
        rcases hrel with ⟨rfl, rfl⟩ | ⟨rfl, rfl⟩ | ⟨rfl, rfl⟩
        · go_wp2
          go_round
          case rel => exact .inr (.inl ⟨by go_num, by go_num⟩)
          case measure => simp [intOf]
        · go_wp2
          go_round
          case rel => exact .inr (.inr (⟨by go_num, by go_num⟩))
          case measure => simp [intOf]
        · go_wp2
          go_ret
          exact ⟨ret_int HV.out.symm, below_box hb1⟩
    · have HV := Lib.hid (show keyP ⟨a, b, c, d, 3⟩ = ((a + 1) * 1001 + b + 1) * 1001 + c + 1 by simp [keyP, hr])
      clear hd
      go_enter Tryz.func114, Tryz.ntmps114
      go_wp2_with (go_at_call 70; ((with_reducible refine (may_any ⟨a, b, c, d, _⟩ _).mono ?_); rintro e1 w1 ⟨rfl, hb1⟩; rw [hr]; obtain ⟨c0, c1, c2, c3, c4⟩ := kept_one hb1))
      go_loop [3, 14] (fun key i => (i = .int .i64 0 ∧ key = .int .u64 (0)) ∨ (i = .int .i64 1 ∧ key = .int .u64 (a + 1)) ∨ (i = .int .i64 2 ∧ key = .int .u64 ((a + 1) * 1001 + b + 1)) ∨ (i = .int .i64 3 ∧ key = .int .u64 (((a + 1) * 1001 + b + 1) * 1001 + c + 1))) (fun _ i => (3 - intOf i).toNat)
      case atStart => exact .inl ⟨rfl, rfl⟩
      case round =>
        rcases hrel with ⟨rfl, rfl⟩ | ⟨rfl, rfl⟩ | ⟨rfl, rfl⟩ | ⟨rfl, rfl⟩
        · go_wp2
          go_round
          case rel => exact .inr (.inl ⟨by go_num, by go_num⟩)
          case measure => simp [intOf]
        · go_wp2
          go_round
          case rel => exact .inr (.inr (.inl ⟨by go_num, by go_num⟩))
          case measure => simp [intOf]
        · go_wp2
          go_round
          case rel => exact .inr (.inr (.inr (⟨by go_num, by go_num⟩)))
          case measure => simp [intOf]
        · go_wp2
          go_ret
          exact ⟨ret_int HV.out.symm, below_box hb1⟩
    · have HV := Lib.hid (show keyP ⟨a, b, c, d, 4⟩ = (((a + 1) * 1001 + b + 1) * 1001 + c + 1) * 1001 + d + 1 by simp [keyP, hr])
      clear hd
      go_enter Tryz.func114, Tryz.ntmps114
      go_wp2_with (go_at_call 70; ((with_reducible refine (may_any ⟨a, b, c, d, _⟩ _).mono ?_); rintro e1 w1 ⟨rfl, hb1⟩; rw [hr]; obtain ⟨c0, c1, c2, c3, c4⟩ := kept_one hb1))
      go_loop [3, 14] (fun key i => (i = .int .i64 0 ∧ key = .int .u64 (0)) ∨ (i = .int .i64 1 ∧ key = .int .u64 (a + 1)) ∨ (i = .int .i64 2 ∧ key = .int .u64 ((a + 1) * 1001 + b + 1)) ∨ (i = .int .i64 3 ∧ key = .int .u64 (((a + 1) * 1001 + b + 1) * 1001 + c + 1)) ∨ (i = .int .i64 4 ∧ key = .int .u64 ((((a + 1) * 1001 + b + 1) * 1001 + c + 1) * 1001 + d + 1))) (fun _ i => (4 - intOf i).toNat)
      case atStart => exact .inl ⟨rfl, rfl⟩
      case round =>
        rcases hrel with ⟨rfl, rfl⟩ | ⟨rfl, rfl⟩ | ⟨rfl, rfl⟩ | ⟨rfl, rfl⟩ | ⟨rfl, rfl⟩
        · go_wp2
          go_round
          case rel => exact .inr (.inl ⟨by go_num, by go_num⟩)
          case measure => simp [intOf]
        · go_wp2
          go_round
          case rel => exact .inr (.inr (.inl ⟨by go_num, by go_num⟩))
          case measure => simp [intOf]
        · go_wp2
          go_round
          case rel => exact .inr (.inr (.inr (.inl ⟨by go_num, by go_num⟩)))
          case measure => simp [intOf]
        · go_wp2
          go_round
          case rel => exact .inr (.inr (.inr (.inr (⟨by go_num, by go_num⟩))))
          case measure => simp [intOf]
        · go_wp2
          go_ret
          exact ⟨ret_int HV.out.symm, below_box hb1⟩
end Go.Proofs.YtlhhopanegnliaaGreatDoor.Pa
/- The contracts of the library's comparisons, and of the function that says whether a node is less than another. -/
namespace Go.Proofs.YtlhhopanegnliaaGreatDoor.Pa
open Go Go.RowKit

theorem nan_any (n : Int) (w : World) : Calls Tryz.prog 198 #[.int .i64 n] w fun e w' => e = .returned (.bool false) ∧ w = w' := by
  go_enter Tryz.func198, Tryz.ntmps198
  go_wp2
  go_ret
  exact ⟨rfl, rfl⟩
theorem cmp_lt (a b : Int) (w : World) (h : a < b) : Calls Tryz.prog 158 #[.int .i64 a, .int .i64 b] w fun e w' => e = .returned (.int .i64 (-1)) ∧ w = w' := by
  go_enter Tryz.func158, Tryz.ntmps158
  go_wp2_with (go_at_call 198; ((with_reducible refine (nan_any _ _).mono ?_); rintro e w' ⟨rfl, rfl⟩))
  go_ret
  exact ⟨rfl, rfl⟩
theorem cmp_gt (a b : Int) (w : World) (h : b < a) : Calls Tryz.prog 158 #[.int .i64 a, .int .i64 b] w fun e w' => e = .returned (.int .i64 1) ∧ w = w' := by
  have h' : ¬ a < b := by omega
  go_enter Tryz.func158, Tryz.ntmps158
  go_wp2_with (go_at_call 198; ((with_reducible refine (nan_any _ _).mono ?_); rintro e w' ⟨rfl, rfl⟩))
  go_ret
  exact ⟨rfl, rfl⟩
theorem cmp_eq (a : Int) (w : World) : Calls Tryz.prog 158 #[.int .i64 a, .int .i64 a] w fun e w' => e = .returned (.int .i64 0) ∧ w = w' := by
  go_enter Tryz.func158, Tryz.ntmps158
  go_wp2_with (go_at_call 198; ((with_reducible refine (nan_any _ _).mono ?_); rintro e w' ⟨rfl, rfl⟩))
  go_ret
  exact ⟨rfl, rfl⟩

def cmpL : List Int → List Int → Int
  | [], [] => 0
  | [], _ :: _ => -1
  | _ :: _, [] => 1
  | x :: r, y :: q => if x < y then -1 else if y < x then 1 else cmpL r q

def InCells (w : World) (B : Nat) (l : List Int) : Prop := ∀ i (h : i < l.length), w.cell? ⟨B, i, none⟩ = some (.int .i64 l[i])

theorem drop_cons (l : List Int) (k : Nat) (h : k < l.length) : l.drop k = l[k] :: l.drop (k + 1) := List.drop_eq_getElem_cons h
section
variable {l q : List Int} {k : Nat}
theorem cmpL_long (h : k < l.length) (h2 : q.length ≤ k) : cmpL (l.drop k) (q.drop k) = 1 := by
  rw [drop_cons l k h, List.drop_of_length_le h2]; rfl
theorem cmpL_lt (h : k < l.length) (h2 : k < q.length) (hv : l[k] < q[k]) : cmpL (l.drop k) (q.drop k) = -1 := by
  rw [drop_cons l k h, drop_cons q k h2, cmpL, if_pos hv]
theorem cmpL_gt (h : k < l.length) (h2 : k < q.length) (hv : q[k] < l[k]) : cmpL (l.drop k) (q.drop k) = 1 := by
  rw [drop_cons l k h, drop_cons q k h2, cmpL, if_neg (by omega), if_pos hv]
theorem cmpL_on (h : k < l.length) (h2 : k < q.length) (hv : l[k] = q[k]) : cmpL (l.drop k) (q.drop k) = cmpL (l.drop (k + 1)) (q.drop (k + 1)) := by
  rw [drop_cons l k h, drop_cons q k h2, cmpL, if_neg (by omega), if_neg (by omega)]
theorem cmpL_end (h : k = l.length) (h2 : k < q.length) : cmpL (l.drop k) (q.drop k) = -1 := by
  rw [drop_cons q k h2, List.drop_of_length_le (by omega)]; rfl
theorem cmpL_same (h : k = l.length) (h2 : k = q.length) : cmpL (l.drop k) (q.drop k) = 0 := by
  rw [List.drop_of_length_le (by omega), List.drop_of_length_le (by omega)]; rfl
end
def CRel (l q : List Int) (i : Value) : Prop := ∃ k : Nat, i = .int .i64 (k : Nat) ∧ k ≤ l.length ∧ k ≤ q.length ∧ cmpL (l.drop k) (q.drop k) = cmpL l q

set_option maxHeartbeats 1000000 in
theorem compare_any (l q : List Int) (B C : Nat) (w : World) (hl : l.length ≤ 4) (hq : q.length ≤ 4) (h1 : InCells w B l) (h2 : InCells w C q) :
    Calls Tryz.prog 178 #[.slice (some ⟨B, 0, none⟩) l.length 4, .slice (some ⟨C, 0, none⟩) q.length 4] w fun e w' => e = .returned (.int .i64 (cmpL l q)) ∧ w = w' := by
  have H1 := Lib.hid h1; clear h1
  have H2 := Lib.hid h2; clear h2
  go_enter Tryz.func178, Tryz.ntmps178
  go_wp2
  go_loop [11] (fun i => CRel l q i) (fun i => l.length - (intOf i).toNat)
  case atStart => exact ⟨0, rfl, by omega, by omega, rfl⟩
  case round =>
    obtain ⟨k, rfl, hk1, hk2, hE⟩ := hrel
    have HE := Lib.hid hE; clear hE
    by_cases hlt : k < l.length
    · have c1 := H1.out k hlt
      by_cases hlt2 : k < q.length
      · have c2 := H2.out k hlt2
        obtain ⟨x, hx⟩ : ∃ x, l[k] = x := ⟨_, rfl⟩
        obtain ⟨y, hy⟩ : ∃ y, q[k] = y := ⟨_, rfl⟩
        rw [hx] at c1
        rw [hy] at c2
        by_cases hv : x < y
        · have HC := Lib.hid (cmpL_lt hlt hlt2 (by rw [hx, hy]; exact hv)); clear hx hy
          go_wp2_with (go_at_call 158; ((with_reducible refine (cmp_lt _ _ _ hv).mono ?_); rintro e w' ⟨rfl, rfl⟩))
          go_ret
          exact ⟨ret_int (by rw [← HE.out, HC.out]), rfl⟩
        · by_cases hv2 : y < x
          · have HC := Lib.hid (cmpL_gt hlt hlt2 (by rw [hx, hy]; exact hv2)); clear hx hy
            go_wp2_with (go_at_call 158; ((with_reducible refine (cmp_gt _ _ _ hv2).mono ?_); rintro e w' ⟨rfl, rfl⟩))
            go_ret
            exact ⟨ret_int (by rw [← HE.out, HC.out]), rfl⟩
          · obtain rfl : x = y := by omega
            have HC := Lib.hid (cmpL_on hlt hlt2 (by rw [hx, hy])); clear hx hy hv hv2
            go_wp2_with (go_at_call 158; ((with_reducible refine (cmp_eq _ _).mono ?_); rintro e w' ⟨rfl, rfl⟩))
            go_round
            case rel => exact ⟨k + 1, by go_num, by omega, by omega, HC.out.symm.trans HE.out⟩
            case measure => simp [intOf]; omega
      · have HC := Lib.hid (cmpL_long hlt (by omega : q.length ≤ k))
        have hge : (q.length : Int) ≤ (k : Int) := by omega
        go_wp2
        go_ret
        exact ⟨ret_int (by rw [← HE.out, HC.out]), rfl⟩
    · by_cases hlt2 : k < q.length
      · have HC := Lib.hid (cmpL_end (by omega : k = l.length) hlt2)
        have hlen : (l.length : Int) < (q.length : Int) := by omega
        go_wp2
        go_ret
        exact ⟨ret_int (by rw [← HE.out, HC.out]), rfl⟩
      · have HC := Lib.hid (cmpL_same (by omega : k = l.length) (by omega : k = q.length))
        have hlen : ¬ (l.length : Int) < (q.length : Int) := by omega
        go_wp2
        go_ret
        exact ⟨ret_int (by rw [← HE.out, HC.out]), rfl⟩

/-- the numbers of a node -/
def numsP (p : Pt) : List Int := [p.a, p.b, p.c, p.d].take p.e.toNat
def lessB (p q : Pt) : Bool := rightB p && rightB q && decide (cmpL (numsP p) (numsP q) < 0)

theorem take_cells {w' : World} {B k : Nat} {a b c d : Int} (h0 : w'.cell? ⟨B, 0, none⟩ = some (.int .i64 a)) (h1 : w'.cell? ⟨B, 1, none⟩ = some (.int .i64 b)) (h2 : w'.cell? ⟨B, 2, none⟩ = some (.int .i64 c)) (h3 : w'.cell? ⟨B, 3, none⟩ = some (.int .i64 d)) :
    InCells w' B ([a, b, c, d].take k) := by
  intro i h
  simp only [List.length_take, List.length_cons, List.length_nil] at h
  rw [List.getElem_take]
  rcases (by omega : i = 0 ∨ i = 1 ∨ i = 2 ∨ i = 3) with rfl | rfl | rfl | rfl
  · exact h0
  · exact h1
  · exact h2
  · exact h3
theorem take_len {k : Nat} {a b c d : Int} (h : k ≤ 4) : ([a, b, c, d].take k).length = k := by simp; omega
theorem compare_g {w : World} {a b c d a' b' c' d' : Int} {k k' : Nat} (h : k ≤ 4) (h' : k' ≤ 4) :
    Gives (boxed (boxed w a b c d k) a' b' c' d' k') 178 #[.slice (some ⟨w.heap.size, 0, none⟩) k 4, .slice (some ⟨w.heap.size + 1, 0, none⟩) k' 4] (.int .i64 (cmpL ([a, b, c, d].take k) ([a', b', c', d'].take k'))) := by
  intro w' hb
  obtain ⟨h1, _⟩ := kept hb
  have i1 : InCells w' w.heap.size ([a, b, c, d].take k) := by
    apply take_cells
    all_goals rw [h1 _ _ (by simp; omega)]
    all_goals simp [go_sem]
  have i2 : InCells w' (w.heap.size + 1) ([a', b', c', d'].take k') := by
    apply take_cells
    all_goals rw [h1 _ _ (by simp)]
    all_goals simp [go_sem]
  have := compare_any _ _ _ _ w' (by rw [take_len h]; exact h) (by rw [take_len h']; exact h') i1 i2
  rw [take_len h, take_len h'] at this
  exact this.mono fun _ _ ⟨he, hw⟩ => ⟨he, hw ▸ hb⟩

set_option maxHeartbeats 2000000 in
theorem less_any (p q : Pt) (w : World) :
    Calls Tryz.prog 139 #[p.v, q.v] w fun e w' => e = .returned (.bool (lessB p q)) ∧ Below w.heap.size w w' := by
  obtain ⟨a, b, c, d, e⟩ := p
  obtain ⟨a', b', c', d', e'⟩ := q
  cases hr : rightB ⟨a, b, c, d, e⟩
  · have gp := may_g (w := (boxed (boxed w a b c d e) a' b' c' d' e')) hr
    have HV := Lib.hid (show lessB ⟨a, b, c, d, e⟩ ⟨a', b', c', d', e'⟩ = false by simp [lessB, hr])
    clear hr
    go_enter Tryz.func139, Tryz.ntmps139
    go_wp2
    refine wp_region_later (boxed (boxed w a b c d e) a' b' c' d' e') (by kernel_rfl) (by kernel_rfl) (Below.refl _ _) ?_
    repeat (go_big_quiet_step (((first | go_at_call 70 | go_at_call 178); exact Gives.later (by with_reducible assumption))))
    refine wpQuiet_nil ?_
    rintro _ ⟨⟨w1, hb1⟩, rfl⟩
    go_wp2
    go_ret
    exact ⟨ret_bool HV.out.symm, below_past hb1⟩
  · cases hq : rightB ⟨a', b', c', d', e'⟩
    · have gp := may_g (w := (boxed (boxed w a b c d e) a' b' c' d' e')) hr
      have gq := may_g (w := (boxed (boxed w a b c d e) a' b' c' d' e')) hq
      have HV := Lib.hid (show lessB ⟨a, b, c, d, e⟩ ⟨a', b', c', d', e'⟩ = false by simp [lessB, hq])
      clear hr hq
      go_enter Tryz.func139, Tryz.ntmps139
      go_wp2
      refine wp_region_later (boxed (boxed w a b c d e) a' b' c' d' e') (by kernel_rfl) (by kernel_rfl) (Below.refl _ _) ?_
      repeat (go_big_quiet_step (((first | go_at_call 70 | go_at_call 178); exact Gives.later (by with_reducible assumption))))
      refine wpQuiet_nil ?_
      rintro _ ⟨⟨w1, hb1⟩, rfl⟩
      go_wp2
      go_ret
      exact ⟨ret_bool HV.out.symm, below_past hb1⟩
    · have hd := right_depth hr
      have hd' := right_depth hq
      simp only at hd hd'
      obtain ⟨k, rfl⟩ : ∃ k : Nat, e = k := ⟨e.toNat, by omega⟩
      obtain ⟨k', rfl⟩ : ∃ k' : Nat, e' = k' := ⟨e'.toNat, by omega⟩
      have hk : k ≤ 4 := by omega
      have hk' : k' ≤ 4 := by omega
      have gp := may_g (w := (boxed (boxed w a b c d k) a' b' c' d' k')) hr
      have gq := may_g (w := (boxed (boxed w a b c d k) a' b' c' d' k')) hq
      have gc := compare_g (w := w) (a := a) (b := b) (c := c) (d := d) (a' := a') (b' := b') (c' := c') (d' := d') hk hk'
      have HV := Lib.hid (show lessB ⟨a, b, c, d, k⟩ ⟨a', b', c', d', k'⟩ = decide (cmpL ([a, b, c, d].take k) ([a', b', c', d'].take k') < 0) by unfold lessB; rw [hr, hq]; rfl)
      have i1 : (0 : Int) ≤ (k : Int) := by omega
      have i2 : (k : Int) ≤ 4 := by omega
      have i3 : (0 : Int) ≤ (k' : Int) := by omega
      have i4 : (k' : Int) ≤ 4 := by omega
      clear hr hq hd hd'
      generalize cmpL ([a, b, c, d].take k) ([a', b', c', d'].take k') = z at *
      go_enter Tryz.func139, Tryz.ntmps139
      go_wp2
      refine wp_region_later (boxed (boxed w a b c d k) a' b' c' d' k') (by kernel_rfl) (by kernel_rfl) (Below.refl _ _) ?_
      repeat (go_big_quiet_step (((first | go_at_call 70 | go_at_call 178); exact Gives.later (by with_reducible assumption))))
      refine wpQuiet_nil ?_
      rintro _ ⟨⟨w1, hb1⟩, rfl⟩
      go_wp2
      go_ret
      exact ⟨ret_bool HV.out.symm, below_past hb1⟩
end Go.Proofs.YtlhhopanegnliaaGreatDoor.Pa
/- Two nodes, held against each other as structs. -/
namespace Go.Proofs.YtlhhopanegnliaaGreatDoor.Pa
open Go Go.RowKit
def eqP (p q : Pt) : Bool := p.a == q.a && p.b == q.b && p.c == q.c && p.d == q.d && p.e == q.e
theorem range4 : List.range' 0 4 = [0, 1, 2, 3] := rfl
set_option maxRecDepth 100000 in
theorem eq22 (n : Nat) (w : World) (a b c d a' b' c' d' : Int) :
    (Op.equalIn (n + 2) 28 (.agg #[.int .i64 a, .int .i64 b, .int .i64 c, .int .i64 d]) (.agg #[.int .i64 a', .int .i64 b', .int .i64 c', .int .i64 d'])).run Tryz.prog w
      = .ok (a == a' && b == b' && c == c' && d == d') w := by
  unfold Op.equalIn
  simp [run_underlying Tryz.underlying28, go_sem]
  rw [range4]
  by_cases h1 : a = a' <;> by_cases h2 : b = b' <;> by_cases h3 : c = c' <;> by_cases h4 : d = d' <;> simp [go_sem, run_equalIn_int (h := Tryz.underlying3), h1, h2, h3, h4]
set_option maxRecDepth 100000 in
@[go_sem ↓] theorem eq24 (n : Nat) (w : World) (a b c d e a' b' c' d' e' : Int) :
    (Op.equalIn (n + 3) 30 (.agg #[.int .i64 a, .int .i64 b, .int .i64 c, .int .i64 d, .int .i64 e]) (.agg #[.int .i64 a', .int .i64 b', .int .i64 c', .int .i64 d', .int .i64 e'])).run Tryz.prog w
      = .ok (eqP ⟨a, b, c, d, e⟩ ⟨a', b', c', d', e'⟩) w := by
  rw [run_equalIn_struct w (n + 2) 30 _ _ (by kernel_rfl) (by kernel_rfl)]
  simp [go_sem, eq22]
  unfold eqP
  by_cases h1 : a = a' <;> by_cases h2 : b = b' <;> by_cases h3 : c = c' <;> by_cases h4 : d = d' <;> by_cases h5 : e = e' <;> simp [h1, h2, h3, h4, h5]
theorem eqP_iff (p q : Pt) : eqP p q = true ↔ p = q := by
  obtain ⟨a, b, c, d, e⟩ := p
  obtain ⟨a', b', c', d', e'⟩ := q
  simp [eqP, Pt.mk.injEq, and_assoc]
theorem eqP_ne {p q : Pt} (h : p ≠ q) : eqP p q = false := by
  cases hh : eqP p q
  · rfl
  · exact absurd ((eqP_iff p q).1 hh) h
theorem eqP_self (p : Pt) : eqP p p = true := (eqP_iff p p).2 rfl
end Go.Proofs.YtlhhopanegnliaaGreatDoor.Pa
/- Plain facts on nodes: where their keys lie, and that two nodes that may be have two keys. -/
namespace Go.Proofs.YtlhhopanegnliaaGreatDoor.Pa
open Go

/-- a node that may be, in plain numbers -/
structure Fine (a b c d e : Int) : Prop where
  e1 : 1 ≤ e
  e4 : e ≤ 4
  a0 : 0 ≤ a
  a9 : a ≤ 999
  b0 : 0 ≤ b
  b9 : b ≤ 999
  c0 : 0 ≤ c
  c9 : c ≤ 999
  d0 : 0 ≤ d
  d9 : d ≤ 999
  zb : e = 1 → b = 0
  zc : e ≤ 2 → c = 0
  zd : e ≤ 3 → d = 0
theorem right_iff (a b c d e : Int) : rightB ⟨a, b, c, d, e⟩ = true ↔ Fine a b c d e := by
  simp only [rightB, atB, numB, Bool.and_eq_true, Bool.or_eq_true, decide_eq_true_eq, Bool.not_eq_true', bne_eq_false_iff_eq]
  constructor
  · intro h
    exact ⟨by omega, by omega, by omega, by omega, by omega, by omega, by omega, by omega, by omega, by omega, by omega, by omega, by omega⟩
  · intro h
    have h1 := h.1; have h2 := h.2; have h3 := h.3; have h4 := h.4; have h5 := h.5; have h6 := h.6; have h7 := h.7; have h8 := h.8; have h9 := h.9; have h10 := h.10; have h11 := h.11; have h12 := h.12; have h13 := h.13
    omega
/-- the four forms of a node that may be -/
theorem node_shape {p : Pt} (h : rightB p = true) :
    (∃ a : Int, p = ⟨a, 0, 0, 0, 1⟩) ∨ (∃ a b : Int, p = ⟨a, b, 0, 0, 2⟩) ∨ (∃ a b c : Int, p = ⟨a, b, c, 0, 3⟩) ∨ (∃ a b c d : Int, p = ⟨a, b, c, d, 4⟩) := by
  obtain ⟨a, b, c, d, e⟩ := p
  have hf := (right_iff a b c d e).1 h
  have h1 := hf.e1
  have h4 := hf.e4
  rcases (by omega : e = 1 ∨ e = 2 ∨ e = 3 ∨ e = 4) with rfl | rfl | rfl | rfl
  · refine .inl ⟨a, ?_⟩
    rw [hf.zb rfl, hf.zc (by omega), hf.zd (by omega)]
  · refine .inr (.inl ⟨a, b, ?_⟩)
    rw [hf.zc (by omega), hf.zd (by omega)]
  · refine .inr (.inr (.inl ⟨a, b, c, ?_⟩))
    rw [hf.zd (by omega)]
  · exact .inr (.inr (.inr ⟨a, b, c, d, rfl⟩))
theorem key_inj {p q : Pt} (hp : rightB p = true) (hq : rightB q = true) (h : keyP p = keyP q) : p = q := by
  obtain ⟨h1, h2, h3, h4⟩ := right_bd hp
  obtain ⟨g1, g2, g3, g4⟩ := right_bd hq
  unfold keyP at h
  rw [if_pos hp, if_pos hq] at h
  rcases node_shape hp with ⟨a, rfl⟩ | ⟨a, b, rfl⟩ | ⟨a, b, c, rfl⟩ | ⟨a, b, c, d, rfl⟩ <;>
    rcases node_shape hq with ⟨a', rfl⟩ | ⟨a', b', rfl⟩ | ⟨a', b', c', rfl⟩ | ⟨a', b', c', d', rfl⟩ <;>
    simp at h h1 h2 h3 h4 g1 g2 g3 g4 <;> simp <;> omega
theorem key_pos {p : Pt} (hp : rightB p = true) : 1 ≤ keyP p ∧ keyP p < 18446744073709551616 := by
  obtain ⟨h1, h2, h3, h4⟩ := right_bd hp
  unfold keyP
  rw [if_pos hp]
  rcases node_shape hp with ⟨a, rfl⟩ | ⟨a, b, rfl⟩ | ⟨a, b, c, rfl⟩ | ⟨a, b, c, d, rfl⟩ <;> simp at h1 h2 h3 h4 ⊢ <;> omega
theorem key_zero {p : Pt} (hp : rightB p = false) : keyP p = 0 := by
  unfold keyP
  rw [if_neg (by simp [hp])]
theorem key_bd (p : Pt) : 0 ≤ keyP p ∧ keyP p < 18446744073709551616 := by
  cases h : rightB p
  · rw [key_zero h]; omega
  · have := key_pos h; omega
end Go.Proofs.YtlhhopanegnliaaGreatDoor.Pa
namespace Go.Proofs.YtlhhopanegnliaaGreatDoor.Pa
open Go Go.RowKit
/-- a list of numbers ahead of another one -/
theorem cmpL_self : ∀ l : List Int, cmpL l l = 0
  | [] => rfl
  | a :: l => by rw [cmpL, if_neg (by omega), if_neg (by omega)]; exact cmpL_self l
theorem nums_inj {p q : Pt} (hp : rightB p = true) (hq : rightB q = true) (h : numsP p = numsP q) : p = q := by
  unfold numsP at h
  rcases node_shape hp with ⟨a, rfl⟩ | ⟨a, b, rfl⟩ | ⟨a, b, c, rfl⟩ | ⟨a, b, c, d, rfl⟩ <;>
    rcases node_shape hq with ⟨a', rfl⟩ | ⟨a', b', rfl⟩ | ⟨a', b', c', rfl⟩ | ⟨a', b', c', d', rfl⟩ <;>
    simp at h <;> simp [h]
end Go.Proofs.YtlhhopanegnliaaGreatDoor.Pa
