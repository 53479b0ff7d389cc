/- Nodes: whether they may be, the node above one, the first numbers of one, which is less; as the program and the document answer. -/
import Derived.Test.YthjlapcccmbhbaaProg
import Derived.WalkKit
import Derived.WalkLawsBesides
import Derived.Deep.QuietTactic
import Derived.BigQuiet
import Derived.WalkSmall
import Derived.KernelRfl
import Derived.Lib.Hide
import Derived.StillTailTactics
import Derived.Laws.IdiomCopy
import Derived.Deep.RegionLaw
import Derived.Deep.RegionHeld3
import Derived.Laws.AppendOwn
namespace Go.Proofs.Ythjlapcccmbhbaa.Pa
open Go Go.RowKit

/-- a node's five numbers: four numbers and a depth -/
structure Pt where
  a : Int
  b : Int
  c : Int
  d : Int
  e : Int
abbrev Pt.v (p : Pt) : Value := .agg #[.int .i64 p.a, .int .i64 p.b, .int .i64 p.c, .int .i64 p.d, .int .i64 p.e]

def numB (n : Int) : Bool := decide (0 ≤ n ∧ n ≤ 999)
/-- whether the number at a place is fine -/
def atB (n k e : Int) : Bool := numB n && (decide (k < e) || !(n != 0))
def rightB (p : Pt) : Bool := decide (1 ≤ p.e) && decide (p.e ≤ 4) && atB p.a 0 p.e && atB p.b 1 p.e && atB p.c 2 p.e && atB p.d 3 p.e

theorem num_yes (n : Int) (w : World) (h : numB n = true) :
    Calls Try.prog 67 #[.int .i64 n] w fun e w' => e = .returned (.bool true) ∧ w = w' := by
  unfold numB at h
  obtain ⟨h0, h1⟩ := of_decide_eq_true h
  clear h
  go_enter Try.func67, Try.ntmps67
  go_wp2
  go_ret
  exact ⟨rfl, rfl⟩
theorem num_no (n : Int) (w : World) (h : numB n = false) :
    Calls Try.prog 67 #[.int .i64 n] w fun e w' => e = .returned (.bool false) ∧ w = w' := by
  unfold numB at h
  have h := of_decide_eq_false h
  by_cases h0 : 0 ≤ n
  · have h1 : ¬ n ≤ 999 := fun q => h ⟨h0, q⟩
    clear h
    go_enter Try.func67, Try.ntmps67
    go_wp2
    go_ret
    exact ⟨rfl, rfl⟩
  · clear h
    go_enter Try.func67, Try.ntmps67
    go_wp2
    go_ret
    exact ⟨rfl, rfl⟩

theorem ret_bool {a b : Bool} (h : a = b) : Ending.returned (.bool a) = .returned (.bool b) := by rw [h]
theorem box_below (w : World) (o : Obj) : Below w.heap.size w (w.alloc o) := (Below.refl _ _).alloc (Nat.le_refl _) _

section
variable (w : World) (x0 x1 x2 x3 : Value)
theorem elem22 : Try.prog.elem 23 = 3 := by kernel_rfl
@[go_sem ↓] theorem run_index0 : (Instr.index 23 (.agg #[x0, x1, x2, x3]) (.int .i64 0)).run Try.prog w = .ok x0 w := by
  simp [Instr.index, asIntOf, run_underlying Try.underlying23, go_sem]
@[go_sem ↓] theorem run_index1 : (Instr.index 23 (.agg #[x0, x1, x2, x3]) (.int .i64 1)).run Try.prog w = .ok x1 w := by
  simp [Instr.index, asIntOf, run_underlying Try.underlying23, go_sem]
@[go_sem ↓] theorem run_index2 : (Instr.index 23 (.agg #[x0, x1, x2, x3]) (.int .i64 2)).run Try.prog w = .ok x2 w := by
  simp [Instr.index, asIntOf, run_underlying Try.underlying23, go_sem]
@[go_sem ↓] theorem run_index3 : (Instr.index 23 (.agg #[x0, x1, x2, x3]) (.int .i64 3)).run Try.prog w = .ok x3 w := by
  simp [Instr.index, asIntOf, run_underlying Try.underlying23, go_sem]
end

/-- an index that goes from 0 to 4, with what has been seen so far -/
def Idx (P : Nat → Prop) (i : Value) : Prop :=
  (i = .int .i64 0 ∧ P 0) ∨ (i = .int .i64 1 ∧ P 1) ∨ (i = .int .i64 2 ∧ P 2) ∨ (i = .int .i64 3 ∧ P 3) ∨ (i = .int .i64 4 ∧ P 4)
def atN (a b c d e : Int) : Nat → Bool
  | 0 => atB a 0 e
  | 1 => atB b 1 e
  | 2 => atB c 2 e
  | _ => atB d 3 e
def Seen (f : Nat → Bool) (k : Nat) : Prop := ∀ j, j < k → f j = true
theorem seen0 (f : Nat → Bool) : Seen f 0 := fun _ h => absurd h (Nat.not_lt_zero _)
theorem Seen.next {f : Nat → Bool} {k : Nat} (h : Seen f k) (hk : f k = true) : Seen f (k + 1) := fun j hj => by
  rcases Nat.lt_or_ge j k with h' | h'
  · exact h j h'
  · have : j = k := by omega
    rw [this]; exact hk
def allB (f : Nat → Bool) : Bool := f 0 && f 1 && f 2 && f 3
theorem Seen.all {f : Nat → Bool} (h : Seen f 4) : allB f = true := by unfold allB; rw [h 0 (by omega), h 1 (by omega), h 2 (by omega), h 3 (by omega)]; rfl
theorem not_all {f : Nat → Bool} {k : Nat} (hk : k < 4) (h : f k = false) : allB f = false := by
  unfold allB
  rcases (by omega : k = 0 ∨ k = 1 ∨ k = 2 ∨ k = 3) with rfl | rfl | rfl | rfl <;> rw [h] <;> simp

set_option maxHeartbeats 1000000 in
theorem may_in (a b c d e : Int) (w : World) (he : e = 1 ∨ e = 2 ∨ e = 3 ∨ e = 4) :
    Calls Try.prog 47 #[Pt.v ⟨a, b, c, d, e⟩] w fun e' w' => e' = .returned (.bool (allB (atN a b c d e))) ∧ Below w.heap.size w w' := by
  obtain ⟨f, hf⟩ : ∃ f, atN a b c d e = f := ⟨_, rfl⟩
  have f0 : atB a 0 e = f 0 := by rw [← hf]; rfl
  have f1 : atB b 1 e = f 1 := by rw [← hf]; rfl
  have f2 : atB c 2 e = f 2 := by rw [← hf]; rfl
  have f3 : atB d 3 e = f 3 := by rw [← hf]; rfl
  rw [hf]
  clear hf
  unfold atB at f0 f1 f2 f3
  replace f0 := Lib.hid f0
  replace f1 := Lib.hid f1
  replace f2 := Lib.hid f2
  replace f3 := Lib.hid f3
  rcases he with rfl | rfl | rfl | rfl
  all_goals
    go_enter Try.func47, Try.ntmps47
    go_wp2
    go_loop [15] (fun i => Idx (Seen f) i) (fun i => (4 - intOf i).toNat)
    case atStart => exact .inl ⟨rfl, seen0 f⟩
    case round =>
      rcases hrel with ⟨rfl, hs⟩ | ⟨rfl, hs⟩ | ⟨rfl, hs⟩ | ⟨rfl, hs⟩ | ⟨rfl, hs⟩
      · cases h : numB a
        · go_wp2_with (go_at_call 67; ((with_reducible refine (num_no _ _ (by assumption)).mono ?_); rintro e w' ⟨rfl, rfl⟩))
          go_ret
          exact ⟨ret_bool (not_all (k := 0) (by omega) (by rw [← f0.out, h]; rfl)).symm, box_below _ _⟩
        · go_wp2_with (go_at_call 67; ((with_reducible refine (num_yes _ _ (by assumption)).mono ?_); rintro e w' ⟨rfl, rfl⟩))
          go_round
          case rel => exact .inr (.inl ⟨by go_num, hs.next (by rw [← f0.out, h]; rfl)⟩)
          case measure => simp [intOf]
      · cases h : numB b
        · go_wp2_with (go_at_call 67; ((with_reducible refine (num_no _ _ (by assumption)).mono ?_); rintro e w' ⟨rfl, rfl⟩))
          go_ret
          exact ⟨ret_bool (not_all (k := 1) (by omega) (by rw [← f1.out, h]; rfl)).symm, box_below _ _⟩
        · cases hz : (b != 0)
          all_goals
            go_wp2_with (go_at_call 67; ((with_reducible refine (num_yes _ _ (by assumption)).mono ?_); rintro e w' ⟨rfl, rfl⟩))
            first
            | (go_ret
               exact ⟨ret_bool (not_all (k := 1) (by omega) (by rw [← f1.out, h, hz]; rfl)).symm, box_below _ _⟩)
            | (go_round
               case rel => exact .inr (.inr (.inl ⟨by go_num, hs.next (by rw [← f1.out, h, hz]; rfl)⟩))
               case measure => simp [intOf])
      · cases h : numB c
        · go_wp2_with (go_at_call 67; ((with_reducible refine (num_no _ _ (by assumption)).mono ?_); rintro e w' ⟨rfl, rfl⟩))
          go_ret
          exact ⟨ret_bool (not_all (k := 2) (by omega) (by rw [← f2.out, h]; rfl)).symm, box_below _ _⟩
        · cases hz : (c != 0)
          all_goals
            go_wp2_with (go_at_call 67; ((with_reducible refine (num_yes _ _ (by assumption)).mono ?_); rintro e w' ⟨rfl, rfl⟩))
            first
            | (go_ret
               exact ⟨ret_bool (not_all (k := 2) (by omega) (by rw [← f2.out, h, hz]; rfl)).symm, box_below _ _⟩)
            | (go_round
               case rel => exact .inr (.inr (.inr (.inl ⟨by go_num, hs.next (by rw [← f2.out, h, hz]; rfl)⟩)))
               case measure => simp [intOf])
      · cases h : numB d
        · go_wp2_with (go_at_call 67; ((with_reducible refine (num_no _ _ (by assumption)).mono ?_); rintro e w' ⟨rfl, rfl⟩))
          go_ret
          exact ⟨ret_bool (not_all (k := 3) (by omega) (by rw [← f3.out, h]; rfl)).symm, box_below _ _⟩
        · cases hz : (d != 0)
          all_goals
            go_wp2_with (go_at_call 67; ((with_reducible refine (num_yes _ _ (by assumption)).mono ?_); rintro e w' ⟨rfl, rfl⟩))
            first
            | (go_ret
               exact ⟨ret_bool (not_all (k := 3) (by omega) (by rw [← f3.out, h, hz]; rfl)).symm, box_below _ _⟩)
            | (go_round
               case rel => exact .inr (.inr (.inr (.inr ⟨by go_num, hs.next (by rw [← f3.out, h, hz]; rfl)⟩)))
               case measure => simp [intOf])
      · go_wp2
        go_ret
        exact ⟨ret_bool hs.all.symm, box_below _ _⟩
theorem rightB_in {p : Pt} (h1 : 1 ≤ p.e) (h4 : p.e ≤ 4) : rightB p = allB (atN p.a p.b p.c p.d p.e) := by
  unfold rightB allB atN; simp [h1, h4]
theorem rightB_out {p : Pt} (h : ¬ (1 ≤ p.e ∧ p.e ≤ 4)) : rightB p = false := by
  unfold rightB
  by_cases h1 : 1 ≤ p.e
  · have h4 : ¬ p.e ≤ 4 := fun q => h ⟨h1, q⟩
    simp [h4]
  · simp [h1]

theorem may_any (p : Pt) (w : World) :
    Calls Try.prog 47 #[p.v] w fun e w' => e = .returned (.bool (rightB p)) ∧ Below w.heap.size w w' := by
  by_cases h : 1 ≤ p.e ∧ p.e ≤ 4
  · rw [rightB_in h.1 h.2]
    obtain ⟨a, b, c, d, e⟩ := p
    exact may_in a b c d e w (by simp only at h; omega)
  · rw [rightB_out h]
    obtain ⟨a, b, c, d, e⟩ := p
    simp only at h
    by_cases h1 : 1 ≤ e
    · have h4 : 4 < e := by omega
      have h1' : ¬ e < 1 := by omega
      clear h
      go_enter Try.func47, Try.ntmps47
      go_wp2
      go_ret
      exact ⟨rfl, box_below _ _⟩
    · have h1' : e < 1 := by omega
      clear h
      go_enter Try.func47, Try.ntmps47
      go_wp2
      go_ret
      exact ⟨rfl, box_below _ _⟩
end Go.Proofs.Ythjlapcccmbhbaa.Pa
namespace Go.Proofs.Ythjlapcccmbhbaa.Pa
open Go Go.RowKit

def cutP (p : Pt) (k : Int) : Pt := ⟨p.a, if 1 < k then p.b else 0, if 2 < k then p.c else 0, if 3 < k then p.d else 0, k⟩

abbrev boxed (w : World) (a b c d e : Int) : World := w.alloc (.cells #[.int .i64 a, .int .i64 b, .int .i64 c, .int .i64 d, .int .i64 e] 25)

theorem copy_run (W : World) (g s k : Nat) (cs : List Value) (hk : k = cs.length) (h4 : k ≤ 4)
    (hsrc : ∀ j v, cs[j]? = some v → W.cell? ⟨s, j, none⟩ = some v) (hc : ∀ j, j < k → (W.cell? ⟨g, j, none⟩).isSome = true) (hf : ∀ j, j < k → W.frozen? ⟨g, j, none⟩ = false) (h1 : ∀ v ∈ cs, v.oneCell' = true) :
    (Builtin.copy_ #[42, 42] 3 #[.slice (some ⟨g, 0, none⟩) k 4, .slice (some ⟨s, 0, none⟩) 4 4]).run Try.prog W = .ok (.int .i64 (k : Nat)) (W.setCells g 0 cs) := by
  subst hk
  have h := run_copy_cells (P := Try.prog) W 42 42 3 3 g 0 cs.length 4 ⟨s, 0, none⟩ 4 4 cs Try.underlying42 (by kernel_rfl) (by simp [Nat.min_def]; omega)
    (fun j v hj => by have := hsrc j v hj; cases j <;> simpa [Addr.add] using this) (fun j hj => by simpa using hc j hj) (fun j hj => by simpa using hf j hj) h1
  exact h

set_option maxHeartbeats 1000000 in
theorem top_1 (a b c d e : Int) (w : World) :
    Calls Try.prog 63 #[Pt.v ⟨a, b, c, d, e⟩, .int .i64 1] w fun r w' => r = .returned (Pt.v ⟨a, 0, 0, 0, 1⟩) ∧ Below w.heap.size w w' := by
  have hr := copy_run (boxed (boxed (boxed w a b c d e) 0 0 0 0 0) 0 0 0 0 1).drew (w.heap.size + 1 + 1) w.heap.size 1 [.int .i64 a] rfl (by omega)
    (fun j v hj => by
      match j, hj with
      | 0, hj => simp at hj; subst hj; simp [go_sem]
      | j + 1, hj => simp at hj)
    (fun j hj => by
       obtain rfl : j = 0 := by omega
       simp [go_sem])
    (fun j hj => by
       obtain rfl : j = 0 := by omega
       simp [go_sem])
    (fun v hv => by simp at hv; subst hv; rfl)
  simp only [World.setCells, boxed] at hr
  go_enter Try.func63, Try.ntmps63
  go_wp2
  go_region
  go_wp2
  refine bodyPost_ret (v := Pt.v ⟨a, 0, 0, 0, 1⟩) (by simp [results, Try.results63, go_sem]) rfl ⟨rfl, ?_⟩
  exact ((((Below.refl _ _).alloc (Nat.le_refl _) _).alloc (by simp) _).alloc (by simp; omega) _).drew
set_option maxHeartbeats 1000000 in
theorem top_2 (a b c d e : Int) (w : World) :
    Calls Try.prog 63 #[Pt.v ⟨a, b, c, d, e⟩, .int .i64 2] w fun r w' => r = .returned (Pt.v ⟨a, b, 0, 0, 2⟩) ∧ Below w.heap.size w w' := by
  have hr := copy_run (boxed (boxed (boxed w a b c d e) 0 0 0 0 0) 0 0 0 0 2).drew (w.heap.size + 1 + 1) w.heap.size 2 [.int .i64 a, .int .i64 b] rfl (by omega)
    (fun j v hj => by
      match j, hj with
      | 0, hj => simp at hj; subst hj; simp [go_sem]
      | 1, hj => simp at hj; subst hj; simp [go_sem]
      | j + 2, hj => simp at hj)
    (fun j hj => by
       rcases (by omega : j = 0 ∨ j = 1) with rfl | rfl <;> simp [go_sem])
    (fun j hj => by
       rcases (by omega : j = 0 ∨ j = 1) with rfl | rfl <;> simp [go_sem])
    (fun v hv => by simp at hv; rcases hv with rfl | rfl <;> rfl)
  simp only [World.setCells, boxed] at hr
  go_enter Try.func63, Try.ntmps63
  go_wp2
  go_region
  go_wp2
  refine bodyPost_ret (v := Pt.v ⟨a, b, 0, 0, 2⟩) (by simp [results, Try.results63, go_sem]) rfl ⟨rfl, ?_⟩
  exact ((((Below.refl _ _).alloc (Nat.le_refl _) _).alloc (by simp) _).alloc (by simp; omega) _).drew
set_option maxHeartbeats 1000000 in
theorem top_3 (a b c d e : Int) (w : World) :
    Calls Try.prog 63 #[Pt.v ⟨a, b, c, d, e⟩, .int .i64 3] w fun r w' => r = .returned (Pt.v ⟨a, b, c, 0, 3⟩) ∧ Below w.heap.size w w' := by
  have hr := copy_run (boxed (boxed (boxed w a b c d e) 0 0 0 0 0) 0 0 0 0 3).drew (w.heap.size + 1 + 1) w.heap.size 3 [.int .i64 a, .int .i64 b, .int .i64 c] rfl (by omega)
    (fun j v hj => by
      match j, hj with
      | 0, hj => simp at hj; subst hj; simp [go_sem]
      | 1, hj => simp at hj; subst hj; simp [go_sem]
      | 2, hj => simp at hj; subst hj; simp [go_sem]
      | j + 3, hj => simp at hj)
    (fun j hj => by
       rcases (by omega : j = 0 ∨ j = 1 ∨ j = 2) with rfl | rfl | rfl <;> simp [go_sem])
    (fun j hj => by
       rcases (by omega : j = 0 ∨ j = 1 ∨ j = 2) with rfl | rfl | rfl <;> simp [go_sem])
    (fun v hv => by simp at hv; rcases hv with rfl | rfl | rfl <;> rfl)
  simp only [World.setCells, boxed] at hr
  go_enter Try.func63, Try.ntmps63
  go_wp2
  go_region
  go_wp2
  refine bodyPost_ret (v := Pt.v ⟨a, b, c, 0, 3⟩) (by simp [results, Try.results63, go_sem]) rfl ⟨rfl, ?_⟩
  exact ((((Below.refl _ _).alloc (Nat.le_refl _) _).alloc (by simp) _).alloc (by simp; omega) _).drew
set_option maxHeartbeats 1000000 in
theorem top_4 (a b c d e : Int) (w : World) :
    Calls Try.prog 63 #[Pt.v ⟨a, b, c, d, e⟩, .int .i64 4] w fun r w' => r = .returned (Pt.v ⟨a, b, c, d, 4⟩) ∧ Below w.heap.size w w' := by
  have hr := copy_run (boxed (boxed (boxed w a b c d e) 0 0 0 0 0) 0 0 0 0 4).drew (w.heap.size + 1 + 1) w.heap.size 4 [.int .i64 a, .int .i64 b, .int .i64 c, .int .i64 d] rfl (by omega)
    (fun j v hj => by
      match j, hj with
      | 0, hj => simp at hj; subst hj; simp [go_sem]
      | 1, hj => simp at hj; subst hj; simp [go_sem]
      | 2, hj => simp at hj; subst hj; simp [go_sem]
      | 3, hj => simp at hj; subst hj; simp [go_sem]
      | j + 4, hj => simp at hj)
    (fun j hj => by
       rcases (by omega : j = 0 ∨ j = 1 ∨ j = 2 ∨ j = 3) with rfl | rfl | rfl | rfl <;> simp [go_sem])
    (fun j hj => by
       rcases (by omega : j = 0 ∨ j = 1 ∨ j = 2 ∨ j = 3) with rfl | rfl | rfl | rfl <;> simp [go_sem])
    (fun v hv => by simp at hv; rcases hv with rfl | rfl | rfl | rfl <;> rfl)
  simp only [World.setCells, boxed] at hr
  go_enter Try.func63, Try.ntmps63
  go_wp2
  go_region
  go_wp2
  refine bodyPost_ret (v := Pt.v ⟨a, b, c, d, 4⟩) (by simp [results, Try.results63, go_sem]) rfl ⟨rfl, ?_⟩
  exact ((((Below.refl _ _).alloc (Nat.le_refl _) _).alloc (by simp) _).alloc (by simp; omega) _).drew
theorem top_any (p : Pt) (k : Int) (w : World) (h1 : 1 ≤ k) (h4 : k ≤ 4) :
    Calls Try.prog 63 #[p.v, .int .i64 k] w fun r w' => r = .returned (cutP p k).v ∧ Below w.heap.size w w' := by
  obtain ⟨a, b, c, d, e⟩ := p
  rcases (by omega : k = 1 ∨ k = 2 ∨ k = 3 ∨ k = 4) with rfl | rfl | rfl | rfl
  · exact top_1 a b c d e w
  · exact top_2 a b c d e w
  · exact top_3 a b c d e w
  · exact top_4 a b c d e w
end Go.Proofs.Ythjlapcccmbhbaa.Pa
namespace Go.Proofs.Ythjlapcccmbhbaa.Pa
open Go Go.RowKit

/-- a call gives a value, from whatever later world, and changes nothing that was there at first -/
def Gives (w0 : World) (f : Nat) (args : Array Value) (v : Value) : Prop :=
  ∀ w', Below w0.heap.size w0 w' → Calls Try.prog f args w' fun e w'' => e = .returned v ∧ Below w0.heap.size w0 w''
theorem Gives.use {w0 w' : World} {f : Nat} {args : Array Value} {v : Value} {Q : Ending → World → Prop} (h : Gives w0 f args v) (hb : Below w0.heap.size w0 w')
    (hq : ∀ w'', Below w0.heap.size w0 w'' → Q (.returned v) w'') : Calls Try.prog f args w' Q :=
  (h w' hb).mono fun _ w'' ⟨he, hb'⟩ => he ▸ hq w'' hb'
theorem Gives.of {w0 : World} {f : Nat} {args : Array Value} {v : Value} (h : ∀ w, Calls Try.prog f args w fun e w' => e = .returned v ∧ Below w.heap.size w w') : Gives w0 f args v :=
  fun w' hb => (h w').mono fun _ _ ⟨he, hb'⟩ => ⟨he, hb.trans (hb'.mono hb.size)⟩

def upV (p : Pt) : Value := if rightB p = true ∧ p.e ≠ 1 then .tuple #[(cutP p (p.e - 1)).v, .bool true] else .tuple #[Pt.v ⟨0, 0, 0, 0, 0⟩, .bool false]

theorem below_box {w w1 : World} {o : Obj} (h : Below (w.alloc o).heap.size (w.alloc o) w1) : Below w.heap.size w w1 := (box_below w o).trans (h.mono (by simp))

theorem kept {W w1 : World} (hb : Below W.heap.size W w1) :
    (∀ b o, b < W.heap.size → w1.cell? ⟨b, o, none⟩ = W.cell? ⟨b, o, none⟩) ∧ (∀ b o, b < W.heap.size → w1.frozen? ⟨b, o, none⟩ = W.frozen? ⟨b, o, none⟩) :=
  ⟨fun b o h => hb.cell (p := ⟨b, o, none⟩) h, fun b o h => hb.frozen (p := ⟨b, o, none⟩) h⟩

theorem below_set5 {B g : Nat} {w0 w : World} (h : Below B w0 w) (hg : B ≤ g) (x0 x1 x2 x3 x4 : Value) :
    Below B w0 (((((w.setCell ⟨g, 0, none⟩ x0).setCell ⟨g, 1, none⟩ x1).setCell ⟨g, 2, none⟩ x2).setCell ⟨g, 3, none⟩ x3).setCell ⟨g, 4, none⟩ x4) :=
  ((((h.setCell hg _).setCell hg _).setCell hg _).setCell hg _).setCell hg _
theorem below_2 (w : World) (o o' : Obj) : Below w.heap.size w ((w.alloc o).alloc o') := ((Below.refl _ _).alloc (Nat.le_refl _) _).alloc (by simp) _
theorem below_past {w w1 : World} {o o' : Obj} (h : Below ((w.alloc o).alloc o').heap.size ((w.alloc o).alloc o') w1) : Below w.heap.size w w1 := (below_2 w o o').trans (h.mono (by simp; omega))
theorem lt_two {w w1 : World} {o o' : Obj} (h : Below ((w.alloc o).alloc o').heap.size ((w.alloc o).alloc o') w1) : w.heap.size + 1 < w1.heap.size := by have := h.size; simp at this; omega
theorem right_depth {p : Pt} (h : rightB p = true) : 1 ≤ p.e ∧ p.e ≤ 4 := by
  by_cases q : 1 ≤ p.e ∧ p.e ≤ 4
  · exact q
  · rw [rightB_out q] at h; cases h

set_option maxHeartbeats 1000000 in
theorem up_any (p : Pt) (w : World) :
    Calls Try.prog 38 #[p.v] w fun e w' => e = .returned (upV p) ∧ Below w.heap.size w w' := by
  obtain ⟨a, b, c, d, e⟩ := p
  cases hr : rightB ⟨a, b, c, d, e⟩
  · have HV := Lib.hid (show upV ⟨a, b, c, d, e⟩ = .tuple #[Pt.v ⟨0, 0, 0, 0, 0⟩, .bool false] by simp [upV, hr])
    go_enter Try.func38, Try.ntmps38
    go_wp2_with (go_at_call 47; ((with_reducible refine (may_any ⟨a, b, c, d, e⟩ _).mono ?_); rintro e1 w1 ⟨rfl, hb1⟩; rw [hr]; obtain ⟨hc1, hf1⟩ := kept hb1))
    exact bodyPost_ret (v := .tuple #[Pt.v ⟨0, 0, 0, 0, 0⟩, .bool false]) (by simp [results, Try.results38, go_sem, hc1]) rfl ⟨by rw [HV.out], below_set5 (below_past hb1) (by omega) _ _ _ _ _⟩
  · have hd := right_depth hr
    simp only at hd
    by_cases h1 : e = 1
    · have HV := Lib.hid (show upV ⟨a, b, c, d, e⟩ = .tuple #[Pt.v ⟨0, 0, 0, 0, 0⟩, .bool false] by simp [upV, h1])
      have h1' : (e == 1) = true := by simp [h1]
      clear h1
      go_enter Try.func38, Try.ntmps38
      go_wp2_with (go_at_call 47; ((with_reducible refine (may_any ⟨a, b, c, d, e⟩ _).mono ?_); rintro e1 w1 ⟨rfl, hb1⟩; rw [hr]; obtain ⟨hc1, hf1⟩ := kept hb1))
      exact bodyPost_ret (v := .tuple #[Pt.v ⟨0, 0, 0, 0, 0⟩, .bool false]) (by simp [results, Try.results38, go_sem, hc1]) rfl ⟨by rw [HV.out], below_set5 (below_past hb1) (by omega) _ _ _ _ _⟩
    · have HV := Lib.hid (show upV ⟨a, b, c, d, e⟩ = .tuple #[(cutP ⟨a, b, c, d, e⟩ (e - 1)).v, .bool true] by simp [upV, h1, hr])
      have h1' : (e == 1) = false := by simp [h1]
      have h2 : 2 ≤ e := by omega
      have h4 : e ≤ 4 := hd.2
      clear h1 hd
      go_enter Try.func38, Try.ntmps38
      go_wp2_with (first | (go_at_call 47; ((with_reducible refine (may_any ⟨a, b, c, d, e⟩ _).mono ?_); rintro e1 w1 ⟨rfl, hb1⟩; rw [hr]; obtain ⟨hc1, hf1⟩ := kept hb1; have hz1 : w.heap.size + 1 < w1.heap.size := lt_two hb1)) | (go_at_call 63; ((with_reducible refine (top_any ⟨a, b, c, d, e⟩ (e - 1) _ (by omega) (by omega)).mono ?_); rintro e2 w2 ⟨rfl, hb2⟩; obtain ⟨hc2, hf2⟩ := kept hb2)))
      exact bodyPost_ret (v := .tuple #[(cutP ⟨a, b, c, d, e⟩ (e - 1)).v, .bool true]) (by simp [results, Try.results38, go_sem, hc2, hc1, hz1]) rfl ⟨by rw [HV.out], below_set5 ((below_past hb1).trans (hb2.mono (by omega))) (by omega) _ _ _ _ _⟩

/-- the two blocks that a call has laid are as they were, behind a call that keeps what was there -/
theorem kept_two {w w1 : World} {a b c d e : Int} (hb : Below (boxed (boxed w a b c d e) 0 0 0 0 0).heap.size (boxed (boxed w a b c d e) 0 0 0 0 0) w1) :
    (w1.cell? ⟨w.heap.size, 0, none⟩ = some (.int .i64 a) ∧ w1.cell? ⟨w.heap.size, 1, none⟩ = some (.int .i64 b) ∧ w1.cell? ⟨w.heap.size, 2, none⟩ = some (.int .i64 c) ∧ w1.cell? ⟨w.heap.size, 3, none⟩ = some (.int .i64 d) ∧ w1.cell? ⟨w.heap.size, 4, none⟩ = some (.int .i64 e)) ∧ (w1.frozen? ⟨w.heap.size, 0, none⟩ = false ∧ w1.frozen? ⟨w.heap.size, 1, none⟩ = false ∧ w1.frozen? ⟨w.heap.size, 2, none⟩ = false ∧ w1.frozen? ⟨w.heap.size, 3, none⟩ = false ∧ w1.frozen? ⟨w.heap.size, 4, none⟩ = false) ∧ (w1.cell? ⟨w.heap.size + 1, 0, none⟩ = some (.int .i64 0) ∧ w1.cell? ⟨w.heap.size + 1, 1, none⟩ = some (.int .i64 0) ∧ w1.cell? ⟨w.heap.size + 1, 2, none⟩ = some (.int .i64 0) ∧ w1.cell? ⟨w.heap.size + 1, 3, none⟩ = some (.int .i64 0) ∧ w1.cell? ⟨w.heap.size + 1, 4, none⟩ = some (.int .i64 0)) ∧ (w1.frozen? ⟨w.heap.size + 1, 0, none⟩ = false ∧ w1.frozen? ⟨w.heap.size + 1, 1, none⟩ = false ∧ w1.frozen? ⟨w.heap.size + 1, 2, none⟩ = false ∧ w1.frozen? ⟨w.heap.size + 1, 3, none⟩ = false ∧ w1.frozen? ⟨w.heap.size + 1, 4, none⟩ = false) := by
  obtain ⟨h1, h2⟩ := kept hb
  refine ⟨⟨?_, ?_, ?_, ?_, ?_⟩, ⟨?_, ?_, ?_, ?_, ?_⟩, ⟨?_, ?_, ?_, ?_, ?_⟩, ⟨?_, ?_, ?_, ?_, ?_⟩⟩
  all_goals first | rw [h1 _ _ (by simp; omega)] | rw [h2 _ _ (by simp; omega)] | rw [h1 _ _ (by simp)] | rw [h2 _ _ (by simp)]
  all_goals simp [go_sem]

end Go.Proofs.Ythjlapcccmbhbaa.Pa
namespace Go.Proofs.Ythjlapcccmbhbaa.Pa
open Go Go.RowKit

/-- the worlds in which all that was in W is as it was -/
structure Later (W : World) where
  w : World
  h : Below W.heap.size W w
instance {W : World} : Inhabited (Later W) := ⟨⟨W, Below.refl _ _⟩⟩
@[go_sem] theorem Later.cell {W : World} (x : Later W) (b o : Nat) (h : b < W.heap.size) : x.w.cell? ⟨b, o, none⟩ = W.cell? ⟨b, o, none⟩ := x.h.cell (p := ⟨b, o, none⟩) h
def InLater (W : World) (w' : World) : Prop := ∃ x : Later W, w' = x.w
theorem wp_region_later {P : Program} (W : World) {id : Nat} {Q : Exit → Act → World → Prop} {a : Act} {w : World} {l : List Oper} (hm : P.follows .mixedOrders = true) (hB : Region.lexB .any l.toArray = true)
    (hw : Below W.heap.size W w)
    (h : wpQuiet P l.toArray (fun w' => ∃ x : Later W, w' = x.w) (fun a' => ∀ w', (∃ x : Later W, w' = x.w) → Q .normal a' w') l a) : (Code.region id l.toArray true).wp P Q a w :=
  wp_region_quiet (C := fun w' => ∃ x : Later W, w' = x.w) hm hB ⟨⟨w.drew, hw.drew⟩, rfl⟩ (by simpa using h)
theorem Gives.later {W : World} {f : Nat} {args : Array Value} {v : Value} {x : Later W} (h : Gives W f args v) :
    Calls Try.prog f args x.w fun e w'' => e = .returned v ∧ ∃ y : Later W, w'' = y.w :=
  (h x.w x.h).mono fun _ w'' ⟨he, hb⟩ => ⟨he, ⟨w'', hb⟩, rfl⟩
theorem may_g {w : World} {p : Pt} {b : Bool} (h : rightB p = b) : Gives w 47 #[p.v] (.bool b) := by
  subst h; exact Gives.of (may_any p)
theorem ret_int {k : IntKind} {a b : Int} (h : a = b) : Ending.returned (.int k a) = .returned (.int k b) := by rw [h]
end Go.Proofs.Ythjlapcccmbhbaa.Pa
namespace Go.Proofs.Ythjlapcccmbhbaa.Pa
open Go Go.RowKit

theorem nan_any (n : Int) (w : World) : Calls Try.prog 78 #[.int .i64 n] w fun e w' => e = .returned (.bool false) ∧ w = w' := by
  go_enter Try.func78, Try.ntmps78
  go_wp2
  go_ret
  exact ⟨rfl, rfl⟩
theorem cmp_lt (a b : Int) (w : World) (h : a < b) : Calls Try.prog 73 #[.int .i64 a, .int .i64 b] w fun e w' => e = .returned (.int .i64 (-1)) ∧ w = w' := by
  go_enter Try.func73, Try.ntmps73
  go_wp2_with (go_at_call 78; ((with_reducible refine (nan_any _ _).mono ?_); rintro e w' ⟨rfl, rfl⟩))
  go_ret
  exact ⟨rfl, rfl⟩
theorem cmp_gt (a b : Int) (w : World) (h : b < a) : Calls Try.prog 73 #[.int .i64 a, .int .i64 b] w fun e w' => e = .returned (.int .i64 1) ∧ w = w' := by
  have h' : ¬ a < b := by omega
  go_enter Try.func73, Try.ntmps73
  go_wp2_with (go_at_call 78; ((with_reducible refine (nan_any _ _).mono ?_); rintro e w' ⟨rfl, rfl⟩))
  go_ret
  exact ⟨rfl, rfl⟩
theorem cmp_eq (a : Int) (w : World) : Calls Try.prog 73 #[.int .i64 a, .int .i64 a] w fun e w' => e = .returned (.int .i64 0) ∧ w = w' := by
  go_enter Try.func73, Try.ntmps73
  go_wp2_with (go_at_call 78; ((with_reducible refine (nan_any _ _).mono ?_); rintro e w' ⟨rfl, rfl⟩))
  go_ret
  exact ⟨rfl, rfl⟩

def cmpL : List Int → List Int → Int
  | [], [] => 0
  | [], _ :: _ => -1
  | _ :: _, [] => 1
  | x :: r, y :: q => if x < y then -1 else if y < x then 1 else cmpL r q

def InCells (w : World) (B : Nat) (l : List Int) : Prop := ∀ i (h : i < l.length), w.cell? ⟨B, i, none⟩ = some (.int .i64 l[i])

theorem drop_cons (l : List Int) (k : Nat) (h : k < l.length) : l.drop k = l[k] :: l.drop (k + 1) := List.drop_eq_getElem_cons h
section
variable {l q : List Int} {k : Nat}
theorem cmpL_long (h : k < l.length) (h2 : q.length ≤ k) : cmpL (l.drop k) (q.drop k) = 1 := by
  rw [drop_cons l k h, List.drop_of_length_le h2]; rfl
theorem cmpL_lt (h : k < l.length) (h2 : k < q.length) (hv : l[k] < q[k]) : cmpL (l.drop k) (q.drop k) = -1 := by
  rw [drop_cons l k h, drop_cons q k h2, cmpL, if_pos hv]
theorem cmpL_gt (h : k < l.length) (h2 : k < q.length) (hv : q[k] < l[k]) : cmpL (l.drop k) (q.drop k) = 1 := by
  rw [drop_cons l k h, drop_cons q k h2, cmpL, if_neg (by omega), if_pos hv]
theorem cmpL_on (h : k < l.length) (h2 : k < q.length) (hv : l[k] = q[k]) : cmpL (l.drop k) (q.drop k) = cmpL (l.drop (k + 1)) (q.drop (k + 1)) := by
  rw [drop_cons l k h, drop_cons q k h2, cmpL, if_neg (by omega), if_neg (by omega)]
theorem cmpL_end (h : k = l.length) (h2 : k < q.length) : cmpL (l.drop k) (q.drop k) = -1 := by
  rw [drop_cons q k h2, List.drop_of_length_le (by omega)]; rfl
theorem cmpL_same (h : k = l.length) (h2 : k = q.length) : cmpL (l.drop k) (q.drop k) = 0 := by
  rw [List.drop_of_length_le (by omega), List.drop_of_length_le (by omega)]; rfl
end
def CRel (l q : List Int) (i : Value) : Prop := ∃ k : Nat, i = .int .i64 (k : Nat) ∧ k ≤ l.length ∧ k ≤ q.length ∧ cmpL (l.drop k) (q.drop k) = cmpL l q

set_option maxHeartbeats 1000000 in
theorem compare_any (l q : List Int) (B C : Nat) (w : World) (hl : l.length ≤ 4) (hq : q.length ≤ 4) (h1 : InCells w B l) (h2 : InCells w C q) :
    Calls Try.prog 79 #[.slice (some ⟨B, 0, none⟩) l.length 4, .slice (some ⟨C, 0, none⟩) q.length 4] w fun e w' => e = .returned (.int .i64 (cmpL l q)) ∧ w = w' := by
  have H1 := Lib.hid h1; clear h1
  have H2 := Lib.hid h2; clear h2
  go_enter Try.func79, Try.ntmps79
  go_wp2
  go_loop [11] (fun i => CRel l q i) (fun i => l.length - (intOf i).toNat)
  case atStart => exact ⟨0, rfl, by omega, by omega, rfl⟩
  case round =>
    obtain ⟨k, rfl, hk1, hk2, hE⟩ := hrel
    have HE := Lib.hid hE; clear hE
    by_cases hlt : k < l.length
    · have c1 := H1.out k hlt
      by_cases hlt2 : k < q.length
      · have c2 := H2.out k hlt2
        obtain ⟨x, hx⟩ : ∃ x, l[k] = x := ⟨_, rfl⟩
        obtain ⟨y, hy⟩ : ∃ y, q[k] = y := ⟨_, rfl⟩
        rw [hx] at c1
        rw [hy] at c2
        by_cases hv : x < y
        · have HC := Lib.hid (cmpL_lt hlt hlt2 (by rw [hx, hy]; exact hv)); clear hx hy
          go_wp2_with (go_at_call 73; ((with_reducible refine (cmp_lt _ _ _ hv).mono ?_); rintro e w' ⟨rfl, rfl⟩))
          go_ret
          exact ⟨ret_int (by rw [← HE.out, HC.out]), rfl⟩
        · by_cases hv2 : y < x
          · have HC := Lib.hid (cmpL_gt hlt hlt2 (by rw [hx, hy]; exact hv2)); clear hx hy
            go_wp2_with (go_at_call 73; ((with_reducible refine (cmp_gt _ _ _ hv2).mono ?_); rintro e w' ⟨rfl, rfl⟩))
            go_ret
            exact ⟨ret_int (by rw [← HE.out, HC.out]), rfl⟩
          · obtain rfl : x = y := by omega
            have HC := Lib.hid (cmpL_on hlt hlt2 (by rw [hx, hy])); clear hx hy hv hv2
            go_wp2_with (go_at_call 73; ((with_reducible refine (cmp_eq _ _).mono ?_); rintro e w' ⟨rfl, rfl⟩))
            go_round
            case rel => exact ⟨k + 1, by go_num, by omega, by omega, HC.out.symm.trans HE.out⟩
            case measure => simp [intOf]; omega
      · have HC := Lib.hid (cmpL_long hlt (by omega : q.length ≤ k))
        have hge : (q.length : Int) ≤ (k : Int) := by omega
        go_wp2
        go_ret
        exact ⟨ret_int (by rw [← HE.out, HC.out]), rfl⟩
    · by_cases hlt2 : k < q.length
      · have HC := Lib.hid (cmpL_end (by omega : k = l.length) hlt2)
        have hlen : (l.length : Int) < (q.length : Int) := by omega
        go_wp2
        go_ret
        exact ⟨ret_int (by rw [← HE.out, HC.out]), rfl⟩
      · have HC := Lib.hid (cmpL_same (by omega : k = l.length) (by omega : k = q.length))
        have hlen : ¬ (l.length : Int) < (q.length : Int) := by omega
        go_wp2
        go_ret
        exact ⟨ret_int (by rw [← HE.out, HC.out]), rfl⟩

/-- the numbers of a node -/
def numsP (p : Pt) : List Int := [p.a, p.b, p.c, p.d].take p.e.toNat
def lessB (p q : Pt) : Bool := rightB p && rightB q && decide (cmpL (numsP p) (numsP q) < 0)

theorem take_cells {w' : World} {B k : Nat} {a b c d : Int} (h0 : w'.cell? ⟨B, 0, none⟩ = some (.int .i64 a)) (h1 : w'.cell? ⟨B, 1, none⟩ = some (.int .i64 b)) (h2 : w'.cell? ⟨B, 2, none⟩ = some (.int .i64 c)) (h3 : w'.cell? ⟨B, 3, none⟩ = some (.int .i64 d)) :
    InCells w' B ([a, b, c, d].take k) := by
  intro i h
  simp only [List.length_take, List.length_cons, List.length_nil] at h
  rw [List.getElem_take]
  rcases (by omega : i = 0 ∨ i = 1 ∨ i = 2 ∨ i = 3) with rfl | rfl | rfl | rfl
  · exact h0
  · exact h1
  · exact h2
  · exact h3
theorem take_len {k : Nat} {a b c d : Int} (h : k ≤ 4) : ([a, b, c, d].take k).length = k := by simp; omega
theorem compare_g {w : World} {a b c d a' b' c' d' : Int} {k k' : Nat} (h : k ≤ 4) (h' : k' ≤ 4) :
    Gives (boxed (boxed w a b c d k) a' b' c' d' k') 79 #[.slice (some ⟨w.heap.size, 0, none⟩) k 4, .slice (some ⟨w.heap.size + 1, 0, none⟩) k' 4] (.int .i64 (cmpL ([a, b, c, d].take k) ([a', b', c', d'].take k'))) := by
  intro w' hb
  obtain ⟨h1, _⟩ := kept hb
  have i1 : InCells w' w.heap.size ([a, b, c, d].take k) := by
    apply take_cells
    all_goals rw [h1 _ _ (by simp; omega)]
    all_goals simp [go_sem]
  have i2 : InCells w' (w.heap.size + 1) ([a', b', c', d'].take k') := by
    apply take_cells
    all_goals rw [h1 _ _ (by simp)]
    all_goals simp [go_sem]
  have := compare_any _ _ _ _ w' (by rw [take_len h]; exact h) (by rw [take_len h']; exact h') i1 i2
  rw [take_len h, take_len h'] at this
  exact this.mono fun _ _ ⟨he, hw⟩ => ⟨he, hw ▸ hb⟩

set_option maxHeartbeats 2000000 in
theorem less_any (p q : Pt) (w : World) :
    Calls Try.prog 74 #[p.v, q.v] w fun e w' => e = .returned (.bool (lessB p q)) ∧ Below w.heap.size w w' := by
  obtain ⟨a, b, c, d, e⟩ := p
  obtain ⟨a', b', c', d', e'⟩ := q
  cases hr : rightB ⟨a, b, c, d, e⟩
  · have gp := may_g (w := (boxed (boxed w a b c d e) a' b' c' d' e')) hr
    have HV := Lib.hid (show lessB ⟨a, b, c, d, e⟩ ⟨a', b', c', d', e'⟩ = false by simp [lessB, hr])
    clear hr
    go_enter Try.func74, Try.ntmps74
    go_wp2
    refine wp_region_later (boxed (boxed w a b c d e) a' b' c' d' e') (by kernel_rfl) (by kernel_rfl) (Below.refl _ _) ?_
    repeat (go_big_quiet_step (((first | go_at_call 47 | go_at_call 79); exact Gives.later (by with_reducible assumption))))
    refine wpQuiet_nil ?_
    rintro _ ⟨⟨w1, hb1⟩, rfl⟩
    go_wp2
    go_ret
    exact ⟨ret_bool HV.out.symm, below_past hb1⟩
  · cases hq : rightB ⟨a', b', c', d', e'⟩
    · have gp := may_g (w := (boxed (boxed w a b c d e) a' b' c' d' e')) hr
      have gq := may_g (w := (boxed (boxed w a b c d e) a' b' c' d' e')) hq
      have HV := Lib.hid (show lessB ⟨a, b, c, d, e⟩ ⟨a', b', c', d', e'⟩ = false by simp [lessB, hq])
      clear hr hq
      go_enter Try.func74, Try.ntmps74
      go_wp2
      refine wp_region_later (boxed (boxed w a b c d e) a' b' c' d' e') (by kernel_rfl) (by kernel_rfl) (Below.refl _ _) ?_
      repeat (go_big_quiet_step (((first | go_at_call 47 | go_at_call 79); exact Gives.later (by with_reducible assumption))))
      refine wpQuiet_nil ?_
      rintro _ ⟨⟨w1, hb1⟩, rfl⟩
      go_wp2
      go_ret
      exact ⟨ret_bool HV.out.symm, below_past hb1⟩
    · have hd := right_depth hr
      have hd' := right_depth hq
      simp only at hd hd'
      obtain ⟨k, rfl⟩ : ∃ k : Nat, e = k := ⟨e.toNat, by omega⟩
      obtain ⟨k', rfl⟩ : ∃ k' : Nat, e' = k' := ⟨e'.toNat, by omega⟩
      have hk : k ≤ 4 := by omega
      have hk' : k' ≤ 4 := by omega
      have gp := may_g (w := (boxed (boxed w a b c d k) a' b' c' d' k')) hr
      have gq := may_g (w := (boxed (boxed w a b c d k) a' b' c' d' k')) hq
      have gc := compare_g (w := w) (a := a) (b := b) (c := c) (d := d) (a' := a') (b' := b') (c' := c') (d' := d') hk hk'
      have HV := Lib.hid (show lessB ⟨a, b, c, d, k⟩ ⟨a', b', c', d', k'⟩ = decide (cmpL ([a, b, c, d].take k) ([a', b', c', d'].take k') < 0) by unfold lessB; rw [hr, hq]; rfl)
      have i1 : (0 : Int) ≤ (k : Int) := by omega
      have i2 : (k : Int) ≤ 4 := by omega
      have i3 : (0 : Int) ≤ (k' : Int) := by omega
      have i4 : (k' : Int) ≤ 4 := by omega
      clear hr hq hd hd'
      generalize cmpL ([a, b, c, d].take k) ([a', b', c', d'].take k') = z at *
      go_enter Try.func74, Try.ntmps74
      go_wp2
      refine wp_region_later (boxed (boxed w a b c d k) a' b' c' d' k') (by kernel_rfl) (by kernel_rfl) (Below.refl _ _) ?_
      repeat (go_big_quiet_step (((first | go_at_call 47 | go_at_call 79); exact Gives.later (by with_reducible assumption))))
      refine wpQuiet_nil ?_
      rintro _ ⟨⟨w1, hb1⟩, rfl⟩
      go_wp2
      go_ret
      exact ⟨ret_bool HV.out.symm, below_past hb1⟩
end Go.Proofs.Ythjlapcccmbhbaa.Pa
namespace Go.Proofs.Ythjlapcccmbhbaa.Pa
open Go Go.RowKit
def eqP (p q : Pt) : Bool := p.a == q.a && p.b == q.b && p.c == q.c && p.d == q.d && p.e == q.e
theorem range4 : List.range' 0 4 = [0, 1, 2, 3] := rfl
set_option maxRecDepth 100000 in
theorem eq22 (n : Nat) (w : World) (a b c d a' b' c' d' : Int) :
    (Op.equalIn (n + 2) 23 (.agg #[.int .i64 a, .int .i64 b, .int .i64 c, .int .i64 d]) (.agg #[.int .i64 a', .int .i64 b', .int .i64 c', .int .i64 d'])).run Try.prog w
      = .ok (a == a' && b == b' && c == c' && d == d') w := by
  unfold Op.equalIn
  simp [run_underlying Try.underlying23, go_sem]
  rw [range4]
  by_cases h1 : a = a' <;> by_cases h2 : b = b' <;> by_cases h3 : c = c' <;> by_cases h4 : d = d' <;> simp [go_sem, run_equalIn_int (h := Try.underlying3), h1, h2, h3, h4]
set_option maxRecDepth 100000 in
@[go_sem ↓] theorem eq24 (n : Nat) (w : World) (a b c d e a' b' c' d' e' : Int) :
    (Op.equalIn (n + 3) 25 (.agg #[.int .i64 a, .int .i64 b, .int .i64 c, .int .i64 d, .int .i64 e]) (.agg #[.int .i64 a', .int .i64 b', .int .i64 c', .int .i64 d', .int .i64 e'])).run Try.prog w
      = .ok (eqP ⟨a, b, c, d, e⟩ ⟨a', b', c', d', e'⟩) w := by
  rw [run_equalIn_struct w (n + 2) 25 _ _ (by kernel_rfl) (by kernel_rfl)]
  simp [go_sem, eq22]
  unfold eqP
  by_cases h1 : a = a' <;> by_cases h2 : b = b' <;> by_cases h3 : c = c' <;> by_cases h4 : d = d' <;> by_cases h5 : e = e' <;> simp [h1, h2, h3, h4, h5]
theorem eqP_iff (p q : Pt) : eqP p q = true ↔ p = q := by
  obtain ⟨a, b, c, d, e⟩ := p
  obtain ⟨a', b', c', d', e'⟩ := q
  simp [eqP, Pt.mk.injEq, and_assoc]
theorem eqP_ne {p q : Pt} (h : p ≠ q) : eqP p q = false := by
  cases hh : eqP p q
  · rfl
  · exact absurd ((eqP_iff p q).1 hh) h
theorem eqP_self (p : Pt) : eqP p p = true := (eqP_iff p p).2 rfl
end Go.Proofs.Ythjlapcccmbhbaa.Pa
