/- The contracts of the two functions that say whether a node may be: for any five numbers. -/
import Derived.Test.YtmlljgijbffepaaDoorProg
import Derived.WalkKit
import Derived.WalkLawsBesides
import Derived.Deep.QuietTactic
import Derived.BigQuiet
import Derived.WalkSmall
import Derived.KernelRfl
import Derived.Lib.Hide
namespace Go.Proofs.YtmlljgijbffepaaDoor
open Go Go.RowKit

/-- a node's five numbers: four numbers and a depth -/
structure Pt where
  a : Int
  b : Int
  c : Int
  d : Int
  e : Int
abbrev Pt.v (p : Pt) : Value := .agg #[.int .i64 p.a, .int .i64 p.b, .int .i64 p.c, .int .i64 p.d, .int .i64 p.e]

def numB (n : Int) : Bool := decide (0 ≤ n ∧ n ≤ 999)
/-- whether the number at a place is fine -/
def atB (n k e : Int) : Bool := numB n && (decide (k < e) || !(n != 0))
def rightB (p : Pt) : Bool := decide (1 ≤ p.e) && decide (p.e ≤ 4) && atB p.a 0 p.e && atB p.b 1 p.e && atB p.c 2 p.e && atB p.d 3 p.e

theorem num_yes (n : Int) (w : World) (h : numB n = true) :
    Calls Tryd.prog 16 #[.int .i64 n] w fun e w' => e = .returned (.bool true) ∧ w = w' := by
  unfold numB at h
  obtain ⟨h0, h1⟩ := of_decide_eq_true h
  clear h
  go_enter Tryd.func16, Tryd.ntmps16
  go_wp2
  go_ret
  exact ⟨rfl, rfl⟩
theorem num_no (n : Int) (w : World) (h : numB n = false) :
    Calls Tryd.prog 16 #[.int .i64 n] w fun e w' => e = .returned (.bool false) ∧ w = w' := by
  unfold numB at h
  have h := of_decide_eq_false h
  by_cases h0 : 0 ≤ n
  · have h1 : ¬ n ≤ 999 := fun q => h ⟨h0, q⟩
    clear h
    go_enter Tryd.func16, Tryd.ntmps16
    go_wp2
    go_ret
    exact ⟨rfl, rfl⟩
  · clear h
    go_enter Tryd.func16, Tryd.ntmps16
    go_wp2
    go_ret
    exact ⟨rfl, rfl⟩

theorem ret_bool {a b : Bool} (h : a = b) : Ending.returned (.bool a) = .returned (.bool b) := by rw [h]
theorem box_below (w : World) (o : Obj) : Below w.heap.size w (w.alloc o) := (Below.refl _ _).alloc (Nat.le_refl _) _

section
variable (w : World) (x0 x1 x2 x3 : Value)
theorem elem22 : Tryd.prog.elem 22 = 3 := by kernel_rfl
@[go_sem ↓] theorem run_index0 : (Instr.index 22 (.agg #[x0, x1, x2, x3]) (.int .i64 0)).run Tryd.prog w = .ok x0 w := by
  simp [Instr.index, asIntOf, run_underlying Tryd.underlying22, go_sem]
@[go_sem ↓] theorem run_index1 : (Instr.index 22 (.agg #[x0, x1, x2, x3]) (.int .i64 1)).run Tryd.prog w = .ok x1 w := by
  simp [Instr.index, asIntOf, run_underlying Tryd.underlying22, go_sem]
@[go_sem ↓] theorem run_index2 : (Instr.index 22 (.agg #[x0, x1, x2, x3]) (.int .i64 2)).run Tryd.prog w = .ok x2 w := by
  simp [Instr.index, asIntOf, run_underlying Tryd.underlying22, go_sem]
@[go_sem ↓] theorem run_index3 : (Instr.index 22 (.agg #[x0, x1, x2, x3]) (.int .i64 3)).run Tryd.prog w = .ok x3 w := by
  simp [Instr.index, asIntOf, run_underlying Tryd.underlying22, go_sem]
end

/-- an index that goes from 0 to 4, with what has been seen so far -/
def Idx (P : Nat → Prop) (i : Value) : Prop :=
  (i = .int .i64 0 ∧ P 0) ∨ (i = .int .i64 1 ∧ P 1) ∨ (i = .int .i64 2 ∧ P 2) ∨ (i = .int .i64 3 ∧ P 3) ∨ (i = .int .i64 4 ∧ P 4)
def atN (a b c d e : Int) : Nat → Bool
  | 0 => atB a 0 e
  | 1 => atB b 1 e
  | 2 => atB c 2 e
  | _ => atB d 3 e
def Seen (f : Nat → Bool) (k : Nat) : Prop := ∀ j, j < k → f j = true
theorem seen0 (f : Nat → Bool) : Seen f 0 := fun _ h => absurd h (Nat.not_lt_zero _)
theorem Seen.next {f : Nat → Bool} {k : Nat} (h : Seen f k) (hk : f k = true) : Seen f (k + 1) := fun j hj => by
  rcases Nat.lt_or_ge j k with h' | h'
  · exact h j h'
  · have : j = k := by omega
    rw [this]; exact hk
def allB (f : Nat → Bool) : Bool := f 0 && f 1 && f 2 && f 3
theorem Seen.all {f : Nat → Bool} (h : Seen f 4) : allB f = true := by unfold allB; rw [h 0 (by omega), h 1 (by omega), h 2 (by omega), h 3 (by omega)]; rfl
theorem not_all {f : Nat → Bool} {k : Nat} (hk : k < 4) (h : f k = false) : allB f = false := by
  unfold allB
  rcases (by omega : k = 0 ∨ k = 1 ∨ k = 2 ∨ k = 3) with rfl | rfl | rfl | rfl <;> rw [h] <;> simp

set_option maxHeartbeats 1000000 in
theorem may_in (a b c d e : Int) (w : World) (he : e = 1 ∨ e = 2 ∨ e = 3 ∨ e = 4) :
    Calls Tryd.prog 10 #[Pt.v ⟨a, b, c, d, e⟩] w fun e' w' => e' = .returned (.bool (allB (atN a b c d e))) ∧ Below w.heap.size w w' := by
  obtain ⟨f, hf⟩ : ∃ f, atN a b c d e = f := ⟨_, rfl⟩
  have f0 : atB a 0 e = f 0 := by rw [← hf]; rfl
  have f1 : atB b 1 e = f 1 := by rw [← hf]; rfl
  have f2 : atB c 2 e = f 2 := by rw [← hf]; rfl
  have f3 : atB d 3 e = f 3 := by rw [← hf]; rfl
  rw [hf]
  clear hf
  unfold atB at f0 f1 f2 f3
  replace f0 := Lib.hid f0
  replace f1 := Lib.hid f1
  replace f2 := Lib.hid f2
  replace f3 := Lib.hid f3
  rcases he with rfl | rfl | rfl | rfl
  all_goals
    go_enter Tryd.func10, Tryd.ntmps10
    go_wp2
    go_loop [15] (fun i => Idx (Seen f) i) (fun i => (4 - intOf i).toNat)
    case atStart => exact .inl ⟨rfl, seen0 f⟩
    case round =>
      rcases hrel with ⟨rfl, hs⟩ | ⟨rfl, hs⟩ | ⟨rfl, hs⟩ | ⟨rfl, hs⟩ | ⟨rfl, hs⟩
      · cases h : numB a
        · go_wp2_with (go_at_call 16; ((with_reducible refine (num_no _ _ (by assumption)).mono ?_); rintro e w' ⟨rfl, rfl⟩))
          go_ret
          exact ⟨ret_bool (not_all (k := 0) (by omega) (by rw [← f0.out, h]; rfl)).symm, box_below _ _⟩
        · go_wp2_with (go_at_call 16; ((with_reducible refine (num_yes _ _ (by assumption)).mono ?_); rintro e w' ⟨rfl, rfl⟩))
          go_round
          case rel => exact .inr (.inl ⟨by go_num, hs.next (by rw [← f0.out, h]; rfl)⟩)
          case measure => simp [intOf]
      · cases h : numB b
        · go_wp2_with (go_at_call 16; ((with_reducible refine (num_no _ _ (by assumption)).mono ?_); rintro e w' ⟨rfl, rfl⟩))
          go_ret
          exact ⟨ret_bool (not_all (k := 1) (by omega) (by rw [← f1.out, h]; rfl)).symm, box_below _ _⟩
        · cases hz : (b != 0)
          all_goals
            go_wp2_with (go_at_call 16; ((with_reducible refine (num_yes _ _ (by assumption)).mono ?_); rintro e w' ⟨rfl, rfl⟩))
            first
            | (go_ret
               exact ⟨ret_bool (not_all (k := 1) (by omega) (by rw [← f1.out, h, hz]; rfl)).symm, box_below _ _⟩)
            | (go_round
               case rel => exact .inr (.inr (.inl ⟨by go_num, hs.next (by rw [← f1.out, h, hz]; rfl)⟩))
               case measure => simp [intOf])
      · cases h : numB c
        · go_wp2_with (go_at_call 16; ((with_reducible refine (num_no _ _ (by assumption)).mono ?_); rintro e w' ⟨rfl, rfl⟩))
          go_ret
          exact ⟨ret_bool (not_all (k := 2) (by omega) (by rw [← f2.out, h]; rfl)).symm, box_below _ _⟩
        · cases hz : (c != 0)
          all_goals
            go_wp2_with (go_at_call 16; ((with_reducible refine (num_yes _ _ (by assumption)).mono ?_); rintro e w' ⟨rfl, rfl⟩))
            first
            | (go_ret
               exact ⟨ret_bool (not_all (k := 2) (by omega) (by rw [← f2.out, h, hz]; rfl)).symm, box_below _ _⟩)
            | (go_round
               case rel => exact .inr (.inr (.inr (.inl ⟨by go_num, hs.next (by rw [← f2.out, h, hz]; rfl)⟩)))
               case measure => simp [intOf])
      · cases h : numB d
        · go_wp2_with (go_at_call 16; ((with_reducible refine (num_no _ _ (by assumption)).mono ?_); rintro e w' ⟨rfl, rfl⟩))
          go_ret
          exact ⟨ret_bool (not_all (k := 3) (by omega) (by rw [← f3.out, h]; rfl)).symm, box_below _ _⟩
        · cases hz : (d != 0)
          all_goals
            go_wp2_with (go_at_call 16; ((with_reducible refine (num_yes _ _ (by assumption)).mono ?_); rintro e w' ⟨rfl, rfl⟩))
            first
            | (go_ret
               exact ⟨ret_bool (not_all (k := 3) (by omega) (by rw [← f3.out, h, hz]; rfl)).symm, box_below _ _⟩)
            | (go_round
               case rel => exact .inr (.inr (.inr (.inr ⟨by go_num, hs.next (by rw [← f3.out, h, hz]; rfl)⟩)))
               case measure => simp [intOf])
      · go_wp2
        go_ret
        exact ⟨ret_bool hs.all.symm, box_below _ _⟩
theorem rightB_in {p : Pt} (h1 : 1 ≤ p.e) (h4 : p.e ≤ 4) : rightB p = allB (atN p.a p.b p.c p.d p.e) := by
  unfold rightB allB atN; simp [h1, h4]
theorem rightB_out {p : Pt} (h : ¬ (1 ≤ p.e ∧ p.e ≤ 4)) : rightB p = false := by
  unfold rightB
  by_cases h1 : 1 ≤ p.e
  · have h4 : ¬ p.e ≤ 4 := fun q => h ⟨h1, q⟩
    simp [h4]
  · simp [h1]

theorem may_any (p : Pt) (w : World) :
    Calls Tryd.prog 10 #[p.v] w fun e w' => e = .returned (.bool (rightB p)) ∧ Below w.heap.size w w' := by
  by_cases h : 1 ≤ p.e ∧ p.e ≤ 4
  · rw [rightB_in h.1 h.2]
    obtain ⟨a, b, c, d, e⟩ := p
    exact may_in a b c d e w (by simp only at h; omega)
  · rw [rightB_out h]
    obtain ⟨a, b, c, d, e⟩ := p
    simp only at h
    by_cases h1 : 1 ≤ e
    · have h4 : 4 < e := by omega
      have h1' : ¬ e < 1 := by omega
      clear h
      go_enter Tryd.func10, Tryd.ntmps10
      go_wp2
      go_ret
      exact ⟨rfl, box_below _ _⟩
    · have h1' : e < 1 := by omega
      clear h
      go_enter Tryd.func10, Tryd.ntmps10
      go_wp2
      go_ret
      exact ⟨rfl, box_below _ _⟩
abbrev boxed (w : World) (a b c d e : Int) : World := w.alloc (.cells #[.int .i64 a, .int .i64 b, .int .i64 c, .int .i64 d, .int .i64 e] 24)
end Go.Proofs.YtmlljgijbffepaaDoor
