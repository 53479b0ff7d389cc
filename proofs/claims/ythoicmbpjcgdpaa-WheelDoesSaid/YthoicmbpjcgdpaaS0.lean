/- How two alarms compare: the time, then the number. -/
import Derived.Test.YthoicmbpjcgdpaaProg
import Derived.WalkKit
import Derived.WalkLawsBesides
import Derived.Deep.QuietTactic
import Derived.BigQuiet
import Derived.WalkSmall
import Derived.KernelRfl
import Derived.Lib.Hide
import Derived.StillTailTactics
namespace Go.Proofs.Ythoicmbpjcgdpaa
open Go Go.RowKit

/-- an alarm: its number and its time -/
abbrev Al : Type := Int × Int
abbrev alv (x : Al) : Value := .agg #[.int .i64 x.1, .int .i64 x.2]
def cmpI (x y : Int) : Int := if x < y then -1 else if y < x then 1 else 0
def cmpA (x y : Al) : Int := if cmpI x.2 y.2 = 0 then cmpI x.1 y.1 else cmpI x.2 y.2

theorem ret_int {k : IntKind} {a b : Int} (h : a = b) : Ending.returned (.int k a) = .returned (.int k b) := by rw [h]
theorem nan64 (x : Int) (w : World) : Calls Try.prog 42 #[.int .i64 x] w fun e w' => e = .returned (.bool false) ∧ w' = w := by
  go_enter Try.func42, Try.ntmps42
  go_wp2
  go_ret
  exact ⟨by simp, rfl⟩
theorem nanI (x : Int) (w : World) : Calls Try.prog 43 #[.int .i64 x] w fun e w' => e = .returned (.bool false) ∧ w' = w := by
  go_enter Try.func43, Try.ntmps43
  go_wp2
  go_ret
  exact ⟨by simp, rfl⟩
theorem cmp64 (x y : Int) (w : World) : Calls Try.prog 37 #[.int .i64 x, .int .i64 y] w fun e w' => e = .returned (.int .i64 (cmpI x y)) ∧ w' = w := by
  by_cases h1 : x < y
  · have H := Lib.hid (show cmpI x y = -1 by unfold cmpI; rw [if_pos h1])
    go_enter Try.func37, Try.ntmps37
    go_wp2_with (go_at_call 42; refine (nan64 _ _).mono ?_; rintro e w' ⟨rfl, rfl⟩)
    go_ret
    exact ⟨ret_int H.out.symm, rfl⟩
  · by_cases h2 : y < x
    · have H := Lib.hid (show cmpI x y = 1 by unfold cmpI; rw [if_neg h1, if_pos h2])
      go_enter Try.func37, Try.ntmps37
      go_wp2_with (go_at_call 42; refine (nan64 _ _).mono ?_; rintro e w' ⟨rfl, rfl⟩)
      go_ret
      exact ⟨ret_int H.out.symm, rfl⟩
    · have H := Lib.hid (show cmpI x y = 0 by unfold cmpI; rw [if_neg h1, if_neg h2])
      go_enter Try.func37, Try.ntmps37
      go_wp2_with (go_at_call 42; refine (nan64 _ _).mono ?_; rintro e w' ⟨rfl, rfl⟩)
      go_ret
      exact ⟨ret_int H.out.symm, rfl⟩
theorem cmpInt (x y : Int) (w : World) : Calls Try.prog 38 #[.int .i64 x, .int .i64 y] w fun e w' => e = .returned (.int .i64 (cmpI x y)) ∧ w' = w := by
  by_cases h1 : x < y
  · have H := Lib.hid (show cmpI x y = -1 by unfold cmpI; rw [if_pos h1])
    go_enter Try.func38, Try.ntmps38
    go_wp2_with (go_at_call 43; refine (nanI _ _).mono ?_; rintro e w' ⟨rfl, rfl⟩)
    go_ret
    exact ⟨ret_int H.out.symm, rfl⟩
  · by_cases h2 : y < x
    · have H := Lib.hid (show cmpI x y = 1 by unfold cmpI; rw [if_neg h1, if_pos h2])
      go_enter Try.func38, Try.ntmps38
      go_wp2_with (go_at_call 43; refine (nanI _ _).mono ?_; rintro e w' ⟨rfl, rfl⟩)
      go_ret
      exact ⟨ret_int H.out.symm, rfl⟩
    · have H := Lib.hid (show cmpI x y = 0 by unfold cmpI; rw [if_neg h1, if_neg h2])
      go_enter Try.func38, Try.ntmps38
      go_wp2_with (go_at_call 43; refine (nanI _ _).mono ?_; rintro e w' ⟨rfl, rfl⟩)
      go_ret
      exact ⟨ret_int H.out.symm, rfl⟩
def orI (p q : Int) : Int := if p = 0 then q else p
theorem or_any (b : Nat) (p q : Int) (w : World) (h0 : w.cell? ⟨b, 0, none⟩ = some (.int .i64 p)) (h1 : w.cell? ⟨b, 1, none⟩ = some (.int .i64 q)) :
    Calls Try.prog 36 #[.slice (some ⟨b, 0, none⟩) 2 2] w fun e w' => e = .returned (.int .i64 (orI p q)) ∧ w' = w := by
  have e : (0 : Int) = ((0 : Nat) : Int) := rfl
  clear e
  go_enter Try.func36, Try.ntmps36
  go_wp2
  go_loop [8] (fun i => i = .int .i64 0 ∨ (i = .int .i64 1 ∧ p = 0) ∨ (i = .int .i64 2 ∧ p = 0 ∧ q = 0)) (fun i => 2 - (intOf i).toNat)
  case atStart => exact .inl rfl
  case round =>
    rcases hrel with rfl | ⟨rfl, hp⟩ | ⟨rfl, hp, hq⟩
    · by_cases hp : p = 0
      · subst hp
        go_wp2
        go_round
        case rel => exact .inr (.inl ⟨rfl, trivial⟩)
        case measure => simp [intOf]
      · have H := Lib.hid (show orI p q = p by simp [orI, hp])
        have hb : (p != 0) = true := by simpa using hp
        clear hp
        go_wp2
        go_ret
        exact ⟨ret_int H.out.symm, rfl⟩
    · subst hp
      have H := Lib.hid (show orI 0 q = q by simp [orI])
      by_cases hq : q = 0
      · subst hq
        go_wp2
        go_round
        case rel => exact .inr (.inr ⟨rfl, trivial, trivial⟩)
        case measure => simp [intOf]
      · have hb : (q != 0) = true := by simpa using hq
        clear hq
        go_wp2
        go_ret
        exact ⟨ret_int H.out.symm, rfl⟩
    · subst hp hq
      have H := Lib.hid (show orI 0 0 = 0 by simp [orI])
      go_wp2
      go_ret
      exact ⟨ret_int H.out.symm, rfl⟩
theorem cmpA_or (x y : Al) : orI (cmpI x.2 y.2) (cmpI x.1 y.1) = cmpA x y := rfl
set_option maxHeartbeats 1000000 in
theorem compare_any (x y : Al) (W : World) : Calls Try.prog 31 #[alv x, alv y] W fun e w' => e = .returned (.int .i64 (cmpA x y)) ∧ Below W.heap.size W w' ∧ W.drawn ≤ w'.drawn := by
  have HC := Lib.hid (cmpA_or x y)
  go_enter Try.func31, Try.ntmps31
  go_wp2
  have hb : Below W.heap.size W ((W.alloc (.cells #[.int .i64 x.1, .int .i64 x.2] 31)).alloc (.cells #[.int .i64 y.1, .int .i64 y.2] 31)) := ((Below.refl _ W).alloc (Nat.le_refl _) _).alloc (by simp) _
  have hd : W.drawn ≤ ((W.alloc (.cells #[.int .i64 x.1, .int .i64 x.2] 31)).alloc (.cells #[.int .i64 y.1, .int .i64 y.2] 31)).drawn := Nat.le_refl _
  have c1 : ((W.alloc (.cells #[.int .i64 x.1, .int .i64 x.2] 31)).alloc (.cells #[.int .i64 y.1, .int .i64 y.2] 31)).cell? ⟨W.heap.size, 0, none⟩ = some (.int .i64 x.1) := by simp [go_sem]
  have c2 : ((W.alloc (.cells #[.int .i64 x.1, .int .i64 x.2] 31)).alloc (.cells #[.int .i64 y.1, .int .i64 y.2] 31)).cell? ⟨W.heap.size, 1, none⟩ = some (.int .i64 x.2) := by simp [go_sem]
  have c3 : ((W.alloc (.cells #[.int .i64 x.1, .int .i64 x.2] 31)).alloc (.cells #[.int .i64 y.1, .int .i64 y.2] 31)).cell? ⟨W.heap.size + 1, 0, none⟩ = some (.int .i64 y.1) := by simp [go_sem]
  have c4 : ((W.alloc (.cells #[.int .i64 x.1, .int .i64 x.2] 31)).alloc (.cells #[.int .i64 y.1, .int .i64 y.2] 31)).cell? ⟨W.heap.size + 1, 1, none⟩ = some (.int .i64 y.2) := by simp [go_sem]
  generalize (W.alloc (.cells #[.int .i64 x.1, .int .i64 x.2] 31)).alloc (.cells #[.int .i64 y.1, .int .i64 y.2] 31) = W1 at hb hd c1 c2 c3 c4 ⊢
  refine wp_region_still_tail 10 (by kernel_rfl) (by kernel_rfl) ?_
  change wpStill _ _ (World.drew W1) (fun a' => wpList _ _ _ _ a' (World.drew W1)) _ _
  replace hb : Below W.heap.size W W1.drew := hb.drew
  replace hd : W.drawn ≤ W1.drew.drawn := Nat.le_succ_of_le hd
  replace c1 : W1.drew.cell? ⟨W.heap.size, 0, none⟩ = some (.int .i64 x.1) := c1
  replace c2 : W1.drew.cell? ⟨W.heap.size, 1, none⟩ = some (.int .i64 x.2) := c2
  replace c3 : W1.drew.cell? ⟨W.heap.size + 1, 0, none⟩ = some (.int .i64 y.1) := c3
  replace c4 : W1.drew.cell? ⟨W.heap.size + 1, 1, none⟩ = some (.int .i64 y.2) := c4
  generalize World.drew W1 = W2 at hb hd c1 c2 c3 c4 ⊢
  simp only [List.take_succ_cons, List.take_zero, List.drop_succ_cons, List.drop_zero]
  still_step
  still_step
  still_step
  still_step
  still_call (cmp64 _ _ _)
  still_step
  still_step
  still_step
  still_step
  still_call (cmpInt _ _ _)
  refine wpStill_nil ?_
  have hz := hb.size
  go_wp2_with (go_at_call 36; (refine (or_any _ (cmpI x.2 y.2) (cmpI x.1 y.1) _ (by simp [go_sem]) (by simp [go_sem])).mono ?_; rintro e w' ⟨rfl, rfl⟩))
  go_ret
  exact ⟨ret_int HC.out, hb.alloc hz _, hd⟩
end Go.Proofs.Ythoicmbpjcgdpaa
