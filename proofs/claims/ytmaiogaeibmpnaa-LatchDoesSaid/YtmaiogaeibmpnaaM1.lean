/- Plain facts: what a latch that is taken leaves, and what it leaves when it is given. -/
import Derived.Test.YtmaiogaeibmpnaaA4
namespace Go.Proofs.Ytmaiogaeibmpnaa
open Go Go.RowKit

theorem fitL_congr {p q : Nat → Bool} {N : Nat} (h : ∀ k, k < N → p k = q k) : fitL p N = fitL q N := by
  unfold fitL
  exact List.filter_congr fun k hk => h k (List.mem_range.1 hk)
theorem fitL_more {p q : Nat → Bool} {N k : Nat} (hk : k < N) (hp : p k = false) (hq : q k = true) (h : ∀ j, j ≠ k → q j = p j) : (fitL q N).length = (fitL p N).length + 1 := by
  induction N with
  | zero => omega
  | succ N ih =>
    by_cases e : N = k
    · subst e
      rw [fitL_yes hq, fitL_no hp, List.length_append, fitL_congr (fun j hj => h j (by omega))]
      rfl
    · have := ih (by omega)
      cases hn : p N
      · rw [fitL_no hn, fitL_no (by rw [h N e]; exact hn)]; exact this
      · rw [fitL_yes hn, fitL_yes (by rw [h N e]; exact hn), List.length_append, List.length_append, this]; simp
variable {N : Nat} {wh : Nat → Int} {who i : Int}
/-- what OK says -/
theorem take_ok (hm : ∀ k, -1 ≤ wh k) (h : takeE N wh who i = 0) : 0 ≤ who ∧ ∃ k : Nat, i = k ∧ k < N ∧ wh k = -1 := by
  unfold takeE at h
  split at h
  · omega
  · rename_i h1
    obtain ⟨hw, k, rfl, hk⟩ := may_yes (by simpa using h1)
    rw [Int.toNat_natCast] at h
    refine ⟨hw, k, rfl, hk, ?_⟩
    have := hm k
    split at h
    · omega
    · split at h
      · omega
      · split at h <;> omega
theorem take_not (h : takeE N wh who i ≠ 0) : takeW N wh who i = wh := by unfold takeW; rw [if_neg h]
theorem take_yes {k : Nat} (h : takeE N wh who (k : Int) = 0) : takeW N wh who (k : Int) = upd wh k who := by unfold takeW; rw [if_pos h, Int.toNat_natCast]
theorem held_more {k : Nat} (hk : k < N) (h : wh k = -1) (hw : 0 ≤ who) : (heldL N (upd wh k who) who).length = (heldL N wh who).length + 1 := by
  refine fitL_more hk (fit_no (by rw [h]; omega)) (fit_yes.2 (by rw [upd_same]; exact ⟨hw, rfl⟩)) (fun j hj => ?_)
  rw [upd_other hj]
theorem upd_back {k : Nat} (h : wh k = -1) : upd (upd wh k who) k (-1) = wh := by
  funext j
  unfold upd
  by_cases e : j = k
  · subst e; rw [if_pos rfl]; exact h.symm
  · rw [if_neg e, if_neg e]
theorem give_yes {k : Nat} (hk : k < N) (hw : 0 ≤ who) (h : wh k = who) : giveE N wh who (k : Int) = 0 ∧ giveW N wh who (k : Int) = upd wh k (-1) := by
  have e : giveE N wh who (k : Int) = 0 := by unfold giveE; rw [if_neg (by rw [may_is hw hk]; simp), if_pos (by rw [Int.toNat_natCast]; exact h)]
  exact ⟨e, by unfold giveW; rw [if_pos e, Int.toNat_natCast]⟩
theorem give_no {k : Nat} (hk : k < N) (hw : 0 ≤ who) (h : wh k ≠ who) : giveE N wh who (k : Int) = 2 ∧ giveW N wh who (k : Int) = wh := by
  have e : giveE N wh who (k : Int) = 2 := by unfold giveE; rw [if_neg (by rw [may_is hw hk]; simp), if_neg (by rw [Int.toNat_natCast]; exact h)]
  exact ⟨e, by unfold giveW; rw [e]; rfl⟩
theorem own_is {x : Int} (h : 0 ≤ x) : ownV x = .tuple #[.int .i64 x, .bool true] := by unfold ownV nm fl; rw [if_pos h, decide_eq_true h]
end Go.Proofs.Ytmaiogaeibmpnaa
