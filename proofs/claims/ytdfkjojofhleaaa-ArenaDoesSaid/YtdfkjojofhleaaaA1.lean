/- An arena in memory: how many places there may be, its places, and those that were freed; its making, how many are used and left, and the place of a number. -/
import Derived.Test.YtdfkjojofhleaaaR2
import Derived.BigQuiet
namespace Go.Proofs.Ytdfkjojofhleaaa
open Go Go.RowKit

/-- a place: what it has, and whether it is used -/
abbrev Pl := Int × Bool
/-- the cells of places -/
def flat (xs : List Pl) : List Value := xs.flatMap fun x => [.int .i64 x.1, .bool x.2]
theorem flat_cons (x : Pl) (xs : List Pl) : flat (x :: xs) = .int .i64 x.1 :: .bool x.2 :: flat xs := by simp [flat]
theorem flat_length (xs : List Pl) : (flat xs).length = xs.length * 2 := by
  induction xs with
  | nil => rfl
  | cons x xs ih => rw [flat_cons]; simp [ih]; omega
theorem flat_snoc (xs : List Pl) (x : Pl) : flat (xs ++ [x]) = flat xs ++ [.int .i64 x.1, .bool x.2] := by simp [flat]
theorem flat_at (xs : List Pl) (i : Nat) (h : i < xs.length) : (flat xs)[i * 2]? = some (.int .i64 xs[i].1) ∧ (flat xs)[i * 2 + 1]? = some (.bool xs[i].2) := by
  induction xs generalizing i with
  | nil => simp at h
  | cons x xs ih =>
    cases i with
    | zero => simp [flat_cons]
    | succ i =>
      have h' : i < xs.length := by simpa using h
      obtain ⟨h1, h2⟩ := ih i h'
      rw [flat_cons, show (i + 1) * 2 = i * 2 + 1 + 1 by omega]
      simp [h1, h2]
theorem flat_set (zs : List Pl) (i : Nat) (x : Pl) (h : i < zs.length) : flat (zs.set i x) = ((flat zs).set (i * 2) (.int .i64 x.1)).set (i * 2 + 1) (.bool x.2) := by
  induction zs generalizing i with
  | nil => simp at h
  | cons z zs ih =>
    cases i with
    | zero => simp [flat_cons]
    | succ i =>
      have h' : i < zs.length := by simpa using h
      rw [List.set_cons_succ, flat_cons, flat_cons, ih i h', show (i + 1) * 2 = i * 2 + 1 + 1 by omega]
      simp
/-- the cells of numbers of places -/
def nats (fs : List Nat) : List Value := fs.map fun (i : Nat) => .int .i64 (i : Int)
theorem nats_length (fs : List Nat) : (nats fs).length = fs.length * 1 := by simp [nats]

/-- an arena lies in a block -/
structure ArenaAt (W : World) (b m : Nat) (pv fv : Value) (ps : List Pl) (fs : List Nat) : Prop where
  c0 : W.cell? ⟨b, 0, none⟩ = some (.int .i64 m)
  c1 : W.cell? ⟨b, 1, none⟩ = some pv
  c2 : W.cell? ⟨b, 2, none⟩ = some fv
  f1 : W.frozen? ⟨b, 1, none⟩ = false
  f2 : W.frozen? ⟨b, 2, none⟩ = false
  rp : W.ownsRow (b + 1) 49 2 pv ps.length (flat ps)
  rf : W.ownsRow (b + 1) 3 1 fv fs.length (nats fs)
  ne : ∀ g, pv.ownBlock = some g → fv.ownBlock ≠ some g
  fle : fs.length ≤ ps.length
  ple : ps.length ≤ m
  mle : m ≤ 4096
abbrev wp (b : Nat) : Value := .pointer (some ⟨b, 0, none⟩)

theorem ArenaAt.lt {W : World} {b m : Nat} {pv fv : Value} {ps : List Pl} {fs : List Nat} (h : ArenaAt W b m pv fv ps fs) : b < W.heap.size := cell_lt h.c0
theorem ArenaAt.keep {W W' : World} {b m : Nat} {pv fv : Value} {ps : List Pl} {fs : List Nat} (h : ArenaAt W b m pv fv ps fs) (hb : W'.heap[b]? = W.heap[b]?) (hp : ∀ g, pv.ownBlock = some g → W'.heap[g]? = W.heap[g]?) (hf : ∀ g, fv.ownBlock = some g → W'.heap[g]? = W.heap[g]?) : ArenaAt W' b m pv fv ps fs :=
  ⟨(World.cell?_of_block (w := W) (a := ⟨b, 0, none⟩) hb).trans h.c0, (World.cell?_of_block (w := W) (a := ⟨b, 1, none⟩) hb).trans h.c1, (World.cell?_of_block (w := W) (a := ⟨b, 2, none⟩) hb).trans h.c2,
   (World.frozen?_of_block (w := W) (a := ⟨b, 1, none⟩) hb).trans h.f1, (World.frozen?_of_block (w := W) (a := ⟨b, 2, none⟩) hb).trans h.f2, row_keep h.rp hp, row_keep h.rf hf, h.ne, h.fle, h.ple, h.mle⟩
theorem ArenaAt.below {W W' : World} {b m : Nat} {pv fv : Value} {ps : List Pl} {fs : List Nat} (h : ArenaAt W b m pv fv ps fs) (hb : Below W.heap.size W W') : ArenaAt W' b m pv fv ps fs :=
  h.keep (hb.block b h.lt) (fun g hg => hb.block g (h.rp.lt g hg).2) (fun g hg => hb.block g (h.rf.lt g hg).2)
theorem ArenaAt.keeps {W W' : World} {b m : Nat} {pv fv : Value} {ps : List Pl} {fs : List Nat} (h : ArenaAt W b m pv fv ps fs) (hb : Keeps (· < W.heap.size) W W') : ArenaAt W' b m pv fv ps fs :=
  h.keep (hb.block b h.lt) (fun g hg => hb.block g (h.rp.lt g hg).2) (fun g hg => hb.block g (h.rf.lt g hg).2)

def cl (n : Int) : Nat := if n < 0 then 0 else if 4096 < n then 4096 else n.toNat
theorem cl_le (n : Int) : cl n ≤ 4096 := by unfold cl; split <;> (try split) <;> omega
theorem arena_new (W : World) (m : Nat) (hm : m ≤ 4096) : ArenaAt (W.alloc (.cells #[.int .i64 m, .slice none 0 0, .slice none 0 0] 47)) W.heap.size m (.slice none 0 0) (.slice none 0 0) [] [] := by
  refine ⟨?_, ?_, ?_, ?_, ?_, World.ownsRow_nil _ _ _ _, World.ownsRow_nil _ _ _ _, by simp [Value.ownBlock], Nat.le_refl _, Nat.zero_le _, hm⟩ <;> simp [go_sem]
set_option maxHeartbeats 1000000 in
theorem new_any (n : Int) (W : World) : Calls Try.prog 7 #[.int .i64 n] W fun e w' => e = .returned (wp W.heap.size) ∧ ArenaAt w' W.heap.size (cl n) (.slice none 0 0) (.slice none 0 0) [] [] ∧ Below W.heap.size W w' := by
  have hm := cl_le n
  by_cases h0 : n < 0
  · have H := Lib.hid (show cl n = 0 by unfold cl; rw [if_pos h0])
    go_enter Try.func7, Try.ntmps7
    go_wp2
    go_ret
    exact ⟨rfl, by rw [H.out]; exact arena_new _ 0 (by omega), box_below _ _⟩
  · by_cases h1 : 4096 < n
    · have H := Lib.hid (show cl n = 4096 by unfold cl; rw [if_neg h0, if_pos h1])
      go_enter Try.func7, Try.ntmps7
      go_wp2
      go_ret
      exact ⟨rfl, by rw [H.out]; exact arena_new _ 4096 (by omega), box_below _ _⟩
    · obtain ⟨k, rfl⟩ : ∃ k : Nat, n = k := ⟨n.toNat, by omega⟩
      have H := Lib.hid (show cl (k : Int) = k by unfold cl; rw [if_neg h0, if_neg h1]; simp)
      go_enter Try.func7, Try.ntmps7
      go_wp2
      go_ret
      exact ⟨rfl, by rw [H.out]; exact arena_new _ k (by omega), box_below _ _⟩
theorem len_any {W : World} {b m : Nat} {pv fv : Value} {ps : List Pl} {fs : List Nat} (h : ArenaAt W b m pv fv ps fs) :
    Calls Try.prog 17 #[wp b] W fun e w' => e = .returned (.int .i64 ((ps.length : Int) - (fs.length : Int))) ∧ ∃ k, w' = W.drewN k := by
  obtain ⟨A, c, rfl, _⟩ := row_slice h.rp
  obtain ⟨A2, c2, rfl, _⟩ := row_slice h.rf
  have q1 := h.c1
  have q2 := h.c2
  have q3 := h.fle
  have q4 : ps.length ≤ 4096 := Nat.le_trans h.ple h.mle
  clear h
  generalize ps.length = n at *
  generalize fs.length = k at *
  go_enter Try.func17, Try.ntmps17
  go_wp2
  go_quiet (fail)
  go_wp2
  go_ret
  exact ⟨rfl, _, rfl⟩
theorem len_none (W : World) : Calls Try.prog 17 #[.pointer none] W fun e w' => e = .returned (.int .i64 0) ∧ W = w' := by
  go_enter Try.func17, Try.ntmps17
  go_wp2
  go_ret
  exact ⟨rfl, rfl⟩
theorem left_none (W : World) : Calls Try.prog 16 #[.pointer none] W fun e w' => e = .returned (.int .i64 0) ∧ W = w' := by
  go_enter Try.func16, Try.ntmps16
  go_wp2
  go_ret
  exact ⟨rfl, rfl⟩
theorem left_any {W : World} {b m : Nat} {pv fv : Value} {ps : List Pl} {fs : List Nat} (h : ArenaAt W b m pv fv ps fs) :
    Calls Try.prog 16 #[wp b] W fun e w' => e = .returned (.int .i64 ((m : Int) - ((ps.length : Int) - (fs.length : Int)))) ∧ ∃ k, w' = W.drewN k := by
  have q0 := h.c0
  have q3 := h.fle
  have q4 := h.ple
  have q5 := h.mle
  have HL : ∀ k, Calls Try.prog 17 #[wp b] (W.drewN k) fun e w' => e = .returned (.int .i64 ((ps.length : Int) - (fs.length : Int))) ∧ ∃ j, w' = (W.drewN k).drewN j := fun k => len_any (h.below (drew_below W k))
  have H := Lib.hid HL
  clear HL h
  generalize ps.length = n at *
  generalize fs.length = k at *
  go_enter Try.func16, Try.ntmps16
  go_wp2
  go_quiet ((go_at_call 17; exact Calls.quiet_of (H.out _)))
  go_wp2
  go_ret
  exact ⟨rfl, _, rfl⟩
end Go.Proofs.Ytdfkjojofhleaaa
