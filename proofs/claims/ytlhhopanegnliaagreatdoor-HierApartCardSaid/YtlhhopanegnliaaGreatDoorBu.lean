/- What of a key hangs on the number of buckets: the power of two, the hash, the bucket. -/
import Derived.Test.YtlhhopanegnliaaGreatDoorR1
import Derived.BigQuiet
import Derived.Lib.BitFns
import Derived.WalkMore
import Derived.ScopeJumps
import Derived.Deep.AppendLies
import Derived.Deep.RegionLaw
import Derived.OwnWalk
namespace Go.Proofs.YtlhhopanegnliaaGreatDoor.Bu
open Go Go.RowKit

set_option maxRecDepth 100000 in
theorem fold_bits : (⟨List.toArray (List.append (List.append [0, 1, 2, 2, 3, 3, 3, 3, 4, 4, 4, 4, 4, 4, 4, 4, 5, 5, 5, 5, 5, 5, 5, 5, 5, 5, 5, 5, 5, 5, 5, 5, 6, 6, 6, 6, 6, 6, 6, 6, 6, 6, 6, 6, 6, 6, 6, 6, 6, 6, 6, 6, 6, 6, 6, 6, 6, 6, 6, 6, 6, 6, 6, 6] [7, 7, 7, 7, 7, 7, 7, 7, 7, 7, 7, 7, 7, 7, 7, 7, 7, 7, 7, 7, 7, 7, 7, 7, 7, 7, 7, 7, 7, 7, 7, 7, 7, 7, 7, 7, 7, 7, 7, 7, 7, 7, 7, 7, 7, 7, 7, 7, 7, 7, 7, 7, 7, 7, 7, 7, 7, 7, 7, 7, 7, 7, 7, 7]) (List.append [8, 8, 8, 8, 8, 8, 8, 8, 8, 8, 8, 8, 8, 8, 8, 8, 8, 8, 8, 8, 8, 8, 8, 8, 8, 8, 8, 8, 8, 8, 8, 8, 8, 8, 8, 8, 8, 8, 8, 8, 8, 8, 8, 8, 8, 8, 8, 8, 8, 8, 8, 8, 8, 8, 8, 8, 8, 8, 8, 8, 8, 8, 8, 8] [8, 8, 8, 8, 8, 8, 8, 8, 8, 8, 8, 8, 8, 8, 8, 8, 8, 8, 8, 8, 8, 8, 8, 8, 8, 8, 8, 8, 8, 8, 8, 8, 8, 8, 8, 8, 8, 8, 8, 8, 8, 8, 8, 8, 8, 8, 8, 8, 8, 8, 8, 8, 8, 8, 8, 8, 8, 8, 8, 8, 8, 8, 8, 8]))⟩ : ByteArray) = Lib.len8tab := by kernel_rfl
theorem tab_at (n : Int) (h0 : 0 ≤ n) (hn : n < 256) (h : n.toNat < Lib.len8tab.size) : ((Lib.len8tab[n.toNat]'h).toNat : Int) = (Lib.bitLen n.toNat : Int) := by
  have := Lib.len8_of n h0 (by omega)
  unfold Lib.len8 at this
  rw [getElem?_pos Lib.len8tab n.toNat h] at this
  simpa using this
theorem len_le8 (n : Int) (h0 : 0 ≤ n) (hn : n < 256) : Lib.bitLen n.toNat ≤ 8 := Lib.bitLen_le8 ⟨n.toNat, by omega⟩
set_option maxHeartbeats 4000000 in
set_option maxRecDepth 100000 in
theorem len64_any (n : Int) (W : World) (h0 : 0 ≤ n) (hn : n < 256) : Calls Tryz.prog 177 #[.int .u64 n] W fun e w' => e = .returned (.int .i64 (Lib.bitLen n.toNat : Int)) ∧ W = w' := by
  go_enter Tryz.func177, Tryz.ntmps177
  rw [fold_bits]
  go_wp2
  go_ret
  rw [tab_at n h0 hn]
  have := len_le8 n h0 hn
  refine ⟨congrArg Ending.returned (congrArg (Value.int IntKind.i64) ?_), rfl⟩
  unfold wrap64
  omega
theorem len_any (n : Int) (W : World) (h0 : 0 ≤ n) (hn : n < 256) : Calls Tryz.prog 138 #[.int .u64 n] W fun e w' => e = .returned (.int .i64 (Lib.bitLen n.toNat : Int)) ∧ W = w' := by
  go_enter Tryz.func138, Tryz.ntmps138
  go_wp2_with (go_at_call 177; refine (len64_any n _ h0 hn).mono ?_; rintro e w' ⟨rfl, rfl⟩)
  go_ret
  exact ⟨rfl, rfl⟩

/-- the greatest power of two that isn't above a number -/
def pw (n : Nat) : Nat := 2 ^ (Lib.bitLen n - 1)
theorem pw_all : ∀ n : Fin 256, n.val ≠ 0 → 1 ≤ Lib.bitLen n.val ∧ Lib.bitLen n.val ≤ 8 ∧ pw n.val ≤ n.val ∧ n.val < 2 * pw n.val ∧ pw n.val ≤ 128 := by decide +kernel
theorem pw_next : ∀ n : Fin 255, n.val ≠ 0 → pw (n.val + 1) = if n.val + 1 = 2 * pw n.val then 2 * pw n.val else pw n.val := by decide +kernel
theorem pw_is {n : Nat} (h0 : 0 < n) (h1 : n < 256) : 1 ≤ Lib.bitLen n ∧ Lib.bitLen n ≤ 8 ∧ pw n ≤ n ∧ n < 2 * pw n ∧ pw n ≤ 128 := pw_all ⟨n, h1⟩ (Nat.ne_of_gt h0)
theorem shl_is {j : Nat} (h : j ≤ 8) : wrap64 ((2 : Int) ^ j) = ((2 ^ j : Nat) : Int) := by
  have : ∀ j : Fin 9, wrap64 ((2 : Int) ^ j.val) = ((2 ^ j.val : Nat) : Int) := by decide +kernel
  exact this ⟨j, by omega⟩
theorem power_any (n : Int) (W : World) (h0 : 0 < n) (hn : n < 256) : Calls Tryz.prog 214 #[.int .i64 n] W fun e w' => e = .returned (.int .i64 (pw n.toNat : Int)) ∧ W = w' := by
  obtain ⟨b1, b2, -, -, -⟩ := pw_is (n := n.toNat) (by omega) (by omega)
  have H := Lib.hid (shl_is (j := Lib.bitLen n.toNat - 1) (by omega))
  have HC := Lib.hid (fun W => len_any n W (by omega) hn)
  have HP := Lib.hid (show pw n.toNat = 2 ^ (Lib.bitLen n.toNat - 1) from rfl)
  generalize pw n.toNat = p at *
  generalize Lib.bitLen n.toNat = j at *
  go_enter Tryz.func214, Tryz.ntmps214
  go_wp2_with (go_at_call 138; refine (HC.out _).mono ?_; rintro e w' ⟨rfl, rfl⟩)
  go_ret
  refine ⟨congrArg Ending.returned ?_, rfl⟩
  rw [HP.out, ← H.out]
  rfl

/-- the hash of a key, byte by byte: what it is so far, and the bytes that are left -/
def hst (k : Int) : Nat → Int × Int
  | 0 => (14695981039346656037, k)
  | j + 1 => (bits .xor .u64 (IntKind.u64.wrap ((hst k j).1 * 1099511628211)) (bits .and .u64 (hst k j).2 255), (hst k j).2 / 256)
def hsh (k : Int) : Int := (hst k 8).1
theorem hst_range (k : Int) (h0 : 0 ≤ k) (h1 : k < 18446744073709551616) (j : Nat) : 0 ≤ (hst k j).1 ∧ (hst k j).1 < 18446744073709551616 ∧ 0 ≤ (hst k j).2 ∧ (hst k j).2 < 18446744073709551616 := by
  induction j with
  | zero => exact ⟨by unfold hst; omega, by unfold hst; omega, h0, h1⟩
  | succ j ih =>
    unfold hst
    refine ⟨?_, ?_, by simp only; omega, by simp only; omega⟩
    all_goals simp only [bits, IntKind.wrap_u64]; omega
theorem hsh_range (k : Int) (h0 : 0 ≤ k) (h1 : k < 18446744073709551616) : 0 ≤ hsh k ∧ hsh k < 18446744073709551616 := ⟨(hst_range k h0 h1 8).1, (hst_range k h0 h1 8).2.1⟩
theorem hash_any (k : Int) (W : World) (h0 : 0 ≤ k) (h1 : k < 18446744073709551616) : Calls Tryz.prog 217 #[.int .u64 k] W fun e w' => e = .returned (.int .u64 (hsh k)) ∧ W = w' := by
  go_enter Tryz.func217, Tryz.ntmps217
  go_wp2
  go_loop [0, 3, 4] (fun x h i => ∃ j : Nat, j ≤ 8 ∧ i = .int .i64 j ∧ x = .int .u64 (hst k j).2 ∧ h = .int .u64 (hst k j).1) (fun _ _ i => 8 - (intOf i).toNat)
  case atStart => exact ⟨0, by omega, rfl, rfl, rfl⟩
  case round =>
    obtain ⟨j, hj, rfl, rfl, rfl⟩ := hrel
    obtain ⟨a1, a2, a3, a4⟩ := hst_range k h0 h1 j
    by_cases hj8 : j < 8
    · have E1 := Lib.hid (show (hst k (j + 1)).1 = bits .xor .u64 (IntKind.u64.wrap ((hst k j).1 * 1099511628211)) (bits .and .u64 (hst k j).2 255) from rfl)
      have E2 := Lib.hid (show (hst k (j + 1)).2 = (hst k j).2 / 256 from rfl)
      generalize (hst k j).1 = h at *
      generalize (hst k j).2 = x at *
      go_wp2
      refine ⟨⟨j + 1, by omega, by congr 1, by rw [E2.out], by rw [E1.out]⟩, ?_⟩
      simp [intOf]; omega
    · obtain rfl : j = 8 := by omega
      go_wp2
      go_ret
      exact ⟨rfl, rfl⟩

/-- the bucket of a key, of so many -/
def bk (n : Nat) (k : Int) : Nat := if n ≤ (hsh k).toNat % (2 * pw n) then (hsh k).toNat % (2 * pw n) - pw n else (hsh k).toNat % (2 * pw n)
theorem bk_lt {n : Nat} (h0 : 0 < n) (h1 : n < 256) (k : Int) : bk n k < n := by
  obtain ⟨-, -, b3, b4, -⟩ := pw_is h0 h1
  unfold bk
  have := Nat.mod_lt (hsh k).toNat (show 0 < 2 * pw n by omega)
  split <;> omega
theorem bk_next {n : Nat} (h0 : 0 < n) (h1 : n < 255) (k : Int) : (bk (n + 1) k ≠ n → bk (n + 1) k = bk n k) ∧ (bk n k ≠ n - pw n → bk (n + 1) k = bk n k) := by
  obtain ⟨-, -, b3, b4, -⟩ := pw_is h0 (by omega)
  have e := pw_next ⟨n, h1⟩ (Nat.ne_of_gt h0)
  simp only at e
  unfold bk
  rw [e]
  generalize pw n = p at *
  generalize (hsh k).toNat = h
  by_cases hc : n + 1 = 2 * p
  · rw [if_pos hc]
    have q1 := Nat.mod_lt h (show 0 < 2 * p by omega)
    have q2 := Nat.mod_lt h (show 0 < 2 * (2 * p) by omega)
    have q3 : h % (2 * (2 * p)) % (2 * p) = h % (2 * p) := Nat.mod_mod_of_dvd h ⟨2, by omega⟩
    generalize h % (2 * (2 * p)) = x at *
    have q4 : x % (2 * p) = if 2 * p ≤ x then x - 2 * p else x := by
      split
      · rw [Nat.mod_eq_sub_mod (by omega), Nat.mod_eq_of_lt (by omega)]
      · exact Nat.mod_eq_of_lt (by omega)
    rw [← q3, q4]
    by_cases hx : 2 * p ≤ x
    · simp only [hx, if_true]
      constructor <;> intro hh <;> (repeat' split at *) <;> omega
    · simp only [hx, if_false]
      constructor <;> intro hh <;> (repeat' split at *) <;> omega
  · rw [if_neg hc]
    have q1 := Nat.mod_lt h (show 0 < 2 * p by omega)
    generalize h % (2 * p) = x at *
    constructor <;> intro hh <;> (repeat' split at *) <;> omega
end Go.Proofs.YtlhhopanegnliaaGreatDoor.Bu
/- A map in memory: its buckets are a row of chains; how chains are linked anew. -/
namespace Go.Proofs.YtlhhopanegnliaaGreatDoor.Bu
open Go Go.RowKit

/-- one of a chain: its key, its number, its block -/
structure En where
  key : Int
  v : Int
  blk : Nat
def hd : List En → Value
  | [] => .pointer none
  | e :: _ => .pointer (some ⟨e.blk, 0, none⟩)
structure EnAt (W : World) (e : En) (nx : Value) : Prop where
  c0 : W.cell? ⟨e.blk, 0, none⟩ = some (.int .u64 e.key)
  c1 : W.cell? ⟨e.blk, 1, none⟩ = some (.int .i64 e.v)
  c2 : W.cell? ⟨e.blk, 2, none⟩ = some nx
  fz : ∀ o, W.frozen? ⟨e.blk, o, none⟩ = false
theorem EnAt.keep {W W' : World} {e : En} {nx : Value} (h : EnAt W e nx) (hb : W'.heap[e.blk]? = W.heap[e.blk]?) : EnAt W' e nx :=
  ⟨(World.cell?_of_block (w := W) (a := ⟨e.blk, 0, none⟩) hb).trans h.c0, (World.cell?_of_block (w := W) (a := ⟨e.blk, 1, none⟩) hb).trans h.c1, (World.cell?_of_block (w := W) (a := ⟨e.blk, 2, none⟩) hb).trans h.c2,
   fun o => (World.frozen?_of_block (w := W) (a := ⟨e.blk, o, none⟩) hb).trans (h.fz o)⟩
/-- a chain lies in memory -/
def Ch (W : World) : List En → Prop
  | [] => True
  | e :: es => EnAt W e (hd es) ∧ Ch W es
theorem Ch.keep {W W' : World} {l : List En} (h : Ch W l) (hk : ∀ e ∈ l, W'.heap[e.blk]? = W.heap[e.blk]?) : Ch W' l := by
  induction l with
  | nil => trivial
  | cons e l ih => exact ⟨h.1.keep (hk e (by simp)), ih h.2 (fun f hf => hk f (by simp [hf]))⟩
theorem Ch.at_mem {W : World} {l : List En} {e : En} (h : Ch W l) (he : e ∈ l) : ∃ nx, EnAt W e nx := by
  induction l with
  | nil => simp at he
  | cons f l ih =>
    rcases List.mem_cons.1 he with rfl | he
    · exact ⟨_, h.1⟩
    · exact ih h.2 he
theorem Ch.right {W : World} {pre post : List En} (h : Ch W (pre ++ post)) : Ch W post := by
  induction pre with
  | nil => exact h
  | cons f l ih => exact ih h.2
theorem Ch.key_eq {W : World} {l l' : List En} {e f : En} (h : Ch W l) (h' : Ch W l') (he : e ∈ l) (hf : f ∈ l') (hb : e.blk = f.blk) : e.key = f.key := by
  obtain ⟨_, h1⟩ := h.at_mem he
  obtain ⟨_, h2⟩ := h'.at_mem hf
  have e1 := h1.c0
  rw [hb, h2.c0] at e1
  simpa using e1.symm
theorem Ch.lt {W : World} {l : List En} {e : En} (h : Ch W l) (he : e ∈ l) : e.blk < W.heap.size := by
  obtain ⟨_, h1⟩ := h.at_mem he
  exact cell_lt h1.c0
theorem hd_mid (pre : List En) (e : En) (p q : List En) : hd (pre ++ e :: p) = hd (pre ++ e :: q) := by cases pre <;> rfl
theorem set_other {W : World} {k o i : Nat} {u : Value} (h : i ≠ k) : (W.setCell ⟨k, o, none⟩ u).heap[i]? = W.heap[i]? := Below.heap_setCell W ⟨k, o, none⟩ u i h
theorem cell_far {W : World} {k o o' : Nat} {u : Value} (h : o' ≠ o) : (W.setCell ⟨k, o, none⟩ u).cell? ⟨k, o', none⟩ = W.cell? ⟨k, o', none⟩ :=
  World.cell?_setCell_other _ _ _ _ (fun e => h (by injection e with e1 e2; exact e2.symm))
theorem cell_near {W : World} {k o : Nat} {u x : Value} (h : W.cell? ⟨k, o, none⟩ = some x) : (W.setCell ⟨k, o, none⟩ u).cell? ⟨k, o, none⟩ = some u :=
  World.cell?_setCell_same' _ _ _ (by rw [h]; rfl)
theorem EnAt.next {W : World} {e : En} {nx u : Value} (h : EnAt W e nx) : EnAt (W.setCell ⟨e.blk, 2, none⟩ u) e u :=
  ⟨(cell_far (by omega)).trans h.c0, (cell_far (by omega)).trans h.c1, cell_near h.c2, fun o => by rw [World.frozen?_setCell]; exact h.fz o⟩
theorem EnAt.value {W : World} {e : En} {nx : Value} (h : EnAt W e nx) (v : Int) : EnAt (W.setCell ⟨e.blk, 1, none⟩ (.int .i64 v)) ⟨e.key, v, e.blk⟩ nx :=
  ⟨(cell_far (by omega)).trans h.c0, cell_near h.c1, (cell_far (by omega)).trans h.c2, fun o => by rw [World.frozen?_setCell]; exact h.fz o⟩
theorem Ch.relink {W : World} {pre post post' : List En} {e : En} (h : Ch W (pre ++ e :: post)) (h' : Ch W post') (h1 : ∀ f ∈ pre, f.blk ≠ e.blk) (h2 : ∀ f ∈ post', f.blk ≠ e.blk) :
    Ch (W.setCell ⟨e.blk, 2, none⟩ (hd post')) (pre ++ e :: post') := by
  induction pre with
  | nil => exact ⟨h.1.next, h'.keep (fun f hf => set_other (h2 f hf))⟩
  | cons f pre ih =>
    have q : EnAt W f (hd (pre ++ e :: post)) := h.1
    rw [hd_mid pre e post post'] at q
    exact ⟨q.keep (set_other (h1 f (by simp))), ih h.2 (fun x hx => h1 x (by simp [hx]))⟩
theorem Ch.value {W : World} {pre post : List En} {e : En} (h : Ch W (pre ++ e :: post)) (v : Int) (h1 : ∀ f ∈ pre, f.blk ≠ e.blk) (h2 : ∀ f ∈ post, f.blk ≠ e.blk) :
    Ch (W.setCell ⟨e.blk, 1, none⟩ (.int .i64 v)) (pre ++ ⟨e.key, v, e.blk⟩ :: post) := by
  induction pre with
  | nil => exact ⟨h.1.value v, h.2.keep (fun f hf => set_other (h2 f hf))⟩
  | cons f pre ih =>
    have q : EnAt W f (hd (pre ++ e :: post)) := h.1
    rw [show hd (pre ++ e :: post) = hd (pre ++ ⟨e.key, v, e.blk⟩ :: post) by cases pre <;> rfl] at q
    exact ⟨q.keep (set_other (h1 f (by simp))), ih h.2 (fun x hx => h1 x (by simp [hx]))⟩

/-- chains with one that is another -/
def upd (cs : Nat → List En) (j : Nat) (l : List En) : Nat → List En := fun i => if i = j then l else cs i
theorem upd_same (cs : Nat → List En) (j : Nat) (l : List En) : upd cs j l j = l := by simp [upd]
theorem upd_other {cs : Nat → List En} {j i : Nat} {l : List En} (h : i ≠ j) : upd cs j l i = cs i := by simp [upd, h]
/-- the cells of the row of chains -/
def rowOf (n : Nat) (cs : Nat → List En) : List Value := (List.range n).map fun j => hd (cs j)
theorem rowOf_length (n : Nat) (cs : Nat → List En) : (rowOf n cs).length = n := by simp [rowOf]
theorem rowOf_at {n j : Nat} (cs : Nat → List En) (h : j < n) : (rowOf n cs)[j]? = some (hd (cs j)) := by simp [rowOf, h]
theorem rowOf_set (n j : Nat) (cs : Nat → List En) (l : List En) : (rowOf n cs).set j (hd l) = rowOf n (upd cs j l) := by
  refine List.ext_getElem (by simp [rowOf]) fun i h1 h2 => ?_
  simp only [rowOf, List.getElem_set, List.getElem_map, List.getElem_range, upd]
  by_cases h : j = i
  · simp [h]
  · simp [h, Ne.symm h]
theorem rowOf_congr {n : Nat} {cs cs' : Nat → List En} (h : ∀ j, j < n → hd (cs j) = hd (cs' j)) : rowOf n cs = rowOf n cs' := by
  refine List.ext_getElem (by simp [rowOf]) fun i h1 h2 => ?_
  simp only [rowOf, List.getElem_map, List.getElem_range]
  exact h i (by simpa [rowOf] using h1)
theorem rowOf_succ (n : Nat) (cs : Nat → List En) : rowOf (n + 1) cs = rowOf n cs ++ [hd (cs n)] := by simp [rowOf, List.range_succ]

/-- a key is an unsigned number -/
def U (k : Int) : Prop := 0 ≤ k ∧ k < 18446744073709551616
/-- a map lies in memory: its block, that of its row, its chains, and a chain beside them that is in none -/
structure Mp (W : World) (L : Nat) (O : Nat → Prop) (b g c n : Nat) (cs : Nat → List En) (es : List En) (t : Int) (F : Int → Option Int) : Prop where
  c0 : W.cell? ⟨b, 0, none⟩ = some (.slice (some ⟨g, 0, none⟩) n c)
  c1 : W.cell? ⟨b, 1, none⟩ = some (.int .i64 t)
  fz : ∀ o, W.frozen? ⟨b, o, none⟩ = false
  row : W.ownsRow L 188 1 (.slice (some ⟨g, 0, none⟩) n c) n (rowOf n cs)
  ch : ∀ j, j < n → Ch W (cs j)
  che : Ch W es
  ne : b ≠ g
  o1 : O b
  o2 : O g
  ol : ∀ k, O k → L ≤ k ∧ k < W.heap.size
  mem : ∀ e, (e ∈ es ∨ ∃ j, j < n ∧ e ∈ cs j) → O e.blk ∧ e.blk ≠ b ∧ e.blk ≠ g ∧ U e.key ∧ F e.key = some e.v
  place : ∀ j, j < n → ∀ e ∈ cs j, bk n e.key = j
  keys : ∀ j, j < n → ((es ++ cs j).map (·.key)).Nodup
  full : ∀ k, U k → F k ≠ none → (∃ e ∈ es, e.key = k) ∨ ∃ e ∈ cs (bk n k), e.key = k
  n4 : 4 ≤ n
  nb : n < 250
variable {W W' : World} {L b g c n : Nat} {O : Nat → Prop} {cs : Nat → List En} {es : List En} {t : Int} {F : Int → Option Int}
theorem Mp.keep (h : Mp W L O b g c n cs es t F) (hs : W.heap.size ≤ W'.heap.size) (hk : ∀ k, O k → W'.heap[k]? = W.heap[k]?) : Mp W' L O b g c n cs es t F := by
  have hb := hk b h.o1
  exact ⟨(World.cell?_of_block (w := W) (a := ⟨b, 0, none⟩) hb).trans h.c0, (World.cell?_of_block (w := W) (a := ⟨b, 1, none⟩) hb).trans h.c1, fun o => (World.frozen?_of_block (w := W) (a := ⟨b, o, none⟩) hb).trans (h.fz o),
    row_keep h.row (fun k e => by obtain rfl : g = k := by simpa [Value.ownBlock] using e
                                  exact hk _ h.o2),
    fun j hj => (h.ch j hj).keep (fun e he => hk _ (h.mem e (.inr ⟨j, hj, he⟩)).1), h.che.keep (fun e he => hk _ (h.mem e (.inl he)).1),
    h.ne, h.o1, h.o2, fun k hk => ⟨(h.ol k hk).1, Nat.lt_of_lt_of_le (h.ol k hk).2 hs⟩, h.mem, h.place, h.keys, h.full, h.n4, h.nb⟩
theorem Mp.only {T : Nat → Prop} (h : Mp W L O b g c n cs es t F) (ho : OnlyS T W W') (hd : ∀ k, O k → ¬ T k) : Mp W' L O b g c n cs es t F :=
  h.keep ho.size (fun k hk => ho.block k (h.ol k hk).2 (hd k hk))
theorem Mp.below (h : Mp W L O b g c n cs es t F) (hb : Below W.heap.size W W') : Mp W' L O b g c n cs es t F :=
  h.keep hb.size (fun k hk => hb.block k (h.ol k hk).2)
theorem Mp.more {O' : Nat → Prop} (h : Mp W L O b g c n cs es t F) (ho : ∀ k, O k → O' k) (hl : ∀ k, O' k → L ≤ k ∧ k < W.heap.size) : Mp W L O' b g c n cs es t F :=
  ⟨h.c0, h.c1, h.fz, h.row, h.ch, h.che, h.ne, ho _ h.o1, ho _ h.o2, hl, fun e he => ⟨ho _ (h.mem e he).1, (h.mem e he).2⟩, h.place, h.keys, h.full, h.n4, h.nb⟩
theorem Mp.cell (h : Mp W L O b g c n cs es t F) {j : Nat} (hj : j < n) : W.cell? ⟨g, j, none⟩ = some (hd (cs j)) ∧ ∀ o, W.frozen? ⟨g, o, none⟩ = false := by
  have h1 := h.row.cells (g := g) rfl j _ (rowOf_at cs hj)
  rw [add_at] at h1
  exact ⟨h1, fun o => h.row.frozenAt _⟩
theorem Mp.count (h : Mp W L O b g c n cs es t F) (t' : Int) : Mp (W.setCell ⟨b, 1, none⟩ (.int .i64 t')) L O b g c n cs es t' F := by
  have q : ∀ k, k ≠ b → (W.setCell ⟨b, 1, none⟩ (.int .i64 t')).heap[k]? = W.heap[k]? := fun k hk => set_other hk
  exact ⟨(cell_far (by omega)).trans h.c0, cell_near h.c1, fun o => by rw [World.frozen?_setCell]; exact h.fz o,
    row_keep h.row (fun k e => by obtain rfl : g = k := by simpa [Value.ownBlock] using e
                                  exact q _ (Ne.symm h.ne)),
    fun j hj => (h.ch j hj).keep (fun e he => q _ (h.mem e (.inr ⟨j, hj, he⟩)).2.1), h.che.keep (fun e he => q _ (h.mem e (.inl he)).2.1),
    h.ne, h.o1, h.o2, fun k hk => ⟨(h.ol k hk).1, by simpa [World.setCell] using (h.ol k hk).2⟩, h.mem, h.place, h.keys, h.full, h.n4, h.nb⟩
/-- where the pointer to what is behind these of a chain lies -/
def la (g j : Nat) (pre : List En) : Addr := match pre.getLast? with | none => ⟨g, j, none⟩ | some e => ⟨e.blk, 2, none⟩
theorem la_nil (g j : Nat) : la g j [] = ⟨g, j, none⟩ := rfl
theorem la_snoc (g j : Nat) (pre : List En) (e : En) : la g j (pre ++ [e]) = ⟨e.blk, 2, none⟩ := by simp [la]
theorem Mp.link (h : Mp W L O b g c n cs es t F) {j : Nat} (hj : j < n) {pre post : List En} (hs : cs j = pre ++ post) : W.cell? (la g j pre) = some (hd post) ∧ W.frozen? (la g j pre) = false := by
  rcases List.eq_nil_or_concat pre with rfl | ⟨p0, e, rfl⟩
  · have := h.cell hj
    rw [hs] at this
    exact ⟨this.1, this.2 _⟩
  · rw [List.concat_eq_append, la_snoc]
    have q := h.ch j hj
    rw [hs, List.concat_eq_append, List.append_assoc] at q
    have q1 : EnAt W e (hd post) := q.right.1
    exact ⟨q1.c2, q1.fz _⟩
theorem Mp.la_own (h : Mp W L O b g c n cs es t F) {j : Nat} (hj : j < n) {pre post : List En} (hs : cs j = pre ++ post) : ∃ k o, la g j pre = ⟨k, o, none⟩ ∧ O k := by
  rcases List.eq_nil_or_concat pre with rfl | ⟨p0, e, rfl⟩
  · exact ⟨g, j, rfl, h.o2⟩
  · rw [List.concat_eq_append, la_snoc]
    exact ⟨_, _, rfl, (h.mem e (.inr ⟨j, hj, by rw [hs]; simp⟩)).1⟩
end Go.Proofs.YtlhhopanegnliaaGreatDoor.Bu
/- How a map's chains are linked anew: one is laid ahead of a bucket's, one is put behind, cut out, or has another number; there is a bucket more, or one less. -/
namespace Go.Proofs.YtlhhopanegnliaaGreatDoor.Bu
open Go Go.RowKit
variable {W W' : World} {L b g c n : Nat} {O : Nat → Prop} {cs : Nat → List En} {es : List En} {t : Int} {F : Int → Option Int}

theorem nodup_mid {pre post : List En} {e : En} (h : ((pre ++ e :: post).map (·.key)).Nodup) : (∀ f ∈ pre, f.key ≠ e.key) ∧ (∀ f ∈ post, f.key ≠ e.key) := by
  rw [List.map_append, List.nodup_append] at h
  obtain ⟨-, h2, h3⟩ := h
  rw [List.map_cons, List.nodup_cons] at h2
  exact ⟨fun f hf => h3 _ (List.mem_map_of_mem hf) _ (by simp), fun f hf e1 => h2.1 (by rw [← e1]; exact List.mem_map_of_mem hf)⟩
theorem Mp.key1 (h : Mp W L O b g c n cs [] t F) {j : Nat} (hj : j < n) : ((cs j).map (·.key)).Nodup := by simpa using h.keys j hj
/-- two chains have no block in common -/
theorem Mp.apart (h : Mp W L O b g c n cs es t F) {i j : Nat} (hi : i < n) (hj : j < n) (hij : i ≠ j) {e f : En} (he : e ∈ cs i) (hf : f ∈ cs j) : e.blk ≠ f.blk := fun hb => by
  have hk := (h.ch i hi).key_eq (h.ch j hj) he hf hb
  have p1 := h.place i hi e he
  have p2 := h.place j hj f hf
  rw [hk] at p1
  exact hij (p1.symm.trans p2)
theorem Mp.mid (h : Mp W L O b g c n cs [] t F) {j : Nat} (hj : j < n) {pre post : List En} {e : En} (hs : cs j = pre ++ e :: post) : (∀ f ∈ pre, f.blk ≠ e.blk) ∧ (∀ f ∈ post, f.blk ≠ e.blk) := by
  have hk := h.key1 hj
  have hc := h.ch j hj
  rw [hs] at hk hc
  obtain ⟨k1, k2⟩ := nodup_mid hk
  exact ⟨fun f hf e1 => k1 f hf (hc.key_eq hc (by simp [hf]) (by simp) e1), fun f hf e1 => k2 f hf (hc.key_eq hc (by simp [hf]) (by simp) e1)⟩
theorem hd_pre {pre p q : List En} {e : En} : hd (pre ++ [e] ++ p) = hd (pre ++ [e] ++ q) := by cases pre <;> rfl

theorem Mp.turn (h : Mp W L O b g c n cs [] t F) {j : Nat} (hj : j < n) {pre post post' : List En} (hs : cs j = pre ++ post) (F' : Int → Option Int) (hp : Ch W post')
    (m1 : ∀ e ∈ post', O e.blk ∧ e.blk ≠ b ∧ e.blk ≠ g ∧ U e.key ∧ F' e.key = some e.v ∧ bk n e.key = j)
    (m2 : ∀ e, (e ∈ pre ∨ ∃ i, i < n ∧ i ≠ j ∧ e ∈ cs i) → F' e.key = F e.key)
    (m3 : ((pre ++ post').map (·.key)).Nodup)
    (m4 : ∀ k, U k → F' k ≠ none → ∃ e ∈ upd cs j (pre ++ post') (bk n k), e.key = k) :
    Mp (W.setCell (la g j pre) (hd post')) L O b g c n (upd cs j (pre ++ post')) [] t F' := by
  have hmem : ∀ e, (e ∈ ([] : List En) ∨ ∃ i, i < n ∧ e ∈ upd cs j (pre ++ post') i) → O e.blk ∧ e.blk ≠ b ∧ e.blk ≠ g ∧ U e.key ∧ F' e.key = some e.v := by
    rintro e (he | ⟨i, hi, he⟩)
    · simp at he
    · by_cases hij : i = j
      · subst hij
        rw [upd_same] at he
        rcases List.mem_append.1 he with he | he
        · obtain ⟨q1, q2, q3, q4, q5⟩ := h.mem e (.inr ⟨i, hi, by rw [hs]; simp [he]⟩)
          exact ⟨q1, q2, q3, q4, by rw [m2 e (.inl he)]; exact q5⟩
        · obtain ⟨q1, q2, q3, q4, q5, _⟩ := m1 e he
          exact ⟨q1, q2, q3, q4, q5⟩
      · rw [upd_other hij] at he
        obtain ⟨q1, q2, q3, q4, q5⟩ := h.mem e (.inr ⟨i, hi, he⟩)
        exact ⟨q1, q2, q3, q4, by rw [m2 e (.inr ⟨i, hi, hij, he⟩)]; exact q5⟩
  have hplace : ∀ i, i < n → ∀ e ∈ upd cs j (pre ++ post') i, bk n e.key = i := by
    intro i hi e he
    by_cases hij : i = j
    · subst hij
      rw [upd_same] at he
      rcases List.mem_append.1 he with he | he
      · exact h.place i hi e (by rw [hs]; simp [he])
      · exact (m1 e he).2.2.2.2.2
    · rw [upd_other hij] at he
      exact h.place i hi e he
  have hkeys : ∀ i, i < n → ((([] : List En) ++ upd cs j (pre ++ post') i).map (·.key)).Nodup := by
    intro i hi
    by_cases hij : i = j
    · subst hij
      rw [upd_same]
      exact m3
    · rw [upd_other hij]
      exact h.keys i hi
  have hfull : ∀ k, U k → F' k ≠ none → (∃ e ∈ ([] : List En), e.key = k) ∨ ∃ e ∈ upd cs j (pre ++ post') (bk n k), e.key = k := fun k hu hk => .inr (m4 k hu hk)
  obtain ⟨k0, o0, hla, hO⟩ := h.la_own hj hs
  have hsz : ∀ k, O k → L ≤ k ∧ k < (W.setCell (la g j pre) (hd post')).heap.size := fun k hk => ⟨(h.ol k hk).1, by simpa [World.setCell] using (h.ol k hk).2⟩
  rcases List.eq_nil_or_concat pre with rfl | ⟨p0, e, rfl⟩
  · rw [la_nil] at *
    have q : ∀ k, k ≠ g → (W.setCell ⟨g, j, none⟩ (hd post')).heap[k]? = W.heap[k]? := fun k hk => set_other hk
    refine ⟨(World.cell?_of_block (w := W) (a := ⟨b, 0, none⟩) (q b h.ne)).trans h.c0, (World.cell?_of_block (w := W) (a := ⟨b, 1, none⟩) (q b h.ne)).trans h.c1, fun o => (World.frozen?_of_block (w := W) (a := ⟨b, o, none⟩) (q b h.ne)).trans (h.fz o), ?_, ?_, trivial, h.ne, h.o1, h.o2, hsz, hmem, hplace, hkeys, hfull, h.n4, h.nb⟩
    · rw [List.nil_append, ← rowOf_set]
      exact row_store h.row j _
    · intro i hi
      by_cases hij : i = j
      · subst hij
        rw [upd_same]
        exact hp.keep (fun e he => q _ (m1 e he).2.2.1)
      · rw [upd_other hij]
        exact (h.ch i hi).keep (fun e he => q _ (h.mem e (.inr ⟨i, hi, he⟩)).2.2.1)
  · rw [List.concat_eq_append] at *
    rw [la_snoc] at *
    have hs' : cs j = p0 ++ e :: post := by rw [hs, List.append_assoc]; rfl
    have he : e ∈ cs j := by rw [hs']; simp
    obtain ⟨-, eb, eg, -, -⟩ := h.mem e (.inr ⟨j, hj, he⟩)
    have q : ∀ k, k ≠ e.blk → (W.setCell ⟨e.blk, 2, none⟩ (hd post')).heap[k]? = W.heap[k]? := fun k hk => set_other hk
    refine ⟨(World.cell?_of_block (w := W) (a := ⟨b, 0, none⟩) (q b (Ne.symm eb))).trans h.c0, (World.cell?_of_block (w := W) (a := ⟨b, 1, none⟩) (q b (Ne.symm eb))).trans h.c1, fun o => (World.frozen?_of_block (w := W) (a := ⟨b, o, none⟩) (q b (Ne.symm eb))).trans (h.fz o), ?_, ?_, trivial, h.ne, h.o1, h.o2, hsz, hmem, hplace, hkeys, hfull, h.n4, h.nb⟩
    · rw [rowOf_congr (cs' := cs) (fun i hi => by
        by_cases hij : i = j
        · subst hij
          rw [upd_same, hs]
          exact hd_pre
        · rw [upd_other hij])]
      exact row_keep h.row (fun k ek => by
        obtain rfl : g = k := by simpa [Value.ownBlock] using ek
        exact q _ (Ne.symm eg))
    · intro i hi
      by_cases hij : i = j
      · subst hij
        rw [upd_same, List.append_assoc]
        have hc := h.ch i hi
        rw [hs'] at hc
        refine hc.relink hp (h.mid hi hs').1 (fun f hf e1 => ?_)
        have hkk := hp.key_eq hc hf (by simp) e1
        rw [List.append_assoc] at m3
        exact (nodup_mid m3).2 f hf hkk
      · rw [upd_other hij]
        exact (h.ch i hi).keep (fun f hf => q _ (h.apart hi hj hij hf he))
theorem Mp.value (h : Mp W L O b g c n cs [] t F) {j : Nat} (hj : j < n) {pre post : List En} {e : En} (hs : cs j = pre ++ e :: post) (v : Int) :
    Mp (W.setCell ⟨e.blk, 1, none⟩ (.int .i64 v)) L O b g c n (upd cs j (pre ++ ⟨e.key, v, e.blk⟩ :: post)) [] t (fun k => if k = e.key then some v else F k) := by
  have he : e ∈ cs j := by rw [hs]; simp
  obtain ⟨eo, eb, eg, eu, ef⟩ := h.mem e (.inr ⟨j, hj, he⟩)
  obtain ⟨d1, d2⟩ := h.mid hj hs
  have hk := h.key1 hj
  rw [hs] at hk
  obtain ⟨k1, k2⟩ := nodup_mid hk
  have q : ∀ k, k ≠ e.blk → (W.setCell ⟨e.blk, 1, none⟩ (.int .i64 v)).heap[k]? = W.heap[k]? := fun k hk => set_other hk
  refine ⟨(World.cell?_of_block (w := W) (a := ⟨b, 0, none⟩) (q b (Ne.symm eb))).trans h.c0, (World.cell?_of_block (w := W) (a := ⟨b, 1, none⟩) (q b (Ne.symm eb))).trans h.c1, fun o => (World.frozen?_of_block (w := W) (a := ⟨b, o, none⟩) (q b (Ne.symm eb))).trans (h.fz o), ?_, ?_, trivial, h.ne, h.o1, h.o2, fun k hk => ⟨(h.ol k hk).1, by simpa [World.setCell] using (h.ol k hk).2⟩, ?_, ?_, ?_, ?_, h.n4, h.nb⟩
  · rw [rowOf_congr (cs' := cs) (fun i hi => by
      by_cases hij : i = j
      · subst hij
        rw [upd_same, hs]
        cases pre <;> rfl
      · rw [upd_other hij])]
    exact row_keep h.row (fun k ek => by
      obtain rfl : g = k := by simpa [Value.ownBlock] using ek
      exact q _ (Ne.symm eg))
  · intro i hi
    by_cases hij : i = j
    · subst hij
      rw [upd_same]
      have hc := h.ch i hi
      rw [hs] at hc
      exact hc.value v d1 d2
    · rw [upd_other hij]
      exact (h.ch i hi).keep (fun f hf => q _ (h.apart hi hj hij hf he))
  · rintro f (hf | ⟨i, hi, hf⟩)
    · simp at hf
    · by_cases hij : i = j
      · subst hij
        rw [upd_same] at hf
        rcases List.mem_append.1 hf with hf | hf
        · obtain ⟨q1, q2, q3, q4, q5⟩ := h.mem f (.inr ⟨i, hi, by rw [hs]; simp [hf]⟩)
          exact ⟨q1, q2, q3, q4, by simp only [if_neg (k1 f hf)]; exact q5⟩
        · rcases List.mem_cons.1 hf with rfl | hf
          · exact ⟨eo, eb, eg, eu, by simp⟩
          · obtain ⟨q1, q2, q3, q4, q5⟩ := h.mem f (.inr ⟨i, hi, by rw [hs]; simp [hf]⟩)
            exact ⟨q1, q2, q3, q4, by simp only [if_neg (k2 f hf)]; exact q5⟩
      · rw [upd_other hij] at hf
        obtain ⟨q1, q2, q3, q4, q5⟩ := h.mem f (.inr ⟨i, hi, hf⟩)
        refine ⟨q1, q2, q3, q4, ?_⟩
        rw [if_neg (fun e1 => ?_)]
        · exact q5
        · have p1 := h.place i hi f hf
          have p2 := h.place j hj e he
          rw [e1] at p1
          exact hij (p1.symm.trans p2)
  · intro i hi f hf
    by_cases hij : i = j
    · subst hij
      rw [upd_same] at hf
      rcases List.mem_append.1 hf with hf | hf
      · exact h.place i hi f (by rw [hs]; simp [hf])
      · rcases List.mem_cons.1 hf with rfl | hf
        · exact h.place i hi e he
        · exact h.place i hi f (by rw [hs]; simp [hf])
    · rw [upd_other hij] at hf
      exact h.place i hi f hf
  · intro i hi
    by_cases hij : i = j
    · subst hij
      rw [upd_same]
      simpa using hk
    · rw [upd_other hij]
      exact h.keys i hi
  · intro k hu hk
    right
    by_cases hke : k = e.key
    · refine ⟨⟨e.key, v, e.blk⟩, ?_, hke.symm⟩
      rw [hke, h.place j hj e he, upd_same]
      simp
    · simp only [if_neg hke] at hk
      rcases h.full k hu hk with ⟨f, hf, _⟩ | ⟨f, hf, hfk⟩
      · simp at hf
      · refine ⟨f, ?_, hfk⟩
        by_cases hij : bk n k = j
        · rw [hij] at hf ⊢
          rw [upd_same]
          rw [hs] at hf
          rcases List.mem_append.1 hf with hf | hf
          · simp [hf]
          · rcases List.mem_cons.1 hf with rfl | hf
            · exact absurd hfk.symm hke
            · simp [hf]
        · rw [upd_other hij]
          exact hf
/-- one of the chain beside is laid ahead of its bucket's -/
theorem Mp.push {e : En} (h : Mp W L O b g c n cs (e :: es) t F) : Mp ((W.setCell ⟨e.blk, 2, none⟩ (hd (cs (bk n e.key)))).setCell ⟨g, bk n e.key, none⟩ (.pointer (some ⟨e.blk, 0, none⟩))) L O b g c n (upd cs (bk n e.key) (e :: cs (bk n e.key))) es t F := by
  obtain ⟨eo, eb, eg, eu, ef⟩ := h.mem e (.inl (by simp))
  have hn : 0 < n := by have := h.n4; omega
  have hi : bk n e.key < n := bk_lt hn (by have := h.nb; omega) _
  generalize hie : bk n e.key = i at *
  have far : ∀ j, j < n → ∀ f ∈ cs j, f.blk ≠ e.blk := fun j hj f hf e1 => by
    have hk := h.keys j hj
    have hkk := (h.ch j hj).key_eq h.che hf (by simp) e1
    rw [List.cons_append, List.map_cons, List.nodup_cons] at hk
    exact hk.1 (by rw [← hkk]; exact List.mem_map_of_mem (by simp [hf]))
  have fae : ∀ f ∈ es, f.blk ≠ e.blk := fun f hf e1 => by
    have hk := h.keys 0 hn
    have hkk := h.che.key_eq h.che (by simp [hf]) (by simp) e1
    rw [List.cons_append, List.map_cons, List.nodup_cons] at hk
    exact hk.1 (by rw [← hkk]; exact List.mem_map_of_mem (by simp [hf]))
  have q : ∀ k, k ≠ e.blk → k ≠ g → ((W.setCell ⟨e.blk, 2, none⟩ (hd (cs i))).setCell ⟨g, i, none⟩ (.pointer (some ⟨e.blk, 0, none⟩))).heap[k]? = W.heap[k]? := fun k hk hg => (set_other hg).trans (set_other hk)
  refine ⟨(World.cell?_of_block (w := W) (a := ⟨b, 0, none⟩) (q b (Ne.symm eb) h.ne)).trans h.c0, (World.cell?_of_block (w := W) (a := ⟨b, 1, none⟩) (q b (Ne.symm eb) h.ne)).trans h.c1, fun o => (World.frozen?_of_block (w := W) (a := ⟨b, o, none⟩) (q b (Ne.symm eb) h.ne)).trans (h.fz o), ?_, ?_, ?_, h.ne, h.o1, h.o2, fun k hk => ⟨(h.ol k hk).1, by simpa [World.setCell] using (h.ol k hk).2⟩, ?_, ?_, ?_, ?_, h.n4, h.nb⟩
  · rw [← rowOf_set]
    refine row_store (row_keep h.row (fun k ek => ?_)) i _
    obtain rfl : g = k := by simpa [Value.ownBlock] using ek
    exact set_other (Ne.symm eg)
  · intro j hj
    by_cases hij : j = i
    · subst hij
      rw [upd_same]
      exact ⟨(h.che.1.next).keep (set_other eg), (h.ch j hj).keep (fun f hf => q _ (far j hj f hf) (h.mem f (.inr ⟨j, hj, hf⟩)).2.2.1)⟩
    · rw [upd_other hij]
      exact (h.ch j hj).keep (fun f hf => q _ (far j hj f hf) (h.mem f (.inr ⟨j, hj, hf⟩)).2.2.1)
  · exact h.che.2.keep (fun f hf => q _ (fae f hf) (h.mem f (.inl (by simp [hf]))).2.2.1)
  · rintro f (hf | ⟨j, hj, hf⟩)
    · exact h.mem f (.inl (by simp [hf]))
    · by_cases hij : j = i
      · subst hij
        rw [upd_same] at hf
        rcases List.mem_cons.1 hf with rfl | hf
        · exact ⟨eo, eb, eg, eu, ef⟩
        · exact h.mem f (.inr ⟨j, hj, hf⟩)
      · rw [upd_other hij] at hf
        exact h.mem f (.inr ⟨j, hj, hf⟩)
  · intro j hj f hf
    by_cases hij : j = i
    · subst hij
      rw [upd_same] at hf
      rcases List.mem_cons.1 hf with rfl | hf
      · exact hie
      · exact h.place j hj f hf
    · rw [upd_other hij] at hf
      exact h.place j hj f hf
  · intro j hj
    have hk := h.keys j hj
    by_cases hij : j = i
    · subst hij
      rw [upd_same]
      exact ((List.perm_middle.map _).nodup_iff).2 hk
    · rw [upd_other hij]
      rw [List.cons_append, List.map_cons, List.nodup_cons] at hk
      exact hk.2
  · intro k hu hk
    rcases h.full k hu hk with ⟨f, hf, hfk⟩ | ⟨f, hf, hfk⟩
    · rcases List.mem_cons.1 hf with rfl | hf
      · right
        refine ⟨f, ?_, hfk⟩
        rw [← hfk, hie, upd_same]
        simp
      · exact .inl ⟨f, hf, hfk⟩
    · right
      refine ⟨f, ?_, hfk⟩
      by_cases hij : bk n k = i
      · rw [hij] at hf ⊢
        rw [upd_same]
        simp [hf]
      · rw [upd_other hij]
        exact hf
/-- the last bucket's chain is taken away, and there is a bucket less -/
theorem Mp.shrink {m : Nat} (h : Mp W L O b g c (m + 1) cs [] t F) (hm : 4 ≤ m) : Mp ((W.setCell ⟨g, m, none⟩ (.pointer none)).setCell ⟨b, 0, none⟩ (.slice (some ⟨g, 0, none⟩) m c)) L O b g c m cs (cs m) t F := by
  have hlast : m < m + 1 := by omega
  have hb1 : (W.setCell ⟨g, m, none⟩ (.pointer none)).heap[b]? = W.heap[b]? := set_other h.ne
  have q0 : ∀ o, (W.setCell ⟨g, m, none⟩ (.pointer none)).cell? ⟨b, o, none⟩ = W.cell? ⟨b, o, none⟩ := fun o => World.cell?_of_block (w := W) (a := ⟨b, o, none⟩) hb1
  have q : ∀ k, k ≠ b → k ≠ g → ((W.setCell ⟨g, m, none⟩ (.pointer none)).setCell ⟨b, 0, none⟩ (.slice (some ⟨g, 0, none⟩) m c)).heap[k]? = W.heap[k]? := fun k hk hg => (set_other hk).trans (set_other hg)
  have far : ∀ i, i < m → ∀ k, bk (m + 1) k = i → bk m k = i := fun i hi k hk => by
    have := (bk_next (n := m) (by omega) (by have := h.nb; omega) k).1 (by omega)
    omega
  refine ⟨cell_near ((q0 0).trans h.c0), (cell_far (by omega)).trans ((q0 1).trans h.c1), fun o => ?_, ?_, ?_, ?_, h.ne, h.o1, h.o2, fun k hk => ⟨(h.ol k hk).1, by simpa [World.setCell] using (h.ol k hk).2⟩, ?_, ?_, ?_, ?_, hm, by have := h.nb; omega⟩
  · rw [World.frozen?_setCell, World.frozen?_setCell]
    exact h.fz o
  · have r1 := row_store h.row m (.pointer none)
    have r2 := row_cut r1 (i := m) (by omega)
    have e1 : ((rowOf (m + 1) cs).set m (.pointer none)).take (m * 1) = rowOf m cs := by
      rw [show Value.pointer none = hd [] from rfl, rowOf_set, rowOf_succ, Nat.mul_one, List.take_left' (rowOf_length _ _)]
      exact rowOf_congr (fun i hi => by rw [upd_other (by omega)])
    rw [e1] at r2
    refine row_keep r2 (fun k ek => ?_)
    obtain rfl : g = k := by simpa [Value.ownBlock] using ek
    exact set_other (Ne.symm h.ne)
  · intro j hj
    refine (h.ch j (by omega)).keep (fun e he => ?_)
    obtain ⟨-, eb, eg, -, -⟩ := h.mem e (.inr ⟨j, by omega, he⟩)
    exact q _ eb eg
  · refine (h.ch m (by omega)).keep (fun e he => ?_)
    obtain ⟨-, eb, eg, -, -⟩ := h.mem e (.inr ⟨m, by omega, he⟩)
    exact q _ eb eg
  · rintro e (he | ⟨j, hj, he⟩)
    · exact h.mem e (.inr ⟨m, by omega, he⟩)
    · exact h.mem e (.inr ⟨j, by omega, he⟩)
  · intro j hj e he
    exact far j hj _ (h.place j (by omega) e he)
  · intro j hj
    rw [List.map_append, List.nodup_append]
    refine ⟨h.key1 (by omega), h.key1 (by omega), fun x hx y hy => ?_⟩
    obtain ⟨e, he, rfl⟩ := List.mem_map.1 hx
    obtain ⟨f, hf, rfl⟩ := List.mem_map.1 hy
    intro e1
    have p1 := h.place m (by omega) e he
    have p2 := h.place j (by omega) f hf
    rw [e1] at p1
    omega
  · intro k hu hk
    rcases h.full k hu hk with ⟨e, he, _⟩ | ⟨e, he, hek⟩
    · simp at he
    · by_cases hb : bk (m + 1) k = m
      · rw [hb] at he
        exact .inl ⟨e, he, hek⟩
      · right
        have hlt := bk_lt (n := m + 1) (by omega) (by have := h.nb; omega) k
        rw [far _ (by omega) k rfl]
        exact ⟨e, he, hek⟩
/-- one bucket's chain is taken away, and there is a bucket more -/
theorem Mp.grow {X w5 : World} {g' cap : Nat} (h : Mp W L O b g c n cs [] t F) (hn : n < 249) (hX : Below W.heap.size (W.setCell ⟨g, n - pw n, none⟩ (.pointer none)) X)
    (hown : w5.ownsRow L 188 1 (.slice (some ⟨g', 0, none⟩) (n + 1) cap) (n + 1) (rowOf n (upd cs (n - pw n) []) ++ [.pointer none])) (hg : X.grownBy w5 (some g)) (hgo : g = g' ∨ W.heap.size ≤ g') :
    (w5.cell? ⟨b, 0, none⟩ = some (.slice (some ⟨g, 0, none⟩) n c) ∧ w5.frozen? ⟨b, 0, none⟩ = false) ∧
    Mp (w5.setCell ⟨b, 0, none⟩ (.slice (some ⟨g', 0, none⟩) (n + 1) cap)) L (fun k => O k ∨ k = g') b g' cap (n + 1) (upd (upd cs (n - pw n) []) n []) (cs (n - pw n)) t F ∧
    OnlyS O W (w5.setCell ⟨b, 0, none⟩ (.slice (some ⟨g', 0, none⟩) (n + 1) cap)) := by
  have h4 := h.n4
  obtain ⟨-, -, b3, b4, -⟩ := pw_is (n := n) (by omega) (by omega)
  have hpj : n - pw n < n := by omega
  have far : ∀ k, bk n k ≠ n - pw n → bk (n + 1) k = bk n k := fun k => (bk_next (n := n) (by omega) (by omega) k).2
  generalize hj0 : n - pw n = j at *
  have hs1 : (W.setCell ⟨g, j, none⟩ (.pointer none)).heap.size = W.heap.size := by simp [World.setCell]
  have hXs : W.heap.size ≤ X.heap.size := by have := hX.size; omega
  have q5 : ∀ k, k < W.heap.size → k ≠ g → w5.heap[k]? = W.heap[k]? := fun k hk hkg =>
    (hg.block k (by omega) (fun e => hkg (by simpa using e))).trans ((hX.block k hk).trans (set_other hkg))
  have hbl := (h.ol b h.o1).2
  have hb5 := q5 b hbl h.ne
  have q0 : ∀ o, w5.cell? ⟨b, o, none⟩ = W.cell? ⟨b, o, none⟩ := fun o => World.cell?_of_block (w := W) (a := ⟨b, o, none⟩) hb5
  have qf : ∀ o, w5.frozen? ⟨b, o, none⟩ = W.frozen? ⟨b, o, none⟩ := fun o => World.frozen?_of_block (w := W) (a := ⟨b, o, none⟩) hb5
  have hbg' : b ≠ g' := by
    rcases hgo with rfl | hgo
    · exact h.ne
    · omega
  have hg'l := hown.lt g' rfl
  have q : ∀ k, k < W.heap.size → k ≠ b → k ≠ g → (w5.setCell ⟨b, 0, none⟩ (.slice (some ⟨g', 0, none⟩) (n + 1) cap)).heap[k]? = W.heap[k]? := fun k hk hkb hkg => (set_other hkb).trans (q5 k hk hkg)
  have qe : ∀ i, i < n → ∀ e ∈ cs i, (w5.setCell ⟨b, 0, none⟩ (.slice (some ⟨g', 0, none⟩) (n + 1) cap)).heap[e.blk]? = W.heap[e.blk]? := fun i hi e he => by
    obtain ⟨eo, eb, eg, -, -⟩ := h.mem e (.inr ⟨i, hi, he⟩)
    exact q _ (h.ol _ eo).2 eb eg
  have hcs : ∀ i, i < n + 1 → upd (upd cs j []) n [] i = [] ∨ (i < n ∧ i ≠ j ∧ upd (upd cs j []) n [] i = cs i) := fun i hi => by
    by_cases h1 : i = n
    · left; rw [h1, upd_same]
    · rw [upd_other h1]
      by_cases h2 : i = j
      · left; rw [h2, upd_same]
      · right; exact ⟨by omega, h2, upd_other h2⟩
  have hsz5 : W.heap.size ≤ w5.heap.size := Nat.le_trans hXs hg.size
  have hme : ∀ i, i < n → ∀ e ∈ cs i, (O e.blk ∨ e.blk = g') ∧ e.blk ≠ b ∧ e.blk ≠ g' ∧ U e.key ∧ F e.key = some e.v := fun i hi e he => by
    obtain ⟨eo, eb, eg, eu, ef⟩ := h.mem e (.inr ⟨i, hi, he⟩)
    refine ⟨.inl eo, eb, fun e1 => ?_, eu, ef⟩
    rcases hgo with rfl | hgo
    · exact eg e1
    · have := (h.ol _ eo).2; omega
  refine ⟨⟨(q0 0).trans h.c0, (qf 0).trans (h.fz 0)⟩, ⟨cell_near ((q0 0).trans h.c0), (cell_far (by omega)).trans ((q0 1).trans h.c1), fun o => ?_, ?_, ?_, ?_, hbg', .inl h.o1, .inr rfl, ?_, ?_, ?_, ?_, ?_, by omega, by omega⟩, ?_⟩
  · rw [World.frozen?_setCell]; exact (qf o).trans (h.fz o)
  · rw [rowOf_succ, upd_same, rowOf_congr (cs' := upd cs j []) (fun i hi => by rw [upd_other (by omega)])]
    refine row_keep hown (fun k ek => ?_)
    obtain rfl : g' = k := by simpa [Value.ownBlock] using ek
    exact set_other (Ne.symm hbg')
  · intro i hi
    rcases hcs i hi with e1 | ⟨hi', -, e1⟩
    · rw [e1]; trivial
    · rw [e1]; exact (h.ch i hi').keep (qe i hi')
  · exact (h.ch j hpj).keep (qe j hpj)
  · rintro k (hk | rfl)
    · exact ⟨(h.ol k hk).1, by have := (h.ol k hk).2; simp only [World.size_setCell]; omega⟩
    · exact ⟨hg'l.1, by simp only [World.size_setCell]; exact hg'l.2⟩
  · rintro e (he | ⟨i, hi, he⟩)
    · exact hme j hpj e he
    · rcases hcs i hi with e1 | ⟨hi', -, e1⟩
      · rw [e1] at he; simp at he
      · rw [e1] at he; exact hme i hi' e he
  · intro i hi e he
    rcases hcs i hi with e1 | ⟨hi', hij, e1⟩
    · rw [e1] at he; simp at he
    · rw [e1] at he
      have p := h.place i hi' e he
      rw [far _ (by omega)]
      exact p
  · intro i hi
    rcases hcs i hi with e1 | ⟨hi', hij, e1⟩
    · rw [e1, List.append_nil]; exact h.key1 hpj
    · rw [e1, List.map_append, List.nodup_append]
      refine ⟨h.key1 hpj, h.key1 hi', fun x hx y hy => ?_⟩
      obtain ⟨e, he, rfl⟩ := List.mem_map.1 hx
      obtain ⟨f, hf, rfl⟩ := List.mem_map.1 hy
      intro e2
      have p1 := h.place j hpj e he
      have p2 := h.place i hi' f hf
      rw [e2] at p1
      omega
  · intro k hu hk
    rcases h.full k hu hk with ⟨e, he, _⟩ | ⟨e, he, hek⟩
    · simp at he
    · by_cases hb : bk n k = j
      · rw [hb] at he
        exact .inl ⟨e, he, hek⟩
      · right
        have hlt := bk_lt (n := n) (by omega) (by omega) k
        rw [far k hb, upd_other (by omega), upd_other hb]
        exact ⟨e, he, hek⟩
  · refine ⟨hg.os.trans hX.os, hg.tape.trans hX.tape, hg.output.trans hX.output, by simp only [World.size_setCell]; exact hsz5, fun k hk hn' => ?_⟩
    refine q k hk (fun e => hn' (by rw [e]; exact h.o1)) (fun e => hn' (by rw [e]; exact h.o2))
end Go.Proofs.YtlhhopanegnliaaGreatDoor.Bu
/- A map is asked: how many keys and buckets there are, a key's bucket, and where the pointer to its entry lies. -/
namespace Go.Proofs.YtlhhopanegnliaaGreatDoor.Bu
open Go Go.RowKit
variable {W W' : World} {L b g c n : Nat} {O : Nat → Prop} {cs : Nat → List En} {es : List En} {t : Int} {F : Int → Option Int}
abbrev wp (b : Nat) : Value := .pointer (some ⟨b, 0, none⟩)

theorem made_none (W : World) : Calls Tryz.prog 153 #[.pointer none] W fun e w' => e = .returned (.bool false) ∧ W = w' := by
  go_enter Tryz.func153, Tryz.ntmps153
  go_wp2
  go_ret
  exact ⟨rfl, rfl⟩
theorem made_cell {A : Option Addr} (hc : W.cell? ⟨b, 0, none⟩ = some (.slice A n c)) (hn : 0 < n) : Calls Tryz.prog 153 #[wp b] W fun e w' => e = .returned (.bool true) ∧ W = w' := by
  have d : decide (0 < n) = true := by simpa using hn
  go_enter Tryz.func153, Tryz.ntmps153
  go_wp2
  go_ret
  exact ⟨rfl, rfl⟩
theorem power_nat (n : Nat) (W : World) (h0 : 0 < n) (hn : n < 256) : Calls Tryz.prog 214 #[.int .i64 (n : Int)] W fun e w' => e = .returned (.int .i64 (pw n : Int)) ∧ W = w' := by
  have := power_any (n : Int) W (by omega) (by omega)
  rwa [Int.toNat_natCast] at this
theorem bucket_none (W : World) (k : Int) : Calls Tryz.prog 195 #[.pointer none, .int .u64 k] W fun e w' => e = .returned (.int .i64 0) ∧ W = w' := by
  go_enter Tryz.func195, Tryz.ntmps195
  go_wp2_with (go_at_call 153; ((with_reducible refine (made_none W).mono ?_); rintro e w' ⟨rfl, rfl⟩))
  go_ret
  exact ⟨rfl, rfl⟩
theorem bk_int {k : Int} (h0 : 0 ≤ hsh k) (h3 : pw n ≤ n) : (bk n k : Int) = if (n : Int) ≤ hsh k % (2 * (pw n : Int)) then hsh k % (2 * (pw n : Int)) - (pw n : Int) else hsh k % (2 * (pw n : Int)) := by
  unfold bk
  obtain ⟨h, hh⟩ : ∃ h : Nat, hsh k = h := ⟨(hsh k).toNat, by omega⟩
  rw [hh, Int.toNat_natCast]
  have e : (h : Int) % (2 * (pw n : Int)) = ((h % (2 * pw n) : Nat) : Int) := by push_cast; rfl
  rw [e]
  split <;> split <;> omega
theorem bucket_cell {A : Option Addr} (hc : W.cell? ⟨b, 0, none⟩ = some (.slice A n c)) (hn : 0 < n) (hn1 : n < 256) {k : Int} (hk : U k) : Calls Tryz.prog 195 #[wp b, .int .u64 k] W fun e w' => e = .returned (.int .i64 (bk n k : Int)) ∧ W = w' := by
  obtain ⟨-, -, b3, b4, b5⟩ := pw_is hn hn1
  obtain ⟨r0, r1⟩ := hsh_range k hk.1 hk.2
  have HM := Lib.hid (made_cell hc hn)
  have HP := Lib.hid (power_nat n W hn hn1)
  have HH := Lib.hid (hash_any k W hk.1 hk.2)
  have HB := Lib.hid (bk_int (n := n) (k := k) r0 b3)
  generalize bk n k = r at *
  generalize pw n = p at *
  generalize hsh k = h at *
  clear hk
  go_enter Tryz.func195, Tryz.ntmps195
  go_wp2_with (first
    | (go_at_call 153; ((with_reducible refine HM.out.mono ?_); rintro e w' ⟨rfl, rfl⟩))
    | (go_at_call 214; ((with_reducible refine HP.out.mono ?_); rintro e w' ⟨rfl, rfl⟩))
    | (go_at_call 217; ((with_reducible refine HH.out.mono ?_); rintro e w' ⟨rfl, rfl⟩)))
  all_goals
    have hx0 : 0 ≤ h % (2 * (p : Int)) := Int.emod_nonneg h (by omega)
    have hx1 : h % (2 * (p : Int)) < 2 * (p : Int) := Int.emod_lt_of_pos h (by omega)
    generalize h % (2 * (p : Int)) = x at *
    rename_i hb
    go_ret
    have e0 : wrap64 x = x := by unfold wrap64; omega
    simp only [e0] at *
    refine ⟨congrArg Ending.returned (congrArg (Value.int .i64) ?_), trivial⟩
    rw [HB.out]
  · rw [if_pos hb]; unfold wrap64; omega
  · rw [if_neg (by omega)]
theorem Mp.bucket (h : Mp W L O b g c n cs es t F) {k : Int} (hk : U k) : Calls Tryz.prog 195 #[wp b, .int .u64 k] W fun e w' => e = .returned (.int .i64 (bk n k : Int)) ∧ W = w' :=
  bucket_cell h.c0 (by have := h.n4; omega) (by have := h.nb; omega) hk
theorem Mp.made (h : Mp W L O b g c n cs es t F) : Calls Tryz.prog 153 #[wp b] W fun e w' => e = .returned (.bool true) ∧ W = w' := made_cell h.c0 (by have := h.n4; omega)
/-- jumps, with a number that falls -/
theorem least {p : Nat → Prop} (h : ∃ n, p n) : ∃ n, p n ∧ ∀ m, p m → n ≤ m := by
  obtain ⟨n, hn⟩ := h
  induction n using Nat.strongRecOn with
  | _ n ih =>
    by_cases hm : ∃ m, m < n ∧ p m
    · obtain ⟨m, h1, h2⟩ := hm
      exact ih m h1 h2
    · exact ⟨n, hn, fun m hp => by
        by_cases hl : m < n
        · exact absurd ⟨m, hl, hp⟩ hm
        · omega⟩
theorem scope_ranked {P : Program} {a : Act} {w : World} {Q : Exit → Act → World → Prop} {c rest : Code} (l : Nat) (J : Nat → Act → World → Prop) (hf : findLabel c l = some (Code.skip.seq rest))
    (first : (∀ n a w, J n a w → rest.wp P (Exit.jump l (fun a w => ∃ n, J n a w) Q) a w) → c.wp P (Exit.jump l (fun a w => ∃ n, J n a w) Q) a w)
    (pass : ∀ n a w, J n a w → rest.wp P (Exit.jump l (fun a' w' => ∃ m, m < n ∧ J m a' w') Q) a w) : (Code.scope c).wp P Q a w := by
  classical
  have hp : ∀ n a w, J n a w → rest.wp P (Exit.jump l (fun a w => ∃ n, J n a w) Q) a w := fun n a w hJ => by
    refine Code.wp_mono ?_ (pass n a w hJ)
    intro e a' w' he
    cases e with
    | goto l' =>
      obtain ⟨h1, m, -, h3⟩ := he
      exact ⟨h1, m, h3⟩
    | _ => exact he
  refine wp_scope_jumps l (fun a w => ∃ n, J n a w) (fun a w => if h : ∃ n, J n a w then Classical.choose (least h) else 0) hf (first hp) ?_
  intro a w hJ
  have hs := Classical.choose_spec (least hJ)
  refine wp_seq (wp_skip ?_)
  refine Code.wp_mono ?_ (pass _ a w hs.1)
  intro e a' w' he
  cases e with
  | goto l' =>
    obtain ⟨h1, m, h2, h3⟩ := he
    refine ⟨h1, ⟨m, h3⟩, ?_⟩
    have hs' := Classical.choose_spec (least (p := fun n => J n a' w') ⟨m, h3⟩)
    have h4 := hs'.2 m h3
    simp only [dif_pos hJ, dif_pos (show ∃ n, J n a' w' from ⟨m, h3⟩)]
    omega
  | _ => exact he

/-- where a key's entry is, or the end of its chain -/
def Found (l : List En) (k : Int) (pre post : List En) : Prop := l = pre ++ post ∧ (∀ e ∈ pre, e.key ≠ k) ∧ (post = [] ∨ ∃ e r, post = e :: r ∧ e.key = k)
def Lj (W : World) (l : List En) (b g r : Nat) (k : Int) (N : Nat) (a' : Act) (w' : World) : Prop :=
  (∃ j, w' = W.drewN j) ∧ ∃ (pre post : List En) (u6 u7 u8 u9 u10 u11 u12 u13 u14 u15 u16 u17 u18 u19 u20 u21 u22 u23 u24 u25 u26 u27 u28 u29 u30 u31 u32 u33 u34 : Value), a' = { tmps := #[wp b, .int .u64 k, undef, undef, .pointer none, .pointer (some (la g r pre)), u6, u7, u8, u9, u10, u11, u12, u13, u14, u15, u16, u17, u18, u19, u20, u21, u22, u23, u24, u25, u26, u27, u28, u29, u30, u31, u32, u33, u34], defers := [] } ∧ l = pre ++ post ∧ (∀ e ∈ pre, e.key ≠ k) ∧ post.length = N
theorem Lj.mk' {W : World} {l : List En} {b g r j x : Nat} {k : Int} {N : Nat} {u6 u7 u8 u9 u10 u11 u12 u13 u14 u15 u16 u17 u18 u19 u20 u21 u22 u23 u24 u25 u26 u27 u28 u29 u30 u31 u32 u33 u34 : Value} (pre post : List En) (e : En) (hl : l = pre ++ e :: post) (hp : ∀ e ∈ pre, e.key ≠ k) (he : e.key ≠ k) (hx : e.blk = x) (hN : post.length = N) :
    Lj W l b g r k N { tmps := #[wp b, .int .u64 k, undef, undef, .pointer none, .pointer (some ⟨x, 2, none⟩), u6, u7, u8, u9, u10, u11, u12, u13, u14, u15, u16, u17, u18, u19, u20, u21, u22, u23, u24, u25, u26, u27, u28, u29, u30, u31, u32, u33, u34], defers := [] } (W.drewN j) := by
  subst hx
  refine ⟨⟨j, rfl⟩, pre ++ [e], post, u6, u7, u8, u9, u10, u11, u12, u13, u14, u15, u16, u17, u18, u19, u20, u21, u22, u23, u24, u25, u26, u27, u28, u29, u30, u31, u32, u33, u34, by rw [la_snoc], by rw [hl, List.append_assoc]; rfl, ?_, hN⟩
  intro f hf
  rcases List.mem_append.1 hf with hf | hf
  · exact hp f hf
  · rw [List.mem_singleton.1 hf]; exact he
set_option maxHeartbeats 2000000 in
theorem Mp.links (h : Mp W L O b g c n cs [] t F) {k : Int} (hk : U k) : Calls Tryz.prog 154 #[wp b, .int .u64 k] W fun e w' => ∃ pre post, e = .returned (.pointer (some (la g (bk n k) pre))) ∧ (∃ j, w' = W.drewN j) ∧ Found (cs (bk n k)) k pre post := by
  have hr : bk n k < n := bk_lt (by have := h.n4; omega) (by have := h.nb; omega) k
  have HB := Lib.hid (fun j => (h.below (drew_below W j)).bucket hk)
  have q0 := h.c0
  have q1 := (h.cell hr).1
  have H := Lib.hid h
  have hnb := h.nb
  clear h
  generalize bk n k = r at *
  go_enter Tryz.func154, Tryz.ntmps154
  go_wp2
  refine scope_ranked 0 (Lj W (cs r) b g r k) rfl ?_ ?_
  · intro hpass
    have HP := Lib.hid hpass
    clear hpass
    go_wp2
    go_quiet ((go_at_call 195; exact Calls.quiet_of ((HB.out _).mono (by rintro e w' ⟨rfl, rfl⟩; exact ⟨rfl, 0, rfl⟩))))
    rename_i hK
    refine hK _ _ ?_
    refine wp_seq ?_
    refine wp_label ?_
    exact HP.out _ _ _ ⟨⟨_, rfl⟩, [], cs r, _, _, _, _, _, _, _, _, _, _, _, _, _, _, _, _, _, _, _, _, _, _, _, _, _, _, _, _, _, rfl, rfl, by simp, rfl⟩
  · rintro N a' w' ⟨⟨j, rfl⟩, pre, post, u6, u7, u8, u9, u10, u11, u12, u13, u14, u15, u16, u17, u18, u19, u20, u21, u22, u23, u24, u25, u26, u27, u28, u29, u30, u31, u32, u33, u34, rfl, hl, hp, hN⟩
    have HN := Lib.hid hN
    have HL := Lib.hid hl
    have HQ := Lib.hid hp
    obtain ⟨qa, -⟩ := (H.out.below (drew_below W j)).link hr hl
    clear q0 q1 HB hp hN
    have hch := H.out.ch r hr
    rw [hl] at hch
    have hcr := (hch.keep (W' := W.drewN j) (fun e _ => rfl)).right
    clear hch hl
    cases post with
    | nil =>
      have qa' : (W.drewN j).cell? (la g r pre) = some (.pointer none) := qa
      clear qa hcr
      generalize hA : la g r pre = A at qa' ⊢
      have HA := Lib.hid hA
      clear hA
      generalize hX : W.drewN j = X at qa' ⊢
      have HX := Lib.hid hX
      clear hX
      go_wp2
      simp only [Exit.jump]
      go_ret
      exact ⟨pre, [], by rw [HA.out]; rfl, ⟨j, HX.out.symm⟩, HL.out, HQ.out, .inl rfl⟩
    | cons e post =>
      have qa' : (W.drewN j).cell? (la g r pre) = some (.pointer (some ⟨e.blk, 0, none⟩)) := qa
      have qe := hcr.1.c0
      clear qa hcr
      generalize hA : la g r pre = A at qa' ⊢
      have HA := Lib.hid hA
      clear hA
      generalize hx : e.blk = x at qa' qe
      have Hx := Lib.hid hx
      clear hx
      by_cases hky : e.key = k
      · have HK := Lib.hid hky
        rw [hky] at qe
        clear hky
        generalize hX : W.drewN j = X at qa' qe ⊢
        have HX := Lib.hid hX
        clear hX
        go_wp2
        simp only [Exit.jump]
        go_ret
        exact ⟨pre, e :: post, by rw [HA.out]; rfl, ⟨j, HX.out.symm⟩, HL.out, HQ.out, .inr ⟨e, post, rfl, HK.out⟩⟩
      · have HK := Lib.hid hky
        generalize hy : e.key = y at qe hky
        have d : (y == k) = false := by simpa using hky
        generalize hX : W.drewN j = X at qa' qe ⊢
        have HX := Lib.hid hX
        clear hX hy
        go_wp2
        go_step3
        change _ ∧ ∃ m, m < N ∧ Lj W (cs r) b g r k m _ _
        have e1 := HN.out
        rw [← HX.out]
        exact ⟨rfl, post.length, by simp at e1; omega, Lj.mk' pre post e HL.out HQ.out HK.out Hx.out rfl⟩
end Go.Proofs.YtlhhopanegnliaaGreatDoor.Bu
/- A chain that is in no bucket is spread; there is a bucket less, or one more. -/
namespace Go.Proofs.YtlhhopanegnliaaGreatDoor.Bu
open Go Go.RowKit
variable {W W' : World} {L b g c n : Nat} {O : Nat → Prop} {cs : Nat → List En} {es : List En} {t : Int} {F : Int → Option Int}

theorem _root_.Go.Proofs.YtlhhopanegnliaaGreatDoor.OnlyS.chain {S T : Nat → Prop} {a b c : World} (h : OnlyS S a b) (k : OnlyS T b c) (hst : ∀ i, T i → S i ∨ a.heap.size ≤ i) : OnlyS S a c :=
  ⟨k.os.trans h.os, k.tape.trans h.tape, k.output.trans h.output, Nat.le_trans h.size k.size, fun i hi hn => (k.block i (Nat.lt_of_lt_of_le hi h.size) (fun ht => by
    rcases hst i ht with q | q
    · exact hn q
    · omega)).trans (h.block i hi hn)⟩
theorem hd_ptr (l : List En) : ∃ p, hd l = .pointer p := by cases l <;> exact ⟨_, rfl⟩
def Sj (W : World) (L : Nat) (O : Nat → Prop) (b g c n : Nat) (t : Int) (F : Int → Option Int) (N : Nat) (a' : Act) (w' : World) : Prop :=
  ∃ (cs : Nat → List En) (es : List En) (u2 u3 u4 u5 u6 u7 u8 u9 u10 u11 u12 u13 u14 u15 u16 u17 u18 u19 u20 u21 u22 u23 u24 u25 u26 u27 u28 u29 u30 u31 u32 u33 u34 u35 u36 : Value), a' = { tmps := #[wp b, hd es, u2, u3, u4, u5, u6, u7, u8, u9, u10, u11, u12, u13, u14, u15, u16, u17, u18, u19, u20, u21, u22, u23, u24, u25, u26, u27, u28, u29, u30, u31, u32, u33, u34, u35, u36], defers := [] } ∧ Mp w' L O b g c n cs es t F ∧ OnlyS O W w' ∧ es.length = N
theorem Sj.mk' {w' : World} {p : Option Addr} {u2 u3 u4 u5 u6 u7 u8 u9 u10 u11 u12 u13 u14 u15 u16 u17 u18 u19 u20 u21 u22 u23 u24 u25 u26 u27 u28 u29 u30 u31 u32 u33 u34 u35 u36 : Value} {N : Nat} (cs : Nat → List En) (es : List En) (hp : hd es = .pointer p) (h : Mp w' L O b g c n cs es t F) (ho : OnlyS O W w') (hN : es.length = N) :
    Sj W L O b g c n t F N { tmps := #[wp b, .pointer p, u2, u3, u4, u5, u6, u7, u8, u9, u10, u11, u12, u13, u14, u15, u16, u17, u18, u19, u20, u21, u22, u23, u24, u25, u26, u27, u28, u29, u30, u31, u32, u33, u34, u35, u36], defers := [] } w' := by
  rw [← hp]
  exact ⟨cs, es, u2, u3, u4, u5, u6, u7, u8, u9, u10, u11, u12, u13, u14, u15, u16, u17, u18, u19, u20, u21, u22, u23, u24, u25, u26, u27, u28, u29, u30, u31, u32, u33, u34, u35, u36, rfl, h, ho, hN⟩
set_option maxHeartbeats 2000000 in
theorem Mp.spreads (h : Mp W L O b g c n cs es t F) : Calls Tryz.prog 215 #[wp b, hd es] W fun e w' => e = .returned (.tuple #[]) ∧ (∃ cs', Mp w' L O b g c n cs' [] t F) ∧ OnlyS O W w' := by
  have H := Lib.hid h
  clear h
  go_enter Tryz.func215, Tryz.ntmps215
  refine scope_ranked 0 (Sj W L O b g c n t F) rfl ?_ ?_
  · intro hpass
    refine wp_seq ?_
    refine wp_label ?_
    exact hpass _ _ _ ⟨cs, es, _, _, _, _, _, _, _, _, _, _, _, _, _, _, _, _, _, _, _, _, _, _, _, _, _, _, _, _, _, _, _, _, _, _, _, rfl, H.out, OnlyS.refl _ _, rfl⟩
  · clear H
    rintro N a' w' ⟨cs, es, u2, u3, u4, u5, u6, u7, u8, u9, u10, u11, u12, u13, u14, u15, u16, u17, u18, u19, u20, u21, u22, u23, u24, u25, u26, u27, u28, u29, u30, u31, u32, u33, u34, u35, u36, rfl, h, ho, hN⟩
    have HN := Lib.hid hN
    have HO := Lib.hid ho
    have H := Lib.hid h
    cases es with
    | nil =>
      clear h ho hN
      rw [show hd [] = .pointer none from rfl]
      go_wp2
      simp only [Exit.jump]
      refine bodyPost_ret (results_none rfl _ _ _) rfl ?_
      exact ⟨rfl, ⟨cs, H.out⟩, HO.out⟩
    | cons e es =>
      have hn4 := h.n4
      have hnb := h.nb
      obtain ⟨eo, eb, eg, eu, ef⟩ := h.mem e (.inl (by simp))
      have hi : bk n e.key < n := bk_lt (by omega) (by omega) _
      have HB := Lib.hid (h.bucket eu)
      have q0 := h.c0
      obtain ⟨q1, q2⟩ := h.cell hi
      have q2 := q2 (bk n e.key)
      have e0 := h.che.1.c0
      have e2 := h.che.1.c2
      have e3 := h.che.1.fz 2
      have hbg := h.ne
      have HM := Lib.hid h.push
      have hO2 : OnlyS O w' ((w'.setCell ⟨e.blk, 2, none⟩ (hd (cs (bk n e.key)))).setCell ⟨g, bk n e.key, none⟩ (.pointer (some ⟨e.blk, 0, none⟩))) :=
        ((OnlyS.set e.blk 2 w' _).mono (fun k _ hk => by rw [hk]; exact eo)).trans ((OnlyS.set g _ _ _).mono (fun k _ hk => by rw [hk]; exact h.o2))
      have HO2 := Lib.hid hO2
      obtain ⟨p1, hp1⟩ := hd_ptr es
      obtain ⟨p2, hp2⟩ := hd_ptr (cs (bk n e.key))
      have HP1 := Lib.hid hp1
      rw [hp1] at e2
      rw [hp2] at q1 HM HO2
      clear h ho hN hp1 hp2 hO2 ef eo eu hn4
      generalize hcs : upd cs (bk n e.key) (e :: cs (bk n e.key)) = cs2 at HM
      clear hcs
      rw [show hd (e :: es) = .pointer (some ⟨e.blk, 0, none⟩) from rfl]
      generalize bk n e.key = i at *
      generalize e.blk = x at *
      generalize e.key = y at *
      have exb : b ≠ x := Ne.symm eb
      have exg : g ≠ x := Ne.symm eg
      have egb : g ≠ b := Ne.symm hbg
      go_wp2_with (go_at_call 195; ((with_reducible refine HB.out.mono ?_); rintro e w' ⟨rfl, rfl⟩))
      go_step3
      change _ ∧ ∃ m, m < N ∧ Sj W L O b g c n t F m _ _
      have e1 := HN.out
      exact ⟨rfl, es.length, by simp at e1; omega, Sj.mk' cs2 es HP1.out HM.out (HO.out.trans HO2.out) rfl⟩

set_option maxHeartbeats 1000000 in
theorem Mp.shrinks {m : Nat} (h : Mp W L O b g c (m + 1) cs [] t F) (hm : 4 ≤ m) : Calls Tryz.prog 220 #[wp b] W fun e w' => e = .returned (.tuple #[]) ∧ (∃ cs', Mp w' L O b g c m cs' [] t F) ∧ OnlyS O W w' := by
  have hnb := h.nb
  have hbg := h.ne
  have egb := Ne.symm hbg
  have q0 := h.c0
  have q3 := h.fz 0
  obtain ⟨q1, q2⟩ := h.cell (j := m) (by omega)
  have q2 := q2 m
  have hM := h.shrink hm
  have hO : OnlyS O W ((W.setCell ⟨g, m, none⟩ (.pointer none)).setCell ⟨b, 0, none⟩ (.slice (some ⟨g, 0, none⟩) m c)) :=
    ((OnlyS.set g m W _).mono (fun k _ hk => by rw [hk]; exact h.o2)).trans ((OnlyS.set b 0 _ _).mono (fun k _ hk => by rw [hk]; exact h.o1))
  have HO := Lib.hid hO
  have HS := Lib.hid hM.spreads
  have hcap : m + 1 ≤ c := by
    rcases h.row.2 with ⟨h0, _⟩ | ⟨g', cap', cur, e', _, _, h1, h2, h3, h4⟩
    · cases h0
    · cases e'; omega
  obtain ⟨p, hp⟩ := hd_ptr (cs m)
  rw [hp] at q1 HS
  clear h hM hO hp
  go_enter Tryz.func220, Tryz.ntmps220
  go_wp2_with (go_at_call 215; ((with_reducible refine HS.out.mono ?_); rintro e w' ⟨rfl, hc, ho⟩))
  go_end0
  exact ⟨rfl, hc, HO.out.trans ho⟩
theorem info44 : (Tryz.prog.info? 188).map (fun i => (i.zero, i.size, i.bytes)) = some (some (.pointer none), 1, 8) := by kernel_rfl
theorem new_ptr (W : World) : ∀ j u, ([.pointer none] : List Value)[j]? = some u → (W.alloc (.cells #[.pointer none] 188)).cell? ((⟨W.heap.size, 0, none⟩ : Addr).add j) = some u := by
  intro j u hj
  rw [add_at]
  match j, hj with
  | 0, hj => simp at hj; subst hj; simp [go_sem]
theorem one_ptr : ∀ u ∈ ([.pointer none] : List Value), u.oneCell' = true := by
  intro u hu
  simp at hu
  subst hu
  rfl
set_option maxHeartbeats 1000000 in
theorem Mp.grows (h : Mp W L O b g c n cs [] t F) (hn : n < 249) : Calls Tryz.prog 192 #[wp b] W fun e w' => e = .returned (.tuple #[]) ∧ (∃ O' g' c' cs', Mp w' L O' b g' c' (n + 1) cs' [] t F ∧ ∀ k, O' k → O k ∨ W.heap.size ≤ k) ∧ OnlyS O W w' := by
  have hn4 := h.n4
  have hbg := h.ne
  have egb := Ne.symm hbg
  have hbl := (h.ol b h.o1).2
  have hbL := (h.ol b h.o1).1
  have hgl := (h.ol g h.o2).2
  have ho2 := h.o2
  have q0 := h.c0
  obtain ⟨-, -, b3, b4, -⟩ := pw_is (n := n) (by omega) (by omega)
  obtain ⟨q1, q2⟩ := h.cell (j := n - pw n) (by omega)
  have q2 := q2 (n - pw n)
  have HP := Lib.hid (power_nat n W (by omega) (by omega))
  have HG := Lib.hid (fun X w5 g' cap => Mp.grow (X := X) (w5 := w5) (g' := g') (cap := cap) h hn)
  have HR := Lib.hid (row_store h.row (n - pw n) (hd []))
  rw [rowOf_set, show hd [] = .pointer none from rfl] at HR
  obtain ⟨p, hp⟩ := hd_ptr (cs (n - pw n))
  have HH := Lib.hid hp
  rw [hp] at q1
  obtain ⟨j, hj⟩ : ∃ j, n - pw n = j := ⟨_, rfl⟩
  rw [hj] at q1 q2 HG HR HH
  have hj1 : (n : Int) - (pw n : Int) = (j : Int) := by omega
  have hjn : j < n := by omega
  generalize pw n = P at *
  obtain ⟨i0, hi, hz0, hz1, hz2⟩ := info_parts info44
  clear h hp hj
  go_enter Tryz.func192, Tryz.ntmps192
  go_wp2_with (first
    | (go_at_call 214; ((with_reducible refine HP.out.mono ?_); rintro e w' ⟨rfl, rfl⟩))
    | (at_builtin; refine wpList_append_lies _ rfl _ _ 119 rfl L 188 i0 (.pointer none) 1 8 Tryz.underlying119 hi hz0 hz1 hz2 rfl (by decide) (.slice (some ⟨g, 0, none⟩) n c) n (rowOf n (upd cs j [])) rfl ?a0 ⟨W.heap.size, 0, none⟩ 1 1 [.pointer none] rfl rfl ?a1 one_ptr (by decide) (by unfold maxLen; omega) (by omega) ?a2 (W.heap.size + 1) (by simp) ?_))
  case a0 => exact HR.out.alloc _
  case a1 =>
    have e : W.heap.size = (W.setCell ⟨g, j, none⟩ (.pointer none)).heap.size := by simp [World.setCell]
    rw [e]
    exact new_ptr _
  case a2 => simp [World.setCell]; omega
  intro g' cap w5 hown hgrow hgo hglt
  have hgo' : g = g' ∨ W.heap.size ≤ g' := hgo.imp (fun e => by simpa [Value.ownBlock] using e) (fun e => by omega)
  have hX : Below W.heap.size (W.setCell ⟨g, j, none⟩ (.pointer none)) ((W.setCell ⟨g, j, none⟩ (.pointer none)).alloc (.cells #[.pointer none] 188)) := by
    have := box_below (W.setCell ⟨g, j, none⟩ (.pointer none)) (.cells #[.pointer none] 188)
    simpa [World.setCell] using this
  obtain ⟨⟨r1, r2⟩, hM, hO⟩ := HG.out _ w5 g' cap hX hown hgrow hgo'
  have HM := Lib.hid hM.spreads
  rw [HH.out] at HM
  have HO := Lib.hid hO
  have HGO := Lib.hid hgo'
  clear hM hO hX hown hgrow hgo hgo' HG HR HH q0 q1 q2 HP
  go_wp2_with (go_at_call 215; ((with_reducible refine HM.out.mono ?_); rintro e w' ⟨rfl, ⟨cs', hc⟩, ho⟩))
  go_end0
  have hk : ∀ k, (O k ∨ k = g') → O k ∨ W.heap.size ≤ k := by
    rintro k (hk | rfl)
    · exact .inl hk
    · rcases HGO.out with rfl | hg
      · exact .inl ho2
      · exact .inr hg
  exact ⟨rfl, ⟨_, g', cap, cs', hc, hk⟩, HO.out.chain ho hk⟩
end Go.Proofs.YtlhhopanegnliaaGreatDoor.Bu
/- A map is made; what a key has is told; a key is put, and dropped. -/
namespace Go.Proofs.YtlhhopanegnliaaGreatDoor.Bu
open Go Go.RowKit
variable {W W' : World} {L b g c n : Nat} {O : Nat → Prop} {cs : Nat → List En} {es : List En} {t : Int} {F : Int → Option Int}

/-- a map with so many buckets, so many keys as are counted, and these numbers by keys -/
def Mq (W : World) (L : Nat) (O : Nat → Prop) (b n : Nat) (t : Int) (F : Int → Option Int) : Prop := ∃ g c cs, Mp W L O b g c n cs [] t F
/-- what a call that may change this map alone leaves -/
def Does (W : World) (L : Nat) (O : Nat → Prop) (b : Nat) (v : Value) (n : Nat) (t : Int) (F : Int → Option Int) (e : Ending) (w' : World) : Prop :=
  ∃ O', e = .returned v ∧ Mq w' L O' b n t F ∧ OnlyS O W w' ∧ ∀ k, O' k → O k ∨ W.heap.size ≤ k
def putF (F : Int → Option Int) (k : Int) (x : Option Int) : Int → Option Int := fun i => if i = k then x else F i

theorem Mp.none_is (h : Mp W L O b g c n cs [] t F) {k : Int} (hk : U k) {pre : List En} (hf : Found (cs (bk n k)) k pre []) : F k = none := by
  cases hF : F k with
  | none => rfl
  | some x =>
    rcases h.full k hk (by rw [hF]; simp) with ⟨e, he, _⟩ | ⟨e, he, hek⟩
    · simp at he
    · rw [hf.1, List.append_nil] at he
      exact absurd hek (hf.2.1 e he)
theorem Mp.some_is (h : Mp W L O b g c n cs [] t F) {k : Int} {pre post : List En} {e : En} (hf : Found (cs (bk n k)) k pre (e :: post)) : e.key = k ∧ F k = some e.v := by
  have hn := bk_lt (n := n) (by have := h.n4; omega) (by have := h.nb; omega) k
  rcases hf.2.2 with h0 | ⟨e', r, h1, h2⟩
  · cases h0
  · cases h1
    have := (h.mem e (.inr ⟨_, hn, by rw [hf.1]; simp⟩)).2.2.2.2
    rw [h2] at this
    exact ⟨h2, this⟩
theorem Mp.puts (h : Mp W L O b g c n cs [] t F) {k : Int} (hk : U k) (v : Int) {pre : List En} (hf : Found (cs (bk n k)) k pre []) :
    Mp ((W.alloc (.cells #[.int .u64 k, .int .i64 v, .pointer none] 194)).setCell (la g (bk n k) pre) (.pointer (some ⟨W.heap.size, 0, none⟩))) L (fun i => O i ∨ i = W.heap.size) b g c n (upd cs (bk n k) (pre ++ [⟨k, v, W.heap.size⟩])) [] t (putF F k (some v)) := by
  have hn : bk n k < n := bk_lt (by have := h.n4; omega) (by have := h.nb; omega) k
  have hF := h.none_is hk hf
  have hl := h.ol
  have hs : (W.alloc (.cells #[.int .u64 k, .int .i64 v, .pointer none] 194)).heap.size = W.heap.size + 1 := by simp
  have h1 : Mp (W.alloc (.cells #[.int .u64 k, .int .i64 v, .pointer none] 194)) L (fun i => O i ∨ i = W.heap.size) b g c n cs [] t F :=
    (h.below (box_below _ _)).more (fun i hi => .inl hi) (fun i hi => by
      rcases hi with hi | rfl
      · exact ⟨(hl i hi).1, by rw [hs]; have := (hl i hi).2; omega⟩
      · exact ⟨by have := hl b h.o1; omega, by rw [hs]; omega⟩)
  have hcs : cs (bk n k) = pre ++ [] := hf.1
  refine h1.turn hn hcs (putF F k (some v)) (post' := [⟨k, v, W.heap.size⟩]) ⟨⟨?_, ?_, ?_, ?_⟩, trivial⟩ ?_ ?_ ?_ ?_
  · simp [go_sem]
  · simp [go_sem]
  · simp [go_sem, hd]
  · intro o; simp [go_sem]
  · intro e he
    obtain rfl := List.mem_singleton.1 he
    refine ⟨.inr rfl, ?_, ?_, hk, by simp [putF], rfl⟩
    · have := (hl b h.o1).2; simp only; omega
    · have := (hl g h.o2).2; simp only; omega
  · rintro e (he | ⟨i, hi, hij, he⟩)
    · simp [putF, hf.2.1 e he]
    · have hp := h.place i hi e he
      have : e.key ≠ k := fun e1 => hij (by rw [e1] at hp; exact hp.symm)
      simp [putF, this]
  · rw [List.map_append, List.nodup_append]
    have hk1 := h.key1 hn
    rw [hcs, List.append_nil] at hk1
    refine ⟨hk1, by simp, fun x hx y hy => ?_⟩
    obtain ⟨e, he, rfl⟩ := List.mem_map.1 hx
    simp at hy
    subst hy
    exact hf.2.1 e he
  · intro i hu hi
    by_cases hik : i = k
    · subst hik
      exact ⟨⟨i, v, W.heap.size⟩, by rw [upd_same]; simp, rfl⟩
    · simp only [putF, if_neg hik] at hi
      rcases h.full i hu hi with ⟨e, he, _⟩ | ⟨e, he, hek⟩
      · simp at he
      · refine ⟨e, ?_, hek⟩
        by_cases hb : bk n i = bk n k
        · rw [hb] at he ⊢
          rw [upd_same]
          rw [hcs, List.append_nil] at he
          simp [he]
        · rw [upd_other hb]
          exact he
theorem Mp.drops (h : Mp W L O b g c n cs [] t F) {k : Int} {pre post : List En} {e : En} (hf : Found (cs (bk n k)) k pre (e :: post)) :
    Mp (W.setCell (la g (bk n k) pre) (hd post)) L O b g c n (upd cs (bk n k) (pre ++ post)) [] t (putF F k none) := by
  have hn : bk n k < n := bk_lt (by have := h.n4; omega) (by have := h.nb; omega) k
  obtain ⟨hek, -⟩ := h.some_is hf
  have hcs : cs (bk n k) = pre ++ e :: post := hf.1
  have hk1 := h.key1 hn
  rw [hcs] at hk1
  obtain ⟨k1, k2⟩ := nodup_mid hk1
  rw [hek] at k1 k2
  have hch := h.ch _ hn
  rw [hcs] at hch
  refine h.turn hn hcs (putF F k none) (post' := post) hch.right.2 ?_ ?_ ?_ ?_
  · intro f hf'
    have hm : f ∈ cs (bk n k) := by rw [hcs]; simp [hf']
    obtain ⟨q1, q2, q3, q4, q5⟩ := h.mem f (.inr ⟨_, hn, hm⟩)
    exact ⟨q1, q2, q3, q4, by simp only [putF, if_neg (k2 f hf')]; exact q5, h.place _ hn f hm⟩
  · rintro f (hf' | ⟨i, hi, hij, hf'⟩)
    · simp [putF, k1 f hf']
    · have hp := h.place i hi f hf'
      have : f.key ≠ k := fun e1 => hij (by rw [e1] at hp; exact hp.symm)
      simp [putF, this]
  · exact hk1.sublist ((List.Sublist.append_left (List.sublist_cons_self e post) pre).map _)
  · intro i hu hi
    by_cases hik : i = k
    · simp [putF, hik] at hi
    · simp only [putF, if_neg hik] at hi
      rcases h.full i hu hi with ⟨f, hf', _⟩ | ⟨f, hf', hfk⟩
      · simp at hf'
      · refine ⟨f, ?_, hfk⟩
        by_cases hb : bk n i = bk n k
        · rw [hb] at hf' ⊢
          rw [upd_same]
          rw [hcs] at hf'
          rcases List.mem_append.1 hf' with hf' | hf'
          · simp [hf']
          · rcases List.mem_cons.1 hf' with rfl | hf'
            · exact absurd (hfk.symm.trans hek) hik
            · simp [hf']
        · rw [upd_other hb]
          exact hf'
theorem get_none (W : World) (k : Int) : Calls Tryz.prog 113 #[.pointer none, .int .u64 k] W fun e w' => e = .returned (.tuple #[.int .i64 0, .bool false]) ∧ W = w' := by
  go_enter Tryz.func113, Tryz.ntmps113
  go_wp2_with (go_at_call 153; ((with_reducible refine (made_none W).mono ?_); rintro e w' ⟨rfl, rfl⟩))
  go_ret2
  exact ⟨rfl, rfl⟩
theorem put_none (W : World) (k v : Int) : Calls Tryz.prog 148 #[.pointer none, .int .u64 k, .int .i64 v] W fun e w' => e = .returned (.bool false) ∧ W = w' := by
  go_enter Tryz.func148, Tryz.ntmps148
  go_wp2_with (go_at_call 153; ((with_reducible refine (made_none W).mono ?_); rintro e w' ⟨rfl, rfl⟩))
  go_ret
  exact ⟨rfl, rfl⟩
theorem drop_none (W : World) (k : Int) : Calls Tryz.prog 206 #[.pointer none, .int .u64 k] W fun e w' => e = .returned (.bool false) ∧ W = w' := by
  go_enter Tryz.func206, Tryz.ntmps206
  go_wp2_with (go_at_call 153; ((with_reducible refine (made_none W).mono ?_); rintro e w' ⟨rfl, rfl⟩))
  go_ret
  exact ⟨rfl, rfl⟩
/-- what Get tells -/
def gotV (x : Option Int) : Value := .tuple #[.int .i64 (x.getD 0), .bool x.isSome]
set_option maxHeartbeats 1000000 in
theorem Mp.get (h : Mp W L O b g c n cs [] t F) {k : Int} (hk : U k) : Calls Tryz.prog 113 #[wp b, .int .u64 k] W fun e w' => e = .returned (gotV (F k)) ∧ ∃ j, w' = W.drewN j := by
  have HM := Lib.hid h.made
  have HL := Lib.hid (h.links hk)
  have H := Lib.hid h
  clear h
  go_enter Tryz.func113, Tryz.ntmps113
  go_wp2_with (first
    | (go_at_call 153; ((with_reducible refine HM.out.mono ?_); rintro e w' ⟨rfl, rfl⟩))
    | fail)
  refine HL.out.mono ?_
  rintro e w' ⟨pre, post, rfl, ⟨j, rfl⟩, hf⟩
  have hr : bk n k < n := bk_lt (by have := H.out.n4; omega) (by have := H.out.nb; omega) k
  have hX := H.out.below (drew_below W j)
  have q := (hX.link hr hf.1).1
  cases post with
  | nil =>
    have q' : (W.drewN j).cell? (la g (bk n k) pre) = some (.pointer none) := q
    have HF := Lib.hid (H.out.none_is hk hf)
    clear q hX hf
    generalize la g (bk n k) pre = A at *
    generalize hXX : W.drewN j = X at q' ⊢
    go_wp2
    go_ret2
    rw [HF.out]
    exact ⟨rfl, j, hXX.symm⟩
  | cons e post =>
    have q' : (W.drewN j).cell? (la g (bk n k) pre) = some (.pointer (some ⟨e.blk, 0, none⟩)) := q
    have HF := Lib.hid (H.out.some_is hf).2
    have hch := hX.ch _ hr
    rw [hf.1] at hch
    have q1 := hch.right.1.c1
    clear q hX hf hch
    generalize la g (bk n k) pre = A at *
    generalize e.blk = x at *
    generalize e.v = y at *
    generalize hXX : W.drewN j = X at q' q1 ⊢
    go_wp2
    go_ret2
    rw [HF.out]
    exact ⟨rfl, j, hXX.symm⟩
@[go_sem] theorem mk4 (w : World) : (Instr.makeSlice 119 (.int .i64 4) (.int .i64 4)).run Tryz.prog w = .ok (.slice (some ⟨w.heap.size, 0, none⟩) 4 4) (w.alloc (.cells #[.pointer none, .pointer none, .pointer none, .pointer none] 188)) := by kernel_rfl
theorem new_any (W : World) : Calls Tryz.prog 27 #[] W fun e w' => e = .returned (wp (W.heap.size + 1)) ∧ Mq w' W.heap.size (fun k => W.heap.size ≤ k ∧ k < w'.heap.size) (W.heap.size + 1) 4 0 (fun _ => none) ∧ Below W.heap.size W w' := by
  go_enter Tryz.func27, Tryz.ntmps27
  go_wp2
  go_ret
  have hh : ∀ B : Obj, ((W.alloc (.cells #[.pointer none, .pointer none, .pointer none, .pointer none] 188)).alloc B).heap[W.heap.size]? = some (.cells #[.pointer none, .pointer none, .pointer none, .pointer none] 188) := fun B => by
    have h1 := heap_alloc_new W (.cells #[.pointer none, .pointer none, .pointer none, .pointer none] 188)
    have h2 := (box_below (W.alloc (.cells #[.pointer none, .pointer none, .pointer none, .pointer none] 188)) B).block W.heap.size (by simp)
    rw [h2, h1]
  refine ⟨rfl, ⟨W.heap.size, 4, fun _ => [], ⟨?_, ?_, ?_, ⟨rfl, .inr ⟨W.heap.size, 4, _, rfl, Nat.le_refl _, hh _, Nat.le_refl _, by decide, rfl, rfl⟩⟩, fun _ _ => trivial, trivial, by omega, ?_, ?_, fun k hk => hk, ?_, ?_, fun _ _ => by simp, fun k _ hk => absurd rfl hk, by omega, by omega⟩⟩, ((Below.refl _ _).alloc (Nat.le_refl _) _).alloc (by simp) _⟩
  · simp [go_sem]
  · simp [go_sem]
  · intro o; simp [go_sem]
  · simp
  · simp; omega
  · rintro e (he | ⟨j, _, he⟩) <;> simp at he
  · intro j _ e he; simp at he
theorem Mq.made_lt (h : Mq W L O b n t F) {k : Nat} (hk : O k) : L ≤ k ∧ k < W.heap.size := by
  obtain ⟨g, c, cs, h⟩ := h
  exact h.ol k hk
theorem Does.of {g' c' : Nat} {cs' : Nat → List En} {O' : Nat → Prop} {w' : World} {v : Value} (h : Mp w' L O' b g' c' n cs' [] t F) (ho : OnlyS O W w') (hk : ∀ k, O' k → O k ∨ W.heap.size ≤ k) : Does W L O b v n t F (.returned v) w' :=
  ⟨O', rfl, ⟨g', c', cs', h⟩, ho, hk⟩
theorem only_la {k : Nat} {o : Nat} {u : Value} {A : Addr} (hA : A = ⟨k, o, none⟩) (hk : O k) : OnlyS O W (W.setCell A u) := by
  subst hA
  exact (OnlyS.set k o W u).mono (fun i _ hi => by rw [hi]; exact hk)
set_option maxHeartbeats 2000000 in
theorem Mp.put_old (h : Mp W L O b g c n cs [] t F) {k : Int} (hk : U k) (v : Int) (hF : F k ≠ none) :
    Calls Tryz.prog 148 #[wp b, .int .u64 k, .int .i64 v] W (Does W L O b (.bool false) n t (putF F k (some v))) := by
  have HM := Lib.hid h.made
  have HL := Lib.hid (h.links hk)
  have H := Lib.hid h
  have HF := Lib.hid hF
  clear h hF
  go_enter Tryz.func148, Tryz.ntmps148
  go_wp2_with (first
    | (go_at_call 153; ((with_reducible refine HM.out.mono ?_); rintro e w' ⟨rfl, rfl⟩))
    | fail)
  refine HL.out.mono ?_
  rintro e w' ⟨pre, post, rfl, ⟨j, rfl⟩, hf⟩
  have hr : bk n k < n := bk_lt (by have := H.out.n4; omega) (by have := H.out.nb; omega) k
  have hX := H.out.below (drew_below W j)
  have q := (hX.link hr hf.1).1
  cases post with
  | nil => exact absurd (H.out.none_is hk hf) HF.out
  | cons e post =>
    have q' : (W.drewN j).cell? (la g (bk n k) pre) = some (.pointer (some ⟨e.blk, 0, none⟩)) := q
    obtain ⟨hek, -⟩ := H.out.some_is hf
    have hch := hX.ch _ hr
    rw [hf.1] at hch
    have q1 := hch.right.1.c1
    have q2 := hch.right.1.fz 1
    have hV := hX.value hr hf.1 v
    have he := (H.out.mem e (.inr ⟨_, hr, by rw [hf.1]; simp⟩)).1
    have HD : Does W L O b (.bool false) n t (putF F k (some v)) (.returned (.bool false)) ((W.drewN j).setCell ⟨e.blk, 1, none⟩ (.int .i64 v)) := by
      rw [hek] at hV
      refine Does.of hV ?_ (fun k hk => .inl hk)
      exact ((OnlyS.refl O W).drewN j).trans ((OnlyS.set e.blk 1 _ _).mono (fun i _ hi => by rw [hi]; exact he))
    have HDD := Lib.hid HD
    clear HD hV q hX hf hch hek he
    generalize la g (bk n k) pre = A at *
    generalize e.blk = x at *
    generalize e.v = y at *
    generalize hXX : W.drewN j = X at q' q1 q2 HDD ⊢
    go_wp2
    go_ret
    exact HDD.out
set_option maxHeartbeats 2000000 in
theorem Mp.put_new (h : Mp W L O b g c n cs [] t F) {k : Int} (hk : U k) (v : Int) (hF : F k = none) (ht0 : -1000 ≤ t) (ht1 : t ≤ 2 * (n : Int)) (hn : n < 249) :
    Calls Tryz.prog 148 #[wp b, .int .u64 k, .int .i64 v] W (Does W L O b (.bool true) (if 2 * (n : Int) < t + 1 then n + 1 else n) (t + 1) (putF F k (some v))) := by
  have HM := Lib.hid h.made
  have HL := Lib.hid (h.links hk)
  have H := Lib.hid h
  have HF := Lib.hid hF
  obtain ⟨n', hn'⟩ : ∃ n', (if 2 * (n : Int) < t + 1 then n + 1 else n) = n' := ⟨_, rfl⟩
  rw [hn']
  have HN := Lib.hid hn'
  clear h hF hn'
  go_enter Tryz.func148, Tryz.ntmps148
  go_wp2_with (first
    | (go_at_call 153; ((with_reducible refine HM.out.mono ?_); rintro e w' ⟨rfl, rfl⟩))
    | fail)
  refine HL.out.mono ?_
  rintro e w' ⟨pre, post, rfl, ⟨j, rfl⟩, hf⟩
  have hr : bk n k < n := bk_lt (by have := H.out.n4; omega) (by have := H.out.nb; omega) k
  have hX := H.out.below (drew_below W j)
  have q := (hX.link hr hf.1).1
  cases post with
  | cons e post =>
    have := (H.out.some_is hf).2
    rw [HF.out] at this
    cases this
  | nil =>
    have q' : ((W.drewN j).alloc (.cells #[.int .u64 k, .int .i64 v, .pointer none] 194)).cell? (la g (bk n k) pre) = some (.pointer none) := ((hX.below (box_below _ _)).link hr hf.1).1
    have q2 := ((hX.below (box_below (W.drewN j) (.cells #[.int .u64 k, .int .i64 v, .pointer none] 194))).link hr hf.1).2
    have q0 : (W.drewN j).cell? (la g (bk n k) pre) = some (.pointer none) := q
    have hP := hX.puts hk v hf
    obtain ⟨kk, oo, hla, hkO⟩ := hX.la_own hr hf.1
    have hO : OnlyS O W (((W.drewN j).alloc (.cells #[.int .u64 k, .int .i64 v, .pointer none] 194)).setCell (la g (bk n k) pre) (.pointer (some ⟨(W.drewN j).heap.size, 0, none⟩))) :=
      (((OnlyS.refl O W).drewN j).alloc _).trans (only_la hla hkO)
    have HP := Lib.hid hP
    have HO := Lib.hid hO
    clear q hX hP hf hO hla
    generalize hcs : upd cs (bk n k) (pre ++ [⟨k, v, (W.drewN j).heap.size⟩]) = cs2 at HP
    clear hcs
    generalize la g (bk n k) pre = A at *
    have HXs := Lib.hid (show (W.drewN j).heap.size = W.heap.size from rfl)
    generalize hXX : W.drewN j = X at q' q2 q0 HP HO HXs ⊢
    have HXX := Lib.hid hXX
    clear hXX
    have r0 := HP.out.c1
    have r1 := HP.out.fz 1
    have s0 := (HP.out.count (t + 1)).c0
    have s1 := (HP.out.count (t + 1)).c1
    have HQ := Lib.hid (HP.out.count (t + 1))
    have HK : Hid (∀ i, (O i ∨ i = X.heap.size) → O i ∨ W.heap.size ≤ i) := Lib.hid (fun i hi => hi.imp id (fun e => by have := HXs.out; omega))
    have HO5 : Hid (OnlyS O W (((X.alloc (.cells #[.int .u64 k, .int .i64 v, .pointer none] 194)).setCell A (.pointer (some ⟨X.heap.size, 0, none⟩))).setCell ⟨b, 1, none⟩ (.int .i64 (t + 1)))) :=
      Lib.hid (HO.out.trans ((OnlyS.set b 1 _ _).mono (fun i _ hi => by rw [hi]; exact H.out.o1)))
    go_wp2
    go_quiet (fail)
    by_cases hc : 2 * (n : Int) < t + 1
    · have hn' := HN.out
      rw [if_pos hc] at hn'
      subst hn'
      go_wp2_with fail
      refine ((HQ.out.below (drew_below _ nq)).grows hn).mono ?_
      rintro e w2 ⟨rfl, ⟨O2, g2, c2, cs3, h3, hk3⟩, ho3⟩
      go_wp2_with fail
      go_ret
      have h5 := HO5.out.drewN nq
      refine Does.of h3 (h5.chain ho3 HK.out) (fun i hi => ?_)
      rcases hk3 i hi with h6 | h6
      · exact HK.out i h6
      · exact .inr (Nat.le_trans h5.size h6)
    · have hn' := HN.out
      rw [if_neg hc] at hn'
      subst hn'
      go_wp2
      go_ret
      exact Does.of (HQ.out.below (drew_below _ nq)) (HO5.out.drewN nq) HK.out
end Go.Proofs.YtlhhopanegnliaaGreatDoor.Bu
/- A key is dropped. -/
namespace Go.Proofs.YtlhhopanegnliaaGreatDoor.Bu
open Go Go.RowKit
variable {W W' : World} {L b g c n : Nat} {O : Nat → Prop} {cs : Nat → List En} {es : List En} {t : Int} {F : Int → Option Int}

/-- how many buckets there are behind a drop -/
def lessN (n : Nat) (t : Int) : Nat := if 4 < n ∧ t < ((n / 2 : Nat) : Int) then n - 1 else n
theorem Mp.shrinks' (h : Mp W L O b g c n cs [] t F) (hn : 4 < n) : Calls Tryz.prog 220 #[wp b] W fun e w' => e = .returned (.tuple #[]) ∧ (∃ cs', Mp w' L O b g c (n - 1) cs' [] t F) ∧ OnlyS O W w' := by
  obtain ⟨m, rfl⟩ : ∃ m, n = m + 1 := ⟨n - 1, by omega⟩
  exact h.shrinks (by omega)
set_option maxHeartbeats 2000000 in
theorem Mp.drop_old (h : Mp W L O b g c n cs [] t F) {k : Int} (hk : U k) (hF : F k ≠ none) (ht0 : -1000 ≤ t) (ht1 : t ≤ 1000) :
    Calls Tryz.prog 206 #[wp b, .int .u64 k] W (Does W L O b (.bool true) (lessN n (t - 1)) (t - 1) (putF F k none)) := by
  have HM := Lib.hid h.made
  have HL := Lib.hid (h.links hk)
  have H := Lib.hid h
  have HF := Lib.hid hF
  have hnb := h.nb
  obtain ⟨n', hn'⟩ : ∃ n', lessN n (t - 1) = n' := ⟨_, rfl⟩
  rw [hn']
  unfold lessN at hn'
  have HN := Lib.hid hn'
  clear h hF hn'
  go_enter Tryz.func206, Tryz.ntmps206
  go_wp2_with (first
    | (go_at_call 153; ((with_reducible refine HM.out.mono ?_); rintro e w' ⟨rfl, rfl⟩))
    | fail)
  refine HL.out.mono ?_
  rintro e w' ⟨pre, post, rfl, ⟨j, rfl⟩, hf⟩
  have hr : bk n k < n := bk_lt (by have := H.out.n4; omega) (by have := H.out.nb; omega) k
  have hX := H.out.below (drew_below W j)
  have q := (hX.link hr hf.1).1
  have q2 := (hX.link hr hf.1).2
  cases post with
  | nil => exact absurd (H.out.none_is hk hf) HF.out
  | cons e post =>
    have q' : (W.drewN j).cell? (la g (bk n k) pre) = some (.pointer (some ⟨e.blk, 0, none⟩)) := q
    have hch := hX.ch _ hr
    rw [hf.1] at hch
    have q1 := hch.right.1.c2
    have hD := hX.drops hf
    obtain ⟨kk, oo, hla, hkO⟩ := hX.la_own hr hf.1
    have hO : OnlyS O W ((W.drewN j).setCell (la g (bk n k) pre) (hd post)) := ((OnlyS.refl O W).drewN j).trans (only_la hla hkO)
    obtain ⟨p, hp⟩ := hd_ptr post
    rw [hp] at hD hO q1
    have HP := Lib.hid hD
    have HO := Lib.hid hO
    clear q hX hD hf hO hla hch hp
    generalize hcs : upd cs (bk n k) (pre ++ post) = cs2 at HP
    clear hcs
    generalize la g (bk n k) pre = A at *
    generalize e.blk = x at *
    generalize hXX : W.drewN j = X at q' q1 q2 HP HO ⊢
    clear hXX
    have r0 := HP.out.c1
    have r1 := HP.out.fz 1
    have s0 := (HP.out.count (t - 1)).c0
    have s1 := (HP.out.count (t - 1)).c1
    have HQ := Lib.hid (HP.out.count (t - 1))
    have HO5 : Hid (OnlyS O W ((X.setCell A (.pointer p)).setCell ⟨b, 1, none⟩ (.int .i64 (t - 1)))) :=
      Lib.hid (HO.out.trans ((OnlyS.set b 1 _ _).mono (fun i _ hi => by rw [hi]; exact H.out.o1)))
    by_cases h4 : 4 < n
    · by_cases hc : t - 1 < ((n / 2 : Nat) : Int)
      · have hn' := HN.out
        rw [if_pos ⟨h4, hc⟩] at hn'
        subst hn'
        have d1 : decide (4 < n) = true := by simpa using h4
        have d2 : decide (t - 1 < (n : Int) / 2) = true := by simp; omega
        go_wp2_with fail
        refine (HQ.out.shrinks' h4).mono ?_
        rintro e w2 ⟨rfl, ⟨cs3, h3⟩, ho3⟩
        go_wp2_with fail
        go_ret
        exact Does.of h3 (HO5.out.trans ho3) (fun i hi => .inl hi)
      · have hn' := HN.out
        rw [if_neg (fun h => hc h.2)] at hn'
        subst hn'
        have d1 : decide (4 < n) = true := by simpa using h4
        have d2 : decide (t - 1 < (n : Int) / 2) = false := by simp; omega
        go_wp2_with fail
        go_ret
        exact Does.of HQ.out HO5.out (fun i hi => .inl hi)
    · have hn' := HN.out
      rw [if_neg (fun h => h4 h.1)] at hn'
      subst hn'
      have d1 : decide (4 < n) = false := by simpa using h4
      go_wp2_with fail
      go_ret
      exact Does.of HQ.out HO5.out (fun i hi => .inl hi)
set_option maxHeartbeats 2000000 in
theorem Mp.drop_new (h : Mp W L O b g c n cs [] t F) {k : Int} (hk : U k) (hF : F k = none) (ht0 : -1000 ≤ t) (ht1 : t ≤ 1000) :
    Calls Tryz.prog 206 #[wp b, .int .u64 k] W (Does W L O b (.bool false) (lessN n t) t F) := by
  have HM := Lib.hid h.made
  have HL := Lib.hid (h.links hk)
  have H := Lib.hid h
  have HF := Lib.hid hF
  have hnb := h.nb
  obtain ⟨n', hn'⟩ : ∃ n', lessN n t = n' := ⟨_, rfl⟩
  rw [hn']
  unfold lessN at hn'
  have HN := Lib.hid hn'
  clear h hF hn'
  go_enter Tryz.func206, Tryz.ntmps206
  go_wp2_with (first
    | (go_at_call 153; ((with_reducible refine HM.out.mono ?_); rintro e w' ⟨rfl, rfl⟩))
    | fail)
  refine HL.out.mono ?_
  rintro e w' ⟨pre, post, rfl, ⟨j, rfl⟩, hf⟩
  have hr : bk n k < n := bk_lt (by have := H.out.n4; omega) (by have := H.out.nb; omega) k
  have hX := H.out.below (drew_below W j)
  have q := (hX.link hr hf.1).1
  cases post with
  | cons e post =>
    have := (H.out.some_is hf).2
    rw [HF.out] at this
    cases this
  | nil =>
    have q' : (W.drewN j).cell? (la g (bk n k) pre) = some (.pointer none) := q
    have s0 := hX.c0
    have s1 := hX.c1
    have HQ := Lib.hid hX
    have HO5 : Hid (OnlyS O W (W.drewN j)) := Lib.hid ((OnlyS.refl O W).drewN j)
    clear q hX hf
    generalize la g (bk n k) pre = A at *
    generalize hXX : W.drewN j = X at q' s0 s1 HQ HO5 ⊢
    clear hXX
    by_cases h4 : 4 < n
    · by_cases hc : t < ((n / 2 : Nat) : Int)
      · have hn' := HN.out
        rw [if_pos ⟨h4, hc⟩] at hn'
        subst hn'
        have d1 : decide (4 < n) = true := by simpa using h4
        have d2 : decide (t < (n : Int) / 2) = true := by simp; omega
        go_wp2_with fail
        refine (HQ.out.shrinks' h4).mono ?_
        rintro e w2 ⟨rfl, ⟨cs3, h3⟩, ho3⟩
        go_wp2_with fail
        go_ret
        exact Does.of h3 (HO5.out.trans ho3) (fun i hi => .inl hi)
      · have hn' := HN.out
        rw [if_neg (fun h => hc h.2)] at hn'
        subst hn'
        have d1 : decide (4 < n) = true := by simpa using h4
        have d2 : decide (t < (n : Int) / 2) = false := by simp; omega
        go_wp2_with fail
        go_ret
        exact Does.of HQ.out HO5.out (fun i hi => .inl hi)
    · have hn' := HN.out
      rw [if_neg (fun h => h4 h.1)] at hn'
      subst hn'
      have d1 : decide (4 < n) = false := by simpa using h4
      go_wp2_with fail
      go_ret
      exact Does.of HQ.out HO5.out (fun i hi => .inl hi)
/-- what a put and a drop leave, whatever there was -/
theorem Mq.put (h : Mq W L O b n t F) {k : Int} (hk : U k) (v : Int) (ht0 : -1000 ≤ t) (ht1 : t ≤ 2 * (n : Int)) (hn : n < 249) :
    Calls Tryz.prog 148 #[wp b, .int .u64 k, .int .i64 v] W (fun e w' => ∃ n' t' u, Does W L O b (.bool u) n' t' (putF F k (some v)) e w' ∧ n ≤ n' ∧ n' ≤ n + 1 ∧ t ≤ t' ∧ t' ≤ t + 1 ∧ t' ≤ 2 * (n' : Int) ∧ (F k = none → t' = t + 1 ∧ n' = if 2 * (n : Int) < t + 1 then n + 1 else n)) := by
  obtain ⟨g, c, cs, h⟩ := h
  by_cases hF : F k = none
  · refine (h.put_new hk v hF ht0 ht1 hn).mono ?_
    intro e w' hd
    refine ⟨_, _, _, hd, ?_, ?_, by omega, by omega, ?_, fun _ => ⟨rfl, rfl⟩⟩ <;> split <;> omega
  · refine (h.put_old hk v hF).mono ?_
    intro e w' hd
    exact ⟨_, _, _, hd, by omega, by omega, by omega, by omega, by omega, fun h => absurd h hF⟩
theorem Mq.drop (h : Mq W L O b n t F) {k : Int} (hk : U k) (ht0 : -1000 ≤ t) (ht1 : t ≤ 2 * (n : Int)) (hn : n < 249) :
    Calls Tryz.prog 206 #[wp b, .int .u64 k] W (fun e w' => ∃ n' t' u, Does W L O b (.bool u) n' t' (putF F k none) e w' ∧ n' ≤ n ∧ t - 1 ≤ t' ∧ t' ≤ t ∧ t' ≤ 2 * (n' : Int)) := by
  obtain ⟨g, c, cs, h⟩ := h
  by_cases hF : F k = none
  · refine (h.drop_new hk hF ht0 (by omega)).mono ?_
    intro e w' hd
    have e1 : putF F k none = F := by
      funext i
      unfold putF
      split
      · rename_i hi; rw [hi, hF]
      · rfl
    rw [e1]
    refine ⟨_, _, _, hd, ?_, by omega, by omega, ?_⟩ <;> unfold lessN <;> split <;> omega
  · refine (h.drop_old hk hF ht0 (by omega)).mono ?_
    intro e w' hd
    refine ⟨_, _, _, hd, ?_, by omega, by omega, ?_⟩ <;> unfold lessN <;> split <;> omega
end Go.Proofs.YtlhhopanegnliaaGreatDoor.Bu
