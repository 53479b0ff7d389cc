/- What of a key hangs on the number of buckets: the power of two, the hash, the bucket. -/
import Derived.Test.YtbeeekpofbhljaaR2
import Derived.BigQuiet
import Derived.Lib.BitFns
import Derived.WalkMore
import Derived.ScopeJumps
namespace Go.Proofs.Ytbeeekpofbhljaa
open Go Go.RowKit

set_option maxRecDepth 100000 in
theorem fold_bits : (⟨List.toArray (List.append (List.append [0, 1, 2, 2, 3, 3, 3, 3, 4, 4, 4, 4, 4, 4, 4, 4, 5, 5, 5, 5, 5, 5, 5, 5, 5, 5, 5, 5, 5, 5, 5, 5, 6, 6, 6, 6, 6, 6, 6, 6, 6, 6, 6, 6, 6, 6, 6, 6, 6, 6, 6, 6, 6, 6, 6, 6, 6, 6, 6, 6, 6, 6, 6, 6] [7, 7, 7, 7, 7, 7, 7, 7, 7, 7, 7, 7, 7, 7, 7, 7, 7, 7, 7, 7, 7, 7, 7, 7, 7, 7, 7, 7, 7, 7, 7, 7, 7, 7, 7, 7, 7, 7, 7, 7, 7, 7, 7, 7, 7, 7, 7, 7, 7, 7, 7, 7, 7, 7, 7, 7, 7, 7, 7, 7, 7, 7, 7, 7]) (List.append [8, 8, 8, 8, 8, 8, 8, 8, 8, 8, 8, 8, 8, 8, 8, 8, 8, 8, 8, 8, 8, 8, 8, 8, 8, 8, 8, 8, 8, 8, 8, 8, 8, 8, 8, 8, 8, 8, 8, 8, 8, 8, 8, 8, 8, 8, 8, 8, 8, 8, 8, 8, 8, 8, 8, 8, 8, 8, 8, 8, 8, 8, 8, 8] [8, 8, 8, 8, 8, 8, 8, 8, 8, 8, 8, 8, 8, 8, 8, 8, 8, 8, 8, 8, 8, 8, 8, 8, 8, 8, 8, 8, 8, 8, 8, 8, 8, 8, 8, 8, 8, 8, 8, 8, 8, 8, 8, 8, 8, 8, 8, 8, 8, 8, 8, 8, 8, 8, 8, 8, 8, 8, 8, 8, 8, 8, 8, 8]))⟩ : ByteArray) = Lib.len8tab := by kernel_rfl
theorem tab_at (n : Int) (h0 : 0 ≤ n) (hn : n < 256) (h : n.toNat < Lib.len8tab.size) : ((Lib.len8tab[n.toNat]'h).toNat : Int) = (Lib.bitLen n.toNat : Int) := by
  have := Lib.len8_of n h0 (by omega)
  unfold Lib.len8 at this
  rw [getElem?_pos Lib.len8tab n.toNat h] at this
  simpa using this
theorem len_le8 (n : Int) (h0 : 0 ≤ n) (hn : n < 256) : Lib.bitLen n.toNat ≤ 8 := Lib.bitLen_le8 ⟨n.toNat, by omega⟩
set_option maxHeartbeats 4000000 in
set_option maxRecDepth 100000 in
theorem len64_any (n : Int) (W : World) (h0 : 0 ≤ n) (hn : n < 256) : Calls Try.prog 37 #[.int .u64 n] W fun e w' => e = .returned (.int .i64 (Lib.bitLen n.toNat : Int)) ∧ W = w' := by
  go_enter Try.func37, Try.ntmps37
  rw [fold_bits]
  go_wp2
  go_ret
  rw [tab_at n h0 hn]
  have := len_le8 n h0 hn
  refine ⟨congrArg Ending.returned (congrArg (Value.int IntKind.i64) ?_), rfl⟩
  unfold wrap64
  omega
theorem len_any (n : Int) (W : World) (h0 : 0 ≤ n) (hn : n < 256) : Calls Try.prog 26 #[.int .u64 n] W fun e w' => e = .returned (.int .i64 (Lib.bitLen n.toNat : Int)) ∧ W = w' := by
  go_enter Try.func26, Try.ntmps26
  go_wp2_with (go_at_call 37; refine (len64_any n _ h0 hn).mono ?_; rintro e w' ⟨rfl, rfl⟩)
  go_ret
  exact ⟨rfl, rfl⟩

/-- the greatest power of two that isn't above a number -/
def pw (n : Nat) : Nat := 2 ^ (Lib.bitLen n - 1)
theorem pw_all : ∀ n : Fin 256, n.val ≠ 0 → 1 ≤ Lib.bitLen n.val ∧ Lib.bitLen n.val ≤ 8 ∧ pw n.val ≤ n.val ∧ n.val < 2 * pw n.val ∧ pw n.val ≤ 128 := by decide +kernel
theorem pw_next : ∀ n : Fin 255, n.val ≠ 0 → pw (n.val + 1) = if n.val + 1 = 2 * pw n.val then 2 * pw n.val else pw n.val := by decide +kernel
theorem pw_is {n : Nat} (h0 : 0 < n) (h1 : n < 256) : 1 ≤ Lib.bitLen n ∧ Lib.bitLen n ≤ 8 ∧ pw n ≤ n ∧ n < 2 * pw n ∧ pw n ≤ 128 := pw_all ⟨n, h1⟩ (Nat.ne_of_gt h0)
theorem shl_is {j : Nat} (h : j ≤ 8) : wrap64 ((2 : Int) ^ j) = ((2 ^ j : Nat) : Int) := by
  have : ∀ j : Fin 9, wrap64 ((2 : Int) ^ j.val) = ((2 ^ j.val : Nat) : Int) := by decide +kernel
  exact this ⟨j, by omega⟩
theorem power_any (n : Int) (W : World) (h0 : 0 < n) (hn : n < 256) : Calls Try.prog 22 #[.int .i64 n] W fun e w' => e = .returned (.int .i64 (pw n.toNat : Int)) ∧ W = w' := by
  obtain ⟨b1, b2, -, -, -⟩ := pw_is (n := n.toNat) (by omega) (by omega)
  have H := Lib.hid (shl_is (j := Lib.bitLen n.toNat - 1) (by omega))
  have HC := Lib.hid (fun W => len_any n W (by omega) hn)
  have HP := Lib.hid (show pw n.toNat = 2 ^ (Lib.bitLen n.toNat - 1) from rfl)
  generalize pw n.toNat = p at *
  generalize Lib.bitLen n.toNat = j at *
  go_enter Try.func22, Try.ntmps22
  go_wp2_with (go_at_call 26; refine (HC.out _).mono ?_; rintro e w' ⟨rfl, rfl⟩)
  go_ret
  refine ⟨congrArg Ending.returned ?_, rfl⟩
  rw [HP.out, ← H.out]
  rfl

/-- the hash of a key, byte by byte: what it is so far, and the bytes that are left -/
def hst (k : Int) : Nat → Int × Int
  | 0 => (14695981039346656037, k)
  | j + 1 => (bits .xor .u64 (IntKind.u64.wrap ((hst k j).1 * 1099511628211)) (bits .and .u64 (hst k j).2 255), (hst k j).2 / 256)
def hsh (k : Int) : Int := (hst k 8).1
theorem hst_range (k : Int) (h0 : 0 ≤ k) (h1 : k < 18446744073709551616) (j : Nat) : 0 ≤ (hst k j).1 ∧ (hst k j).1 < 18446744073709551616 ∧ 0 ≤ (hst k j).2 ∧ (hst k j).2 < 18446744073709551616 := by
  induction j with
  | zero => exact ⟨by unfold hst; omega, by unfold hst; omega, h0, h1⟩
  | succ j ih =>
    unfold hst
    refine ⟨?_, ?_, by simp only; omega, by simp only; omega⟩
    all_goals simp only [bits, IntKind.wrap_u64]; omega
theorem hsh_range (k : Int) (h0 : 0 ≤ k) (h1 : k < 18446744073709551616) : 0 ≤ hsh k ∧ hsh k < 18446744073709551616 := ⟨(hst_range k h0 h1 8).1, (hst_range k h0 h1 8).2.1⟩
theorem hash_any (k : Int) (W : World) (h0 : 0 ≤ k) (h1 : k < 18446744073709551616) : Calls Try.prog 23 #[.int .u64 k] W fun e w' => e = .returned (.int .u64 (hsh k)) ∧ W = w' := by
  go_enter Try.func23, Try.ntmps23
  go_wp2
  go_loop [0, 3, 4] (fun x h i => ∃ j : Nat, j ≤ 8 ∧ i = .int .i64 j ∧ x = .int .u64 (hst k j).2 ∧ h = .int .u64 (hst k j).1) (fun _ _ i => 8 - (intOf i).toNat)
  case atStart => exact ⟨0, by omega, rfl, rfl, rfl⟩
  case round =>
    obtain ⟨j, hj, rfl, rfl, rfl⟩ := hrel
    obtain ⟨a1, a2, a3, a4⟩ := hst_range k h0 h1 j
    by_cases hj8 : j < 8
    · have E1 := Lib.hid (show (hst k (j + 1)).1 = bits .xor .u64 (IntKind.u64.wrap ((hst k j).1 * 1099511628211)) (bits .and .u64 (hst k j).2 255) from rfl)
      have E2 := Lib.hid (show (hst k (j + 1)).2 = (hst k j).2 / 256 from rfl)
      generalize (hst k j).1 = h at *
      generalize (hst k j).2 = x at *
      go_wp2
      refine ⟨⟨j + 1, by omega, by congr 1, by rw [E2.out], by rw [E1.out]⟩, ?_⟩
      simp [intOf]; omega
    · obtain rfl : j = 8 := by omega
      go_wp2
      go_ret
      exact ⟨rfl, rfl⟩

/-- the bucket of a key, of so many -/
def bk (n : Nat) (k : Int) : Nat := if n ≤ (hsh k).toNat % (2 * pw n) then (hsh k).toNat % (2 * pw n) - pw n else (hsh k).toNat % (2 * pw n)
theorem bk_lt {n : Nat} (h0 : 0 < n) (h1 : n < 256) (k : Int) : bk n k < n := by
  obtain ⟨-, -, b3, b4, -⟩ := pw_is h0 h1
  unfold bk
  have := Nat.mod_lt (hsh k).toNat (show 0 < 2 * pw n by omega)
  split <;> omega
theorem bk_next {n : Nat} (h0 : 0 < n) (h1 : n < 255) (k : Int) : (bk (n + 1) k ≠ n → bk (n + 1) k = bk n k) ∧ (bk n k ≠ n - pw n → bk (n + 1) k = bk n k) := by
  obtain ⟨-, -, b3, b4, -⟩ := pw_is h0 (by omega)
  have e := pw_next ⟨n, h1⟩ (Nat.ne_of_gt h0)
  simp only at e
  unfold bk
  rw [e]
  generalize pw n = p at *
  generalize (hsh k).toNat = h
  by_cases hc : n + 1 = 2 * p
  · rw [if_pos hc]
    have q1 := Nat.mod_lt h (show 0 < 2 * p by omega)
    have q2 := Nat.mod_lt h (show 0 < 2 * (2 * p) by omega)
    have q3 : h % (2 * (2 * p)) % (2 * p) = h % (2 * p) := Nat.mod_mod_of_dvd h ⟨2, by omega⟩
    generalize h % (2 * (2 * p)) = x at *
    have q4 : x % (2 * p) = if 2 * p ≤ x then x - 2 * p else x := by
      split
      · rw [Nat.mod_eq_sub_mod (by omega), Nat.mod_eq_of_lt (by omega)]
      · exact Nat.mod_eq_of_lt (by omega)
    rw [← q3, q4]
    by_cases hx : 2 * p ≤ x
    · simp only [hx, if_true]
      constructor <;> intro hh <;> (repeat' split at *) <;> omega
    · simp only [hx, if_false]
      constructor <;> intro hh <;> (repeat' split at *) <;> omega
  · rw [if_neg hc]
    have q1 := Nat.mod_lt h (show 0 < 2 * p by omega)
    generalize h % (2 * p) = x at *
    constructor <;> intro hh <;> (repeat' split at *) <;> omega
end Go.Proofs.Ytbeeekpofbhljaa
