/- Plain facts: a draw, and that no two seeds above 0 have one. -/
import Derived.Laws.Bits64
namespace Go.Proofs.Ytjaiahnibeieiaa
open Go

def sA (x : Nat) : Nat := x ^^^ (x * 8192 % 18446744073709551616)
def sB (x : Nat) : Nat := x ^^^ (x / 128)
def sC (x : Nat) : Nat := x ^^^ (x * 131072 % 18446744073709551616)
/-- a seed that counts -/
def oz (x : Nat) : Nat := if x < 1 then 1 else x
/-- the draw behind a seed -/
def nx (x : Nat) : Nat := sC (sB (sA (oz x)))
theorem oz_lt {x : Nat} (h : x < 18446744073709551616) : oz x < 18446744073709551616 := by unfold oz; split <;> omega
theorem sA_lt {x : Nat} (h : x < 18446744073709551616) : sA x < 18446744073709551616 := Nat.xor_lt_two_pow (n := 64) (by omega) (by omega)
theorem sB_lt {x : Nat} (h : x < 18446744073709551616) : sB x < 18446744073709551616 := Nat.xor_lt_two_pow (n := 64) (by omega) (by omega)
theorem sC_lt {x : Nat} (h : x < 18446744073709551616) : sC x < 18446744073709551616 := Nat.xor_lt_two_pow (n := 64) (by omega) (by omega)
theorem nx_lt {x : Nat} (h : x < 18446744073709551616) : nx x < 18446744073709551616 := sC_lt (sB_lt (sA_lt (oz_lt h)))
theorem xor_up (k : Nat) (hk : 0 < k) {x y : Nat} (h : x ^^^ (x * 2 ^ k % 2 ^ 64) = y ^^^ (y * 2 ^ k % 2 ^ 64)) : x = y := by
  have hb : ∀ n i, i < n → x.testBit i = y.testBit i := by
    intro n
    induction n with
    | zero => intro i hi; omega
    | succ n ih =>
      intro i hi
      have e := congrArg (fun z => Nat.testBit z i) h
      simp only [Nat.testBit_xor, Nat.testBit_mod_two_pow, Nat.testBit_mul_two_pow] at e
      by_cases hik : k ≤ i
      · have e2 := ih (i - k) (by omega)
        rw [e2] at e
        revert e
        cases x.testBit i <;> cases y.testBit i <;> cases (decide (i < 64) && (decide (i ≥ k) && y.testBit (i - k))) <;> simp
      · have hf : decide (i ≥ k) = false := by simp; omega
        rw [hf] at e
        simpa using e
  exact Nat.eq_of_testBit_eq fun i => hb (i + 1) i (Nat.lt_succ_self _)
theorem xor_down (k : Nat) (hk : 0 < k) {x y : Nat} (hx : x < 2 ^ 64) (hy : y < 2 ^ 64) (h : x ^^^ (x / 2 ^ k) = y ^^^ (y / 2 ^ k)) : x = y := by
  have hb : ∀ n i, 64 ≤ i + n → x.testBit i = y.testBit i := by
    intro n
    induction n with
    | zero =>
      intro i hi
      have h1 : x < 2 ^ i := Nat.lt_of_lt_of_le hx (Nat.pow_le_pow_right (by decide) (by omega))
      have h2 : y < 2 ^ i := Nat.lt_of_lt_of_le hy (Nat.pow_le_pow_right (by decide) (by omega))
      rw [Nat.testBit_lt_two_pow h1, Nat.testBit_lt_two_pow h2]
    | succ n ih =>
      intro i hi
      have e := congrArg (fun z => Nat.testBit z i) h
      simp only [Nat.testBit_xor, Nat.testBit_div_two_pow] at e
      rw [ih (i + k) (by omega)] at e
      revert e
      cases x.testBit i <;> cases y.testBit i <;> cases y.testBit (i + k) <;> simp
  exact Nat.eq_of_testBit_eq fun i => hb 64 i (by omega)
theorem sA_inj {x y : Nat} (h : sA x = sA y) : x = y := xor_up 13 (by omega) h
theorem sB_inj {x y : Nat} (hx : x < 18446744073709551616) (hy : y < 18446744073709551616) (h : sB x = sB y) : x = y := xor_down 7 (by omega) hx hy h
theorem sC_inj {x y : Nat} (h : sC x = sC y) : x = y := xor_up 17 (by omega) h
theorem nx_inj {x y : Nat} (hx : x < 18446744073709551616) (hy : y < 18446744073709551616) (h0 : 0 < x) (h1 : 0 < y) (h : nx x = nx y) : x = y := by
  unfold nx at h
  rw [show oz x = x by unfold oz; rw [if_neg (by omega)], show oz y = y by unfold oz; rw [if_neg (by omega)]] at h
  exact sA_inj (sB_inj (sA_lt hx) (sA_lt hy) (sC_inj h))
theorem nx_pos {x : Nat} (hx : x < 18446744073709551616) (h0 : 0 < x) : nx x ≠ 0 := by
  intro h
  unfold nx at h
  rw [show oz x = x by unfold oz; rw [if_neg (by omega)]] at h
  have : x = 0 := sA_inj (sB_inj (sA_lt hx) (sA_lt (by omega)) (sC_inj h))
  omega
theorem nx_zero : nx 0 = nx 1 := rfl
/-- the walk's own spelling, step by step -/
theorem eA {x : Nat} (h : x < 18446744073709551616) : bits .xor .u64 (x : Int) (IntKind.u64.wrap ((x : Int) * 8192)) = (sA x : Int) := by
  rw [IntKind.wrap_u64, show ((x : Int) * 8192 % 18446744073709551616) = ((x * 8192 % 18446744073709551616 : Nat) : Int) by omega, bits_xor_u64_nat _ _ h (by omega)]; rfl
theorem eB {x : Nat} (h : x < 18446744073709551616) : bits .xor .u64 (x : Int) ((x : Int) / 128) = (sB x : Int) := by
  rw [show ((x : Int) / 128) = ((x / 128 : Nat) : Int) by omega, bits_xor_u64_nat _ _ h (by omega)]; rfl
theorem eC {x : Nat} (h : x < 18446744073709551616) : bits .xor .u64 (x : Int) (IntKind.u64.wrap ((x : Int) * 131072)) = (sC x : Int) := by
  rw [IntKind.wrap_u64, show ((x : Int) * 131072 % 18446744073709551616) = ((x * 131072 % 18446744073709551616 : Nat) : Int) by omega, bits_xor_u64_nat _ _ h (by omega)]; rfl
end Go.Proofs.Ytjaiahnibeieiaa
