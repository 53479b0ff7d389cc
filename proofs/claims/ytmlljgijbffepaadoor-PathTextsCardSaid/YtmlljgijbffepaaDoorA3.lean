/- The contract of the function that reads a number by a loop with goto. -/
import Derived.Test.YtmlljgijbffepaaDoorA1
import Derived.WalkMore
import Derived.ScopeJumps
namespace Go.Proofs.YtmlljgijbffepaaDoor
open Go Go.RowKit

/-- the number so far, how many bytes it has so far, and the bytes behind -/
def numL : Nat → Nat → List UInt8 → Nat × Nat
  | n, k, [] => (n, k)
  | n, k, c :: r => if k = 1 ∧ n = 0 then (n, k) else if c.toNat < 48 ∨ 57 < c.toNat then (n, k) else if n * 10 + (c.toNat - 48) ≤ 999 then numL (n * 10 + (c.toNat - 48)) (k + 1) r else (0, 0)

def Jmp (s : ByteArray) (w : World) (a' : Act) (w' : World) : Prop :=
  w' = w ∧ ∃ (n k : Nat) (u4 u5 u6 u7 u8 u9 u10 u11 u12 u13 u14 u15 u16 u17 u18 u19 u20 u21 u22 u23 u24 u25 u26 u27 u28 u29 u30 u31 u32 u33 u34 u35 u36 u37 u38 u39 u40 u41 : Value), a' = { tmps := #[.string s, undef, .int .i64 n, .int .i64 k, u4, u5, u6, u7, u8, u9, u10, u11, u12, u13, u14, u15, u16, u17, u18, u19, u20, u21, u22, u23, u24, u25, u26, u27, u28, u29, u30, u31, u32, u33, u34, u35, u36, u37, u38, u39, u40, u41], defers := [] } ∧ numL n k (s.data.toList.drop k) = numL 0 0 s.data.toList ∧ k ≤ s.size ∧ n ≤ 999
theorem Jmp.mk' {s : ByteArray} {w : World} {x y : Int} {u4 u5 u6 u7 u8 u9 u10 u11 u12 u13 u14 u15 u16 u17 u18 u19 u20 u21 u22 u23 u24 u25 u26 u27 u28 u29 u30 u31 u32 u33 u34 u35 u36 u37 u38 u39 u40 u41 : Value} (n k : Nat) (hx : x = n) (hy : y = k) (hE : numL n k (s.data.toList.drop k) = numL 0 0 s.data.toList) (hk : k ≤ s.size) (hn : n ≤ 999) :
    Jmp s w { tmps := #[.string s, undef, .int .i64 x, .int .i64 y, u4, u5, u6, u7, u8, u9, u10, u11, u12, u13, u14, u15, u16, u17, u18, u19, u20, u21, u22, u23, u24, u25, u26, u27, u28, u29, u30, u31, u32, u33, u34, u35, u36, u37, u38, u39, u40, u41], defers := [] } w := by
  subst hx hy
  exact ⟨rfl, n, k, u4, u5, u6, u7, u8, u9, u10, u11, u12, u13, u14, u15, u16, u17, u18, u19, u20, u21, u22, u23, u24, u25, u26, u27, u28, u29, u30, u31, u32, u33, u34, u35, u36, u37, u38, u39, u40, u41, rfl, hE, hk, hn⟩
theorem drop_at (s : ByteArray) (k : Nat) (h : k < s.size) : s.data.toList.drop k = s[k] :: s.data.toList.drop (k + 1) := by
  rw [List.drop_eq_getElem_cons (by simpa using h)]; rfl
theorem numL_end {n : Nat} {s : ByteArray} : numL n s.size (s.data.toList.drop s.size) = (n, s.size) := by
  have e : s.data.toList.drop s.size = [] := List.drop_of_length_le (Nat.le_of_eq Array.length_toList)
  rw [e]; rfl
theorem numL_zero {l : List UInt8} : numL 0 1 l = (0, 1) := by cases l <;> simp [numL]
theorem numL_stop {n k : Nat} {s : ByteArray} (h : k < s.size) (hc : s[k].toNat < 48 ∨ 57 < s[k].toNat) : numL n k (s.data.toList.drop k) = (n, k) := by
  rw [drop_at s k h]; unfold numL; split
  · rfl
  · first | rfl | rw [if_pos hc]
theorem numL_next {n k c : Nat} {s : ByteArray} (h : k < s.size) (hx : ¬ (k = 1 ∧ n = 0)) (hc : s[k].toNat = c) (h1 : 48 ≤ c) (h2 : c ≤ 57) (h3 : n * 10 + (c - 48) ≤ 999) :
    numL n k (s.data.toList.drop k) = numL (n * 10 + (c - 48)) (k + 1) (s.data.toList.drop (k + 1)) := by
  rw [drop_at s k h]; conv => lhs; unfold numL
  rw [if_neg hx, if_neg (by omega), hc, if_pos h3]
theorem numL_over {n k c : Nat} {s : ByteArray} (h : k < s.size) (hx : ¬ (k = 1 ∧ n = 0)) (hc : s[k].toNat = c) (h1 : 48 ≤ c) (h2 : c ≤ 57) (h3 : ¬ n * 10 + (c - 48) ≤ 999) :
    numL n k (s.data.toList.drop k) = (0, 0) := by
  rw [drop_at s k h]; unfold numL
  rw [if_neg hx, if_neg (by omega), hc, if_neg h3]
theorem ret_pair {k : IntKind} {a b : Nat} {x : Nat × Nat} (h : x = (a, b)) : Ending.returned (.tuple #[.int k (a : Nat), .int k (b : Nat)]) = .returned (.tuple #[.int k (x.1 : Nat), .int k (x.2 : Nat)]) := by rw [h]
theorem numB_in {n : Int} (h0 : 0 ≤ n) (h1 : n ≤ 999) : numB n = true := by simp [numB, h0, h1]
theorem numB_out {n : Int} (h1 : ¬ n ≤ 999) : numB n = false := by simp [numB, h1]

set_option maxRecDepth 1000000 in
set_option maxHeartbeats 1000000 in
theorem number_any (s : ByteArray) (w : World) (hs : s.size ≤ maxLen) :
    Calls Tryd.prog 15 #[.string s] w fun e w' => e = .returned (.tuple #[.int .i64 ((numL 0 0 s.data.toList).1 : Nat), .int .i64 ((numL 0 0 s.data.toList).2 : Nat)]) ∧ w = w' := by
  unfold maxLen at hs
  go_enter Tryd.func15, Tryd.ntmps15
  go_wp2
  refine wp_scope_jumps 0 (Jmp s w) (fun a' _ => s.size - (intOf (a'.tmps.getD 3 undef)).toNat) rfl ?_ ?_
  · go_wp2
    go_step3
    by_cases hA : s.size = 0
    · have HE := Lib.hid (numL_end (n := 0) (s := s))
      rw [hA] at HE
      have hne : ((0 : Int) == (s.size : Int)) = true := by simp; omega
      replace hA := Lib.hid hA
      go_wp2
      simp only [Exit.jump]
      go_ret2
      exact ⟨ret_pair HE.out, rfl⟩
    · have hlt : 0 < s.size := by omega
      have hne : ((0 : Int) == (s.size : Int)) = false := by simp; omega
      obtain ⟨c, hc⟩ : ∃ c, s[0].toNat = c := ⟨_, rfl⟩
      clear hA
      by_cases hd : c < 48
      · have HC := Lib.hid (numL_stop (n := 0) hlt (by omega))
        go_wp2
        simp only [Exit.jump]
        go_ret2
        exact ⟨ret_pair HC.out, rfl⟩
      · by_cases hd2 : 57 < c
        · have HC := Lib.hid (numL_stop (n := 0) hlt (by omega))
          go_wp2
          simp only [Exit.jump]
          go_ret2
          exact ⟨ret_pair HC.out, rfl⟩
        · have HC := Lib.hid (numL_next (n := 0) hlt (by omega) hc (by omega) (by omega) (by omega))
          have hy : numB ((c : Int) - 48) = true := numB_in (by omega) (by omega)
          go_wp2_with (go_at_call 16; ((with_reducible refine (num_yes _ _ (by assumption)).mono ?_); rintro e w1 ⟨rfl, rfl⟩))
          go_step3
          change _ ∧ Jmp s w _ _
          exact ⟨rfl, Jmp.mk' (0 * 10 + (c - 48)) (0 + 1) (by omega) (by omega) HC.out.symm (by omega) (by omega)⟩
  · rintro a' w' ⟨rfl, n, k, u4, u5, u6, u7, u8, u9, u10, u11, u12, u13, u14, u15, u16, u17, u18, u19, u20, u21, u22, u23, u24, u25, u26, u27, u28, u29, u30, u31, u32, u33, u34, u35, u36, u37, u38, u39, u40, u41, rfl, hE, hk, hn⟩
    have HE := Lib.hid hE; clear hE
    by_cases hA : k = s.size
    · subst hA
      go_wp2
      simp only [Exit.jump]
      go_ret2
      exact ⟨ret_pair (HE.out.symm.trans numL_end), rfl⟩
    · by_cases hB : k = 1 ∧ n = 0
      · obtain ⟨rfl, rfl⟩ := hB
        have hne : ((1 : Int) == (s.size : Int)) = false := by simp; omega
        clear hA
        go_wp2
        simp only [Exit.jump]
        go_ret2
        exact ⟨ret_pair (HE.out.symm.trans numL_zero), rfl⟩
      · by_cases hk1 : k = 1
        · subst hk1
          have hlt : 1 < s.size := by omega
          have hne : ((1 : Int) == (s.size : Int)) = false := by simp; omega
          obtain ⟨c, hc⟩ : ∃ c, s[1].toNat = c := ⟨_, rfl⟩
          have hb1 : ((n : Int) == 0) = false := by simp; omega
          have HB := Lib.hid hB; clear hB hA
          by_cases hd : c < 48
          · have HC := Lib.hid (numL_stop (n := n) hlt (by omega))
            go_wp2
            simp only [Exit.jump]
            go_ret2
            exact ⟨ret_pair (HE.out.symm.trans HC.out), rfl⟩
          · by_cases hd2 : 57 < c
            · have HC := Lib.hid (numL_stop (n := n) hlt (by omega))
              go_wp2
              simp only [Exit.jump]
              go_ret2
              exact ⟨ret_pair (HE.out.symm.trans HC.out), rfl⟩
            · by_cases hv : n * 10 + (c - 48) ≤ 999
              · have HC := Lib.hid (numL_next hlt HB.out hc (by omega) (by omega) hv)
                have hy : numB ((n : Int) * 10 + ((c : Int) - 48)) = true := numB_in (by omega) (by omega)
                go_wp2_with (go_at_call 16; ((with_reducible refine (num_yes _ _ (by assumption)).mono ?_); rintro e w1 ⟨rfl, rfl⟩))
                go_step3
                change _ ∧ (Jmp s w' _ _ ∧ _)
                refine ⟨rfl, Jmp.mk' (n * 10 + (c - 48)) (1 + 1) (by omega) (by omega) (HC.out.symm.trans HE.out) (by omega) hv, ?_⟩
                simp [intOf]; omega
              · have HC := Lib.hid (numL_over hlt HB.out hc (by omega) (by omega) hv)
                have hy : numB ((n : Int) * 10 + ((c : Int) - 48)) = false := numB_out (by omega)
                go_wp2_with (go_at_call 16; ((with_reducible refine (num_no _ _ (by assumption)).mono ?_); rintro e w1 ⟨rfl, rfl⟩))
                simp only [Exit.jump]
                go_ret2
                exact ⟨ret_pair (HE.out.symm.trans HC.out), rfl⟩
        · have hi0 : (0 : Int) ≤ (k : Int) := by omega
          have hlt : k < s.size := by omega
          have hne : ((k : Int) == (s.size : Int)) = false := by simp; omega
          obtain ⟨c, hc⟩ : ∃ c, s[k].toNat = c := ⟨_, rfl⟩
          have hb1 : ((k : Int) == 1) = false := by simp; omega
          clear hk1
          have HB := Lib.hid hB; clear hB hA
          by_cases hd : c < 48
          · have HC := Lib.hid (numL_stop (n := n) hlt (by omega))
            go_wp2
            simp only [Exit.jump]
            go_ret2
            exact ⟨ret_pair (HE.out.symm.trans HC.out), rfl⟩
          · by_cases hd2 : 57 < c
            · have HC := Lib.hid (numL_stop (n := n) hlt (by omega))
              go_wp2
              simp only [Exit.jump]
              go_ret2
              exact ⟨ret_pair (HE.out.symm.trans HC.out), rfl⟩
            · by_cases hv : n * 10 + (c - 48) ≤ 999
              · have HC := Lib.hid (numL_next hlt HB.out hc (by omega) (by omega) hv)
                have hy : numB ((n : Int) * 10 + ((c : Int) - 48)) = true := numB_in (by omega) (by omega)
                go_wp2_with (go_at_call 16; ((with_reducible refine (num_yes _ _ (by assumption)).mono ?_); rintro e w1 ⟨rfl, rfl⟩))
                go_step3
                change _ ∧ (Jmp s w' _ _ ∧ _)
                refine ⟨rfl, Jmp.mk' (n * 10 + (c - 48)) (k + 1) (by omega) (by omega) (HC.out.symm.trans HE.out) (by omega) hv, ?_⟩
                simp [intOf]; omega
              · have HC := Lib.hid (numL_over hlt HB.out hc (by omega) (by omega) hv)
                have hy : numB ((n : Int) * 10 + ((c : Int) - 48)) = false := numB_out (by omega)
                go_wp2_with (go_at_call 16; ((with_reducible refine (num_no _ _ (by assumption)).mono ?_); rintro e w1 ⟨rfl, rfl⟩))
                simp only [Exit.jump]
                go_ret2
                exact ⟨ret_pair (HE.out.symm.trans HC.out), rfl⟩
end Go.Proofs.YtmlljgijbffepaaDoor
