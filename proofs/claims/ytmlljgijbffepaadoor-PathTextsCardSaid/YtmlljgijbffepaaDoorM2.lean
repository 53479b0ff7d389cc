/- Plain facts on texts: the document's reading and the program's are the same. -/
import Derived.Test.YtmlljgijbffepaaDoorM1
namespace Go.Proofs.YtmlljgijbffepaaDoor
open Go

theorem dig_of {c : UInt8} (h1 : 48 ≤ c.toNat) (h2 : c.toNat ≤ 57) : c = UInt8.ofNat (48 + (c.toNat - 48)) := by
  apply UInt8.toNat_inj.1
  rw [UInt8.toNat_ofNat']; omega
theorem num_pre : ∀ (r : List UInt8) (n k : Nat) (pre : List UInt8), pre.length = k → pre = Lib.decDigits n → n ≤ 999 → (numL n k r).2 ≠ 0 →
    (pre ++ r).take (numL n k r).2 = Lib.decDigits (numL n k r).1 ∧ (numL n k r).1 ≤ 999
  | [], n, k, pre, hk, hp, hn, _ => by
    rw [show numL n k [] = (n, k) from rfl]
    simp only [List.append_nil]
    exact ⟨by rw [← hk, List.take_length]; exact hp, hn⟩
  | c :: r, n, k, pre, hk, hp, hn, hz => by
    have stop : ((pre ++ c :: r).take k = Lib.decDigits n) ∧ n ≤ 999 := ⟨by rw [List.take_append_of_le_length (by omega), ← hk, List.take_length]; exact hp, hn⟩
    unfold numL at hz ⊢
    split at hz
    · rename_i h; rw [if_pos h]; exact stop
    · rename_i h
      rw [if_neg h]
      split at hz
      · rename_i h'; rw [if_pos h']; exact stop
      · rename_i h'
        rw [if_neg h']
        split at hz
        · rename_i h3
          rw [if_pos h3]
          have hn1 : n ≠ 0 := fun h0 => h ⟨by rw [← hk, hp, h0]; decide +kernel, h0⟩
          have hd : pre ++ [c] = Lib.decDigits (n * 10 + (c.toNat - 48)) := by
            rw [digits2 (n := n * 10 + (c.toNat - 48)) (by omega), show (n * 10 + (c.toNat - 48)) / 10 = n by omega, show (n * 10 + (c.toNat - 48)) % 10 = c.toNat - 48 by omega, ← hp, ← dig_of (by omega) (by omega)]
          have ih := num_pre r (n * 10 + (c.toNat - 48)) (k + 1) (pre ++ [c]) (by simp [hk]) hd h3 hz
          simpa using ih
        · simp at hz
theorem num_text (l : List UInt8) (h : (numL 0 0 l).2 ≠ 0) : l.take (numL 0 0 l).2 = Lib.decDigits (numL 0 0 l).1 ∧ (numL 0 0 l).1 ≤ 999 := by
  cases l with
  | nil => exact absurd rfl h
  | cons c r =>
    unfold numL at h ⊢
    rw [if_neg (by omega)] at h ⊢
    split at h
    · exact absurd rfl h
    · rename_i h'
      rw [if_neg h']
      rw [if_pos (by omega)] at h ⊢
      have hd : [c] = Lib.decDigits (0 * 10 + (c.toNat - 48)) := by rw [digits1 (by omega)]; congr 1; rw [Nat.zero_mul, Nat.zero_add]; exact dig_of (by omega) (by omega)
      exact num_pre r _ 1 [c] rfl hd (by omega) h

def joinD : List Nat → List UInt8
  | [] => []
  | [n] => Lib.decDigits n
  | n :: m :: ns => Lib.decDigits n ++ 46 :: joinD (m :: ns)
theorem parse_shape : ∀ (k : Nat) (l : List UInt8) (ns : List Nat), parseL k l = some ns → ns ≠ [] ∧ ns.length ≤ k ∧ (∀ n ∈ ns, n ≤ 999) ∧ l = joinD ns
  | 0, _, _, h => by simp [parseL] at h
  | k + 1, l, ns, h => by
    unfold parseL at h
    split at h
    · cases h
    · rename_i hz
      obtain ⟨ht, hn⟩ := num_text l hz
      split at h
      · rename_i hl
        cases h
        refine ⟨by simp, by simp, fun n hm => by rw [List.mem_singleton.1 hm]; exact hn, ?_⟩
        show l = Lib.decDigits _
        rw [← ht, hl, List.take_length]
      · split at h
        · rename_i hl hc
          obtain ⟨ns', h1, rfl⟩ := Option.map_eq_some_iff.1 h
          obtain ⟨g1, g2, g3, g4⟩ := parse_shape k _ _ h1
          refine ⟨by simp, by simp; omega, fun n hm => ?_, ?_⟩
          · rcases List.mem_cons.1 hm with rfl | hm
            · exact hn
            · exact g3 n hm
          · cases ns' with
            | nil => exact absurd rfl g1
            | cons m ns'' =>
              show l = Lib.decDigits _ ++ 46 :: joinD (m :: ns'')
              rw [← g4, ← ht]
              obtain ⟨hlt, hv⟩ := List.getElem?_eq_some_iff.1 hc
              conv => lhs; rw [← List.take_append_drop (numL 0 0 l).2 l]
              rw [List.drop_eq_getElem_cons hlt, hv]
        · cases h
theorem node_right (ns : List Nat) (h0 : ns ≠ []) (h4 : ns.length ≤ 4) (h9 : ∀ n ∈ ns, n ≤ 999) : rightB (nodeP ns) = true := by
  match ns, h0, h4, h9 with
  | [a], _, _, h9 =>
    have := h9 a (by simp)
    exact (right_iff _ _ _ _ _).2 ⟨by simp, by simp, by simp, by simp; omega, by simp, by simp, by simp, by simp, by simp, by simp, by simp, by simp, by simp⟩
  | [a, b], _, _, h9 =>
    have := h9 a (by simp); have := h9 b (by simp)
    exact (right_iff _ _ _ _ _).2 ⟨by simp, by simp, by simp, by simp; omega, by simp, by simp; omega, by simp, by simp, by simp, by simp, by simp, by simp, by simp⟩
  | [a, b, c], _, _, h9 =>
    have := h9 a (by simp); have := h9 b (by simp); have := h9 c (by simp)
    exact (right_iff _ _ _ _ _).2 ⟨by simp, by simp, by simp, by simp; omega, by simp, by simp; omega, by simp, by simp; omega, by simp, by simp, by simp, by simp, by simp⟩
  | [a, b, c, d], _, _, h9 =>
    have := h9 a (by simp); have := h9 b (by simp); have := h9 c (by simp); have := h9 d (by simp)
    exact (right_iff _ _ _ _ _).2 ⟨by simp, by simp, by simp, by simp; omega, by simp, by simp; omega, by simp, by simp; omega, by simp, by simp; omega, by simp, by simp, by simp⟩
theorem node_text (ns : List Nat) (h0 : ns ≠ []) (h4 : ns.length ≤ 4) (h9 : ∀ n ∈ ns, n ≤ 999) : textP (nodeP ns) = joinD ns := by
  have hr := node_right ns h0 h4 h9
  have it : ∀ n : Nat, Lib.itoa (n : Int) = Lib.decDigits n := fun n => by rw [itoa_digits (by omega)]; rfl
  unfold textP
  rw [if_pos hr]
  match ns, h0, h4 with
  | [a], _, _ => simp [nodeP, it, joinD]
  | [a, b], _, _ => simp [nodeP, it, joinD]
  | [a, b, c], _, _ => simp [nodeP, it, joinD]
  | [a, b, c, d], _, _ => simp [nodeP, it, joinD]
end Go.Proofs.YtmlljgijbffepaaDoor
