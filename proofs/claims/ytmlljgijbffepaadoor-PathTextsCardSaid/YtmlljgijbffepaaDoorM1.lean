/- Plain facts on nodes: a text is read back, and two nodes have two texts and two keys. -/
import Derived.Test.YtmlljgijbffepaaDoorW2
import Derived.Test.YtmlljgijbffepaaDoorB0
namespace Go.Proofs.YtmlljgijbffepaaDoor
open Go

/-- a node that may be, in plain numbers -/
structure Fine (a b c d e : Int) : Prop where
  e1 : 1 ≤ e
  e4 : e ≤ 4
  a0 : 0 ≤ a
  a9 : a ≤ 999
  b0 : 0 ≤ b
  b9 : b ≤ 999
  c0 : 0 ≤ c
  c9 : c ≤ 999
  d0 : 0 ≤ d
  d9 : d ≤ 999
  zb : e = 1 → b = 0
  zc : e ≤ 2 → c = 0
  zd : e ≤ 3 → d = 0
theorem right_iff (a b c d e : Int) : rightB ⟨a, b, c, d, e⟩ = true ↔ Fine a b c d e := by
  simp only [rightB, atB, numB, Bool.and_eq_true, Bool.or_eq_true, decide_eq_true_eq, Bool.not_eq_true', bne_eq_false_iff_eq]
  constructor
  · intro h
    exact ⟨by omega, by omega, by omega, by omega, by omega, by omega, by omega, by omega, by omega, by omega, by omega, by omega, by omega⟩
  · intro h
    have h1 := h.1; have h2 := h.2; have h3 := h.3; have h4 := h.4; have h5 := h.5; have h6 := h.6; have h7 := h.7; have h8 := h.8; have h9 := h.9; have h10 := h.10; have h11 := h.11; have h12 := h.12; have h13 := h.13
    omega
/-- the four forms of a node that may be -/
theorem node_shape {p : Pt} (h : rightB p = true) :
    (∃ a : Int, p = ⟨a, 0, 0, 0, 1⟩) ∨ (∃ a b : Int, p = ⟨a, b, 0, 0, 2⟩) ∨ (∃ a b c : Int, p = ⟨a, b, c, 0, 3⟩) ∨ (∃ a b c d : Int, p = ⟨a, b, c, d, 4⟩) := by
  obtain ⟨a, b, c, d, e⟩ := p
  have hf := (right_iff a b c d e).1 h
  have h1 := hf.e1
  have h4 := hf.e4
  rcases (by omega : e = 1 ∨ e = 2 ∨ e = 3 ∨ e = 4) with rfl | rfl | rfl | rfl
  · refine .inl ⟨a, ?_⟩
    rw [hf.zb rfl, hf.zc (by omega), hf.zd (by omega)]
  · refine .inr (.inl ⟨a, b, ?_⟩)
    rw [hf.zc (by omega), hf.zd (by omega)]
  · refine .inr (.inr (.inl ⟨a, b, c, ?_⟩))
    rw [hf.zd (by omega)]
  · exact .inr (.inr (.inr ⟨a, b, c, d, rfl⟩))

/-- what comes behind a number in a text -/
def Ends (r : List UInt8) : Prop := r = [] ∨ ∃ t, r = 46 :: t
theorem numL_ends {n k : Nat} {r : List UInt8} (h : Ends r) : numL n k r = (n, k) := by
  rcases h with rfl | ⟨t, rfl⟩
  · rfl
  · unfold numL
    split
    · rfl
    · rfl
theorem dig_toNat {d : Nat} (h : d ≤ 9) : (UInt8.ofNat (48 + d)).toNat = 48 + d := by
  rw [UInt8.toNat_ofNat']; omega
theorem numL_dig {n k d : Nat} {r : List UInt8} (h : d ≤ 9) (hx : ¬ (k = 1 ∧ n = 0)) (hv : n * 10 + d ≤ 999) : numL n k (UInt8.ofNat (48 + d) :: r) = numL (n * 10 + d) (k + 1) r := by
  conv => lhs; unfold numL
  rw [dig_toNat h, if_neg hx, if_neg (by omega), show 48 + d - 48 = d by omega, if_pos hv]
theorem digits1 {n : Nat} (h : n < 10) : Lib.decDigits n = [UInt8.ofNat (48 + n)] := by unfold Lib.decDigits; rw [dif_pos h]
theorem digits2 {n : Nat} (h : 10 ≤ n) : Lib.decDigits n = Lib.decDigits (n / 10) ++ [UInt8.ofNat (48 + n % 10)] := by
  rw [Lib.decDigits]; rw [dif_neg (by omega)]
theorem numL_digits {n : Nat} {r : List UInt8} (h : n ≤ 999) (hr : Ends r) : numL 0 0 (Lib.decDigits n ++ r) = (n, (Lib.decDigits n).length) := by
  by_cases h1 : n < 10
  · rw [digits1 h1]
    simp only [List.cons_append, List.nil_append]
    rw [numL_dig (by omega) (by omega) (by omega), numL_ends hr]; simp
  · by_cases h2 : n < 100
    · rw [digits2 (by omega), digits1 (n := n / 10) (by omega)]
      simp only [List.cons_append, List.nil_append]
      rw [numL_dig (by omega) (by omega) (by omega), numL_dig (by omega) (by omega) (by omega), numL_ends hr]
      simp; omega
    · rw [digits2 (by omega), digits2 (n := n / 10) (by omega), digits1 (n := n / 10 / 10) (by omega)]
      simp only [List.cons_append, List.nil_append]
      rw [numL_dig (by omega) (by omega) (by omega), numL_dig (by omega) (by omega) (by omega), numL_dig (by omega) (by omega) (by omega), numL_ends hr]
      simp; omega
theorem digits_pos (n : Nat) : (Lib.decDigits n).length ≠ 0 := by
  unfold Lib.decDigits; split <;> simp
theorem itoa_digits {n : Int} (h : 0 ≤ n) : Lib.itoa n = Lib.decDigits n.toNat := by unfold Lib.itoa; rw [if_neg (by omega)]
theorem parseL_last {n : Nat} (k : Nat) (h : n ≤ 999) : parseL (k + 1) (Lib.decDigits n) = some [n] := by
  have e := numL_digits h (.inl rfl : Ends [])
  rw [List.append_nil] at e
  unfold parseL
  rw [e]
  simp only
  rw [if_neg (digits_pos n)]; simp
theorem parseL_more {n : Nat} (k : Nat) (t : List UInt8) (h : n ≤ 999) : parseL (k + 1) (Lib.decDigits n ++ 46 :: t) = (parseL k t).map (n :: ·) := by
  have e := numL_digits h (.inr ⟨t, rfl⟩ : Ends (46 :: t))
  conv => lhs; unfold parseL
  rw [e]
  simp only
  rw [if_neg (digits_pos n), if_neg (by simp), if_pos (by simp), show (Lib.decDigits n ++ 46 :: t).drop ((Lib.decDigits n).length + 1) = t by rw [← List.drop_drop]; simp]
theorem text_back {p : Pt} (h : rightB p = true) : parseV (textP p) = .tuple #[p.v, .int .i64 0] := by
  obtain ⟨h1, h2, h3, h4⟩ := right_bd h
  have e : ∃ ns, parseL 4 (textP p) = some ns ∧ nodeP ns = p := by
    unfold textP
    rw [if_pos h]
    rcases node_shape h with ⟨a, rfl⟩ | ⟨a, b, rfl⟩ | ⟨a, b, c, rfl⟩ | ⟨a, b, c, d, rfl⟩
    · refine ⟨[a.toNat], ?_, ?_⟩
      · simp only [if_true]
        rw [itoa_digits h1.1, parseL_last 3 (by omega)]
      · simp only at h1 h2 h3 h4; simp only [nodeP]; simp; omega
    · refine ⟨[a.toNat, b.toNat], ?_, ?_⟩
      · simp
        rw [itoa_digits h1.1, itoa_digits h2.1, parseL_more 3 _ (by omega), parseL_last 2 (by omega)]; rfl
      · simp only at h1 h2 h3 h4; simp only [nodeP]; simp; omega
    · refine ⟨[a.toNat, b.toNat, c.toNat], ?_, ?_⟩
      · simp
        rw [itoa_digits h1.1, itoa_digits h2.1, itoa_digits h3.1, parseL_more 3 _ (by omega), parseL_more 2 _ (by omega), parseL_last 1 (by omega)]; rfl
      · simp only at h1 h2 h3 h4; simp only [nodeP]; simp; omega
    · refine ⟨[a.toNat, b.toNat, c.toNat, d.toNat], ?_, ?_⟩
      · simp
        rw [itoa_digits h1.1, itoa_digits h2.1, itoa_digits h3.1, itoa_digits h4.1, parseL_more 3 _ (by omega), parseL_more 2 _ (by omega), parseL_more 1 _ (by omega), parseL_last 0 (by omega)]; rfl
      · simp only at h1 h2 h3 h4; simp only [nodeP]; simp; omega
  obtain ⟨ns, e1, e2⟩ := e
  rw [parseV_some e1, e2]
theorem text_inj {p q : Pt} (hp : rightB p = true) (hq : rightB q = true) (h : textP p = textP q) : p = q := by
  have e := text_back hp
  rw [h, text_back hq] at e
  obtain ⟨a, b, c, d, e'⟩ := p
  obtain ⟨f, g, i, j, k⟩ := q
  simp at e
  simp [e]
theorem key_inj {p q : Pt} (hp : rightB p = true) (hq : rightB q = true) (h : keyP p = keyP q) : p = q := by
  obtain ⟨h1, h2, h3, h4⟩ := right_bd hp
  obtain ⟨g1, g2, g3, g4⟩ := right_bd hq
  unfold keyP at h
  rw [if_pos hp, if_pos hq] at h
  rcases node_shape hp with ⟨a, rfl⟩ | ⟨a, b, rfl⟩ | ⟨a, b, c, rfl⟩ | ⟨a, b, c, d, rfl⟩ <;>
    rcases node_shape hq with ⟨a', rfl⟩ | ⟨a', b', rfl⟩ | ⟨a', b', c', rfl⟩ | ⟨a', b', c', d', rfl⟩ <;>
    simp at h h1 h2 h3 h4 g1 g2 g3 g4 <;> simp <;> omega
theorem text_len (p : Pt) : (textP p).length ≤ 100 := by
  unfold textP
  split
  · rename_i h
    obtain ⟨h1, h2, h3, h4⟩ := right_bd h
    have := itoa_len p.a h1.1 h1.2
    have := itoa_len p.b h2.1 h2.2
    have := itoa_len p.c h3.1 h3.2
    have := itoa_len p.d h4.1 h4.2
    (repeat' split) <;> simp <;> omega
  · simp
end Go.Proofs.YtmlljgijbffepaaDoor
