/- Plain facts on texts, the second part: what the document's reading gives is what the program's gives. -/
import Derived.Test.YtmlljgijbffepaaDoorD5
import Derived.Test.YtmlljgijbffepaaDoorM2
namespace Go.Proofs.YtmlljgijbffepaaDoor
open Go Go.RowKit

theorem naive_step {ns : List Nat} {m d : Nat} {r : List UInt8} (hd : d ≤ 9) (hm : m ≤ 99) : naive ns m (UInt8.ofNat (48 + d) :: r) = naive ns (m * 10 + d) r := by
  conv => lhs; unfold naive
  rw [dig_toNat hd, if_neg (by omega), if_neg (by omega), show 48 + d - 48 = d by omega]
theorem naive_digits {ns : List Nat} {n : Nat} {r : List UInt8} (h : n ≤ 999) : naive ns 0 (Lib.decDigits n ++ r) = naive ns n r := by
  by_cases h1 : n < 10
  · rw [digits1 h1]
    simp only [List.cons_append, List.nil_append]
    rw [naive_step (by omega) (by omega)]; simp
  · by_cases h2 : n < 100
    · rw [digits2 (by omega), digits1 (n := n / 10) (by omega)]
      simp only [List.cons_append, List.nil_append]
      rw [naive_step (by omega) (by omega), naive_step (by omega) (by omega), show (0 * 10 + n / 10) * 10 + n % 10 = n by omega]
    · rw [digits2 (by omega), digits2 (n := n / 10) (by omega), digits1 (n := n / 10 / 10) (by omega)]
      simp only [List.cons_append, List.nil_append]
      rw [naive_step (by omega) (by omega), naive_step (by omega) (by omega), naive_step (by omega) (by omega), show ((0 * 10 + n / 10 / 10) * 10 + n / 10 % 10) * 10 + n % 10 = n by omega]
theorem naive_join : ∀ (ms ns : List Nat), ms ≠ [] → ns.length + ms.length ≤ 4 → (∀ n ∈ ms, n ≤ 999) → naive ns 0 (joinD ms) = some (ns ++ ms)
  | [], _, h, _, _ => absurd rfl h
  | [n], ns, _, hl, h9 => by
    have e := naive_digits (ns := ns) (n := n) (r := []) (h9 n (by simp))
    rw [List.append_nil] at e
    show naive ns 0 (Lib.decDigits n) = _
    rw [e]; unfold naive; rw [if_neg (by simp at hl; omega)]
  | n :: m :: ms, ns, _, hl, h9 => by
    show naive ns 0 (Lib.decDigits n ++ 46 :: joinD (m :: ms)) = _
    rw [naive_digits (h9 n (by simp))]
    conv => lhs; unfold naive
    rw [if_pos (by decide), if_neg (by simp at hl; omega), naive_join (m :: ms) (ns ++ [n]) (by simp) (by simp at hl ⊢; omega) (fun q hq => h9 q (List.mem_cons_of_mem _ hq))]
    simp
theorem reading_same (l : List UInt8) : rparseV l = parseV l := by
  by_cases h0 : l = []
  · subst h0
    rw [rparse_empty, parseV_none (by decide +kernel)]
  · cases h : parseL 4 l with
    | some ns =>
      obtain ⟨g1, g2, g3, g4⟩ := parse_shape 4 l ns h
      rw [parseV_some h]
      refine rparse_same h0 ?_ (by rw [node_text ns g1 g2 g3]; exact g4.symm)
      rw [g4, naive_join ns [] g1 (by simpa using g2) g3]; rfl
    | none =>
      rw [parseV_none h]
      cases hn : naive [] 0 l with
      | none => exact rparse_none hn
      | some ns =>
        refine rparse_other hn fun he => ?_
        cases hr : rightB (nodeP ns)
        · rw [show textP (nodeP ns) = [] by simp [textP, hr]] at he; exact h0 he.symm
        · have e := text_back hr
          rw [he, parseV_none h] at e
          simp at e
end Go.Proofs.YtmlljgijbffepaaDoor
