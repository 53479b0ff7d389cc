/- Whether requests are right: the program's answer and the document's. -/
import Derived.Test.YtmolohncllcgbaaGreatDoorWs
namespace Go.Proofs.YtmolohncllcgbaaGreatDoor.Ws
open Go Go.RowKit Go.Shelf

/-- whether none that converts stands behind one that doesn't, as the program asks it -/
def orderedB (xs : List Wt) : Bool := !(xs.take (plc true xs)).any (fun x => !x.2.2.1)
def rightB (xs : List Wt) : Bool := !xs.any (fun x => !okW x) && onceB xs && orderedB xs
/-- right ones -/
def Rg (xs : List Wt) : Prop := (∀ x ∈ xs, okW x = true) ∧ xs.Pairwise (fun a b => a.1 ≠ b.1) ∧ xs.Pairwise (fun a b => b.2.2.1 = true → a.2.2.1 = true)
theorem once_iff (xs : List Wt) : onceB xs = true ↔ xs.Pairwise (fun a b => a.1 ≠ b.1) := by
  unfold onceB
  rw [decide_eq_true_iff]
  unfold List.Nodup
  rw [List.pairwise_map]
theorem plc_true_false (xs : List Wt) {i : Nat} (h : plc true xs ≤ i) (hi : i < xs.length) : xs[i].2.2.1 = false := by
  have := plN_false (fun x => x.2.2.1 || !true) xs i h hi
  simpa using this
theorem plc_true_true (xs : List Wt) {i : Nat} (h : plc true xs = i + 1) (hi : i < xs.length) : xs[i].2.2.1 = true := by
  have := plN_true (fun x => x.2.2.1 || !true) xs i h hi
  simpa using this
theorem plc_le (cv : Bool) (xs : List Wt) : plc cv xs ≤ xs.length := plN_le _ _
theorem plc_false (xs : List Wt) : plc false xs = xs.length :=
  (plN_is (p := fun x => x.2.2.1 || !false) (xs := xs) (k := xs.length) (Nat.le_refl _) (fun i h1 h2 => by omega) (fun i _ _ => by simp)).symm
theorem ordered_iff (xs : List Wt) : orderedB xs = true ↔ xs.Pairwise (fun a b => b.2.2.1 = true → a.2.2.1 = true) := by
  have hle := plc_le true xs
  unfold orderedB
  rw [Bool.not_eq_true', List.any_eq_false]
  constructor
  · intro h
    rw [List.pairwise_iff_getElem]
    intro i j hi hj hij hb
    rcases Nat.lt_or_ge j (plc true xs) with hk | hk
    · have hm : xs[i] ∈ xs.take (plc true xs) := List.mem_take_iff_getElem.2 ⟨i, by omega, rfl⟩
      have := h _ hm
      simpa using this
    · rw [plc_true_false xs hk hj] at hb
      cases hb
  · intro h x hx
    obtain ⟨i, hi, rfl⟩ := List.mem_take_iff_getElem.1 hx
    rw [List.pairwise_iff_getElem] at h
    obtain ⟨m, hm⟩ : ∃ m, plc true xs = m + 1 := ⟨plc true xs - 1, by omega⟩
    have hmt := plc_true_true xs hm (by omega)
    rcases Nat.lt_or_ge i m with him | him
    · rw [h i m (by omega) (by omega) him hmt]; simp
    · obtain rfl : i = m := by omega
      rw [hmt]; simp
theorem right_iff (xs : List Wt) : rightB xs = true ↔ Rg xs := by
  unfold rightB Rg
  rw [Bool.and_eq_true, Bool.and_eq_true, once_iff, ordered_iff, Bool.not_eq_true', List.any_eq_false, and_assoc]
  simp
/-- one of them, as the document asks it -/
def Gd (xs : List Wt) (i : Nat) (h : i < xs.length) : Prop := okW xs[i] = true ∧ fndI xs[i].1 xs = i ∧ ∀ j (hj : i = j + 1), xs[i].2.2.1 = true → (xs[j]'(by omega)).2.2.1 = true
theorem right_gd (xs : List Wt) : rightB xs = true ↔ ∀ i (h : i < xs.length), Gd xs i h := by
  rw [right_iff]
  unfold Rg
  rw [List.pairwise_iff_getElem, List.pairwise_iff_getElem]
  constructor
  · rintro ⟨h1, h2, h3⟩ i hi
    refine ⟨h1 _ (List.getElem_mem hi), ?_, fun j hj => h3 j i (by omega) hi (by omega)⟩
    exact idx_some hi (fun k hk => by have := h2 k i (by omega) hi hk; simpa using this) (by simp)
  · intro h
    refine ⟨fun x hx => ?_, fun i j hi hj hij he => ?_, fun i j hi hj hij => ?_⟩
    · obtain ⟨i, hi, rfl⟩ := List.getElem_of_mem hx
      exact (h i hi).1
    · have e1 := (h j hj).2.1
      have e2 := (h i hi).2.1
      rw [he] at e2
      rw [e1] at e2
      omega
    · have key : ∀ d i j (_ : i + d = j) (hj : j < xs.length), xs[j].2.2.1 = true → (xs[i]'(by omega)).2.2.1 = true := by
        intro d
        induction d with
        | zero => intro i j he hj hc; obtain rfl : i = j := by omega
                  exact hc
        | succ d ih => intro i j he hj hc
                       exact ih i (j - 1) (by omega) (by omega) ((h j hj).2.2 (j - 1) (by omega) hc)
      exact key (j - i) i j (by omega) hj
theorem gd_not {xs : List Wt} {i : Nat} (hi : i < xs.length) (h : ¬ Gd xs i hi) : rightB xs = false := by
  cases e : rightB xs
  · rfl
  · exact absurd ((right_gd xs).1 e i hi) h
section
variable {W W' : World} {A : Option Addr} {c : Nat} {xs : List Wt}
end
end Go.Proofs.YtmolohncllcgbaaGreatDoor.Ws
