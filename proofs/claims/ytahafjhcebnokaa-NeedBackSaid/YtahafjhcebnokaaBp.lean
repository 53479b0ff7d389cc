/- Plain facts: right locks that go the deepest first stay right till none is left. -/
import Derived.Test.YtahafjhcebnokaaWo
import Derived.Test.YtahafjhcebnokaaPn
namespace Go.Proofs.Ytahafjhcebnokaa.Lk
open Go Go.RowKit Go.Shelf Pa
set_option maxRecDepth 100000

/-- what is left behind these -/
def leftL (xs ls : List Hd) : List Hd := ls.foldl (fun now x => outL now x.1) xs
theorem left_snoc (xs ls : List Hd) (x : Hd) : leftL xs (ls ++ [x]) = outL (leftL xs ls) x.1 := by unfold leftL; rw [List.foldl_append]; rfl
theorem left_sub (xs : List Hd) : ∀ ls : List Hd, (leftL xs ls).Sublist xs := by
  intro ls
  unfold leftL
  induction ls generalizing xs with
  | nil => exact List.Sublist.refl _
  | cons x ls ih => exact (ih (outL xs x.1)).trans List.filter_sublist
theorem mem_left {xs : List Hd} {y : Hd} : ∀ {ls : List Hd}, y ∈ leftL xs ls ↔ y ∈ xs ∧ ∀ z ∈ ls, y.1 ≠ z.1 := by
  intro ls
  unfold leftL
  induction ls generalizing xs with
  | nil => simp
  | cons x ls ih =>
    rw [List.foldl_cons, ih]
    unfold outL
    rw [List.mem_filter]
    have e : (!(eqP y.1 x.1)) = true ↔ y.1 ≠ x.1 := by
      rw [Bool.not_eq_true']
      constructor
      · intro h e
        rw [e, eqP_self] at h
        cases h
      · exact eqP_ne
    rw [e]
    constructor
    · rintro ⟨⟨h1, h2⟩, h3⟩
      refine ⟨h1, fun z hz => ?_⟩
      rcases List.mem_cons.1 hz with rfl | hz
      · exact h2
      · exact h3 z hz
    · rintro ⟨h1, h2⟩
      exact ⟨⟨h1, h2 x (by simp)⟩, fun z hz => h2 z (by simp [hz])⟩
theorem left_len (xs ls : List Hd) : (leftL xs ls).length ≤ xs.length := (left_sub xs ls).length_le
/-- an order in which the deepest go first -/
structure Deep (xs ys : List Hd) : Prop where
  perm : ys.Perm xs
  deep : ys.Pairwise (fun a b => b.1.e ≤ a.1.e)
theorem Deep.nodup {xs ys : List Hd} (h : Deep xs ys) (hr : Rt xs) : (ys.map (·.1)).Nodup := ((h.perm.map _).nodup_iff).2 hr.1.1
theorem par_pos {m : Int} (h1 : 1 ≤ m) (h6 : m ≤ 6) : parN (kn m) ≠ 0 := by
  have e : m = 1 ∨ m = 2 ∨ m = 3 ∨ m = 4 ∨ m = 5 ∨ m = 6 := by omega
  rcases e with rfl | rfl | rfl | rfl | rfl | rfl <;> decide
theorem Deep.has {xs ys : List Hd} (h : Deep xs ys) (hr : Rt xs) {j : Nat} (hj : j < ys.length) : ys[j] ∈ leftL xs (ys.take j) := by
  refine mem_left.2 ⟨h.perm.mem_iff.1 (List.getElem_mem hj), fun z hz e => ?_⟩
  obtain ⟨i, hi, rfl⟩ := List.getElem_of_mem hz
  rw [List.length_take] at hi
  rw [List.getElem_take] at e
  have hp := List.pairwise_iff_getElem.1 (List.pairwise_map.1 (h.nodup hr)) i j (by omega) hj (by omega)
  exact hp e.symm
theorem Deep.of {xs ys : List Hd} (h : Deep xs ys) (hr : Rt xs) {j : Nat} (hj : j < ys.length) : ofL (leftL xs (ys.take j)) ys[j].1 = ys[j].2 :=
  of_own ((hr.1.1).sublist ((left_sub xs _).map _)) (h.has hr hj)
theorem Deep.rt {xs ys : List Hd} (h : Deep xs ys) (hr : Rt xs) (j : Nat) : Rt (leftL xs (ys.take j)) := by
  have hsub := left_sub xs (ys.take j)
  refine ⟨⟨hr.1.1.sublist (hsub.map _), fun x hx => hr.1.2 x (hsub.subset hx)⟩, fun y hy => ?_⟩
  obtain ⟨hyx, hyn⟩ := mem_left.1 hy
  have hu := hr.2 y hyx
  have hy2 := hr.1.2 y hyx
  unfold upB at hu ⊢
  simp only [Bool.or_eq_true, beq_iff_eq] at hu ⊢
  rcases hu with hu | hu
  · exact .inl hu
  · right
    have h0 : ofL xs (cutP y.1 (y.1.e - 1)) ≠ 0 := by
      intro e
      rw [e] at hu
      have : kn 0 = 0 := rfl
      rw [this] at hu
      exact par_pos hy2.2.1 hy2.2.2 (cov_zero _ (par_le _) hu)
    obtain ⟨z, hz, hz1, hz2⟩ := of_mem h0
    have hzl : z ∈ leftL xs (ys.take j) := by
      refine mem_left.2 ⟨hz, fun u hu' e => ?_⟩
      obtain ⟨i, hi, rfl⟩ := List.getElem_of_mem hu'
      rw [List.length_take] at hi
      rw [List.getElem_take] at e
      obtain ⟨k, hk, rfl⟩ := List.getElem_of_mem (h.perm.mem_iff.2 hyx)
      have hjk : ¬ k < j := by
        intro hkj
        exact hyn ys[k] (List.mem_iff_getElem.2 ⟨k, by rw [List.length_take]; omega, by rw [List.getElem_take]⟩) rfl
      have hd := List.pairwise_iff_getElem.1 h.deep i k (by omega) hk (by omega)
      rw [← e, hz1] at hd
      have : (cutP ys[k].1 (ys[k].1.e - 1)).e = ys[k].1.e - 1 := rfl
      omega
    have e1 := of_own ((hr.1.1).sublist ((left_sub xs (ys.take j)).map _)) hzl
    rw [hz1, hz2] at e1
    rw [e1]
    exact hu
theorem Deep.nil {xs ys : List Hd} (h : Deep xs ys) : leftL xs ys = [] := by
  refine List.eq_nil_iff_forall_not_mem.2 fun y hy => ?_
  obtain ⟨h1, h2⟩ := mem_left.1 hy
  exact h2 y (h.perm.mem_iff.2 h1) rfl
end Go.Proofs.Ytahafjhcebnokaa.Lk
