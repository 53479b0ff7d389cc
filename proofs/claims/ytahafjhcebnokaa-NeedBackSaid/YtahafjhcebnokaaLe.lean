/- What is needed: plain facts; the chapter's example. -/
import Derived.Test.YtahafjhcebnokaaLd
namespace Go.Proofs.Ytahafjhcebnokaa.Lk
open Go Go.RowKit Go.Shelf Pa
set_option maxRecDepth 100000

theorem sup_l : ∀ i, i ≤ 6 → ∀ j, j ≤ 6 → covB (supN i j) i = true := by decide +kernel
theorem sup_r : ∀ i, i ≤ 6 → ∀ j, j ≤ 6 → covB (supN i j) j = true := by decide +kernel
theorem cov_anti : ∀ i, i ≤ 6 → ∀ j, j ≤ 6 → covB i j = true → covB j i = true → i = j := by decide +kernel
theorem cov_zero : ∀ j, j ≤ 6 → covB 0 j = true → j = 0 := by decide +kernel
theorem pl_kn {m : Int} (h : plB m = true) : m = 3 ∨ m = 5 ∨ m = 6 := by
  unfold plB at h
  simp at h
  omega
theorem least_pos {p a : Pt} {m : Int} (h : plB m = true) : kn (leastI p m a) ≠ 0 := by
  unfold leastI
  rcases pl_kn h with rfl | rfl | rfl <;> split <;> decide
/-- one that is needed: more than what is held -/
structure ItemOk (xs : List Hd) (p : Pt) (m : Int) (x : Hd) : Prop where
  way : x.1 ∈ waysP p
  more : x.2 = (moreN xs p m x.1 : Nat)
  not : covB (kn (ofL xs x.1)) (kn x.2) = false
  yes : covB (kn x.2) (kn (ofL xs x.1)) = true
theorem more_le (xs : List Hd) (p : Pt) (m : Int) (a : Pt) : moreN xs p m a ≤ 6 := supN_le _ _
theorem plan_item {xs : List Hd} {p : Pt} {m : Int} {x : Hd} (h : x ∈ planL xs p m) : rightB p = true ∧ plB m = true ∧ ItemOk xs p m x := by
  unfold planL at h
  split at h
  · rename_i hh
    simp at hh
    refine ⟨hh.1, hh.2, ?_⟩
    unfold planG at h
    obtain ⟨a, ha, hx⟩ := List.mem_flatMap.1 h
    have hw := List.takeWhile_subset _ ha
    unfold itemL at hx
    split at hx
    · rename_i hne
      simp at hx hne
      subst hx
      have hS := more_le xs p m a
      have k1 := kn_le (ofL xs a)
      have k2 := kn_le (leastI p m a)
      have kS : kn ((moreN xs p m a : Nat) : Int) = moreN xs p m a := kn_nat hS
      have y1 := sup_l _ k1 _ k2
      have y2 := sup_r _ k1 _ k2
      refine ⟨hw, rfl, ?_, ?_⟩
      · simp only [kS]
        cases hc : covB (kn (ofL xs a)) (moreN xs p m a)
        · rfl
        · have e := cov_anti _ k1 _ hS hc y1
          exfalso
          by_cases hr : 0 ≤ ofL xs a ∧ ofL xs a ≤ 6
          · have := kn_in hr.1 hr.2
            rw [e] at this
            exact hne this
          · have h0 := kn_out hr
            rw [h0] at e
            unfold moreN at e
            rw [← e] at y2
            exact least_pos hh.2 (cov_zero _ k2 y2)
      · simp only [kS]
        exact y1
    · simp at hx
  · simp at h
theorem ways_rise (p : Pt) : ∀ k, (waysL p k).Pairwise (fun a b => a.e < b.e) ∧ ∀ a ∈ waysL p k, a.e ≤ k
  | 0 => ⟨List.Pairwise.nil, by simp [waysL]⟩
  | k + 1 => by
    obtain ⟨h1, h2⟩ := ways_rise p k
    unfold waysL
    refine ⟨List.pairwise_append.2 ⟨h1, List.pairwise_singleton _ _, fun a ha b hb => ?_⟩, fun a ha => ?_⟩
    · simp at hb
      subst hb
      have := h2 a ha
      simp [cutP]; omega
    · rcases List.mem_append.1 ha with ha | ha
      · have := h2 a ha
        omega
      · simp at ha
        subst ha
        simp [cutP]
theorem item_cases (xs : List Hd) (p : Pt) (m : Int) (a : Pt) : itemL xs p m a = [] ∨ ∃ u, itemL xs p m a = [(a, u)] := by
  unfold itemL
  split
  · exact .inr ⟨_, rfl⟩
  · exact .inl rfl
theorem item_sub (xs : List Hd) (p : Pt) (m : Int) : ∀ ks : List Pt, (ks.flatMap (itemL xs p m)).map (·.1) |>.Sublist ks
  | [] => by simp
  | a :: ks => by
    have ih := item_sub xs p m ks
    simp only [List.flatMap_cons, List.map_append]
    rcases item_cases xs p m a with h | ⟨u, h⟩
    · rw [h]
      simpa using ih.cons a
    · rw [h]
      simpa using ih
theorem plan_sub (xs : List Hd) (p : Pt) (m : Int) : ((planL xs p m).map (·.1)).Sublist (waysP p) := by
  unfold planL
  split
  · exact (item_sub xs p m _).trans (List.takeWhile_sublist _)
  · simp
theorem plan_rise (xs : List Hd) (p : Pt) (m : Int) : (planL xs p m).Pairwise (fun a b => a.1.e < b.1.e) := by
  have h : (waysP p).Pairwise (fun a b => a.e < b.e) := by
    unfold waysP
    split
    · exact (ways_rise p _).1
    · exact List.Pairwise.nil
  exact (List.pairwise_map (f := fun x : Hd => x.1) (R := fun a b : Pt => a.e < b.e)).1 (h.sublist (plan_sub xs p m))
theorem plan_len (xs : List Hd) (p : Pt) (m : Int) : (planL xs p m).length ≤ 4 := by
  have h1 := (plan_sub xs p m).length_le
  rw [List.length_map] at h1
  exact Nat.le_trans h1 (waysP_len p)
theorem plan_err (xs : List Hd) (p : Pt) (m : Int) : planE p m = 0 ∨ (planE p m = 1 ∧ planL xs p m = []) := by
  unfold planE planL
  split
  · exact .inl rfl
  · exact .inr ⟨rfl, rfl⟩
theorem ex1 : planL [] ⟨1, 2, 3, 4, 4⟩ 3 = [(⟨1, 0, 0, 0, 1⟩, 1), (⟨1, 2, 0, 0, 2⟩, 1), (⟨1, 2, 3, 0, 3⟩, 1), (⟨1, 2, 3, 4, 4⟩, 3)] := by rfl
theorem ex2 : planE ⟨1, 2, 3, 4, 4⟩ 3 = 0 := by rfl
theorem few_any (A : Option Addr) (n c : Nat) (w : World) : Calls Try.prog 7 #[.slice A n c] w fun e w' => e = .returned (.bool (decide (n ≤ 30))) ∧ w = w' := by
  by_cases h : (n : Int) ≤ 30
  · rw [decide_eq_true (by omega : n ≤ 30)]
    go_enter Try.func7, Try.ntmps7
    go_wp2
    go_ret
    exact ⟨rfl, rfl⟩
  · rw [decide_eq_false (by omega : ¬ n ≤ 30)]
    go_enter Try.func7, Try.ntmps7
    go_wp2
    go_ret
    exact ⟨rfl, rfl⟩
theorem awake_any (w : World) : Calls Try.prog 6 #[] w fun e w' => e = .returned (.bool true) ∧ Below w.heap.size w w' := by
  have H := Lib.hid (plan_any (Ls.nils w) (by simp) ⟨1, 2, 3, 4, 4⟩ 3)
  unfold ListsE at H
  rw [ex1, ex2] at H
  go_enter Try.func6, Try.ntmps6
  go_wp2_with fail
  refine H.out.mono ?_
  rintro e w1 ⟨A, c, rfl, hls, hb1⟩
  obtain ⟨a, rfl, h0⟩ := hls.here (i := 0) (by simp)
  obtain ⟨a', e', h3⟩ := hls.here (i := 3) (by simp)
  obtain rfl : a = a' := by simpa using e'
  obtain ⟨-, -, -, -, -, q0⟩ := h0
  obtain ⟨-, -, -, -, -, q3⟩ := h3
  simp at q0 q3
  rw [show a.add 0 = a from if_pos rfl] at q0
  rw [show a.add 18 = ⟨a.block, a.off + 18, none⟩ from if_neg (by decide)] at q3
  clear hls e' H
  go_wp2_with fail
  go_ret
  exact ⟨rfl, hb1⟩
end Go.Proofs.Ytahafjhcebnokaa.Lk
