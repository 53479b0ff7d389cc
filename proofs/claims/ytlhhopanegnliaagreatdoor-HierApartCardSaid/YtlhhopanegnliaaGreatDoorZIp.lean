import Derived.Test.YtlhhopanegnliaaGreatDoorZIn
namespace Go.Proofs.YtlhhopanegnliaaGreatDoor
open Go Go.RowKit Go.Shelf
set_option maxRecDepth 100000

theorem lev_get {xs : List Lk} : ∀ (ps : List Pa.Pt) (n : Nat), ps.foldl (fun l a => max l (reN (kn (Lk.ofL xs a)))) n = n ∨ ∃ a ∈ ps, reN (kn (Lk.ofL xs a)) = ps.foldl (fun l a => max l (reN (kn (Lk.ofL xs a)))) n
  | [], _ => .inl rfl
  | a :: ps, n => by
    rw [List.foldl_cons]
    rcases lev_get ps (max n (reN (kn (Lk.ofL xs a)))) with h | ⟨b, hb, h⟩
    · rw [h]
      rcases Nat.le_total n (reN (kn (Lk.ofL xs a))) with k | k
      · right; exact ⟨a, List.mem_cons_self, (Nat.max_eq_right k).symm⟩
      · left; exact Nat.max_eq_left k
    · exact .inr ⟨b, List.mem_cons_of_mem _ hb, h⟩
theorem lev_at {xs : List Lk} {q : Pa.Pt} : Lk.levL xs q = 0 ∨ ∃ k : Int, 1 ≤ k ∧ k ≤ q.e ∧ Pa.rightB q = true ∧ reN (kn (Lk.ofL xs (Pa.cutP q k))) = Lk.levL xs q := by
  rcases lev_get (xs := xs) (Pa.waysP q) 0 with h | ⟨a, ha, h⟩
  · exact .inl h
  · right
    unfold Pa.waysP at ha
    split at ha
    · rename_i hr
      obtain ⟨j, hj, rfl⟩ := Lk.mem_ways.1 ha
      exact ⟨(j : Int) + 1, by omega, by omega, hr, h⟩
    · cases ha
theorem re_le : ∀ i, i ≤ 6 → reN i ≤ 3 := by decide +kernel
theorem re_zero : reN 0 = 0 := by decide +kernel
theorem same_a : ∀ i, i ≤ 6 → ∀ j, j ≤ 6 → symB i j = true → reN i = 3 → reN j = 0 := by decide +kernel
theorem same_b : ∀ i, i ≤ 6 → ∀ j, j ≤ 6 → symB i j = true → reN i = 2 → reN j = 2 → False := by decide +kernel
theorem sep_a' : ∀ i, i ≤ 6 → ∀ j, j ≤ 6 → ∀ k, k ≤ 6 → (covB k (Lk.parN j) && symB i k && (reN i == 3) && (reN j != 0)) = false := by decide +kernel
theorem sep_b' : ∀ i, i ≤ 6 → ∀ j, j ≤ 6 → ∀ k, k ≤ 6 → (covB k (Lk.parN j) && symB i k && (reN j == 3) && (reN i != 0)) = false := by decide +kernel
theorem sep_c' : ∀ i, i ≤ 6 → ∀ j, j ≤ 6 → ∀ k, k ≤ 6 → (covB k (Lk.parN j) && symB i k && (reN i == 2) && (reN j == 2)) = false := by decide +kernel
theorem same_dec {i j : Nat} (hi : i ≤ 6) (hj : j ≤ 6) (h : symB i j = true) : (reN i = 3 → reN j = 0) ∧ (reN j = 3 → reN i = 0) ∧ (reN i = 2 → reN j ≠ 2) :=
  ⟨same_a i hi j hj h, same_a j hj i hi (by rw [Hs.symB_comm]; exact h), same_b i hi j hj h⟩
theorem sep_dec {i j k : Nat} (hi : i ≤ 6) (hj : j ≤ 6) (hk : k ≤ 6) (h1 : covB k (Lk.parN j) = true) (h2 : symB i k = true) : (reN i = 3 → reN j = 0) ∧ (reN j = 3 → reN i = 0) ∧ (reN i = 2 → reN j ≠ 2) :=
  ⟨fun h => by have := sep_a' i hi j hj k hk; rw [h1, h2, h] at this; simpa using this, fun h => by have := sep_b' i hi j hj k hk; rw [h1, h2, h] at this; simpa using this, fun h => by have := sep_c' i hi j hj k hk; rw [h1, h2, h] at this; simpa using this⟩
theorem pair_two : ∀ {H : List Hs.Hd}, H.Pairwise (fun a b => a.1 ≠ b.1 ∧ symB (kn a.2) (kn b.2) = true) → ∀ x ∈ H, ∀ y ∈ H, x.1 ≠ y.1 → symB (kn x.2) (kn y.2) = true
  | [], _, x, hx, _, _, _ => by cases hx
  | a :: H, h, x, hx, y, hy, hne => by
    have h' := List.pairwise_cons.1 h
    rcases List.mem_cons.1 hx with e | hx'
    · rcases List.mem_cons.1 hy with e' | hy'
      · exact absurd (by rw [e, e']) hne
      · rw [e]; exact (h'.1 y hy').2
    · rcases List.mem_cons.1 hy with e' | hy'
      · rw [e', Hs.symB_comm]; exact (h'.1 x hx').2
      · exact pair_two h'.2 x hx' y hy' hne
section
variable {C : CC} {tx ty : Int} {p q : Pa.Pt}
theorem two_here (hf : Fnt C) (hne : tx ≠ ty) (h1 : hasF C tx p ≠ 0) (h2 : hasF C ty p ≠ 0) : symB (kn (hasF C tx p)) (kn (hasF C ty p)) = true :=
  pair_two (hf.ord.inv p).rh.2 _ (fst_some h1) _ (fst_some h2) hne
theorem apart_pre (hA : Alw C) (hne : tx ≠ ty) {k l : Int} (hk : 1 ≤ k) (hkl : k ≤ l) (hl : l ≤ q.e) (h1 : reN (kn (hasF C tx (Pa.cutP q k))) ≠ 0) (h2 : reN (kn (hasF C ty (Pa.cutP q l))) ≠ 0) :
    (reN (kn (hasF C tx (Pa.cutP q k))) = 3 → reN (kn (hasF C ty (Pa.cutP q l))) = 0) ∧ (reN (kn (hasF C ty (Pa.cutP q l))) = 3 → reN (kn (hasF C tx (Pa.cutP q k))) = 0) ∧ (reN (kn (hasF C tx (Pa.cutP q k))) = 2 → reN (kn (hasF C ty (Pa.cutP q l))) ≠ 2) := by
  have n1 : hasF C tx (Pa.cutP q k) ≠ 0 := fun e => h1 (by rw [e]; exact re_zero)
  have n2 : hasF C ty (Pa.cutP q l) ≠ 0 := fun e => h2 (by rw [e]; exact re_zero)
  by_cases e : k = l
  · subst e
    exact same_dec (kn_le _) (kn_le _) (two_here hA.f hne n1 n2)
  · have hz := held_mem hA.f n2
    have hRt := gd_rt (hA.g ty) hA.f
    have hc := Lk.chain_up hRt hz (l - 1 - k).toNat (by show 1 ≤ l - 1 - _; omega)
    simp only at hc
    have ee : (Pa.cutP q l).e - 1 - ((l - 1 - k).toNat : Int) = k := by show l - 1 - _ = k; omega
    rw [ee, Lk.cut_cut q hkl, hA.f.held_of] at hc
    have n3 : hasF C ty (Pa.cutP q k) ≠ 0 := fun e => by
      unfold hasF at e
      rw [e] at hc
      have := Lk.cov_zero _ (Lk.par_le _) hc
      have := Lk.par_zero _ (kn_le _) this
      exact h2 (by unfold hasF; rw [this]; exact re_zero)
    exact sep_dec (kn_le _) (kn_le _) (kn_le _) hc (two_here hA.f hne n1 n3)
theorem apart (hA : Alw C) (hne : tx ≠ ty) (q : Pa.Pt) : (Lk.levL (heldL C tx) q = 3 → Lk.levL (heldL C ty) q = 0) ∧ (Lk.levL (heldL C tx) q = 2 → Lk.levL (heldL C ty) q ≠ 2) := by
  rcases lev_at (xs := heldL C tx) (q := q) with h1 | ⟨k, k1, k2, -, h1⟩
  · rw [h1]; exact ⟨fun h => by omega, fun h => by omega⟩
  rcases lev_at (xs := heldL C ty) (q := q) with h2 | ⟨l, l1, l2, -, h2⟩
  · rw [h2]; exact ⟨fun _ => rfl, fun _ => by decide⟩
  rw [hA.f.held_of] at h1 h2
  rw [← h1, ← h2]
  by_cases z1 : reN (kn (hasF C tx (Pa.cutP q k))) = 0
  · exact ⟨fun h => by unfold hasF at z1; omega, fun h => by unfold hasF at z1; omega⟩
  by_cases z2 : reN (kn (hasF C ty (Pa.cutP q l))) = 0
  · exact ⟨fun _ => z2, fun _ h => by unfold hasF at z2; omega⟩
  rcases Int.le_total k l with h | h
  · have := apart_pre hA hne k1 h l2 z1 z2
    exact ⟨this.1, this.2.2⟩
  · have := apart_pre hA hne.symm l1 h k2 z2 z1
    exact ⟨this.2.1, fun e e2 => this.2.2 e2 e⟩
theorem count_one {α : Type} {P : α → Bool} : ∀ {L : List α}, L.Nodup → (∀ x ∈ L, ∀ y ∈ L, x ≠ y → P x = true → P y = false) → L.countP P ≤ 1
  | [], _, _ => by simp
  | a :: L, hn, h => by
    have hn' := List.nodup_cons.1 hn
    rw [List.countP_cons]
    cases ha : P a
    · rw [if_neg (by decide)]
      exact count_one hn'.2 fun x hx y hy => h x (List.mem_cons_of_mem _ hx) y (List.mem_cons_of_mem _ hy)
    · rw [if_pos rfl]
      have : L.countP P = 0 := by
        rw [List.countP_eq_zero]
        intro y hy hp
        have := h a List.mem_cons_self y (List.mem_cons_of_mem _ hy) (fun e => hn'.1 (by rw [e]; exact hy)) ha
        rw [this] at hp
        cases hp
      omega
noncomputable def atL (C : CC) (q : Pa.Pt) (n : Nat) (L : List Int) : Nat := L.countP fun tx => Lk.levL (heldL C tx) q == n
theorem atL_snoc (n : Nat) (L : List Int) (tx : Int) : atL C q n (L ++ [tx]) = atL C q n L + if Lk.levL (heldL C tx) q = n then 1 else 0 := by
  unfold atL
  rw [List.countP_append, List.countP_cons, List.countP_nil]
  simp
theorem atL_le (n : Nat) (L : List Int) : atL C q n L ≤ L.length := List.countP_le_length
theorem lev_three (tx : Int) : Lk.levL (heldL C tx) q ≤ 3 := by
  unfold Lk.levL
  exact Lk.lev_le fun a _ => re_le _ (kn_le _)
theorem apart_end (hA : Alw C) {L : List Int} (hL : L.Nodup) : atL C q 2 L ≤ 1 ∧ atL C q 3 L ≤ 1 ∧ (atL C q 3 L = 0 ∨ atL C q 1 L + atL C q 2 L = 0) := by
  refine ⟨count_one hL fun x _ y _ hne hx => ?_, count_one hL fun x _ y _ hne hx => ?_, ?_⟩
  · simp only [beq_iff_eq] at hx
    have := (apart hA hne q).2 hx
    simpa using this
  · simp only [beq_iff_eq] at hx
    have := (apart hA hne q).1 hx
    rw [this]; rfl
  · by_cases h : atL C q 3 L = 0
    · exact .inl h
    · right
      obtain ⟨w, hw, hw3⟩ := List.countP_pos_iff.1 (Nat.pos_of_ne_zero h)
      simp only [beq_iff_eq] at hw3
      have none : ∀ n, 1 ≤ n → n ≤ 2 → atL C q n L = 0 := fun n h1 h2 => by
        unfold atL
        rw [List.countP_eq_zero]
        intro y _ hy
        simp only [beq_iff_eq] at hy
        by_cases e : w = y
        · rw [e] at hw3; omega
        · have := (apart hA e q).1 hw3
          omega
      rw [none 1 (by decide) (by decide), none 2 (by decide) (by decide)]
end
end Go.Proofs.YtlhhopanegnliaaGreatDoor
