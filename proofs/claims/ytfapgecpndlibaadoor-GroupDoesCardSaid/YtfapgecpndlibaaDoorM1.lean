/- Plain facts on holds: what goes, what is set, what covers all. -/
import Derived.Test.YtfapgecpndlibaaDoorS3
import Derived.Test.YtfapgecpndlibaaDoorP2
namespace Go.Proofs.YtfapgecpndlibaaDoor
open Go Go.RowKit Go.Shelf

theorem wout_mem {a : Int} {xs : List Hd} {x : Hd} (h : x ∈ wout a xs) : x ∈ xs ∧ (x.1 == a) = false := by
  unfold wout at h
  obtain ⟨h1, h2⟩ := List.mem_filter.1 h
  exact ⟨h1, by simpa using h2⟩
theorem wout_rg {a : Int} {xs : List Hd} (h : Rg xs) : Rg (wout a xs) := ⟨fun x hx => h.1 x (wout_mem hx).1, h.2.filter _⟩
theorem wout_fst (a : Int) (xs : List Hd) : fst a (wout a xs) = 0 := fst_none fun _ hi => (wout_mem (List.getElem_mem hi)).2
theorem goesB_mem {tx m : Int} {xs : List Hd} : goesB tx m xs = true ↔ ∀ x ∈ xs, (x.1 == tx) = false → goesN (kn x.2) (kn m) = true := by
  unfold goesB
  rw [List.all_eq_true]
  constructor
  · intro h x hx e
    have := h x hx
    rw [e, Bool.false_or] at this
    exact this
  · intro h x hx
    cases e : x.1 == tx
    · rw [Bool.false_or]; exact h x hx e
    · rfl
theorem wout_goes {tx m a : Int} {xs : List Hd} (h : goesB tx m xs = true) : goesB tx m (wout a xs) = true :=
  goesB_mem.2 fun x hx e => goesB_mem.1 h x (wout_mem hx).1 e
theorem setL_mem {tx m : Int} : ∀ {xs : List Hd} {x : Hd}, x ∈ setL tx m xs → x ∈ xs ∨ x = (tx, m)
  | [], x, h => by simp [setL] at h; exact .inr h
  | y :: ys, x, h => by
    unfold setL at h
    split at h
    · rcases List.mem_cons.1 h with h | h
      · exact .inr h
      · exact .inl (List.mem_cons_of_mem _ h)
    · rcases List.mem_cons.1 h with h | h
      · exact .inl (by rw [h]; exact List.mem_cons_self)
      · rcases setL_mem h with h | h
        · exact .inl (List.mem_cons_of_mem _ h)
        · exact .inr h
theorem sym_of {i j : Nat} (h : goesN i j = true) : symB i j = true := by unfold symB; rw [h]; rfl
theorem setL_pair {tx m : Int} : ∀ {xs : List Hd}, xs.Pairwise (fun a b => a.1 ≠ b.1 ∧ symB (kn a.2) (kn b.2) = true) → goesB tx m xs = true →
    (setL tx m xs).Pairwise (fun a b => a.1 ≠ b.1 ∧ symB (kn a.2) (kn b.2) = true)
  | [], _, _ => by simp [setL]
  | y :: ys, h, hg => by
    obtain ⟨h1, h2⟩ := List.pairwise_cons.1 h
    have hg' := goesB_mem.1 hg
    unfold setL
    cases e : y.1 == tx
    · rw [if_neg (by simp)]
      refine List.pairwise_cons.2 ⟨fun x hx => ?_, setL_pair h2 (goesB_mem.2 fun x hx => hg' x (List.mem_cons_of_mem _ hx))⟩
      rcases setL_mem hx with hx | rfl
      · exact h1 x hx
      · exact ⟨by simpa using e, sym_of (hg' y List.mem_cons_self e)⟩
    · rw [if_pos rfl]
      have ey : y.1 = tx := by simpa using e
      refine List.pairwise_cons.2 ⟨fun x hx => ?_, h2⟩
      have hne := (h1 x hx).1
      rw [ey] at hne
      exact ⟨hne, by rw [symB_comm]; exact sym_of (hg' x (List.mem_cons_of_mem _ hx) (by simpa using fun q => hne q.symm))⟩
theorem setL_rg {tx m : Int} {xs : List Hd} (h : Rg xs) (ht : 1 ≤ tx) (h1 : 1 ≤ m) (h6 : m ≤ 6) (hg : goesB tx m xs = true) : Rg (setL tx m xs) := by
  refine ⟨fun x hx => ?_, setL_pair h.2 hg⟩
  rcases setL_mem hx with hx | rfl
  · exact h.1 x hx
  · exact ⟨ht, h1, h6⟩
theorem setL_fst (tx m : Int) (xs : List Hd) : fst tx (setL tx m xs) = m := by
  induction xs with
  | nil => simp [setL, fst]
  | cons y ys ih =>
    unfold setL
    cases e : y.1 == tx
    · rw [if_neg (by simp)]
      simp only [fst, e]
      exact ih
    · rw [if_pos rfl]
      simp [fst]
theorem lat_trans : ∀ i, i ≤ 6 → ∀ j, j ≤ 6 → ∀ k, k ≤ 6 → covB i j = true → covB j k = true → covB i k = true := by decide +kernel
theorem lat_left : ∀ i, i ≤ 6 → ∀ j, j ≤ 6 → covB (supN i j) i = true := by decide +kernel
theorem lat_right : ∀ i, i ≤ 6 → ∀ j, j ≤ 6 → covB (supN i j) j = true := by decide +kernel
theorem lat_least : ∀ k, k ≤ 6 → ∀ i, i ≤ 6 → ∀ j, j ≤ 6 → covB k i = true → covB k j = true → covB k (supN i j) = true := by decide +kernel
theorem cov_zero : ∀ k, k ≤ 6 → covB k 0 = true := by decide +kernel
theorem fold_le (l : List Int) : ∀ a, a ≤ 6 → l.foldl (fun a m => supN a (kn m)) a ≤ 6 := by
  induction l with
  | nil => intro a h; exact h
  | cons x l ih => intro a _; exact ih _ (supN_le _ _)
theorem fold_up (l : List Int) : ∀ a, a ≤ 6 → covB (l.foldl (fun a m => supN a (kn m)) a) a = true := by
  induction l with
  | nil => intro a _; unfold covB; simp
  | cons x l ih =>
    intro a h
    exact lat_trans _ (fold_le _ _ (supN_le _ _)) _ (supN_le _ _) _ h (ih _ (supN_le _ _)) (lat_left _ h _ (kn_le x))
theorem fold_all (l : List Int) : ∀ a, a ≤ 6 → ∀ x ∈ l, covB (l.foldl (fun a m => supN a (kn m)) a) (kn x) = true := by
  induction l with
  | nil => intro a _ x h; cases h
  | cons y l ih =>
    intro a h x hx
    rcases List.mem_cons.1 hx with rfl | hx
    · exact lat_trans _ (fold_le _ _ (supN_le _ _)) _ (supN_le _ _) _ (kn_le x) (fold_up _ _ (supN_le _ _)) (lat_right _ h _ (kn_le x))
    · exact ih _ (supN_le _ _) x hx
theorem fold_least (l : List Int) (k : Nat) (hk : k ≤ 6) : ∀ a, a ≤ 6 → covB k a = true → (∀ x ∈ l, covB k (kn x) = true) → covB k (l.foldl (fun a m => supN a (kn m)) a) = true := by
  induction l with
  | nil => intro a _ h _; exact h
  | cons y l ih =>
    intro a ha h hall
    exact ih _ (supN_le _ _) (lat_least _ hk _ ha _ (kn_le y) h (hall y List.mem_cons_self)) (fun x hx => hall x (List.mem_cons_of_mem _ hx))
theorem grp_covers {xs : List Hd} {x : Hd} (h : x ∈ xs) : covB (grpN (mods xs)) (kn x.2) = true := fold_all _ _ (by omega) _ (List.mem_map.2 ⟨x, h, rfl⟩)
theorem grp_less (a : Int) (xs : List Hd) : covB (grpN (mods xs)) (grpN (mods (wout a xs))) = true := by
  refine fold_least _ _ (grpN_le _) 0 (by omega) (cov_zero _ (grpN_le _)) fun z hz => ?_
  obtain ⟨x, hx, rfl⟩ := List.mem_map.1 hz
  exact grp_covers (wout_mem hx).1
end Go.Proofs.YtfapgecpndlibaaDoor
