/- Plain facts on holds and on requests. -/
import Derived.Test.YteaibamkfccplaaDoorQH
namespace Go.Proofs.YteaibamkfccplaaDoor.Hs
open Go Go.RowKit Go.Shelf

theorem wout_mem {a : Int} {xs : List Hd} {x : Hd} (h : x ∈ wout a xs) : x ∈ xs ∧ (x.1 == a) = false := by
  unfold wout at h
  obtain ⟨h1, h2⟩ := List.mem_filter.1 h
  exact ⟨h1, by simpa using h2⟩
theorem wout_rg {a : Int} {xs : List Hd} (h : Rg xs) : Rg (wout a xs) := ⟨fun x hx => h.1 x (wout_mem hx).1, h.2.filter _⟩
theorem wout_fst (a : Int) (xs : List Hd) : fst a (wout a xs) = 0 := fst_none fun _ hi => (wout_mem (List.getElem_mem hi)).2
theorem goesB_mem {tx m : Int} {xs : List Hd} : goesB tx m xs = true ↔ ∀ x ∈ xs, (x.1 == tx) = false → goesN (kn x.2) (kn m) = true := by
  unfold goesB
  rw [List.all_eq_true]
  constructor
  · intro h x hx e
    have := h x hx
    rw [e, Bool.false_or] at this
    exact this
  · intro h x hx
    cases e : x.1 == tx
    · rw [Bool.false_or]; exact h x hx e
    · rfl
theorem wout_goes {tx m a : Int} {xs : List Hd} (h : goesB tx m xs = true) : goesB tx m (wout a xs) = true :=
  goesB_mem.2 fun x hx e => goesB_mem.1 h x (wout_mem hx).1 e
theorem setL_mem {tx m : Int} : ∀ {xs : List Hd} {x : Hd}, x ∈ setL tx m xs → x ∈ xs ∨ x = (tx, m)
  | [], x, h => by simp [setL] at h; exact .inr h
  | y :: ys, x, h => by
    unfold setL at h
    split at h
    · rcases List.mem_cons.1 h with h | h
      · exact .inr h
      · exact .inl (List.mem_cons_of_mem _ h)
    · rcases List.mem_cons.1 h with h | h
      · exact .inl (by rw [h]; exact List.mem_cons_self)
      · rcases setL_mem h with h | h
        · exact .inl (List.mem_cons_of_mem _ h)
        · exact .inr h
theorem sym_of {i j : Nat} (h : goesN i j = true) : symB i j = true := by unfold symB; rw [h]; rfl
theorem setL_pair {tx m : Int} : ∀ {xs : List Hd}, xs.Pairwise (fun a b => a.1 ≠ b.1 ∧ symB (kn a.2) (kn b.2) = true) → goesB tx m xs = true →
    (setL tx m xs).Pairwise (fun a b => a.1 ≠ b.1 ∧ symB (kn a.2) (kn b.2) = true)
  | [], _, _ => by simp [setL]
  | y :: ys, h, hg => by
    obtain ⟨h1, h2⟩ := List.pairwise_cons.1 h
    have hg' := goesB_mem.1 hg
    unfold setL
    cases e : y.1 == tx
    · rw [if_neg (by simp)]
      refine List.pairwise_cons.2 ⟨fun x hx => ?_, setL_pair h2 (goesB_mem.2 fun x hx => hg' x (List.mem_cons_of_mem _ hx))⟩
      rcases setL_mem hx with hx | rfl
      · exact h1 x hx
      · exact ⟨by simpa using e, sym_of (hg' y List.mem_cons_self e)⟩
    · rw [if_pos rfl]
      have ey : y.1 = tx := by simpa using e
      refine List.pairwise_cons.2 ⟨fun x hx => ?_, h2⟩
      have hne := (h1 x hx).1
      rw [ey] at hne
      exact ⟨hne, by rw [symB_comm]; exact sym_of (hg' x (List.mem_cons_of_mem _ hx) (by simpa using fun q => hne q.symm))⟩
theorem setL_rg {tx m : Int} {xs : List Hd} (h : Rg xs) (ht : 1 ≤ tx) (h1 : 1 ≤ m) (h6 : m ≤ 6) (hg : goesB tx m xs = true) : Rg (setL tx m xs) := by
  refine ⟨fun x hx => ?_, setL_pair h.2 hg⟩
  rcases setL_mem hx with hx | rfl
  · exact h.1 x hx
  · exact ⟨ht, h1, h6⟩
theorem setL_fst (tx m : Int) (xs : List Hd) : fst tx (setL tx m xs) = m := by
  induction xs with
  | nil => simp [setL, fst]
  | cons y ys ih =>
    unfold setL
    cases e : y.1 == tx
    · rw [if_neg (by simp)]
      simp only [fst, e]
      exact ih
    · rw [if_pos rfl]
      simp [fst]
end Go.Proofs.YteaibamkfccplaaDoor.Hs
namespace Go.Proofs.YteaibamkfccplaaDoor.Ws
open Go Go.RowKit Go.Shelf

/-- those of others, of right ones -/
theorem rg_wout {xs : List Wt} (h : Rg xs) (tx : Int) : Rg (wout tx xs) :=
  ⟨fun x hx => h.1 x (List.mem_filter.1 hx).1, h.2.1.filter _, h.2.2.filter _⟩
theorem fnd_wout (tx : Int) (xs : List Wt) : fndI tx (wout tx xs) = -1 := by
  refine idx_none fun i hi => ?_
  have := (List.mem_filter.1 (List.getElem_mem hi)).2
  simpa using this
theorem wout_of {tx : Int} {ys : List Wt} (h : ∀ y ∈ ys, y.1 ≠ tx) : wout tx ys = ys := List.filter_eq_self.2 fun y hy => by simpa using h y hy
theorem ne_wout (tx : Int) (xs : List Wt) : ∀ y ∈ wout tx xs, y.1 ≠ tx := fun y hy => by
  have := (List.mem_filter.1 hy).2
  simpa using this
theorem wout_ins {x : Wt} {ys : List Wt} (h : ∀ y ∈ ys, y.1 ≠ x.1) : wout x.1 (ins x ys) = ys := by
  unfold ins
  have e1 : wout x.1 (ys.take (plc x.2.2.1 ys)) = ys.take (plc x.2.2.1 ys) := wout_of fun y hy => h y (List.mem_of_mem_take hy)
  have e2 : wout x.1 (ys.drop (plc x.2.2.1 ys)) = ys.drop (plc x.2.2.1 ys) := wout_of fun y hy => h y (List.mem_of_mem_drop hy)
  have e3 : wout x.1 [x] = [] := by simp [wout]
  have e4 : ∀ a b : List Wt, wout x.1 (a ++ b) = wout x.1 a ++ wout x.1 b := fun a b => by simp [wout]
  rw [e4, e4, e1, e2, e3, List.append_nil, List.take_append_drop]
theorem ins_len (x : Wt) (ys : List Wt) : (ins x ys).length = ys.length + 1 := by
  have := plc_le x.2.2.1 ys
  unfold ins
  rw [List.length_append, List.length_append, List.length_take, List.length_drop]
  simp
  omega
theorem rg_ins {x : Wt} {ys : List Wt} (h : Rg ys) (hx : okW x = true) (hn : ∀ y ∈ ys, y.1 ≠ x.1) : Rg (ins x ys) := by
  have hle := plc_le x.2.2.1 ys
  obtain ⟨h1, h2, h3⟩ := h
  have d2 := h2
  have d3 := h3
  rw [← List.take_append_drop (plc x.2.2.1 ys) ys] at h2 h3
  rw [List.pairwise_append] at h2 h3
  unfold ins
  refine ⟨fun y hy => ?_, ?_, ?_⟩
  · rw [List.mem_append, List.mem_append, List.mem_singleton] at hy
    rcases hy with (hy | rfl) | hy
    · exact h1 y (List.mem_of_mem_take hy)
    · exact hx
    · exact h1 y (List.mem_of_mem_drop hy)
  · rw [List.append_assoc, List.pairwise_append]
    refine ⟨h2.1, ?_, ?_⟩
    · rw [List.singleton_append, List.pairwise_cons]
      exact ⟨fun y hy => (hn y (List.mem_of_mem_drop hy)).symm, h2.2.1⟩
    · intro a ha b hb
      rw [List.singleton_append, List.mem_cons] at hb
      rcases hb with rfl | hb
      · exact hn a (List.mem_of_mem_take ha)
      · exact h2.2.2 a ha b hb
  · rw [List.append_assoc, List.pairwise_append]
    have hdrop : x.2.2.1 = true → ∀ y ∈ ys.drop (plc x.2.2.1 ys), y.2.2.1 = false := by
      intro hc y hy
      obtain ⟨i, hi, rfl⟩ := List.getElem_of_mem hy
      have hpl : plc x.2.2.1 ys = plc true ys := by rw [hc]
      rw [List.getElem_drop]
      rw [List.length_drop] at hi
      exact plc_true_false ys (by omega) (by omega)
    have hnil : x.2.2.1 = false → ys.drop (plc x.2.2.1 ys) = [] := by
      intro hc
      rw [hc, plc_false, List.drop_length]
    refine ⟨h3.1, ?_, ?_⟩
    · rw [List.singleton_append, List.pairwise_cons]
      refine ⟨fun y hy hyc => ?_, h3.2.1⟩
      cases hc : x.2.2.1
      · rw [hnil hc] at hy; simp at hy
      · exact absurd hyc (by rw [hdrop hc y hy]; simp)
    · intro a ha b hb hbc
      rw [List.singleton_append, List.mem_cons] at hb
      rcases hb with rfl | hb
      · obtain ⟨i, hi, rfl⟩ := List.mem_take_iff_getElem.1 ha
        rw [hbc] at hi
        rw [List.pairwise_iff_getElem] at d3
        obtain ⟨m, hm⟩ : ∃ m, plc true ys = m + 1 := ⟨plc true ys - 1, by omega⟩
        rw [hbc] at hle
        have hmt := plc_true_true ys hm (by omega)
        rcases Nat.lt_or_ge i m with him | him
        · exact d3 i m (by omega) (by omega) him hmt
        · obtain rfl : i = m := by omega
          exact hmt
      · exact h3.2.2 a ha b hb hbc
end Go.Proofs.YteaibamkfccplaaDoor.Ws
