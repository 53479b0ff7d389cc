/- Ways from place to place, told plainly: what is reached, by how many steps; lists that hold each thing once. -/
namespace Go.Proofs.Ytggmnjnigmbooaa.Cy

section
variable {α : Type} {E F : α → α → Prop} {a b c : α} {n m : Nat}
/-- a way of no or more steps -/
inductive Rc (E : α → α → Prop) : α → α → Prop
  | here (a : α) : Rc E a a
  | step {a b c : α} : E a b → Rc E b c → Rc E a c
theorem Rc.one (e : E a b) : Rc E a b := .step e (.here _)
theorem Rc.trans (h : Rc E a b) (k : Rc E b c) : Rc E a c := by
  induction h with
  | here => exact k
  | step e _ ih => exact .step e (ih k)
theorem Rc.snoc (h : Rc E a b) (e : E b c) : Rc E a c := h.trans (.one e)
theorem Rc.mono (hEF : ∀ x y, E x y → F x y) (h : Rc E a b) : Rc F a b := by
  induction h with
  | here => exact .here _
  | step e _ ih => exact .step (hEF _ _ e) ih
theorem Rc.flip (h : Rc E a b) : Rc (fun x y => E y x) b a := by
  induction h with
  | here => exact .here _
  | step e _ ih => exact ih.snoc e
theorem Rc.unflip (h : Rc (fun x y => E y x) b a) : Rc E a b := h.flip
/-- a way of one or more steps -/
def Pl (E : α → α → Prop) (a c : α) : Prop := ∃ b, E a b ∧ Rc E b c
theorem Pl.one (e : E a b) : Pl E a b := ⟨b, e, .here _⟩
theorem Pl.rc (h : Pl E a b) : Rc E a b := by obtain ⟨x, e, k⟩ := h; exact .step e k
theorem Pl.snoc (h : Pl E a b) (e : E b c) : Pl E a c := by obtain ⟨x, f, k⟩ := h; exact ⟨x, f, k.snoc e⟩
theorem Pl.then (h : Pl E a b) (k : Rc E b c) : Pl E a c := by obtain ⟨x, f, g⟩ := h; exact ⟨x, f, g.trans k⟩
theorem Pl.trans (h : Pl E a b) (k : Pl E b c) : Pl E a c := h.then k.rc
theorem Rc.pl (h : Rc E a b) (e : E b c) : Pl E a c := by
  cases h with
  | here => exact .one e
  | step f k => exact ⟨_, f, k.snoc e⟩
theorem Rc.pl' (h : Rc E a b) (k : Pl E b c) : Pl E a c := by
  obtain ⟨x, e, g⟩ := k
  exact (h.pl e).then g
theorem Pl.last (h : Pl E a b) : ∃ c, Rc E a c ∧ E c b := by
  obtain ⟨x, e, k⟩ := h
  induction k generalizing a with
  | here => exact ⟨a, .here _, e⟩
  | step f _ ih => obtain ⟨c, h1, h2⟩ := ih f; exact ⟨c, .step e h1, h2⟩
theorem Rc.cases_pl (h : Rc E a b) : a = b ∨ Pl E a b := by
  cases h with
  | here => exact .inl rfl
  | step e k => exact .inr ⟨_, e, k⟩
/-- what is closed holds whatever is reached -/
theorem Rc.closed {P : α → Prop} (h : Rc E a b) (hc : ∀ x y, P x → E x y → P y) (ha : P a) : P b := by
  induction h with
  | here => exact ha
  | step e _ ih => exact ih (hc _ _ ha e)
/-- a way of so many steps -/
inductive Wk (E : α → α → Prop) : Nat → α → α → Prop
  | nil (a : α) : Wk E 0 a a
  | cons {n : Nat} {a b c : α} : E a b → Wk E n b c → Wk E (n + 1) a c
theorem Wk.rc (h : Wk E n a b) : Rc E a b := by
  induction h with
  | nil => exact .here _
  | cons e _ ih => exact .step e ih
theorem Wk.snoc (h : Wk E n a b) (e : E b c) : Wk E (n + 1) a c := by
  induction h with
  | nil => exact .cons e (.nil _)
  | cons f _ ih => exact .cons f (ih e)
theorem Wk.flip (h : Wk E n a b) : Wk (fun x y => E y x) n b a := by
  induction h with
  | nil => exact .nil _
  | cons e _ ih => exact ih.snoc e
theorem Rc.wk (h : Rc E a b) : ∃ n, Wk E n a b := by
  induction h with
  | here => exact ⟨0, .nil _⟩
  | step e _ ih => obtain ⟨n, h⟩ := ih; exact ⟨n + 1, .cons e h⟩
theorem Wk.last (h : Wk E (n + 1) a b) : ∃ c, Wk E n a c ∧ E c b := by
  have h' := h.flip
  cases h' with
  | cons e k => exact ⟨_, k.flip, e⟩
theorem Wk.zero (h : Wk E 0 a b) : a = b := by cases h; rfl
/-- the shortest way has so many steps -/
structure Ds (E : α → α → Prop) (a b : α) (n : Nat) : Prop where
  wk : Wk E n a b
  le : ∀ m, Wk E m a b → n ≤ m
theorem Ds.uniq (h : Ds E a b n) (k : Ds E a b m) : n = m := Nat.le_antisymm (h.le _ k.wk) (k.le _ h.wk)
theorem Rc.ds (h : Rc E a b) : ∃ n, Ds E a b n := by
  obtain ⟨n, hn⟩ := h.wk
  have key : ∀ k, (∃ m, m ≤ k ∧ Ds E a b m) ∨ ∀ m, m ≤ k → ¬ Wk E m a b := by
    intro k
    induction k with
    | zero =>
      by_cases h0 : Wk E 0 a b
      · exact .inl ⟨0, Nat.le_refl _, h0, fun _ _ => Nat.zero_le _⟩
      · refine .inr fun m hm => ?_
        obtain rfl : m = 0 := by omega
        exact h0
    | succ k ih =>
      rcases ih with ⟨m, hm, hd⟩ | ih
      · exact .inl ⟨m, by omega, hd⟩
      · by_cases h0 : Wk E (k + 1) a b
        · refine .inl ⟨k + 1, Nat.le_refl _, h0, fun m hm => ?_⟩
          rcases Nat.lt_or_ge m (k + 1) with h1 | h1
          · exact absurd hm (ih m (by omega))
          · exact h1
        · refine .inr fun m hm => ?_
          rcases Nat.lt_or_ge m (k + 1) with h1 | h1
          · exact ih m (by omega)
          · obtain rfl : m = k + 1 := by omega
            exact h0
  rcases key n with ⟨m, _, hd⟩ | h
  · exact ⟨m, hd⟩
  · exact absurd hn (h n (Nat.le_refl _))
theorem Ds.self (E : α → α → Prop) (a : α) : Ds E a a 0 := ⟨.nil _, fun _ _ => Nat.zero_le _⟩
theorem Ds.zero (h : Ds E a b 0) : a = b := h.wk.zero
/-- one step on, the way there is shorter by one at most -/
theorem Ds.le_succ (h : Ds E a c n) (e : E a b) (k : Ds E b c m) : n ≤ m + 1 := h.le _ (.cons e k.wk)
end

section
variable {α : Type} [DecidableEq α] {l m : List α}
/-- what holds each thing once is no longer than what holds all of them -/
theorem nodup_le : ∀ {l m : List α}, l.Nodup → (∀ x ∈ l, x ∈ m) → l.length ≤ m.length
  | [], _, _, _ => Nat.zero_le _
  | x :: l, m, hn, hs => by
    have hx := hs x (List.mem_cons_self ..)
    rw [List.nodup_cons] at hn
    have h1 := nodup_le (l := l) (m := m.erase x) hn.2 fun y hy => by
      have hne : y ≠ x := fun e => hn.1 (e ▸ hy)
      exact (List.mem_erase_of_ne hne).2 (hs y (List.mem_cons_of_mem _ hy))
    rw [List.length_erase_of_mem hx] at h1
    have : 0 < m.length := List.length_pos_of_mem hx
    simp only [List.length_cons]
    omega
theorem nodup_eq (hn : l.Nodup) (hs : ∀ x ∈ l, x ∈ m) (hl : m.length ≤ l.length) : ∀ x ∈ m, x ∈ l := by
  intro x hx
  by_cases h : x ∈ l
  · exact h
  · have h1 := nodup_le (l := x :: l) (m := m) (List.nodup_cons.2 ⟨h, hn⟩) (fun y hy => by
      rcases List.mem_cons.1 hy with rfl | hy
      · exact hx
      · exact hs y hy)
    simp only [List.length_cons] at h1
    omega
theorem nodup_lt {l : List Nat} {n : Nat} (hn : l.Nodup) (hs : ∀ x ∈ l, x < n) : l.length ≤ n := by
  have := nodup_le (m := List.range n) hn fun x hx => List.mem_range.2 (hs x hx)
  simpa using this
/-- a walk in a list that is shorter meets a place twice -/
theorem twice {m : List α} (f : Nat → α) (hf : ∀ i, f i ∈ m) : ∃ i j, i < j ∧ f i = f j := by
  have key : ∀ k, (∃ i j, i < j ∧ f i = f j) ∨ ((List.range k).map f).Nodup := by
    intro k
    induction k with
    | zero => right; simp
    | succ k ih =>
      rcases ih with h | h
      · exact .inl h
      · by_cases hk : f k ∈ (List.range k).map f
        · obtain ⟨i, hi, e⟩ := List.mem_map.1 hk
          exact .inl ⟨i, k, List.mem_range.1 hi, e⟩
        · right
          rw [List.range_succ, List.map_append, List.nodup_append]
          refine ⟨h, by simp, fun a ha b hb => ?_⟩
          simp only [List.map_cons, List.map_nil, List.mem_cons, List.not_mem_nil, or_false] at hb
          subst hb
          intro e
          exact hk (e ▸ ha)
  rcases key (m.length + 1) with h | h
  · exact h
  · have := nodup_le (m := m) h fun x hx => by
      obtain ⟨i, _, rfl⟩ := List.mem_map.1 hx
      exact hf i
    simp at this
    omega
/-- where each one has a step on within a list, one reaches itself -/
theorem ring_of {E : α → α → Prop} {m : List α} {a : α} (ha : a ∈ m) (hs : ∀ x ∈ m, ∃ y ∈ m, E x y) : ∃ x ∈ m, Pl E x x := by
  have h1 : ∃ g : α → α, ∀ x ∈ m, g x ∈ m ∧ E x (g x) := by
    refine ⟨fun x => if h : x ∈ m then Classical.choose (hs x h) else x, fun x hx => ?_⟩
    simp only [dif_pos hx]
    exact Classical.choose_spec (hs x hx)
  obtain ⟨g, hg⟩ := h1
  let f : Nat → α := fun n => Nat.rec a (fun _ x => g x) n
  have hf : ∀ i, f i ∈ m := fun i => by
    induction i with
    | zero => exact ha
    | succ i ih => exact (hg _ ih).1
  obtain ⟨i, j, hij, e⟩ := twice f hf
  have hw : ∀ k, Rc E (f i) (f (i + k)) := fun k => by
    induction k with
    | zero => exact .here _
    | succ k ih => exact ih.snoc (hg _ (hf _)).2
  refine ⟨f i, hf i, ?_⟩
  have h2 := (hw (j - i - 1)).pl (hg _ (hf _)).2
  have e2 : f (i + (j - i - 1) + 1) = f i := by rw [show i + (j - i - 1) + 1 = j by omega, e]
  have e3 : g (f (i + (j - i - 1))) = f (i + (j - i - 1) + 1) := rfl
  rw [e3, e2] at h2
  exact h2
end
end Go.Proofs.Ytggmnjnigmbooaa.Cy
