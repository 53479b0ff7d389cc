/- Ways from place to place: marks that are spread from a place; the order in which a walk leaves places; parts of places that lead to each other. -/
import Derived.Test.YtggmnjnigmbooaaPA
namespace Go.Proofs.Ytggmnjnigmbooaa.Cy

/-- where each place leads -/
abbrev Tos := List (List Nat)
def nx (to : Tos) (a : Nat) : List Nat := to.getD a []
def Ed (to : Tos) (a b : Nat) : Prop := b ∈ nx to a
/-- all of it stays below the number of places -/
def Inn (to : Tos) : Prop := ∀ a, ∀ b ∈ nx to a, b < to.length
theorem nx_get {to : Tos} {a : Nat} (h : a < to.length) : nx to a = to[a] := by simp [nx, h]
theorem nx_out {to : Tos} {a : Nat} (h : to.length ≤ a) : nx to a = [] := by simp [nx, h]
theorem Ed.src {to : Tos} {a b : Nat} (h : Ed to a b) : a < to.length := by
  rcases Nat.lt_or_ge a to.length with h1 | h1
  · exact h1
  · unfold Ed at h; rw [nx_out h1] at h; simp at h
theorem Ed.dst {to : Tos} {a b : Nat} (hi : Inn to) (h : Ed to a b) : b < to.length := hi a b h

/-- one of a function's values turned -/
def upd {β : Type} (f : Nat → β) (i : Nat) (v : β) : Nat → β := fun k => if k = i then v else f k
theorem upd_self {β : Type} (f : Nat → β) (i : Nat) (v : β) : upd f i v i = v := if_pos rfl
theorem upd_ne {β : Type} {f : Nat → β} {i k : Nat} {v : β} (h : k ≠ i) : upd f i v k = f k := if_neg h

section
variable {to : Tos} {m f g : Nat → Int} {s a : Nat} {mark : Int} {st : List Nat}
/-- what is reached from s by places that have no mark -/
inductive Spr (to : Tos) (m : Nat → Int) (s : Nat) : Nat → Prop
  | one {b : Nat} : Ed to s b → m b = 0 → Spr to m s b
  | more {a b : Nat} : Spr to m s a → Ed to a b → m b = 0 → Spr to m s b
/-- a spreading on its way: the marks, and the places that are still to be gone on from -/
structure Sp (to : Tos) (m : Nat → Int) (s : Nat) (mark : Int) (f : Nat → Int) (st : List Nat) : Prop where
  same : ∀ x, f x = m x ∨ (m x = 0 ∧ f x = mark ∧ Spr to m s x)
  stack : ∀ x ∈ st, x = s ∨ (m x = 0 ∧ f x = mark ∧ Spr to m s x)
  seen : ∀ x, (x = s ∨ (m x = 0 ∧ f x = mark)) → x ∈ st ∨ ∀ y, Ed to x y → f y ≠ 0
/-- .. in the midst of a place's own: of those the first k have been looked at -/
structure Spm (to : Tos) (m : Nat → Int) (s : Nat) (mark : Int) (a k : Nat) (f : Nat → Int) (st : List Nat) : Prop where
  same : ∀ x, f x = m x ∨ (m x = 0 ∧ f x = mark ∧ Spr to m s x)
  stack : ∀ x ∈ st, x = s ∨ (m x = 0 ∧ f x = mark ∧ Spr to m s x)
  here : a = s ∨ (m a = 0 ∧ f a = mark ∧ Spr to m s a)
  seen : ∀ x, (x = s ∨ (m x = 0 ∧ f x = mark)) → x = a ∨ x ∈ st ∨ ∀ y, Ed to x y → f y ≠ 0
  some : ∀ y ∈ (nx to a).take k, f y ≠ 0
theorem Sp.start (hm : mark ≠ 0) : Sp to m s mark m [s] :=
  ⟨fun _ => .inl rfl, fun x hx => .inl (by simpa using hx), fun x hx => by
    rcases hx with rfl | ⟨h1, h2⟩
    · exact .inl (by simp)
    · rw [h1] at h2; exact absurd h2.symm hm⟩
theorem Sp.pop (h : Sp to m s mark f (st ++ [a])) : Spm to m s mark a 0 f st :=
  ⟨h.same, fun x hx => h.stack x (by simp [hx]), h.stack a (by simp), fun x hx => by
    rcases h.seen x hx with h1 | h1
    · rcases List.mem_append.1 h1 with h1 | h1
      · exact .inr (.inl h1)
      · exact .inl (by simpa using h1)
    · exact .inr (.inr h1), by simp⟩
theorem Spm.skip {k : Nat} (h : Spm to m s mark a k f st) (hk : k < (nx to a).length) (hf : f (nx to a)[k] ≠ 0) : Spm to m s mark a (k + 1) f st :=
  ⟨h.same, h.stack, h.here, h.seen, fun y hy => by
    rw [List.take_succ_eq_append_getElem hk] at hy
    rcases List.mem_append.1 hy with hy | hy
    · exact h.some y hy
    · obtain rfl : y = (nx to a)[k] := by simpa using hy
      exact hf⟩
theorem Spm.put {k : Nat} (hm : mark ≠ 0) (h : Spm to m s mark a k f st) (hk : k < (nx to a).length) (hf : f (nx to a)[k] = 0) : Spm to m s mark a (k + 1) (upd f (nx to a)[k] mark) (st ++ [(nx to a)[k]]) := by
  have he : Ed to a (nx to a)[k] := List.getElem_mem hk
  obtain ⟨b, hB⟩ : ∃ b, (nx to a)[k] = b := ⟨_, rfl⟩
  rw [hB] at he hf ⊢
  have hb : m b = 0 ∧ Spr to m s b := by
    have hmb : m b = 0 := by
      rcases h.same b with h1 | ⟨h1, h2, _⟩
      · rw [← h1]; exact hf
      · exact h1
    refine ⟨hmb, ?_⟩
    rcases h.here with rfl | ⟨_, _, h3⟩
    · exact .one he hmb
    · exact .more h3 he hmb
  have key : ∀ x, (m x = 0 ∧ f x = mark ∧ Spr to m s x) → m x = 0 ∧ upd f b mark x = mark ∧ Spr to m s x := fun x hx => by
    by_cases e : x = b
    · rw [e, upd_self]; rw [e] at hx; exact ⟨hx.1, rfl, hx.2.2⟩
    · rw [upd_ne e]; exact hx
  refine ⟨fun x => ?_, fun x hx => ?_, ?_, fun x hx => ?_, fun y hy => ?_⟩
  · by_cases e : x = b
    · subst e; rw [upd_self]; exact .inr ⟨hb.1, rfl, hb.2⟩
    · rw [upd_ne e]; exact h.same x
  · rcases List.mem_append.1 hx with hx | hx
    · exact (h.stack x hx).imp id (key x)
    · obtain rfl : x = b := by simpa using hx
      exact .inr ⟨hb.1, upd_self .., hb.2⟩
  · exact h.here.imp id (key a)
  · by_cases e : x = b
    · exact .inr (.inl (by simp [e]))
    · rw [upd_ne e] at hx
      rcases h.seen x hx with h1 | h1 | h1
      · exact .inl h1
      · exact .inr (.inl (by simp [h1]))
      · refine .inr (.inr fun y hy => ?_)
        by_cases e2 : y = b
        · rw [e2, upd_self]; exact hm
        · rw [upd_ne e2]; exact h1 y hy
  · by_cases e2 : y = b
    · rw [e2, upd_self]; exact hm
    · rw [upd_ne e2]
      rw [List.take_succ_eq_append_getElem hk, hB] at hy
      rcases List.mem_append.1 hy with hy | hy
      · exact h.some y hy
      · exact absurd (by simpa using hy) e2
theorem Spm.done (h : Spm to m s mark a (nx to a).length f st) : Sp to m s mark f st :=
  ⟨h.same, h.stack, fun x hx => by
    rcases h.seen x hx with rfl | h1 | h1
    · refine .inr fun y hy => h.some y ?_
      rw [List.take_length]; exact hy
    · exact .inl h1
    · exact .inr h1⟩
/-- when nothing is left to be gone on from, just what is reached by places without a mark bears it -/
theorem Sp.end (h : Sp to m s mark f []) (x : Nat) : (Spr to m s x → f x = mark) ∧ (¬ Spr to m s x → f x = m x) := by
  refine ⟨fun hx => ?_, fun hx => ?_⟩
  · have key : ∀ x, Spr to m s x → m x = 0 ∧ f x = mark := by
      intro x hx
      induction hx with
      | @one b e hb =>
        refine ⟨hb, ?_⟩
        rcases h.seen s (.inl rfl) with h1 | h1
        · simp at h1
        · rcases h.same b with h2 | ⟨_, h2, _⟩
          · exact absurd (h2.trans hb) (h1 b e)
          · exact h2
      | @more a b _ e hb ih =>
        refine ⟨hb, ?_⟩
        rcases h.seen a (.inr ih) with h1 | h1
        · simp at h1
        · rcases h.same b with h2 | ⟨_, h2, _⟩
          · exact absurd (h2.trans hb) (h1 b e)
          · exact h2
    exact (key x hx).2
  · rcases h.same x with h1 | ⟨_, _, h1⟩
    · exact h1
    · exact absurd h1 hx
/-- how many places have no mark -/
def bare (n : Nat) (f : Nat → Int) : Nat := ((List.range n).filter fun x => f x == 0).length
theorem bare_le (n : Nat) (f : Nat → Int) : bare n f ≤ n := by
  refine Nat.le_trans (List.length_filter_le _ _) ?_
  simp
theorem bare_upd {n b : Nat} (hb : b < n) (hf : f b = 0) (hm : mark ≠ 0) : bare n (upd f b mark) + 1 = bare n f := by
  unfold bare
  induction n with
  | zero => omega
  | succ n ih =>
    rw [List.range_succ, List.filter_append, List.filter_append, List.length_append, List.length_append]
    by_cases e : b = n
    · subst e
      have h1 : (List.range b).filter (fun x => upd f b mark x == 0) = (List.range b).filter (fun x => f x == 0) := List.filter_congr fun x hx => by
        rw [upd_ne (by have := List.mem_range.1 hx; omega)]
      rw [h1]
      simp [upd_self, hf, hm]
    · have := ih (by omega)
      have h2 : upd f b mark n = f n := upd_ne (by omega)
      simp only [List.filter_cons, h2]
      by_cases h3 : (f n == 0) = true
      · simp [h3]; omega
      · simp only [Bool.not_eq_true] at h3
        simp [h3]; omega
end
end Go.Proofs.Ytggmnjnigmbooaa.Cy
