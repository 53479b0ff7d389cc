/- The order in which a walk leaves places, by a stack: who is left last among those that lead to it, in what has been left, is led to by them alone if it leads to them. -/
import Derived.Test.YtggmnjnigmbooaaPB
namespace Go.Proofs.Ytggmnjnigmbooaa.Cy

/-- what lies on the stack: a place to come to, or one that has been come to, with what was left ahead of that -/
inductive It where
  | at (a : Nat)
  | mk (a : Nat) (pre : List Nat)
/-- as the program lays it -/
def It.enc : It → Int
  | .at a => a
  | .mk a _ => -1 - a
/-- of those that have been left ahead of a, whoever leads to a by such ones is led to by it -/
def Kk (to : Tos) (L : List Nat) (a : Nat) : Prop := ∀ x ∈ L, Rc (fun u v => u ∈ L ∧ Ed to u v) x a → Rc (Ed to) a x
/-- rows in which each one is so -/
inductive Fin (to : Tos) : List Nat → Prop
  | nil : Fin to []
  | snoc {L : List Nat} {a : Nat} : Fin to L → Kk to L a → Fin to (L ++ [a])
theorem Fin.at {to : Tos} {L : List Nat} (h : Fin to L) : ∀ k (hk : k < L.length), Kk to (L.take k) L[k] := by
  induction h with
  | nil => intro k hk; simp at hk
  | @snoc L a h hk ih =>
    intro k hkl
    rw [List.length_append, List.length_singleton] at hkl
    rcases Nat.lt_or_ge k L.length with h1 | h1
    · rw [List.getElem_append_left h1, List.take_append_of_le_length (Nat.le_of_lt h1)]
      exact ih k h1
    · obtain rfl : k = L.length := by omega
      simp only [List.take_left', List.getElem_concat_length]
      exact hk

section
variable {to : Tos} {sn : Nat → Bool} {L : List Nat} {st : List It} {a : Nat}
/-- the walk on its way -/
structure Lf (to : Tos) (sn : Nat → Bool) (L : List Nat) (st : List It) : Prop where
  at' : ∀ b, It.at b ∈ st → b < to.length
  mk' : ∀ b p, It.mk b p ∈ st → b < to.length
  nd : L.Nodup
  lt : ∀ b ∈ L, b < to.length
  sw : ∀ x, sn x = true ↔ x ∈ L ∨ ∃ p, It.mk x p ∈ st
  off : ∀ b p, It.mk b p ∈ st → b ∉ L
  out : ∀ x ∈ L, ∀ y, Ed to x y → sn y = true
  up : ∀ s1 b p s2, st = s1 ++ It.mk b p :: s2 →
    (∃ M, L = p ++ M ∧ ∀ x ∈ M, Rc (Ed to) b x) ∧ (∀ x ∈ p, ∀ y, Ed to x y → y ∈ p ∨ ∃ p', It.mk y p' ∈ s2) ∧
    (∀ y, It.at y ∈ s1 → Rc (Ed to) b y) ∧ (∀ y p', It.mk y p' ∈ s1 → Rc (Ed to) b y) ∧ (∀ y, Ed to b y → sn y = true ∨ It.at y ∈ s1) ∧ ∀ p', It.mk b p' ∉ s2
  all : ∀ x, x < to.length → sn x = true ∨ It.at x ∈ st
  fin : Fin to L
theorem cons_split {α : Type} {x y : α} {l s1 s2 : List α} (h : x :: l = s1 ++ y :: s2) : (s1 = [] ∧ x = y ∧ l = s2) ∨ ∃ s, s1 = x :: s ∧ l = s ++ y :: s2 := by
  cases s1 with
  | nil => simp at h; exact .inl ⟨rfl, h.1, h.2⟩
  | cons z s => simp at h; exact .inr ⟨s, by rw [h.1], h.2⟩
theorem Lf.start (to : Tos) (sn : Nat → Bool) (hs : ∀ x, sn x = false) : Lf to sn [] ((List.range to.length).reverse.map It.at) where
  at' b hb := by simpa using hb
  mk' b p hb := by simp at hb
  nd := List.nodup_nil
  lt b hb := by simp at hb
  sw x := by simp [hs]
  off b p hb := by simp at hb
  out x hx := by simp at hx
  up s1 b p s2 h := by
    have : It.mk b p ∈ (List.range to.length).reverse.map It.at := by rw [h]; simp
    simp at this
  all x hx := .inr (by simpa using hx)
  fin := .nil
/-- coming to a place again: it is left -/
theorem Lf.leave {p : List Nat} (h : Lf to sn L (.mk a p :: st)) : Lf to sn (L ++ [a]) st := by
  obtain ⟨⟨M, hM, hMr⟩, hp, -, -, hy, hone⟩ := h.up [] a p st rfl
  have hoff := h.off a p (List.mem_cons_self ..)
  have ha := h.mk' a p (List.mem_cons_self ..)
  refine ⟨fun b hb => h.at' b (List.mem_cons_of_mem _ hb), fun b q hb => h.mk' b q (List.mem_cons_of_mem _ hb), ?_, ?_, ?_, ?_, ?_, ?_, ?_, ?_⟩
  · rw [List.nodup_append]
    refine ⟨h.nd, by simp, fun x hx y hy' => ?_⟩
    obtain rfl : y = a := by simpa using hy'
    rintro rfl
    exact hoff hx
  · intro b hb
    rcases List.mem_append.1 hb with hb | hb
    · exact h.lt b hb
    · obtain rfl : b = a := by simpa using hb
      exact ha
  · intro x
    rw [h.sw x]
    constructor
    · rintro (h1 | ⟨q, h1⟩)
      · exact .inl (by simp [h1])
      · rcases List.mem_cons.1 h1 with h1 | h1
        · injection h1 with h1 _; exact .inl (by simp [h1])
        · exact .inr ⟨q, h1⟩
    · rintro (h1 | ⟨q, h1⟩)
      · rcases List.mem_append.1 h1 with h1 | h1
        · exact .inl h1
        · obtain rfl : x = a := by simpa using h1
          exact .inr ⟨p, List.mem_cons_self ..⟩
      · exact .inr ⟨q, List.mem_cons_of_mem _ h1⟩
  · intro b q hb hbl
    rcases List.mem_append.1 hbl with h1 | h1
    · exact h.off b q (List.mem_cons_of_mem _ hb) h1
    · obtain rfl : b = a := by simpa using h1
      exact hone q hb
  · intro x hx y he
    rcases List.mem_append.1 hx with h1 | h1
    · exact h.out x h1 y he
    · obtain rfl : x = a := by simpa using h1
      rcases hy y he with h2 | h2
      · exact h2
      · simp at h2
  · intro s1 b q s2 hst
    obtain ⟨⟨M', hM', hMr'⟩, h2, h3, h4, h5, h6⟩ := h.up (.mk a p :: s1) b q s2 (by rw [hst]; rfl)
    refine ⟨⟨M' ++ [a], by rw [hM']; simp, fun x hx => ?_⟩, h2, fun y hy => h3 y (List.mem_cons_of_mem _ hy), fun y p' hy => h4 y p' (List.mem_cons_of_mem _ hy), fun y he => ?_, h6⟩
    · rcases List.mem_append.1 hx with h7 | h7
      · exact hMr' x h7
      · obtain rfl : x = a := by simpa using h7
        exact h4 _ p (List.mem_cons_self ..)
    · rcases h5 y he with h7 | h7
      · exact .inl h7
      · rcases List.mem_cons.1 h7 with h7 | h7
        · cases h7
        · exact .inr h7
  · intro x hx
    rcases h.all x hx with h1 | h1
    · exact .inl h1
    · rcases List.mem_cons.1 h1 with h1 | h1
      · cases h1
      · exact .inr h1
  · refine .snoc h.fin fun x hx hr => ?_
    have never : ∀ u t, Rc (fun u v => u ∈ L ∧ Ed to u v) u t → t = a → u ∈ p → False := by
      intro u t hu
      induction hu with
      | here u =>
        rintro rfl hup
        exact hoff (by rw [hM]; exact List.mem_append_left _ hup)
      | @step u v c e k ih =>
        rintro rfl hup
        rcases hp u hup v e.2 with h1 | ⟨q, h1⟩
        · exact ih rfl h1
        · cases k with
          | here => exact hone q h1
          | step f _ => exact h.off v q (List.mem_cons_of_mem _ h1) f.1
    rw [hM] at hx
    rcases List.mem_append.1 hx with h1 | h1
    · exact (never x a hr rfl h1).elim
    · exact hMr x h1
/-- coming to one that has been seen -/
theorem Lf.pass (h : Lf to sn L (.at a :: st)) (hs : sn a = true) : Lf to sn L st where
  at' b hb := h.at' b (List.mem_cons_of_mem _ hb)
  mk' b q hb := h.mk' b q (List.mem_cons_of_mem _ hb)
  nd := h.nd
  lt := h.lt
  sw x := by
    rw [h.sw x]
    constructor
    · rintro (h1 | ⟨q, h1⟩)
      · exact .inl h1
      · rcases List.mem_cons.1 h1 with h1 | h1
        · cases h1
        · exact .inr ⟨q, h1⟩
    · rintro (h1 | ⟨q, h1⟩)
      · exact .inl h1
      · exact .inr ⟨q, List.mem_cons_of_mem _ h1⟩
  off b q hb := h.off b q (List.mem_cons_of_mem _ hb)
  out := h.out
  up s1 b q s2 hst := by
    obtain ⟨h1, h2, h3, h4, h5, h6⟩ := h.up (.at a :: s1) b q s2 (by rw [hst]; rfl)
    refine ⟨h1, h2, fun y hy => h3 y (List.mem_cons_of_mem _ hy), fun y p' hy => h4 y p' (List.mem_cons_of_mem _ hy), fun y he => ?_, h6⟩
    rcases h5 y he with h7 | h7
    · exact .inl h7
    · rcases List.mem_cons.1 h7 with h7 | h7
      · injection h7 with h7; rw [h7]; exact .inl hs
      · exact .inr h7
  all x hx := by
    rcases h.all x hx with h1 | h1
    · exact .inl h1
    · rcases List.mem_cons.1 h1 with h1 | h1
      · injection h1 with h1; rw [h1]; exact .inl hs
      · exact .inr h1
  fin := h.fin
theorem split_ats {b : Nat} {q : List Nat} {s1 s2 s : List It} : ∀ {ys : List Nat}, ys.map It.at ++ It.mk a L :: s = s1 ++ It.mk b q :: s2 →
    (s1 = ys.map It.at ∧ a = b ∧ L = q ∧ s = s2) ∨ ∃ s', s1 = ys.map It.at ++ It.mk a L :: s' ∧ s = s' ++ It.mk b q :: s2
  | [], h => by
    rcases cons_split h with ⟨h1, h2, h3⟩ | ⟨s', h1, h2⟩
    · injection h2 with h2 h4
      exact .inl ⟨h1, h2, h4, h3⟩
    · exact .inr ⟨s', h1, h2⟩
  | y :: ys, h => by
    rcases cons_split (x := It.at y) (by simpa using h) with ⟨h1, h2, h3⟩ | ⟨s', h1, h2⟩
    · cases h2
    · rcases split_ats h2 with ⟨h3, h4, h5, h6⟩ | ⟨s'', h3, h4⟩
      · exact .inl ⟨by rw [h1, h3]; rfl, h4, h5, h6⟩
      · exact .inr ⟨s'', by rw [h1, h3]; rfl, h4⟩
/-- coming to one that has not -/
theorem Lf.come (hi : Inn to) (h : Lf to sn L (.at a :: st)) (hs : sn a = false) : Lf to (upd sn a true) L ((nx to a).reverse.map It.at ++ .mk a L :: st) := by
  have hal : a ∉ L := fun hm => by rw [(h.sw a).2 (.inl hm)] at hs; cases hs
  have ham : ∀ p, It.mk a p ∉ st := fun p hm => by rw [(h.sw a).2 (.inr ⟨p, List.mem_cons_of_mem _ hm⟩)] at hs; cases hs
  have hsn : ∀ x, sn x = true → upd sn a true x = true := fun x hx => by
    by_cases e : x = a
    · rw [e, upd_self]
    · rw [upd_ne e]; exact hx
  have hmk : ∀ {b p}, It.mk b p ∈ (nx to a).reverse.map It.at ++ It.mk a L :: st ↔ (b = a ∧ p = L) ∨ It.mk b p ∈ st := fun {b p} => by
    simp
  refine ⟨fun b hb => ?_, fun b p hb => ?_, h.nd, h.lt, fun x => ?_, fun b p hb => ?_, fun x hx y he => hsn y (h.out x hx y he), fun s1 b p s2 hst => ?_, fun x hx => ?_, h.fin⟩
  · simp only [List.mem_append, List.mem_map, List.mem_reverse, List.mem_cons] at hb
    rcases hb with ⟨y, hy, e⟩ | h1 | h1
    · injection e with e; rw [← e]; exact hi _ _ hy
    · cases h1
    · exact h.at' b (List.mem_cons_of_mem _ h1)
  · rcases hmk.1 hb with ⟨rfl, _⟩ | h1
    · exact h.at' _ (List.mem_cons_self ..)
    · exact h.mk' b p (List.mem_cons_of_mem _ h1)
  · by_cases e : x = a
    · subst e
      rw [upd_self]
      exact ⟨fun _ => .inr ⟨L, hmk.2 (.inl ⟨rfl, rfl⟩)⟩, fun _ => rfl⟩
    · rw [upd_ne e, h.sw x]
      constructor
      · rintro (h1 | ⟨q, h1⟩)
        · exact .inl h1
        · rcases List.mem_cons.1 h1 with h1 | h1
          · cases h1
          · exact .inr ⟨q, hmk.2 (.inr h1)⟩
      · rintro (h1 | ⟨q, h1⟩)
        · exact .inl h1
        · rcases hmk.1 h1 with ⟨h2, _⟩ | h2
          · exact absurd h2 e
          · exact .inr ⟨q, List.mem_cons_of_mem _ h2⟩
  · rcases hmk.1 hb with ⟨rfl, _⟩ | h1
    · exact hal
    · exact h.off b p (List.mem_cons_of_mem _ h1)
  · rcases split_ats hst with ⟨rfl, rfl, rfl, rfl⟩ | ⟨s', rfl, rfl⟩
    · refine ⟨⟨[], by simp, by simp⟩, fun x hx y he => ?_, fun y hy => ?_, fun y p' hy => by simp at hy, fun y he => .inr (by simpa using (show y ∈ nx to a from he)), ham⟩
      · rcases (h.sw y).1 (h.out x hx y he) with h1 | ⟨q, h1⟩
        · exact .inl h1
        · rcases List.mem_cons.1 h1 with h1 | h1
          · cases h1
          · exact .inr ⟨q, h1⟩
      · exact .one (show y ∈ nx to a by simpa using hy)
    · obtain ⟨h1, h2, h3, h4, h5, h6⟩ := h.up (.at a :: s') b p s2 rfl
      have hba := h3 a (List.mem_cons_self ..)
      refine ⟨h1, h2, fun y hy => ?_, fun y p' hy => ?_, fun y he => ?_, h6⟩
      · simp only [List.mem_append, List.mem_map, List.mem_reverse, List.mem_cons] at hy
        rcases hy with ⟨z, hz, e⟩ | h7 | h7
        · injection e with e; rw [← e]; exact hba.snoc hz
        · cases h7
        · exact h3 y (List.mem_cons_of_mem _ h7)
      · simp only [List.mem_append, List.mem_map, List.mem_reverse, List.mem_cons] at hy
        rcases hy with ⟨z, hz, e⟩ | h7 | h7
        · cases e
        · injection h7 with h7 _; rw [h7]; exact hba
        · exact h4 y p' (List.mem_cons_of_mem _ h7)
      · rcases h5 y he with h7 | h7
        · exact .inl (hsn y h7)
        · rcases List.mem_cons.1 h7 with h7 | h7
          · injection h7 with h7; rw [h7, upd_self]; exact .inl rfl
          · exact .inr (by simp [h7])
  · rcases h.all x hx with h1 | h1
    · exact .inl (hsn x h1)
    · rcases List.mem_cons.1 h1 with h1 | h1
      · injection h1 with h1; rw [h1, upd_self]; exact .inl rfl
      · exact .inr (by simp [h1])
/-- all places in the order in which the walk leaves them -/
structure Lft (to : Tos) (L : List Nat) : Prop where
  nd : L.Nodup
  mem : ∀ x, x ∈ L ↔ x < to.length
  fin : Fin to L
theorem Lf.end (h : Lf to sn L []) : Lft to L := by
  refine ⟨h.nd, fun x => ⟨h.lt x, fun hx => ?_⟩, h.fin⟩
  rcases h.all x hx with h1 | h1
  · rcases (h.sw x).1 h1 with h2 | ⟨p, h2⟩
    · exact h2
    · simp at h2
  · simp at h1
theorem Lft.len (h : Lft to L) : L.length = to.length := by
  refine Nat.le_antisymm (nodup_lt h.nd fun x hx => (h.mem x).1 hx) ?_
  have := nodup_le (l := List.range to.length) (m := L) List.nodup_range fun x hx => (h.mem x).2 (List.mem_range.1 hx)
  simpa using this
/-- what is still to be laid on the stack, at most -/
def cost (to : Tos) (sn : Nat → Bool) : Nat → Nat
  | 0 => 0
  | k + 1 => cost to sn k + if sn k then 0 else (nx to k).length + 2
theorem cost_upd_ge {k : Nat} (h : k ≤ a) : cost to (upd sn a true) k = cost to sn k := by
  induction k with
  | zero => rfl
  | succ k ih => unfold cost; rw [ih (by omega), upd_ne (by omega)]
theorem cost_upd {k : Nat} (h : a < k) (hs : sn a = false) : cost to (upd sn a true) k + ((nx to a).length + 2) = cost to sn k := by
  induction k with
  | zero => omega
  | succ k ih =>
    unfold cost
    by_cases e : a = k
    · subst e
      rw [cost_upd_ge (Nat.le_refl _), upd_self, hs]
      simp
    · rw [upd_ne (by omega)]
      have := ih (by omega)
      omega
end
end Go.Proofs.Ytggmnjnigmbooaa.Cy
