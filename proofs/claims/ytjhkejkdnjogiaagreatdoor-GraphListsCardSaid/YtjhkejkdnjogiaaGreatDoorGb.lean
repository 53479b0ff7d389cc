/- Lists in an order, each thing once: what is put in its place, the one list that holds these things, what is left of a sorted list when those that stand there again are taken away. -/
import Derived.Lib.SlicesCompact
import Derived.Lib.Hide
namespace Go.Proofs.YtjhkejkdnjogiaaGreatDoor.Od
open Go

variable {α : Type} [DecidableEq α] {lt : α → α → Bool} {l a b : List α} {x y : α}
/-- an order in which each two that are not one stand -/
structure Ordr (lt : α → α → Bool) : Prop where
  irr : ∀ a, lt a a = false
  tr : ∀ a b c, lt a b = true → lt b c = true → lt a c = true
  tot : ∀ a b, lt a b = false → lt b a = false → a = b
/-- rising -/
def Asc (lt : α → α → Bool) (l : List α) : Prop := l.Pairwise fun a b => lt a b = true
/-- put in its place, once -/
def ins (lt : α → α → Bool) (x : α) : List α → List α
  | [] => [x]
  | y :: ys => if lt y x then y :: ins lt x ys else if y = x then y :: ys else x :: y :: ys
/-- these, rising, each once -/
def can (lt : α → α → Bool) (l : List α) : List α := l.foldl (fun out x => ins lt x out) []
theorem can_snoc (l : List α) (x : α) : can lt (l ++ [x]) = ins lt x (can lt l) := by simp [can]
theorem can_nil : can lt ([] : List α) = [] := rfl
theorem ins_mem : y ∈ ins lt x l ↔ y = x ∨ y ∈ l := by
  induction l with
  | nil => simp [ins]
  | cons z zs ih =>
    unfold ins
    split
    · simp only [List.mem_cons, ih]
      constructor
      · rintro (h | h | h)
        · exact .inr (.inl h)
        · exact .inl h
        · exact .inr (.inr h)
      · rintro (h | h | h)
        · exact .inr (.inl h)
        · exact .inl h
        · exact .inr (.inr h)
    · split
      · rename_i h
        subst h
        simp
      · simp
theorem ins_asc (o : Ordr lt) (h : Asc lt l) : Asc lt (ins lt x l) := by
  induction l with
  | nil => exact List.pairwise_singleton _ _
  | cons z zs ih =>
    obtain ⟨h1, h2⟩ := List.pairwise_cons.1 h
    unfold ins
    split
    · rename_i hz
      refine List.pairwise_cons.2 ⟨fun y hy => ?_, ih h2⟩
      rcases ins_mem.1 hy with rfl | hy
      · exact hz
      · exact h1 y hy
    · split
      · exact h
      · rename_i hz hne
        have hxz : lt x z = true := by
          cases e : lt x z
          · exact absurd (o.tot z x (by simpa using hz) e) hne
          · rfl
        refine List.pairwise_cons.2 ⟨fun y hy => ?_, h⟩
        rcases List.mem_cons.1 hy with rfl | hy
        · exact hxz
        · exact o.tr _ _ _ hxz (h1 y hy)
theorem can_mem : x ∈ can lt l ↔ x ∈ l := by
  have : ∀ (l s : List α), x ∈ l.foldl (fun out x => ins lt x out) s ↔ x ∈ s ∨ x ∈ l := by
    intro l
    induction l with
    | nil => simp
    | cons z zs ih =>
      intro s
      rw [List.foldl_cons, ih, ins_mem, List.mem_cons]
      constructor
      · rintro ((h | h) | h)
        · exact .inr (.inl h)
        · exact .inl h
        · exact .inr (.inr h)
      · rintro (h | h | h)
        · exact .inl (.inr h)
        · exact .inl (.inl h)
        · exact .inr h
  unfold can
  rw [this]
  simp
theorem can_asc (o : Ordr lt) (l : List α) : Asc lt (can lt l) := by
  have : ∀ (l s : List α), Asc lt s → Asc lt (l.foldl (fun out x => ins lt x out) s) := by
    intro l
    induction l with
    | nil => exact fun _ h => h
    | cons z zs ih => exact fun s h => ih _ (ins_asc o h)
  exact this l [] List.Pairwise.nil
omit [DecidableEq α] in
theorem asc_ext (o : Ordr lt) : ∀ {a b : List α}, Asc lt a → Asc lt b → (∀ x, x ∈ a ↔ x ∈ b) → a = b
  | [], [], _, _, _ => rfl
  | [], y :: ys, _, _, h => by have := (h y).2 List.mem_cons_self; cases this
  | x :: xs, [], _, _, h => by have := (h x).1 List.mem_cons_self; cases this
  | x :: xs, y :: ys, ha, hb, h => by
    obtain ⟨a1, a2⟩ := List.pairwise_cons.1 ha
    obtain ⟨b1, b2⟩ := List.pairwise_cons.1 hb
    have hxy : x = y := by
      rcases List.mem_cons.1 ((h x).1 List.mem_cons_self) with e | h1
      · exact e
      · rcases List.mem_cons.1 ((h y).2 List.mem_cons_self) with e | h2
        · exact e.symm
        · have k1 := b1 x h1
          have k2 := a1 y h2
          have := o.tr _ _ _ k1 k2
          rw [o.irr] at this
          cases this
    subst hxy
    rw [asc_ext o a2 b2 fun z => ?_]
    have hz := h z
    simp only [List.mem_cons] at hz
    constructor
    · intro hm
      rcases hz.1 (.inr hm) with e | h1
      · subst e
        have := a1 z hm
        rw [o.irr] at this
        cases this
      · exact h1
    · intro hm
      rcases hz.2 (.inr hm) with e | h1
      · subst e
        have := b1 z hm
        rw [o.irr] at this
        cases this
      · exact h1
theorem can_is (o : Ordr lt) (h : Asc lt a) (hm : ∀ x, x ∈ a ↔ x ∈ l) : a = can lt l :=
  asc_ext o h (can_asc o l) fun x => (hm x).trans can_mem.symm
theorem can_self (o : Ordr lt) (h : Asc lt a) : can lt a = a := (can_is o h fun _ => Iff.rfl).symm
theorem can_eq (o : Ordr lt) (hm : ∀ x, x ∈ a ↔ x ∈ b) : can lt a = can lt b := can_is o (can_asc o a) fun x => can_mem.trans (hm x)
theorem ins_len (x : α) (l : List α) : (ins lt x l).length ≤ l.length + 1 := by
  induction l with
  | nil => exact Nat.le_refl _
  | cons z zs ih =>
    unfold ins
    split
    · simpa using ih
    · split
      · simp
      · simp
theorem can_len (l : List α) : (can lt l).length ≤ l.length := by
  have : ∀ (l s : List α), (l.foldl (fun out x => ins lt x out) s).length ≤ s.length + l.length := by
    intro l
    induction l with
    | nil => exact fun s => Nat.le_refl _
    | cons z zs ih =>
      intro s
      have h1 := ih (ins lt z s)
      have h2 := ins_len (lt := lt) z s
      rw [List.foldl_cons, List.length_cons]
      omega
  have := this l []
  unfold can
  simpa using this
/-- one that is there stays -/
theorem ins_at (o : Ordr lt) : ∀ {l : List α} {k : Nat}, (∀ j (_ : j < k) (h : j < l.length), lt l[j] x = true) → (h : k < l.length) → l[k] = x → ins lt x l = l
  | y :: ys, 0, _, _, e => by
    simp only [List.getElem_cons_zero] at e
    subst e
    unfold ins
    rw [o.irr]
    simp
  | y :: ys, k + 1, hl, h, e => by
    have h0 := hl 0 (by omega) (by simp)
    simp only [List.getElem_cons_zero] at h0
    simp only [List.getElem_cons_succ] at e
    unfold ins
    rw [if_pos h0, ins_at o (k := k) (fun j hj hjl => by have := hl (j + 1) (by omega) (by simpa using hjl); simpa using this) (by simpa using h) e]
/-- one that is not comes behind those that are less -/
theorem ins_new : ∀ {l : List α} {k : Nat}, k ≤ l.length → (∀ j (_ : j < k) (h : j < l.length), lt l[j] x = true) → (∀ h : k < l.length, lt l[k] x = false ∧ l[k] ≠ x) → ins lt x l = l.take k ++ x :: l.drop k
  | [], k, h0, _, _ => by
    obtain rfl : k = 0 := by simpa using h0
    rfl
  | y :: ys, 0, _, _, h => by
    obtain ⟨h1, h2⟩ := h (by simp)
    simp only [List.getElem_cons_zero] at h1 h2
    unfold ins
    rw [h1, if_neg (by simp), if_neg h2]
    rfl
  | y :: ys, k + 1, hk, hl, h => by
    have h0 := hl 0 (by omega) (by simp)
    simp only [List.getElem_cons_zero] at h0
    unfold ins
    rw [if_pos h0, ins_new (k := k) (by simpa using hk) (fun j hj hjl => by have := hl (j + 1) (by omega) (by simpa using hjl); simpa using this) (fun hh => by have := h (by simpa using hh); simpa using this)]
    simp
theorem ins_last (h : ∀ y ∈ l, lt y x = true) : ins lt x l = l ++ [x] := by
  have := ins_new (lt := lt) (x := x) (l := l) (k := l.length) (Nat.le_refl _) (fun j _ hj => h _ (List.getElem_mem hj)) (fun hh => absurd hh (Nat.lt_irrefl _))
  simpa using this
theorem ins_old (o : Ordr lt) (h : Asc lt l) (hx : x ∈ l) : ins lt x l = l :=
  asc_ext o (ins_asc o h) h fun _ => ins_mem.trans ⟨fun hy => hy.elim (fun e => e ▸ hx) id, .inr⟩
/-- sorted; one may stand there twice -/
def Srt (lt : α → α → Bool) (l : List α) : Prop := l.Pairwise fun a b => lt b a = false
omit [DecidableEq α] in
theorem take_last (xs : List α) {m : Nat} (hm : m < xs.length) : xs.take (m + 1) = xs.take m ++ [xs[m]] := List.take_succ_eq_append_getElem hm
theorem can_again (o : Ordr lt) {xs : List α} {m : Nat} (hm : m < xs.length) (h0 : 0 < m) (e : xs[m] = xs[m - 1]) : can lt (xs.take (m + 1)) = can lt (xs.take m) := by
  rw [take_last xs hm, can_snoc]
  refine ins_old o (can_asc o _) (can_mem.2 ?_)
  rw [e]
  exact List.mem_take_iff_getElem.2 ⟨m - 1, by omega, rfl⟩
theorem can_more (o : Ordr lt) {xs : List α} (hs : Srt lt xs) {m : Nat} (hm : m < xs.length) (h0 : 0 < m) (e : xs[m] ≠ xs[m - 1]) : can lt (xs.take (m + 1)) = can lt (xs.take m) ++ [xs[m]] := by
  rw [take_last xs hm, can_snoc]
  refine ins_last fun y hy => ?_
  obtain ⟨j, hj, rfl⟩ := List.mem_take_iff_getElem.1 (can_mem.1 hy)
  have hp := List.pairwise_iff_getElem.1 hs
  have h1 : lt xs[m - 1] xs[m] = true := by
    cases q : lt xs[m - 1] xs[m]
    · exact absurd (o.tot _ _ (hp (m - 1) m (by omega) hm (by omega)) q) e
    · rfl
  by_cases hjm : j = m - 1
  · subst hjm; exact h1
  · have h2 := hp j (m - 1) (by omega) (by omega) (by omega)
    cases q : lt xs[j] xs[m - 1]
    · have := o.tot _ _ q h2
      rw [this]
      exact h1
    · exact o.tr _ _ _ q h1
theorem can_one (x : α) : can lt [x] = [x] := rfl
theorem can_short (xs : List α) (h : xs.length < 2) : can lt xs = xs := by
  match xs, h with
  | [], _ => rfl
  | [x], _ => rfl
/-- while nothing stood there twice -/
theorem can_grow (o : Ordr lt) {xs : List α} (hs : Srt lt xs) {m : Nat} (hm : m < xs.length) (h0 : 0 < m) (e : xs[m] ≠ xs[m - 1]) (h : can lt (xs.take m) = xs.take m) : can lt (xs.take (m + 1)) = xs.take (m + 1) := by
  rw [can_more o hs hm h0 e, h, take_last xs hm]
/-- so many places have been looked at: what is left of them lies ahead, the rest as it was -/
structure Cmid (lt : α → α → Bool) (xs zs : List α) (k m : Nat) : Prop where
  len : zs.length = xs.length
  km : k < m
  mn : m ≤ xs.length
  kept : zs.take k = can lt (xs.take m)
  rest : zs.drop k = xs.drop k
theorem Cmid.at {xs zs : List α} {k m j : Nat} (h : Cmid lt xs zs k m) (hk : k ≤ j) (hj : j < xs.length) : ∃ hz : j < zs.length, zs[j] = xs[j] := by
  have hz : j < zs.length := by rw [h.len]; exact hj
  refine ⟨hz, ?_⟩
  have e1 : (zs.drop k)[j - k]? = (xs.drop k)[j - k]? := by rw [h.rest]
  rw [List.getElem?_drop, List.getElem?_drop, show k + (j - k) = j by omega, List.getElem?_eq_getElem hz, List.getElem?_eq_getElem hj] at e1
  exact Option.some.inj e1
theorem Cmid.start (o : Ordr lt) {xs : List α} {k : Nat} (hk : k < xs.length) (h0 : 0 < k) (h : can lt (xs.take k) = xs.take k) (e : xs[k] = xs[k - 1]) : Cmid lt xs xs k (k + 1) :=
  ⟨rfl, Nat.lt_succ_self _, hk, by rw [can_again o hk h0 e, h], rfl⟩
theorem Cmid.skip (o : Ordr lt) {xs zs : List α} {k m : Nat} (h : Cmid lt xs zs k m) (hm : m < xs.length) (e : xs[m] = xs[m - 1]) : Cmid lt xs zs k (m + 1) :=
  ⟨h.len, Nat.lt_succ_of_lt h.km, hm, by rw [can_again o hm (by have := h.km; omega) e, h.kept], h.rest⟩
theorem Cmid.keep (o : Ordr lt) {xs zs : List α} (hs : Srt lt xs) {k m : Nat} (h : Cmid lt xs zs k m) (hm : m < xs.length) (e : xs[m] ≠ xs[m - 1]) : Cmid lt xs (zs.set k xs[m]) (k + 1) (m + 1) := by
  have hkm := h.km
  have hkz : k < zs.length := by rw [h.len]; omega
  refine ⟨by rw [List.length_set, h.len], by omega, hm, ?_, ?_⟩
  · rw [can_more o hs hm (by omega) e, List.take_succ_eq_append_getElem (by simpa using hkz), List.take_set_of_le (Nat.le_refl _), h.kept]
    simp
  · rw [List.drop_set_of_lt (by omega), ← List.drop_drop, ← List.drop_drop, h.rest]
theorem Cmid.done {xs zs : List α} {k : Nat} (h : Cmid lt xs zs k xs.length) : zs.take k = can lt xs := by
  rw [h.kept, List.take_length]
/-- what the library's function says of a sorted row -/
theorem compact_can [Inhabited α] (o : Ordr lt) {xs : List α} (hs : Srt lt xs) : Lib.compactUpTo xs.toArray xs.toArray.size = can lt xs := by
  have key : ∀ m, m ≤ xs.length → Lib.compactUpTo xs.toArray m = can lt (xs.take m) := by
    intro m
    induction m with
    | zero => intro _; rfl
    | succ m ih =>
      intro hm
      have hml : m < xs.length := by omega
      have g : ∀ j (h : j < xs.length), xs.toArray[j]! = xs[j] := fun j h => by
        rw [getElem!_pos xs.toArray j (by simpa using h)]
        simp
      rw [Lib.compactUpTo_succ, ih (by omega)]
      by_cases h0 : m = 0
      · subst h0
        rw [Lib.keeps_lt_one _ 0 (by omega), g 0 hml, take_last xs hml]
        simp [can, ins]
      · by_cases e : xs[m] = xs[m - 1]
        · rw [Lib.keeps_neg (by omega) (by rw [g m hml, g (m - 1) (by omega)]; exact e), can_again o hml (by omega) e]
          simp
        · rw [Lib.keeps_pos (by rw [g m hml, g (m - 1) (by omega)]; exact e), can_more o hs hml (by omega) e, g m hml]
          simp
  have := key xs.length (Nat.le_refl _)
  rw [List.take_length] at this
  simpa using this
end Go.Proofs.YtjhkejkdnjogiaaGreatDoor.Od
