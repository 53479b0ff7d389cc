/- Parts of places that lead to each other, told from the place that was left last on; how far places are. -/
import Derived.Test.YtggmnjnigmbooaaPC
namespace Go.Proofs.Ytggmnjnigmbooaa.Cy

section
variable {to bk : Tos} {L : List Nat} {P Q : Nat → Int} {k : Nat}
/-- the same edges, each the other way round -/
def Turned (to bk : Tos) : Prop := bk.length = to.length ∧ ∀ x y, Ed bk x y ↔ Ed to y x
/-- each leads to the other -/
def Mut (to : Tos) (x y : Nat) : Prop := Rc (Ed to) x y ∧ Rc (Ed to) y x
/-- the parts that are told, those of the first k of the row being still to be looked at -/
structure Pts (to : Tos) (L : List Nat) (k : Nat) (P : Nat → Int) : Prop where
  told : ∀ i (h : i < L.length), k ≤ i → P L[i] ≠ 0
  back : ∀ x y, Ed to x y → P y ≠ 0 → P x ≠ 0
  same : ∀ x y, P x ≠ 0 → P y ≠ 0 → (P x = P y ↔ Mut to x y)
  low : ∀ x, P x ≠ 0 → (k : Int) < P x
theorem Pts.start (to : Tos) (L : List Nat) : Pts to L L.length fun _ => 0 :=
  ⟨fun i h h' => by omega, fun _ _ _ h => absurd rfl h, fun _ _ h => absurd rfl h, fun _ h => absurd rfl h⟩
theorem Pts.skip (h : Pts to L (k + 1) P) (hk : k < L.length) (hp : P L[k] ≠ 0) : Pts to L k P :=
  ⟨fun i hi hki => by
    rcases Nat.eq_or_lt_of_le hki with e | h1
    · subst e; exact hp
    · exact h.told i hi h1, h.back, h.same, fun x hx => by have := h.low x hx; omega⟩
theorem Pts.backs (h : Pts to L k P) {x y : Nat} (hr : Rc (Ed to) x y) (hy : P y ≠ 0) : P x ≠ 0 := by
  induction hr with
  | here => exact hy
  | step e _ ih => exact h.back _ _ e (ih hy)
/-- a part more: of a place without a part, and of what leads to it without having one -/
theorem Pts.part (hL : Lft to L) (hb : Turned to bk) (h : Pts to L (k + 1) P) (hk : k < L.length) (hp : P L[k] = 0)
    (hq : ∀ x, (Spr bk (upd P L[k] (k + 1)) L[k] x → Q x = k + 1) ∧ (¬ Spr bk (upd P L[k] (k + 1)) L[k] x → Q x = upd P L[k] (k + 1) x)) : Pts to L k Q := by
  obtain ⟨a, ha⟩ : ∃ a, L[k] = a := ⟨_, rfl⟩
  rw [ha] at hp hq
  have hkk := hL.fin.at k hk
  rw [ha] at hkk
  have hal : a < to.length := (hL.mem a).1 (ha ▸ List.getElem_mem hk)
  -- what leads to a place without a part, leads to it by such places
  have hU : ∀ {x y : Nat}, Ed to x y → P x = 0 → P y = 0 := fun {x y} e hx => by
    by_cases hy : P y = 0
    · exact hy
    · exact absurd hx (h.back x y e hy)
  have hin : ∀ x, P x = 0 → x < to.length → x = a ∨ x ∈ L.take k := fun x hx hxl => by
    obtain ⟨i, hi, e⟩ := List.getElem_of_mem ((hL.mem x).2 hxl)
    rcases Nat.lt_trichotomy i k with h1 | h1 | h1
    · exact .inr (e ▸ List.mem_take_iff_getElem.2 ⟨i, by omega, rfl⟩)
    · subst h1; exact .inl (e.symm.trans ha)
    · exact absurd (e ▸ hx) (h.told i hi h1)
  have hto : ∀ x t, Rc (Ed to) x t → t = a → P x = 0 → Rc (fun u v => u ∈ L.take k ∧ Ed to u v) x a := by
    intro x t hr
    induction hr with
    | here x => rintro rfl _; exact .here _
    | @step x y t e _ ih =>
      rintro rfl hx
      rcases hin x hx e.src with h1 | h1
      · rw [h1]; exact .here _
      · exact .step ⟨h1, e⟩ (ih rfl (hU e hx))
  have hmut : ∀ x, Rc (Ed to) x a → P x = 0 → Rc (Ed to) a x := fun x hr hx => by
    rcases hr.cases_pl with e | ⟨y, e, _⟩
    · rw [e]; exact .here _
    · rcases hin x hx e.src with e | h1
      · rw [e]; exact .here _
      · exact hkk x h1 (hto x a hr rfl hx)
  have hspr : ∀ x, Spr bk (upd P a (k + 1)) a x ↔ (x ≠ a ∧ P x = 0 ∧ Rc (Ed to) x a) := fun x => by
    have h0 : ∀ y, upd P a ((k : Int) + 1) y = 0 ↔ y ≠ a ∧ P y = 0 := fun y => by
      by_cases e : y = a
      · subst e; rw [upd_self]; simp; omega
      · rw [upd_ne e]; simp [e]
    constructor
    · intro hs
      induction hs with
      | @one b e hm =>
        have := (h0 b).1 hm
        exact ⟨this.1, this.2, .one ((hb.2 _ _).1 e)⟩
      | @more u b _ e hm ih =>
        have := (h0 b).1 hm
        exact ⟨this.1, this.2, .step ((hb.2 _ _).1 e) ih.2.2⟩
    · rintro ⟨hne, hx, hr⟩
      have key : ∀ x t, Rc (Ed to) x t → t = a → x ≠ a → P x = 0 → Spr bk (upd P a (k + 1)) a x := by
        intro x t hr
        induction hr with
        | here x => intro h1 h2; exact absurd h1 h2
        | @step x y t e _ ih =>
          rintro rfl hne hx
          by_cases hy : y = t
          · subst hy; exact .one ((hb.2 _ _).2 e) ((h0 x).2 ⟨hne, hx⟩)
          · exact .more (ih rfl hy (hU e hx)) ((hb.2 _ _).2 e) ((h0 x).2 ⟨hne, hx⟩)
      exact key x a hr rfl hne hx
  have hQ : ∀ x, (P x = 0 ∧ Rc (Ed to) x a ∧ Q x = k + 1) ∨ (¬ (P x = 0 ∧ Rc (Ed to) x a) ∧ Q x = P x) := fun x => by
    by_cases hx : P x = 0 ∧ Rc (Ed to) x a
    · refine .inl ⟨hx.1, hx.2, ?_⟩
      by_cases e : x = a
      · subst e
        rw [(hq x).2 fun hs => ((hspr x).1 hs).1 rfl, upd_self]
      · exact (hq x).1 ((hspr x).2 ⟨e, hx⟩)
    · refine .inr ⟨hx, ?_⟩
      have hne : x ≠ a := fun e => hx (by rw [e]; exact ⟨hp, .here _⟩)
      rw [(hq x).2 fun hs => hx ((hspr x).1 hs).2, upd_ne hne]
  have hnew : ∀ {x y : Nat}, P x = 0 → Rc (Ed to) x a → P y ≠ 0 → ¬ Mut to x y := fun {x y} hx _ hy hm => h.backs hm.1 hy hx
  refine ⟨fun i hi hki => ?_, fun x y e hy => ?_, fun x y hx hy => ?_, fun x hx => ?_⟩
  · rcases Nat.eq_or_lt_of_le hki with e | h1
    · subst e
      rw [ha]
      rcases hQ a with ⟨_, _, h2⟩ | ⟨h2, _⟩
      · rw [h2]; omega
      · exact absurd ⟨hp, .here _⟩ h2
    · rcases hQ L[i] with ⟨_, _, h2⟩ | ⟨_, h2⟩
      · rw [h2]; omega
      · rw [h2]; exact h.told i hi h1
  · rcases hQ y with ⟨h1, h2, _⟩ | ⟨_, h2⟩
    · rcases hQ x with ⟨_, _, h4⟩ | ⟨h3, h4⟩
      · rw [h4]; omega
      · rw [h4]; exact fun hx => h3 ⟨hx, .step e h2⟩
    · rcases hQ x with ⟨_, _, h4⟩ | ⟨_, h4⟩
      · rw [h4]; omega
      · rw [h4]; rw [h2] at hy; exact h.back x y e hy
  · rcases hQ x with ⟨h1, h2, h3⟩ | ⟨_, h3⟩
    · rcases hQ y with ⟨h4, h5, h6⟩ | ⟨_, h6⟩
      · rw [h3, h6]
        exact ⟨fun _ => ⟨h2.trans (hmut y h5 h4), h5.trans (hmut x h2 h1)⟩, fun _ => rfl⟩
      · rw [h6] at hy ⊢
        have h7 := h.low y hy
        rw [h3]
        exact ⟨fun e => by omega, fun hm => absurd hm (hnew h1 h2 hy)⟩
    · rcases hQ y with ⟨h4, h5, h6⟩ | ⟨_, h6⟩
      · rw [h3] at hx ⊢
        have h7 := h.low x hx
        rw [h6]
        exact ⟨fun e => by omega, fun hm => absurd ⟨hm.2, hm.1⟩ (hnew h4 h5 hx)⟩
      · rw [h3] at hx ⊢
        rw [h6] at hy ⊢
        exact h.same x y hx hy
  · rcases hQ x with ⟨_, _, h2⟩ | ⟨_, h2⟩
    · rw [h2]; omega
    · rw [h2] at hx ⊢; have := h.low x hx; omega
/-- two places have one part just if each leads to the other -/
def Parts (to : Tos) (P : Nat → Int) : Prop := ∀ x y, x < to.length → y < to.length → (P x = P y ↔ Mut to x y)
theorem Pts.end (hL : Lft to L) (h : Pts to L 0 P) : Parts to P := fun x y hx hy => by
  have key : ∀ z, z < to.length → P z ≠ 0 := fun z hz => by
    obtain ⟨i, hi, e⟩ := List.getElem_of_mem ((hL.mem z).2 hz)
    rw [← e]
    exact h.told i hi (Nat.zero_le _)
  exact h.same x y (key x hx) (key y hy)
/-- who has an edge that stays in its part reaches itself -/
theorem Parts.on (h : Parts to P) (hi : Inn to) {a : Nat} : (∃ b ∈ nx to a, P b = P a) ↔ Pl (Ed to) a a := by
  constructor
  · rintro ⟨b, hb, e⟩
    have hb' : Ed to a b := hb
    exact ⟨b, hb', ((h b a (hb'.dst hi) hb'.src).1 e).1⟩
  · rintro ⟨b, e, hr⟩
    exact ⟨b, e, (h b a (e.dst hi) e.src).2 ⟨hr, .one e⟩⟩
end

section
variable {to : Tos} {s n : Nat} {f : Nat → Nat} {row : List Nat} {gone : Nat}
/-- how far places are, as far as it is known: the row of those that have been come to, the first of which have been gone on from -/
structure Fr (to : Tos) (s : Nat) (f : Nat → Nat) (row : List Nat) (gone : Nat) : Prop where
  nd : row.Nodup
  lt : ∀ x ∈ row, x < to.length
  there : ∀ x, x ∈ row ↔ f x < to.length
  most : ∀ x, f x ≤ to.length
  first : s ∈ row ∧ f s = 0
  way : ∀ x ∈ row, Wk (Ed to) (f x) s x
  idx : ∀ i (h : i < row.length), f row[i] ≤ i
  asc : ∀ i j (hi : i < row.length) (hj : j < row.length), i ≤ j → f row[i] ≤ f row[j]
  near : ∀ (hg : gone < row.length) j (hj : j < row.length), f row[j] ≤ f row[gone] + 1
  went : ∀ i (h : i < row.length), i < gone → ∀ y, Ed to row[i] y → f y ≤ f row[i] + 1
  gle : gone ≤ row.length
/-- .. in the midst of going on from a place: of its own the first k have been looked at -/
structure Frm (to : Tos) (s : Nat) (a k : Nat) (f : Nat → Nat) (row : List Nat) (gone : Nat) : Prop where
  nd : row.Nodup
  lt : ∀ x ∈ row, x < to.length
  there : ∀ x, x ∈ row ↔ f x < to.length
  most : ∀ x, f x ≤ to.length
  first : s ∈ row ∧ f s = 0
  way : ∀ x ∈ row, Wk (Ed to) (f x) s x
  idx : ∀ i (h : i < row.length), f row[i] ≤ i
  asc : ∀ i j (hi : i < row.length) (hj : j < row.length), i ≤ j → f row[i] ≤ f row[j]
  gl : gone < row.length
  ha : row[gone] = a
  near : ∀ j (hj : j < row.length), f row[j] ≤ f a + 1
  went : ∀ i (h : i < row.length), i < gone → ∀ y, Ed to row[i] y → f y ≤ f row[i] + 1
  some : ∀ y ∈ (nx to a).take k, f y ≤ f a + 1
theorem Fr.start (hs : s < to.length) : Fr to s (upd (fun _ => to.length) s 0) [s] 0 := by
  have h1 : ∀ x, x ≠ s → upd (fun _ => to.length) s 0 x = to.length := fun x hx => upd_ne hx
  refine ⟨by simp, by simpa using hs, fun x => ?_, fun x => ?_, ⟨by simp, upd_self ..⟩, fun x hx => ?_, fun i hi => ?_, fun i j hi hj _ => ?_, fun hg j hj => ?_, fun i _ hi => by omega, by simp⟩
  · by_cases e : x = s
    · subst e; rw [upd_self]; simp; omega
    · rw [h1 x e]; simp [e]
  · by_cases e : x = s
    · subst e; rw [upd_self]; omega
    · rw [h1 x e]; omega
  · obtain rfl : x = s := by simpa using hx
    rw [upd_self]; exact .nil _
  · obtain rfl : i = 0 := by simpa using hi
    simp [upd_self]
  · obtain rfl : i = 0 := by simpa using hi
    simp [upd_self]
  · obtain rfl : j = 0 := by simpa using hj
    simp [upd_self]
theorem Fr.go (h : Fr to s f row gone) (hg : gone < row.length) : Frm to s row[gone] 0 f row gone :=
  ⟨h.nd, h.lt, h.there, h.most, h.first, h.way, h.idx, h.asc, hg, rfl, h.near hg, h.went, by simp⟩
theorem Frm.skip {a k : Nat} (h : Frm to s a k f row gone) (hk : k < (nx to a).length) (hf : f (nx to a)[k] ≠ to.length) : Frm to s a (k + 1) f row gone := by
  refine ⟨h.nd, h.lt, h.there, h.most, h.first, h.way, h.idx, h.asc, h.gl, h.ha, h.near, h.went, fun y hy => ?_⟩
  rw [List.take_succ_eq_append_getElem hk] at hy
  rcases List.mem_append.1 hy with hy | hy
  · exact h.some y hy
  · obtain rfl : y = (nx to a)[k] := by simpa using hy
    obtain ⟨j, hj, e⟩ := List.getElem_of_mem ((h.there (nx to a)[k]).2 (by have := h.most (nx to a)[k]; omega))
    rw [← e]
    exact h.near j hj
theorem Frm.put {a k : Nat} (hi : Inn to) (h : Frm to s a k f row gone) (hk : k < (nx to a).length) (hf : f (nx to a)[k] = to.length) :
    Frm to s a (k + 1) (upd f (nx to a)[k] (f a + 1)) (row ++ [(nx to a)[k]]) gone := by
  obtain ⟨b, hB⟩ : ∃ b, (nx to a)[k] = b := ⟨_, rfl⟩
  have he : Ed to a b := hB ▸ List.getElem_mem hk
  have hbn := he.dst hi
  rw [hB] at hf ⊢
  have hbr : b ∉ row := fun hm => by have := (h.there b).1 hm; omega
  have har : a ∈ row := h.ha ▸ List.getElem_mem h.gl
  have hab : a ≠ b := fun e => hbr (e ▸ har)
  have hne : ∀ x ∈ row, x ≠ b := fun x hx e => hbr (e ▸ hx)
  have hu : ∀ x ∈ row, upd f b (f a + 1) x = f x := fun x hx => upd_ne (hne x hx)
  have hfa : f a ≤ gone := by have := h.idx gone h.gl; rw [h.ha] at this; exact this
  have hrl := nodup_lt h.nd h.lt
  have hlen : row.length < to.length := by
    have hnd : (b :: row).Nodup := List.nodup_cons.2 ⟨hbr, h.nd⟩
    have := nodup_lt hnd (n := to.length) (fun x hx => by
      rcases List.mem_cons.1 hx with rfl | hx
      · exact hbn
      · exact h.lt x hx)
    simp only [List.length_cons] at this
    omega
  have hgl := h.gl
  have hat : ∀ i (hi : i < (row ++ [b]).length), upd f b (f a + 1) (row ++ [b])[i] = if hr : i < row.length then f row[i] else f a + 1 := fun i hi => by
    split
    · rename_i hr
      rw [List.getElem_append_left hr, hu _ (List.getElem_mem hr)]
    · rename_i hr
      rw [List.length_append, List.length_singleton] at hi
      obtain rfl : i = row.length := by omega
      rw [List.getElem_concat_length rfl, upd_self]
  refine ⟨?_, fun x hx => ?_, fun x => ?_, fun x => ?_, ⟨by simp [h.first.1], by rw [hu _ h.first.1]; exact h.first.2⟩, fun x hx => ?_, fun i hi => ?_, fun i j hi hj hij => ?_, by simp; omega, ?_, fun j hj => ?_, fun i hi hig y hy => ?_, fun y hy => ?_⟩
  · rw [List.nodup_append]
    exact ⟨h.nd, by simp, fun x hx y hy => by
      obtain rfl : y = b := by simpa using hy
      exact hne x hx⟩
  · rcases List.mem_append.1 hx with hx | hx
    · exact h.lt x hx
    · obtain rfl : x = b := by simpa using hx
      exact hbn
  · by_cases e : x = b
    · subst e; rw [upd_self]; simp; omega
    · rw [upd_ne e, ← h.there x]; simp [e]
  · by_cases e : x = b
    · subst e; rw [upd_self]; omega
    · rw [upd_ne e]; exact h.most x
  · rcases List.mem_append.1 hx with hx | hx
    · rw [hu x hx]; exact h.way x hx
    · obtain rfl : x = b := by simpa using hx
      rw [upd_self]
      exact (h.way a har).snoc he
  · rw [hat i hi]
    split
    · exact h.idx i _
    · omega
  · rw [hat i hi, hat j hj]
    split
    · split
      · exact h.asc _ _ _ _ hij
      · exact h.near i _
    · split
      · omega
      · exact Nat.le_refl _
  · rw [List.getElem_append_left h.gl]; exact h.ha
  · rw [hat j hj, hu a har]
    split
    · exact h.near j _
    · exact Nat.le_refl _
  · have hir : i < row.length := by omega
    rw [List.getElem_append_left hir] at hy ⊢
    have hm := List.getElem_mem hir
    rw [hu _ hm]
    by_cases e : y = b
    · subst e
      have h1 := h.went i hir hig y hy
      have := h.idx i hir
      omega
    · rw [upd_ne e]; exact h.went i hir hig y hy
  · rw [hu a har]
    by_cases e : y = b
    · subst e; rw [upd_self]; exact Nat.le_refl _
    · rw [upd_ne e]
      rw [List.take_succ_eq_append_getElem hk, hB] at hy
      rcases List.mem_append.1 hy with hy | hy
      · exact h.some y hy
      · exact absurd (by simpa using hy) e
theorem Frm.done {a : Nat} (h : Frm to s a (nx to a).length f row gone) : Fr to s f row (gone + 1) := by
  have hgl := h.gl
  refine ⟨h.nd, h.lt, h.there, h.most, h.first, h.way, h.idx, h.asc, fun hg j hj => ?_, fun i hi hig y hy => ?_, hgl⟩
  · have h1 := h.near j hj
    have h2 := h.asc gone (gone + 1) hgl hg (by omega)
    rw [h.ha] at h2
    omega
  · rcases Nat.lt_or_ge i gone with h1 | h1
    · exact h.went i hi h1 y hy
    · obtain rfl : i = gone := by omega
      rw [h.ha] at hy ⊢
      refine h.some y ?_
      rw [List.take_length]; exact hy
/-- how far each place is: as many as there are places, where there is no way -/
structure Far (to : Tos) (s : Nat) (f : Nat → Nat) : Prop where
  yes : ∀ x, f x < to.length → Ds (Ed to) s x (f x)
  no : ∀ x, Rc (Ed to) s x → f x < to.length
theorem Fr.end (hi0 : Inn to) (h : Fr to s f row row.length) : Far to s f := by
  have hcl : ∀ m x, Wk (Ed to) m s x → x ∈ row ∧ f x ≤ m := by
    intro m
    induction m with
    | zero =>
      intro x hx
      obtain rfl := hx.zero
      exact ⟨h.first.1, by rw [h.first.2]; omega⟩
    | succ m ih =>
      intro x hx
      obtain ⟨y, hy, e⟩ := hx.last
      obtain ⟨h1, h2⟩ := ih y hy
      obtain ⟨i, hi, e1⟩ := List.getElem_of_mem h1
      have h3 := h.went i hi hi x (e1 ▸ e)
      rw [e1] at h3
      have h4 := nodup_lt h.nd h.lt
      have h5 := h.idx i hi
      rw [e1] at h5
      refine ⟨?_, by omega⟩
      by_cases h6 : i + 1 < to.length
      · exact (h.there x).2 (by omega)
      · -- all places stand in the row
        have h7 : row.length = to.length := by omega
        have hall := nodup_eq (m := List.range to.length) h.nd (fun z hz => List.mem_range.2 (h.lt z hz)) (by simp; omega)
        have hE : Ed to y x := e
        exact hall x (List.mem_range.2 (hE.dst hi0))
  refine ⟨fun x hx => ⟨h.way x ((h.there x).2 hx), fun m hm => (hcl m x hm).2⟩, fun x hx => ?_⟩
  obtain ⟨m, hm⟩ := hx.wk
  exact (h.there x).1 (hcl m x hm).1
end
end Go.Proofs.Ytggmnjnigmbooaa.Cy
