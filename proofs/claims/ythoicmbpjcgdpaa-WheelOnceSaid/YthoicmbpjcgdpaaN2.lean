/- One wheel beside other blocks; plain facts on those that were told. -/
import Derived.Test.YthoicmbpjcgdpaaN1
namespace Go.Proofs.Ythoicmbpjcgdpaa
open Go Go.RowKit Go.Shelf

/-- one wheel, and other blocks beside it -/
def One (w W : World) (b : Nat) (K : Nat → Prop) (l : List Al) : Prop :=
  ∃ S m, Wh W b S m ∧ m.Perm l ∧ w.heap.size ≤ b ∧ Below w.heap.size w W ∧ ∀ k, K k → k < W.heap.size ∧ ¬ S k ∧ w.heap.size ≤ k
/-- with the blocks of a list -/
def And1 (K : Nat → Prop) (v : Value) (k : Nat) : Prop := K k ∨ v.ownBlock = some k
theorem One.bel {w W : World} {b : Nat} {K : Nat → Prop} {l : List Al} (h : One w W b K l) : Below w.heap.size w W := by
  obtain ⟨S, m, _, _, _, h4, _⟩ := h
  exact h4
/-- other blocks change, and some are new -/
theorem One.turn {w W W' : World} {b : Nat} {K K' T : Nat → Prop} {l : List Al} (h : One w W b K l) (ho : OnlyS T W W') (hT : ∀ k, T k → K k) (hK : ∀ k, K' k → (K k ∨ W.heap.size ≤ k) ∧ k < W'.heap.size) : One w W' b K' l := by
  obtain ⟨S, m, h1, h2, h3, h4, h5⟩ := h
  refine ⟨S, m, h1.keep ho (fun k hk hk2 => (h5 k (hT k hk2)).2.1 hk), h2, h3, h4.trans (ho.below (fun k hk => (h5 k (hT k hk)).2.2) h4.size), fun k hk => ?_⟩
  obtain ⟨hk1, hk2⟩ := hK k hk
  refine ⟨hk2, fun hs => ?_, ?_⟩
  · rcases hk1 with q | q
    · exact (h5 k q).2.1 hs
    · have := (h1.lt hs).2; omega
  · rcases hk1 with q | q
    · exact (h5 k q).2.2
    · have := h4.size; omega
theorem One.below {w W W' : World} {b : Nat} {K : Nat → Prop} {l : List Al} (h : One w W b K l) (hb : Below W.heap.size W W') : One w W' b K l := by
  have h5 := h
  obtain ⟨S, m, _, _, _, _, h6⟩ := h5
  exact h.turn (OnlyS.of_below (S := fun _ => False) hb) (fun _ h => h.elim) (fun k hk => ⟨.inl hk, Nat.lt_of_lt_of_le (h6 k hk).1 hb.size⟩)
theorem one_set {w W : World} {b : Nat} {K : Nat → Prop} {l : List Al} (a : Al) (h : One w W b K l) (hi : Ids l) (hl : l.length ≤ 1000) :
    Calls Try.prog 9 #[wp b, alv a] W fun e w' => e = .returned (.bool (setB a l)) ∧ One w w' b K (setL a l) ∧ Keeps K W w' := by
  obtain ⟨S, m, h1, h2, h3, h4, h5⟩ := h
  refine (set_any a h1 (by rw [h2.length_eq]; exact hl)).mono ?_
  rintro e w' ⟨S', l3, rfl, k1, k2, k3, k4⟩
  have hi2 := hi.perm h2.symm
  refine ⟨by rw [setB_perm hi2 h2], ⟨S', l3, k1, k2.trans (setL_perm hi2 h2 a), h3, h4.trans (k3.below (fun k hk => Nat.le_trans h3 (h1.lt hk).1) h4.size), fun k hk => ⟨Nat.lt_of_lt_of_le (h5 k hk).1 k3.size, fun hs => ?_, (h5 k hk).2.2⟩⟩, ⟨k3.size, fun k hk => k3.block k (h5 k hk).1 (h5 k hk).2.1⟩⟩
  rcases k4 k hs with q | q
  · exact (h5 k hk).2.1 q
  · have := (h5 k hk).1; omega
def OneRow (w W : World) (b : Nat) (K : Nat → Prop) (ys l : List Al) (e : Ending) (w' : World) : Prop :=
  ∃ v, e = .returned v ∧ Row w' W.heap.size v ys ∧ One w w' b (And1 K v) l ∧ Keeps K W w'
theorem one_due {w W : World} {b : Nat} {K : Nat → Prop} {l : List Al} (now : Int) (h : One w W b K l) (hl : l.length ≤ 1000) :
    Calls Try.prog 14 #[wp b, .int .i64 now] W (OneRow w W b K (dueL now (srt l)) (l.filter (fun x => !decide (x.2 ≤ now)))) := by
  obtain ⟨S, m, h1, h2, h3, h4, h5⟩ := h
  refine (due_any now h1 (by rw [h2.length_eq]; exact hl)).mono ?_
  rintro e w' ⟨v, rfl, k0, k1, k3⟩
  refine ⟨v, rfl, by rw [← dueL_perm h2]; exact k0, ⟨S, _, k1, h2.filter _, h3, h4.trans (k3.below (fun k hk => Nat.le_trans h3 (h1.lt hk).1) h4.size), ?_⟩, ⟨k3.size, fun k hk => k3.block k (h5 k hk).1 (h5 k hk).2.1⟩⟩
  rintro k (hk | hk)
  · exact ⟨Nat.lt_of_lt_of_le (h5 k hk).1 k3.size, (h5 k hk).2.1, (h5 k hk).2.2⟩
  · obtain ⟨q1, q2⟩ := k0.lt k hk
    exact ⟨q2, fun hs => by have := (h1.lt hs).2; omega, Nat.le_trans h4.size q1⟩
theorem one_len {w W : World} {b : Nat} {K : Nat → Prop} {l : List Al} (h : One w W b K l) (hl : l.length ≤ 1000) :
    Calls Try.prog 17 #[wp b] W fun e w' => e = .returned (.int .i64 l.length) ∧ One w w' b K l ∧ Below W.heap.size W w' := by
  have h0 := h
  obtain ⟨S, m, h1, h2, h3, h4, h5⟩ := h
  refine (len_any h1.seen (by rw [h2.length_eq]; exact hl)).mono ?_
  rintro e w' ⟨rfl, hb⟩
  exact ⟨by rw [h2.length_eq], h0.below hb, hb⟩

/-- the numbers of those whose time isn't above now -/
def Told (ins : List Al) (now : Int) (ids : List Int) : Prop := ids.Perm ((ins.filter (fun x => decide (x.2 ≤ now))).map (·.1))
theorem Told.start {ins : List Al} (h : ∀ a ∈ ins, 0 ≤ a.2) : Told ins (-1) [] := by
  unfold Told
  rw [List.filter_eq_nil_iff.2 (fun x hx => by have := h x hx; simp; omega)]
  exact List.Perm.refl _
theorem Told.mem {ins : List Al} {now : Int} {ids : List Int} (h : Told ins now ids) (hi : Ids ins) {a : Al} (ha : a ∈ ins) : decide (a.1 ∈ ids) = decide (a.2 ≤ now) := by
  rw [decide_eq_decide, h.mem_iff, List.mem_map]
  constructor
  · rintro ⟨x, hx, e⟩
    obtain ⟨h1, h2⟩ := List.mem_filter.1 hx
    rw [← hi.uniq x h1 a ha e]
    simpa using h2
  · intro h1
    exact ⟨a, List.mem_filter.2 ⟨ha, by simpa using h1⟩, rfl⟩
theorem Told.nodup {ins : List Al} {now : Int} {ids : List Int} (h : Told ins now ids) (hi : Ids ins) : ids.Nodup := h.nodup_iff.2 (hi.filter _)
theorem Told.step {ins : List Al} {now now' : Int} {ids : List Int} (h : Told ins now ids) (hn : now ≤ now') :
    Told ins now' (((dueL now' (srt (ins.filter (fun x => !decide (x.2 ≤ now))))).map (·.1)).reverse ++ ids) := by
  unfold Told at *
  have h1 : ((dueL now' (srt (ins.filter (fun x => !decide (x.2 ≤ now))))).map (·.1)).reverse.Perm (((ins.filter (fun x => !decide (x.2 ≤ now))).filter (fun x => decide (x.2 ≤ now'))).map (·.1)) := by
    rw [dueL_filter]
    exact (List.reverse_perm _).trans (((srt_perm _).filter _).map _)
  refine (h1.append h).trans ?_
  rw [← List.map_append]
  refine List.Perm.map _ ?_
  clear h1 h
  induction ins with
  | nil => exact List.Perm.refl _
  | cons a ins ih =>
    by_cases e1 : a.2 ≤ now
    · have e2 : a.2 ≤ now' := by omega
      simp only [List.filter_cons, e1, e2, decide_true, Bool.not_true, if_true]
      exact List.perm_middle.trans (List.Perm.cons a ih)
    · by_cases e2 : a.2 ≤ now'
      · simp only [List.filter_cons, e1, e2, decide_true, decide_false, Bool.not_false, if_true]
        exact List.Perm.cons a ih
      · simp only [List.filter_cons, e1, e2, decide_false, Bool.not_false, if_true]
        exact ih
theorem filter_twice {ins : List Al} {now now' : Int} (hn : now ≤ now') : (ins.filter (fun x => !decide (x.2 ≤ now))).filter (fun x => !decide (x.2 ≤ now')) = ins.filter (fun x => !decide (x.2 ≤ now')) := by
  rw [List.filter_filter]
  refine List.filter_congr fun x _ => ?_
  by_cases e1 : x.2 ≤ now
  · have e2 : x.2 ≤ now' := by omega
    simp [e1, e2]
  · simp [e1]
theorem Told.left {ins : List Al} {now : Int} {ids : List Int} (h : Told ins now ids) : (ins.filter (fun x => !decide (x.2 ≤ now))).length + ids.length = ins.length := by
  have h1 := h.length_eq
  rw [List.length_map] at h1
  rw [h1]
  clear h1 h
  induction ins with
  | nil => rfl
  | cons a ins ih =>
    by_cases e1 : a.2 ≤ now
    · simp only [List.filter_cons, e1, decide_true, Bool.not_true, if_true, List.length_cons]
      simp only [Bool.false_eq_true, if_false]
      omega
    · simp only [List.filter_cons, e1, decide_false, Bool.not_false, if_true, List.length_cons]
      simp only [Bool.false_eq_true, if_false]
      omega
/-- the next one of a list wasn't there yet -/
theorem next_new {ys : List Al} {ids : List Int} (h : ((ys.map (·.1)).reverse ++ ids).Nodup) {j : Nat} (hj : j < ys.length) : ys[j].1 ∉ ((ys.take j).map (·.1)).reverse ++ ids := by
  rw [List.nodup_append] at h
  obtain ⟨h1, _, h3⟩ := h
  intro hm
  rcases List.mem_append.1 hm with hm | hm
  · rw [List.mem_reverse] at hm
    obtain ⟨x, hx, e⟩ := List.mem_map.1 hm
    have h1' : (ys.map (·.1)).Nodup := (List.reverse_perm _).nodup_iff.1 h1
    obtain ⟨i, hi, rfl⟩ := List.getElem_of_mem hx
    rw [List.length_take] at hi
    have := List.getElem_inj (h := h1') (i := i) (j := j) (h₀ := by simp; omega) (h₁ := by simpa using hj)
    simp only [List.getElem_map, List.getElem_take] at this e
    have := this.1 e
    omega
  · exact h3 _ (List.mem_reverse.2 (List.mem_map_of_mem (List.getElem_mem hj))) _ hm rfl
end Go.Proofs.Ythoicmbpjcgdpaa
