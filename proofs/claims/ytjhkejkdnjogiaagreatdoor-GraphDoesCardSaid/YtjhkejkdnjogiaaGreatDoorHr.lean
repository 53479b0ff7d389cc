/- Whether all modes that are there go together, by their counts. -/
import Derived.Test.YtjhkejkdnjogiaaGreatDoorHs
import Derived.Maps.OwnSet
import Derived.Maps.Views
import Derived.Maps.Keyed
import Derived.Test.YtjhkejkdnjogiaaGreatDoorWs
namespace Go.Proofs.YtjhkejkdnjogiaaGreatDoor.Hs
open Go Go.RowKit Go.Shelf

/-- one of a mode is taken out -/
def dec (f : Nat → Int) (k : Nat) : Nat → Int := fun i => if i = k then f i - 1 else f i
/-- whether all that are there go together -/
def togB (f : Nat → Int) : Bool := eachB f (fun m => eachB (dec f m) (fun o => symB m o))
abbrev cells7 (f : Nat → Int) : Array Value := #[.int .i64 (f 0), .int .i64 (f 1), .int .i64 (f 2), .int .i64 (f 3), .int .i64 (f 4), .int .i64 (f 5), .int .i64 (f 6)]
theorem Arr.boxed (W : World) (f : Nat → Int) : Arr (W.alloc (.cells (cells7 f) 231)) W.heap.size 7 f := by
  have hb := heap_alloc_new W (.cells (cells7 f) 231)
  refine ⟨fun i hi => ?_, fun o => frozen_of_row _ _ _ _ _ hb, by simp⟩
  rw [cell_of_row _ _ _ _ _ _ hb]
  match i, hi with
  | 0, _ => rfl
  | 1, _ => rfl
  | 2, _ => rfl
  | 3, _ => rfl
  | 4, _ => rfl
  | 5, _ => rfl
  | 6, _ => rfl
section
variable {W W' : World} {f : Nat → Int} {B : Nat}
end
end Go.Proofs.YtjhkejkdnjogiaaGreatDoor.Hs
/- Whether no transaction is there twice, and each may be. -/
namespace Go.Proofs.YtjhkejkdnjogiaaGreatDoor.Hs
open Go Go.RowKit Go.Shelf

/-- a number that fits -/
abbrev wf64 (x : Int) : Prop := (Lit.int .i64 x).wf = true
def RE (_ : Value) : Option (DataW Unit × List MemPlace) := some (.agg [], [])
/-- a map that has these numbers, and no others -/
def MapAt (W : World) (b n : Nat) (ids : List Int) : Prop :=
  ∃ D : DataW Unit, W.ownsMap Tryz.prog 3 RE b n D ∧ Maps.size D = ids.length ∧ ∀ i : Int, Maps.has D (.int .i64 i) = decide (i ∈ ids)
theorem MapAt.made (W : World) : MapAt (W.alloc (.map #[] 0)) W.heap.size 0 [] := ⟨.map [], World.ownsMap_made W Tryz.prog 3 _, rfl, fun _ => rfl⟩
theorem MapAt.keep {W W' : World} {b n : Nat} {ids : List Int} (h : MapAt W b n ids) (hb : W'.heap[b]? = W.heap[b]?) : MapAt W' b n ids := by
  obtain ⟨D, ⟨es, clock, h1, h2⟩, h3⟩ := h
  exact ⟨D, ⟨es, clock, hb.trans h1, h2⟩, h3⟩
theorem MapAt.lt {W : World} {b n : Nat} {ids : List Int} (h : MapAt W b n ids) : b < W.heap.size := by
  obtain ⟨D, h1, _⟩ := h
  exact h1.lt
/-- which numbers have been seen -/
structure Seen (xs : List Hd) (k : Nat) (ids : List Int) : Prop where
  mem : ∀ i, i ∈ ids ↔ i ∈ (xs.take k).map (·.1)
  le : ids.length ≤ k
  all : ids.length = k ↔ ((xs.take k).map (·.1)).Nodup
theorem Seen.start (xs : List Hd) : Seen xs 0 [] := ⟨by simp, Nat.le_refl _, by simp⟩
theorem Seen.next {xs : List Hd} {k : Nat} {ids : List Int} (h : Seen xs k ids) (hk : k < xs.length) : Seen xs (k + 1) (if xs[k].1 ∈ ids then ids else xs[k].1 :: ids) := by
  have e : (xs.take (k + 1)).map (·.1) = (xs.take k).map (·.1) ++ [xs[k].1] := by rw [List.take_succ_eq_append_getElem hk, List.map_append]; rfl
  have hle := h.le
  have hm := h.mem xs[k].1
  by_cases hn : xs[k].1 ∈ ids
  · rw [if_pos hn]
    refine ⟨fun i => ?_, by omega, ?_⟩
    · rw [e, List.mem_append, ← h.mem i]
      constructor
      · exact .inl
      · rintro (hi | hi)
        · exact hi
        · rw [List.mem_singleton.1 hi]; exact hn
    · rw [e]
      constructor
      · intro hl; omega
      · intro hd
        have := (List.nodup_append.1 hd).2.2 _ (hm.1 hn) _ (List.mem_singleton.2 rfl)
        exact absurd rfl this
  · rw [if_neg hn]
    refine ⟨fun i => ?_, by simp; omega, ?_⟩
    · rw [e, List.mem_append, List.mem_cons, ← h.mem i, List.mem_singleton]
      exact Or.comm
    · rw [e, List.length_cons, List.nodup_append]
      constructor
      · intro hl
        refine ⟨h.all.1 (by omega), by simp, ?_⟩
        intro a ha b hb hab
        rw [List.mem_singleton.1 hb] at hab
        subst hab
        exact hn (hm.2 ha)
      · rintro ⟨hd, -, -⟩
        have := h.all.2 hd
        omega
/-- whether no number is there twice -/
def onceB (xs : List Hd) : Bool := decide ((xs.map (·.1)).Nodup)
/-- whether each may be and is there once -/
def apartB (xs : List Hd) : Bool := xs.all (fun x => decide (1 ≤ x.1)) && onceB xs
theorem apartB_not {xs : List Hd} {k : Nat} (hk : k < xs.length) (h : xs[k].1 < 1) : apartB xs = false := by
  unfold apartB
  have : xs.all (fun x => decide (1 ≤ x.1)) = false := by
    rw [List.all_eq_false]
    exact ⟨_, List.getElem_mem hk, by simp; omega⟩
  rw [this]
  rfl
theorem apartB_yes {xs : List Hd} (h : ∀ i (h : i < xs.length), 1 ≤ xs[i].1) : apartB xs = onceB xs := by
  unfold apartB
  have : xs.all (fun x => decide (1 ≤ x.1)) = true := by
    rw [List.all_eq_true]
    intro x hx
    obtain ⟨i, hi, rfl⟩ := List.getElem_of_mem hx
    simpa using h i hi
  rw [this]
  rfl
section
variable {W W' : World} {A : Option Addr} {c : Nat} {xs : List Hd}
end
end Go.Proofs.YtjhkejkdnjogiaaGreatDoor.Hs
/- Whether holds are right: what that is, and the program's answer. -/
namespace Go.Proofs.YtjhkejkdnjogiaaGreatDoor.Hs
open Go Go.RowKit Go.Shelf

def rightB (xs : List Hd) : Bool := decide (cntF xs 0 = 0) && togB (cntF xs) && apartB xs
/-- right ones -/
def Rg (xs : List Hd) : Prop := (∀ x ∈ xs, 1 ≤ x.1 ∧ 1 ≤ x.2 ∧ x.2 ≤ 6) ∧ xs.Pairwise (fun a b => a.1 ≠ b.1 ∧ symB (kn a.2) (kn b.2) = true)
theorem symB_comm (i j : Nat) : symB i j = symB j i := Bool.or_comm _ _
theorem once_iff (xs : List Hd) : onceB xs = true ↔ xs.Pairwise (fun a b => a.1 ≠ b.1) := by
  unfold onceB
  rw [decide_eq_true_iff]
  unfold List.Nodup
  rw [List.pairwise_map]
theorem two_of {p : Hd → Bool} : ∀ {xs : List Hd}, 2 ≤ xs.countP p → ∃ (i j : Nat) (hij : i < j) (hj : j < xs.length), p (xs[i]'(by omega)) = true ∧ p xs[j] = true
  | [], h => by simp at h
  | x :: xs, h => by
    rw [List.countP_cons] at h
    by_cases hx : p x = true
    · rw [if_pos hx] at h
      obtain ⟨y, hy, hp⟩ := List.countP_pos_iff.1 (show 0 < xs.countP p by omega)
      obtain ⟨j, hj, rfl⟩ := List.getElem_of_mem hy
      exact ⟨0, j + 1, by omega, by simpa using hj, by simpa using hx, by simpa using hp⟩
    · rw [if_neg hx] at h
      obtain ⟨i, j, hij, hj, h1, h2⟩ := two_of (xs := xs) (by omega)
      exact ⟨i + 1, j + 1, by omega, by simpa using hj, by simpa using h1, by simpa using h2⟩
theorem two_to {p : Hd → Bool} : ∀ {xs : List Hd} {i j : Nat} (hij : i < j) (hj : j < xs.length), p (xs[i]'(by omega)) = true → p xs[j] = true → 2 ≤ xs.countP p
  | x :: xs, 0, j + 1, _, hj, h1, h2 => by
    rw [List.getElem_cons_zero] at h1
    rw [List.getElem_cons_succ] at h2
    rw [List.countP_cons, if_pos h1]
    have := List.countP_pos_iff.2 ⟨_, List.getElem_mem (by simpa using hj : j < xs.length), h2⟩
    omega
  | x :: xs, i + 1, j + 1, hij, hj, h1, h2 => by
    rw [List.getElem_cons_succ] at h1 h2
    have := two_to (xs := xs) (i := i) (j := j) (by omega) (by simpa using hj) h1 h2
    rw [List.countP_cons]
    omega
theorem tog_iff (xs : List Hd) : togB (cntF xs) = true ↔ xs.Pairwise (fun a b => symB (kn a.2) (kn b.2) = true) := by
  unfold togB
  rw [eachB_iff, List.pairwise_iff_getElem]
  constructor
  · intro h i j hi hj hij
    have h1 := h (kn xs[i].2) (kn_le _) (cntF_pos.2 ⟨_, List.getElem_mem hi, rfl⟩)
    rw [eachB_iff] at h1
    refine h1 (kn xs[j].2) (kn_le _) ?_
    unfold dec
    by_cases e : kn xs[j].2 = kn xs[i].2
    · rw [if_pos e, e]
      have := two_to (p := fun x => kn x.2 == kn xs[i].2) hij hj (by simp) (by simpa using e)
      unfold cntF
      omega
    · rw [if_neg e]
      exact cntF_pos.2 ⟨_, List.getElem_mem hj, rfl⟩
  · intro h m _ hm
    rw [eachB_iff]
    intro o _ ho
    have key : ∀ i j (hi : i < xs.length) (hj : j < xs.length), i ≠ j → symB (kn xs[i].2) (kn xs[j].2) = true := fun i j hi hj hne => by
      rcases Nat.lt_or_ge i j with hij | hij
      · exact h i j hi hj hij
      · rw [symB_comm]; exact h j i hj hi (by omega)
    unfold dec at ho
    by_cases e : o = m
    · subst e
      rw [if_pos rfl] at ho
      have h2 : 2 ≤ xs.countP (fun x => kn x.2 == o) := by unfold cntF at ho; omega
      obtain ⟨i, j, hij, hj, h3, h4⟩ := two_of h2
      have := key i j (by omega) hj (by omega)
      rw [eq_of_beq h3, eq_of_beq h4] at this
      exact this
    · rw [if_neg e] at ho
      obtain ⟨x, hx, rfl⟩ := cntF_pos.1 hm
      obtain ⟨y, hy, rfl⟩ := cntF_pos.1 ho
      obtain ⟨i, hi, rfl⟩ := List.getElem_of_mem hx
      obtain ⟨j, hj, rfl⟩ := List.getElem_of_mem hy
      exact key i j hi hj (fun q => e (by subst q; rfl))
theorem kn_zero (m : Int) : kn m = 0 ↔ ¬ (1 ≤ m ∧ m ≤ 6) := by
  unfold kn
  split <;> omega
theorem none_iff (xs : List Hd) : cntF xs 0 = 0 ↔ ∀ x ∈ xs, 1 ≤ x.2 ∧ x.2 ≤ 6 := by
  constructor
  · intro h x hx
    by_cases e : 1 ≤ x.2 ∧ x.2 ≤ 6
    · exact e
    · have := cntF_pos.2 ⟨x, hx, (kn_zero _).2 e⟩
      omega
  · intro h
    have := (cntF_bounds xs 0).1
    by_cases e : 0 < cntF xs 0
    · obtain ⟨x, hx, h0⟩ := cntF_pos.1 e
      exact absurd (h x hx) ((kn_zero _).1 h0)
    · omega
theorem right_iff (xs : List Hd) : rightB xs = true ↔ Rg xs := by
  unfold rightB Rg apartB
  rw [Bool.and_eq_true, Bool.and_eq_true, Bool.and_eq_true, decide_eq_true_iff, none_iff, tog_iff, once_iff, List.all_eq_true]
  constructor
  · rintro ⟨⟨h1, h2⟩, h3, h4⟩
    exact ⟨fun x hx => ⟨by simpa using h3 x hx, h1 x hx⟩, h4.imp₂ (fun _ _ a b => ⟨a, b⟩) h2⟩
  · rintro ⟨h1, h2⟩
    exact ⟨⟨fun x hx => (h1 x hx).2, h2.imp (fun h => h.2)⟩, fun x hx => by simpa using (h1 x hx).1, h2.imp (fun h => h.1)⟩
/-- one of them, as the document asks it -/
def Gd (xs : List Hd) (i : Nat) (h : i < xs.length) : Prop := (1 ≤ xs[i].1 ∧ 1 ≤ xs[i].2 ∧ xs[i].2 ≤ 6) ∧ ∀ k (hk : k < xs.length), i ≠ k → xs[i].1 ≠ xs[k].1 ∧ symB (kn xs[i].2) (kn xs[k].2) = true
theorem right_gd (xs : List Hd) : rightB xs = true ↔ ∀ i (h : i < xs.length), Gd xs i h := by
  rw [right_iff]
  unfold Rg
  rw [List.pairwise_iff_getElem]
  constructor
  · rintro ⟨h1, h2⟩ i hi
    refine ⟨h1 _ (List.getElem_mem hi), fun k hk hne => ?_⟩
    rcases Nat.lt_or_ge i k with hij | hij
    · exact h2 i k hi hk hij
    · have := h2 k i hk hi (by omega)
      exact ⟨fun e => this.1 e.symm, by rw [symB_comm]; exact this.2⟩
  · intro h
    refine ⟨fun x hx => ?_, fun i j hi hj hij => (h i hi).2 j hj (by omega)⟩
    obtain ⟨i, hi, rfl⟩ := List.getElem_of_mem hx
    exact (h i hi).1
theorem gd_not {xs : List Hd} {i : Nat} (hi : i < xs.length) (h : ¬ Gd xs i hi) : rightB xs = false := by
  cases e : rightB xs
  · rfl
  · exact absurd ((right_gd xs).1 e i hi) h
section
variable {W W' : World} {A : Option Addr} {c : Nat} {xs : List Hd}
end
end Go.Proofs.YtjhkejkdnjogiaaGreatDoor.Hs
/- Whether requests are right: the program's answer and the document's. -/
namespace Go.Proofs.YtjhkejkdnjogiaaGreatDoor.Ws
open Go Go.RowKit Go.Shelf

/-- whether none that converts stands behind one that doesn't, as the program asks it -/
def orderedB (xs : List Wt) : Bool := !(xs.take (plc true xs)).any (fun x => !x.2.2.1)
def rightB (xs : List Wt) : Bool := !xs.any (fun x => !okW x) && onceB xs && orderedB xs
/-- right ones -/
def Rg (xs : List Wt) : Prop := (∀ x ∈ xs, okW x = true) ∧ xs.Pairwise (fun a b => a.1 ≠ b.1) ∧ xs.Pairwise (fun a b => b.2.2.1 = true → a.2.2.1 = true)
theorem once_iff (xs : List Wt) : onceB xs = true ↔ xs.Pairwise (fun a b => a.1 ≠ b.1) := by
  unfold onceB
  rw [decide_eq_true_iff]
  unfold List.Nodup
  rw [List.pairwise_map]
theorem plc_true_false (xs : List Wt) {i : Nat} (h : plc true xs ≤ i) (hi : i < xs.length) : xs[i].2.2.1 = false := by
  have := plN_false (fun x => x.2.2.1 || !true) xs i h hi
  simpa using this
theorem plc_true_true (xs : List Wt) {i : Nat} (h : plc true xs = i + 1) (hi : i < xs.length) : xs[i].2.2.1 = true := by
  have := plN_true (fun x => x.2.2.1 || !true) xs i h hi
  simpa using this
theorem plc_le (cv : Bool) (xs : List Wt) : plc cv xs ≤ xs.length := plN_le _ _
theorem plc_false (xs : List Wt) : plc false xs = xs.length :=
  (plN_is (p := fun x => x.2.2.1 || !false) (xs := xs) (k := xs.length) (Nat.le_refl _) (fun i h1 h2 => by omega) (fun i _ _ => by simp)).symm
theorem ordered_iff (xs : List Wt) : orderedB xs = true ↔ xs.Pairwise (fun a b => b.2.2.1 = true → a.2.2.1 = true) := by
  have hle := plc_le true xs
  unfold orderedB
  rw [Bool.not_eq_true', List.any_eq_false]
  constructor
  · intro h
    rw [List.pairwise_iff_getElem]
    intro i j hi hj hij hb
    rcases Nat.lt_or_ge j (plc true xs) with hk | hk
    · have hm : xs[i] ∈ xs.take (plc true xs) := List.mem_take_iff_getElem.2 ⟨i, by omega, rfl⟩
      have := h _ hm
      simpa using this
    · rw [plc_true_false xs hk hj] at hb
      cases hb
  · intro h x hx
    obtain ⟨i, hi, rfl⟩ := List.mem_take_iff_getElem.1 hx
    rw [List.pairwise_iff_getElem] at h
    obtain ⟨m, hm⟩ : ∃ m, plc true xs = m + 1 := ⟨plc true xs - 1, by omega⟩
    have hmt := plc_true_true xs hm (by omega)
    rcases Nat.lt_or_ge i m with him | him
    · rw [h i m (by omega) (by omega) him hmt]; simp
    · obtain rfl : i = m := by omega
      rw [hmt]; simp
theorem right_iff (xs : List Wt) : rightB xs = true ↔ Rg xs := by
  unfold rightB Rg
  rw [Bool.and_eq_true, Bool.and_eq_true, once_iff, ordered_iff, Bool.not_eq_true', List.any_eq_false, and_assoc]
  simp
/-- one of them, as the document asks it -/
def Gd (xs : List Wt) (i : Nat) (h : i < xs.length) : Prop := okW xs[i] = true ∧ fndI xs[i].1 xs = i ∧ ∀ j (hj : i = j + 1), xs[i].2.2.1 = true → (xs[j]'(by omega)).2.2.1 = true
theorem right_gd (xs : List Wt) : rightB xs = true ↔ ∀ i (h : i < xs.length), Gd xs i h := by
  rw [right_iff]
  unfold Rg
  rw [List.pairwise_iff_getElem, List.pairwise_iff_getElem]
  constructor
  · rintro ⟨h1, h2, h3⟩ i hi
    refine ⟨h1 _ (List.getElem_mem hi), ?_, fun j hj => h3 j i (by omega) hi (by omega)⟩
    exact idx_some hi (fun k hk => by have := h2 k i (by omega) hi hk; simpa using this) (by simp)
  · intro h
    refine ⟨fun x hx => ?_, fun i j hi hj hij he => ?_, fun i j hi hj hij => ?_⟩
    · obtain ⟨i, hi, rfl⟩ := List.getElem_of_mem hx
      exact (h i hi).1
    · have e1 := (h j hj).2.1
      have e2 := (h i hi).2.1
      rw [he] at e2
      rw [e1] at e2
      omega
    · have key : ∀ d i j (_ : i + d = j) (hj : j < xs.length), xs[j].2.2.1 = true → (xs[i]'(by omega)).2.2.1 = true := by
        intro d
        induction d with
        | zero => intro i j he hj hc; obtain rfl : i = j := by omega
                  exact hc
        | succ d ih => intro i j he hj hc
                       exact ih i (j - 1) (by omega) (by omega) ((h j hj).2.2 (j - 1) (by omega) hc)
      exact key (j - i) i j (by omega) hj
theorem gd_not {xs : List Wt} {i : Nat} (hi : i < xs.length) (h : ¬ Gd xs i hi) : rightB xs = false := by
  cases e : rightB xs
  · rfl
  · exact absurd ((right_gd xs).1 e i hi) h
section
variable {W W' : World} {A : Option Addr} {c : Nat} {xs : List Wt}
end
end Go.Proofs.YtjhkejkdnjogiaaGreatDoor.Ws
