/- Whether all modes that are there go together, by their counts. -/
import Derived.Test.YtlhhopanegnliaaGreatDoorHs
import Derived.Maps.OwnSet
import Derived.Maps.Views
import Derived.Maps.Keyed
import Derived.Test.YtlhhopanegnliaaGreatDoorWs
import Derived.Test.YtlhhopanegnliaaGreatDoorQg
namespace Go.Proofs.YtlhhopanegnliaaGreatDoor.Hs
open Go Go.RowKit Go.Shelf

/-- one of a mode is taken out -/
def dec (f : Nat → Int) (k : Nat) : Nat → Int := fun i => if i = k then f i - 1 else f i
/-- whether all that are there go together -/
def togB (f : Nat → Int) : Bool := eachB f (fun m => eachB (dec f m) (fun o => symB m o))
abbrev cells7 (f : Nat → Int) : Array Value := #[.int .i64 (f 0), .int .i64 (f 1), .int .i64 (f 2), .int .i64 (f 3), .int .i64 (f 4), .int .i64 (f 5), .int .i64 (f 6)]
theorem Arr.boxed (W : World) (f : Nat → Int) : Arr (W.alloc (.cells (cells7 f) 243)) W.heap.size 7 f := by
  have hb := heap_alloc_new W (.cells (cells7 f) 243)
  refine ⟨fun i hi => ?_, fun o => frozen_of_row _ _ _ _ _ hb, by simp⟩
  rw [cell_of_row _ _ _ _ _ _ hb]
  match i, hi with
  | 0, _ => rfl
  | 1, _ => rfl
  | 2, _ => rfl
  | 3, _ => rfl
  | 4, _ => rfl
  | 5, _ => rfl
  | 6, _ => rfl
section
variable {W W' : World} {f : Nat → Int} {B : Nat}
end
end Go.Proofs.YtlhhopanegnliaaGreatDoor.Hs
/- Whether no transaction is there twice, and each may be. -/
namespace Go.Proofs.YtlhhopanegnliaaGreatDoor.Hs
open Go Go.RowKit Go.Shelf

/-- a number that fits -/
abbrev wf64 (x : Int) : Prop := (Lit.int .i64 x).wf = true
def RE (_ : Value) : Option (DataW Unit × List MemPlace) := some (.agg [], [])
/-- a map that has these numbers, and no others -/
def MapAt (W : World) (b n : Nat) (ids : List Int) : Prop :=
  ∃ D : DataW Unit, W.ownsMap Tryz.prog 3 RE b n D ∧ Maps.size D = ids.length ∧ ∀ i : Int, Maps.has D (.int .i64 i) = decide (i ∈ ids)
theorem MapAt.made (W : World) : MapAt (W.alloc (.map #[] 0)) W.heap.size 0 [] := ⟨.map [], World.ownsMap_made W Tryz.prog 3 _, rfl, fun _ => rfl⟩
theorem MapAt.keep {W W' : World} {b n : Nat} {ids : List Int} (h : MapAt W b n ids) (hb : W'.heap[b]? = W.heap[b]?) : MapAt W' b n ids := by
  obtain ⟨D, ⟨es, clock, h1, h2⟩, h3⟩ := h
  exact ⟨D, ⟨es, clock, hb.trans h1, h2⟩, h3⟩
theorem MapAt.lt {W : World} {b n : Nat} {ids : List Int} (h : MapAt W b n ids) : b < W.heap.size := by
  obtain ⟨D, h1, _⟩ := h
  exact h1.lt
/-- which numbers have been seen -/
structure Seen (xs : List Hd) (k : Nat) (ids : List Int) : Prop where
  mem : ∀ i, i ∈ ids ↔ i ∈ (xs.take k).map (·.1)
  le : ids.length ≤ k
  all : ids.length = k ↔ ((xs.take k).map (·.1)).Nodup
theorem Seen.start (xs : List Hd) : Seen xs 0 [] := ⟨by simp, Nat.le_refl _, by simp⟩
theorem Seen.next {xs : List Hd} {k : Nat} {ids : List Int} (h : Seen xs k ids) (hk : k < xs.length) : Seen xs (k + 1) (if xs[k].1 ∈ ids then ids else xs[k].1 :: ids) := by
  have e : (xs.take (k + 1)).map (·.1) = (xs.take k).map (·.1) ++ [xs[k].1] := by rw [List.take_succ_eq_append_getElem hk, List.map_append]; rfl
  have hle := h.le
  have hm := h.mem xs[k].1
  by_cases hn : xs[k].1 ∈ ids
  · rw [if_pos hn]
    refine ⟨fun i => ?_, by omega, ?_⟩
    · rw [e, List.mem_append, ← h.mem i]
      constructor
      · exact .inl
      · rintro (hi | hi)
        · exact hi
        · rw [List.mem_singleton.1 hi]; exact hn
    · rw [e]
      constructor
      · intro hl; omega
      · intro hd
        have := (List.nodup_append.1 hd).2.2 _ (hm.1 hn) _ (List.mem_singleton.2 rfl)
        exact absurd rfl this
  · rw [if_neg hn]
    refine ⟨fun i => ?_, by simp; omega, ?_⟩
    · rw [e, List.mem_append, List.mem_cons, ← h.mem i, List.mem_singleton]
      exact Or.comm
    · rw [e, List.length_cons, List.nodup_append]
      constructor
      · intro hl
        refine ⟨h.all.1 (by omega), by simp, ?_⟩
        intro a ha b hb hab
        rw [List.mem_singleton.1 hb] at hab
        subst hab
        exact hn (hm.2 ha)
      · rintro ⟨hd, -, -⟩
        have := h.all.2 hd
        omega
/-- whether no number is there twice -/
def onceB (xs : List Hd) : Bool := decide ((xs.map (·.1)).Nodup)
/-- whether each may be and is there once -/
def apartB (xs : List Hd) : Bool := xs.all (fun x => decide (1 ≤ x.1)) && onceB xs
theorem apartB_not {xs : List Hd} {k : Nat} (hk : k < xs.length) (h : xs[k].1 < 1) : apartB xs = false := by
  unfold apartB
  have : xs.all (fun x => decide (1 ≤ x.1)) = false := by
    rw [List.all_eq_false]
    exact ⟨_, List.getElem_mem hk, by simp; omega⟩
  rw [this]
  rfl
theorem apartB_yes {xs : List Hd} (h : ∀ i (h : i < xs.length), 1 ≤ xs[i].1) : apartB xs = onceB xs := by
  unfold apartB
  have : xs.all (fun x => decide (1 ≤ x.1)) = true := by
    rw [List.all_eq_true]
    intro x hx
    obtain ⟨i, hi, rfl⟩ := List.getElem_of_mem hx
    simpa using h i hi
  rw [this]
  rfl
section
variable {W W' : World} {A : Option Addr} {c : Nat} {xs : List Hd}
end
end Go.Proofs.YtlhhopanegnliaaGreatDoor.Hs
/- Whether holds are right: what that is, and the program's answer. -/
namespace Go.Proofs.YtlhhopanegnliaaGreatDoor.Hs
open Go Go.RowKit Go.Shelf

def rightB (xs : List Hd) : Bool := decide (cntF xs 0 = 0) && togB (cntF xs) && apartB xs
/-- right ones -/
def Rg (xs : List Hd) : Prop := (∀ x ∈ xs, 1 ≤ x.1 ∧ 1 ≤ x.2 ∧ x.2 ≤ 6) ∧ xs.Pairwise (fun a b => a.1 ≠ b.1 ∧ symB (kn a.2) (kn b.2) = true)
theorem symB_comm (i j : Nat) : symB i j = symB j i := Bool.or_comm _ _
theorem once_iff (xs : List Hd) : onceB xs = true ↔ xs.Pairwise (fun a b => a.1 ≠ b.1) := by
  unfold onceB
  rw [decide_eq_true_iff]
  unfold List.Nodup
  rw [List.pairwise_map]
theorem two_of {p : Hd → Bool} : ∀ {xs : List Hd}, 2 ≤ xs.countP p → ∃ (i j : Nat) (hij : i < j) (hj : j < xs.length), p (xs[i]'(by omega)) = true ∧ p xs[j] = true
  | [], h => by simp at h
  | x :: xs, h => by
    rw [List.countP_cons] at h
    by_cases hx : p x = true
    · rw [if_pos hx] at h
      obtain ⟨y, hy, hp⟩ := List.countP_pos_iff.1 (show 0 < xs.countP p by omega)
      obtain ⟨j, hj, rfl⟩ := List.getElem_of_mem hy
      exact ⟨0, j + 1, by omega, by simpa using hj, by simpa using hx, by simpa using hp⟩
    · rw [if_neg hx] at h
      obtain ⟨i, j, hij, hj, h1, h2⟩ := two_of (xs := xs) (by omega)
      exact ⟨i + 1, j + 1, by omega, by simpa using hj, by simpa using h1, by simpa using h2⟩
theorem two_to {p : Hd → Bool} : ∀ {xs : List Hd} {i j : Nat} (hij : i < j) (hj : j < xs.length), p (xs[i]'(by omega)) = true → p xs[j] = true → 2 ≤ xs.countP p
  | x :: xs, 0, j + 1, _, hj, h1, h2 => by
    rw [List.getElem_cons_zero] at h1
    rw [List.getElem_cons_succ] at h2
    rw [List.countP_cons, if_pos h1]
    have := List.countP_pos_iff.2 ⟨_, List.getElem_mem (by simpa using hj : j < xs.length), h2⟩
    omega
  | x :: xs, i + 1, j + 1, hij, hj, h1, h2 => by
    rw [List.getElem_cons_succ] at h1 h2
    have := two_to (xs := xs) (i := i) (j := j) (by omega) (by simpa using hj) h1 h2
    rw [List.countP_cons]
    omega
theorem tog_iff (xs : List Hd) : togB (cntF xs) = true ↔ xs.Pairwise (fun a b => symB (kn a.2) (kn b.2) = true) := by
  unfold togB
  rw [eachB_iff, List.pairwise_iff_getElem]
  constructor
  · intro h i j hi hj hij
    have h1 := h (kn xs[i].2) (kn_le _) (cntF_pos.2 ⟨_, List.getElem_mem hi, rfl⟩)
    rw [eachB_iff] at h1
    refine h1 (kn xs[j].2) (kn_le _) ?_
    unfold dec
    by_cases e : kn xs[j].2 = kn xs[i].2
    · rw [if_pos e, e]
      have := two_to (p := fun x => kn x.2 == kn xs[i].2) hij hj (by simp) (by simpa using e)
      unfold cntF
      omega
    · rw [if_neg e]
      exact cntF_pos.2 ⟨_, List.getElem_mem hj, rfl⟩
  · intro h m _ hm
    rw [eachB_iff]
    intro o _ ho
    have key : ∀ i j (hi : i < xs.length) (hj : j < xs.length), i ≠ j → symB (kn xs[i].2) (kn xs[j].2) = true := fun i j hi hj hne => by
      rcases Nat.lt_or_ge i j with hij | hij
      · exact h i j hi hj hij
      · rw [symB_comm]; exact h j i hj hi (by omega)
    unfold dec at ho
    by_cases e : o = m
    · subst e
      rw [if_pos rfl] at ho
      have h2 : 2 ≤ xs.countP (fun x => kn x.2 == o) := by unfold cntF at ho; omega
      obtain ⟨i, j, hij, hj, h3, h4⟩ := two_of h2
      have := key i j (by omega) hj (by omega)
      rw [eq_of_beq h3, eq_of_beq h4] at this
      exact this
    · rw [if_neg e] at ho
      obtain ⟨x, hx, rfl⟩ := cntF_pos.1 hm
      obtain ⟨y, hy, rfl⟩ := cntF_pos.1 ho
      obtain ⟨i, hi, rfl⟩ := List.getElem_of_mem hx
      obtain ⟨j, hj, rfl⟩ := List.getElem_of_mem hy
      exact key i j hi hj (fun q => e (by subst q; rfl))
theorem kn_zero (m : Int) : kn m = 0 ↔ ¬ (1 ≤ m ∧ m ≤ 6) := by
  unfold kn
  split <;> omega
theorem none_iff (xs : List Hd) : cntF xs 0 = 0 ↔ ∀ x ∈ xs, 1 ≤ x.2 ∧ x.2 ≤ 6 := by
  constructor
  · intro h x hx
    by_cases e : 1 ≤ x.2 ∧ x.2 ≤ 6
    · exact e
    · have := cntF_pos.2 ⟨x, hx, (kn_zero _).2 e⟩
      omega
  · intro h
    have := (cntF_bounds xs 0).1
    by_cases e : 0 < cntF xs 0
    · obtain ⟨x, hx, h0⟩ := cntF_pos.1 e
      exact absurd (h x hx) ((kn_zero _).1 h0)
    · omega
theorem right_iff (xs : List Hd) : rightB xs = true ↔ Rg xs := by
  unfold rightB Rg apartB
  rw [Bool.and_eq_true, Bool.and_eq_true, Bool.and_eq_true, decide_eq_true_iff, none_iff, tog_iff, once_iff, List.all_eq_true]
  constructor
  · rintro ⟨⟨h1, h2⟩, h3, h4⟩
    exact ⟨fun x hx => ⟨by simpa using h3 x hx, h1 x hx⟩, h4.imp₂ (fun _ _ a b => ⟨a, b⟩) h2⟩
  · rintro ⟨h1, h2⟩
    exact ⟨⟨fun x hx => (h1 x hx).2, h2.imp (fun h => h.2)⟩, fun x hx => by simpa using (h1 x hx).1, h2.imp (fun h => h.1)⟩
/-- one of them, as the document asks it -/
def Gd (xs : List Hd) (i : Nat) (h : i < xs.length) : Prop := (1 ≤ xs[i].1 ∧ 1 ≤ xs[i].2 ∧ xs[i].2 ≤ 6) ∧ ∀ k (hk : k < xs.length), i ≠ k → xs[i].1 ≠ xs[k].1 ∧ symB (kn xs[i].2) (kn xs[k].2) = true
theorem right_gd (xs : List Hd) : rightB xs = true ↔ ∀ i (h : i < xs.length), Gd xs i h := by
  rw [right_iff]
  unfold Rg
  rw [List.pairwise_iff_getElem]
  constructor
  · rintro ⟨h1, h2⟩ i hi
    refine ⟨h1 _ (List.getElem_mem hi), fun k hk hne => ?_⟩
    rcases Nat.lt_or_ge i k with hij | hij
    · exact h2 i k hi hk hij
    · have := h2 k i hk hi (by omega)
      exact ⟨fun e => this.1 e.symm, by rw [symB_comm]; exact this.2⟩
  · intro h
    refine ⟨fun x hx => ?_, fun i j hi hj hij => (h i hi).2 j hj (by omega)⟩
    obtain ⟨i, hi, rfl⟩ := List.getElem_of_mem hx
    exact (h i hi).1
theorem gd_not {xs : List Hd} {i : Nat} (hi : i < xs.length) (h : ¬ Gd xs i hi) : rightB xs = false := by
  cases e : rightB xs
  · rfl
  · exact absurd ((right_gd xs).1 e i hi) h
section
variable {W W' : World} {A : Option Addr} {c : Nat} {xs : List Hd}
end
end Go.Proofs.YtlhhopanegnliaaGreatDoor.Hs
/- Whether requests are right: the program's answer and the document's. -/
namespace Go.Proofs.YtlhhopanegnliaaGreatDoor.Ws
open Go Go.RowKit Go.Shelf

/-- whether none that converts stands behind one that doesn't, as the program asks it -/
def orderedB (xs : List Wt) : Bool := !(xs.take (plc true xs)).any (fun x => !x.2.2.1)
def rightB (xs : List Wt) : Bool := !xs.any (fun x => !okW x) && onceB xs && orderedB xs
/-- right ones -/
def Rg (xs : List Wt) : Prop := (∀ x ∈ xs, okW x = true) ∧ xs.Pairwise (fun a b => a.1 ≠ b.1) ∧ xs.Pairwise (fun a b => b.2.2.1 = true → a.2.2.1 = true)
theorem once_iff (xs : List Wt) : onceB xs = true ↔ xs.Pairwise (fun a b => a.1 ≠ b.1) := by
  unfold onceB
  rw [decide_eq_true_iff]
  unfold List.Nodup
  rw [List.pairwise_map]
theorem plc_true_false (xs : List Wt) {i : Nat} (h : plc true xs ≤ i) (hi : i < xs.length) : xs[i].2.2.1 = false := by
  have := plN_false (fun x => x.2.2.1 || !true) xs i h hi
  simpa using this
theorem plc_true_true (xs : List Wt) {i : Nat} (h : plc true xs = i + 1) (hi : i < xs.length) : xs[i].2.2.1 = true := by
  have := plN_true (fun x => x.2.2.1 || !true) xs i h hi
  simpa using this
theorem plc_le (cv : Bool) (xs : List Wt) : plc cv xs ≤ xs.length := plN_le _ _
theorem plc_false (xs : List Wt) : plc false xs = xs.length :=
  (plN_is (p := fun x => x.2.2.1 || !false) (xs := xs) (k := xs.length) (Nat.le_refl _) (fun i h1 h2 => by omega) (fun i _ _ => by simp)).symm
theorem ordered_iff (xs : List Wt) : orderedB xs = true ↔ xs.Pairwise (fun a b => b.2.2.1 = true → a.2.2.1 = true) := by
  have hle := plc_le true xs
  unfold orderedB
  rw [Bool.not_eq_true', List.any_eq_false]
  constructor
  · intro h
    rw [List.pairwise_iff_getElem]
    intro i j hi hj hij hb
    rcases Nat.lt_or_ge j (plc true xs) with hk | hk
    · have hm : xs[i] ∈ xs.take (plc true xs) := List.mem_take_iff_getElem.2 ⟨i, by omega, rfl⟩
      have := h _ hm
      simpa using this
    · rw [plc_true_false xs hk hj] at hb
      cases hb
  · intro h x hx
    obtain ⟨i, hi, rfl⟩ := List.mem_take_iff_getElem.1 hx
    rw [List.pairwise_iff_getElem] at h
    obtain ⟨m, hm⟩ : ∃ m, plc true xs = m + 1 := ⟨plc true xs - 1, by omega⟩
    have hmt := plc_true_true xs hm (by omega)
    rcases Nat.lt_or_ge i m with him | him
    · rw [h i m (by omega) (by omega) him hmt]; simp
    · obtain rfl : i = m := by omega
      rw [hmt]; simp
theorem right_iff (xs : List Wt) : rightB xs = true ↔ Rg xs := by
  unfold rightB Rg
  rw [Bool.and_eq_true, Bool.and_eq_true, once_iff, ordered_iff, Bool.not_eq_true', List.any_eq_false, and_assoc]
  simp
/-- one of them, as the document asks it -/
def Gd (xs : List Wt) (i : Nat) (h : i < xs.length) : Prop := okW xs[i] = true ∧ fndI xs[i].1 xs = i ∧ ∀ j (hj : i = j + 1), xs[i].2.2.1 = true → (xs[j]'(by omega)).2.2.1 = true
theorem right_gd (xs : List Wt) : rightB xs = true ↔ ∀ i (h : i < xs.length), Gd xs i h := by
  rw [right_iff]
  unfold Rg
  rw [List.pairwise_iff_getElem, List.pairwise_iff_getElem]
  constructor
  · rintro ⟨h1, h2, h3⟩ i hi
    refine ⟨h1 _ (List.getElem_mem hi), ?_, fun j hj => h3 j i (by omega) hi (by omega)⟩
    exact idx_some hi (fun k hk => by have := h2 k i (by omega) hi hk; simpa using this) (by simp)
  · intro h
    refine ⟨fun x hx => ?_, fun i j hi hj hij he => ?_, fun i j hi hj hij => ?_⟩
    · obtain ⟨i, hi, rfl⟩ := List.getElem_of_mem hx
      exact (h i hi).1
    · have e1 := (h j hj).2.1
      have e2 := (h i hi).2.1
      rw [he] at e2
      rw [e1] at e2
      omega
    · have key : ∀ d i j (_ : i + d = j) (hj : j < xs.length), xs[j].2.2.1 = true → (xs[i]'(by omega)).2.2.1 = true := by
        intro d
        induction d with
        | zero => intro i j he hj hc; obtain rfl : i = j := by omega
                  exact hc
        | succ d ih => intro i j he hj hc
                       exact ih i (j - 1) (by omega) (by omega) ((h j hj).2.2 (j - 1) (by omega) hc)
      exact key (j - i) i j (by omega) hj
theorem gd_not {xs : List Wt} {i : Nat} (hi : i < xs.length) (h : ¬ Gd xs i hi) : rightB xs = false := by
  cases e : rightB xs
  · rfl
  · exact absurd ((right_gd xs).1 e i hi) h
section
variable {W W' : World} {A : Option Addr} {c : Nat} {xs : List Wt}
end
end Go.Proofs.YtlhhopanegnliaaGreatDoor.Ws
/- Plain facts on holds and on requests. -/
namespace Go.Proofs.YtlhhopanegnliaaGreatDoor.Hs
open Go Go.RowKit Go.Shelf

theorem wout_mem {a : Int} {xs : List Hd} {x : Hd} (h : x ∈ wout a xs) : x ∈ xs ∧ (x.1 == a) = false := by
  unfold wout at h
  obtain ⟨h1, h2⟩ := List.mem_filter.1 h
  exact ⟨h1, by simpa using h2⟩
theorem wout_rg {a : Int} {xs : List Hd} (h : Rg xs) : Rg (wout a xs) := ⟨fun x hx => h.1 x (wout_mem hx).1, h.2.filter _⟩
theorem wout_fst (a : Int) (xs : List Hd) : fst a (wout a xs) = 0 := fst_none fun _ hi => (wout_mem (List.getElem_mem hi)).2
theorem goesB_mem {tx m : Int} {xs : List Hd} : goesB tx m xs = true ↔ ∀ x ∈ xs, (x.1 == tx) = false → goesN (kn x.2) (kn m) = true := by
  unfold goesB
  rw [List.all_eq_true]
  constructor
  · intro h x hx e
    have := h x hx
    rw [e, Bool.false_or] at this
    exact this
  · intro h x hx
    cases e : x.1 == tx
    · rw [Bool.false_or]; exact h x hx e
    · rfl
theorem wout_goes {tx m a : Int} {xs : List Hd} (h : goesB tx m xs = true) : goesB tx m (wout a xs) = true :=
  goesB_mem.2 fun x hx e => goesB_mem.1 h x (wout_mem hx).1 e
theorem setL_mem {tx m : Int} : ∀ {xs : List Hd} {x : Hd}, x ∈ setL tx m xs → x ∈ xs ∨ x = (tx, m)
  | [], x, h => by simp [setL] at h; exact .inr h
  | y :: ys, x, h => by
    unfold setL at h
    split at h
    · rcases List.mem_cons.1 h with h | h
      · exact .inr h
      · exact .inl (List.mem_cons_of_mem _ h)
    · rcases List.mem_cons.1 h with h | h
      · exact .inl (by rw [h]; exact List.mem_cons_self)
      · rcases setL_mem h with h | h
        · exact .inl (List.mem_cons_of_mem _ h)
        · exact .inr h
theorem sym_of {i j : Nat} (h : goesN i j = true) : symB i j = true := by unfold symB; rw [h]; rfl
theorem setL_pair {tx m : Int} : ∀ {xs : List Hd}, xs.Pairwise (fun a b => a.1 ≠ b.1 ∧ symB (kn a.2) (kn b.2) = true) → goesB tx m xs = true →
    (setL tx m xs).Pairwise (fun a b => a.1 ≠ b.1 ∧ symB (kn a.2) (kn b.2) = true)
  | [], _, _ => by simp [setL]
  | y :: ys, h, hg => by
    obtain ⟨h1, h2⟩ := List.pairwise_cons.1 h
    have hg' := goesB_mem.1 hg
    unfold setL
    cases e : y.1 == tx
    · rw [if_neg (by simp)]
      refine List.pairwise_cons.2 ⟨fun x hx => ?_, setL_pair h2 (goesB_mem.2 fun x hx => hg' x (List.mem_cons_of_mem _ hx))⟩
      rcases setL_mem hx with hx | rfl
      · exact h1 x hx
      · exact ⟨by simpa using e, sym_of (hg' y List.mem_cons_self e)⟩
    · rw [if_pos rfl]
      have ey : y.1 = tx := by simpa using e
      refine List.pairwise_cons.2 ⟨fun x hx => ?_, h2⟩
      have hne := (h1 x hx).1
      rw [ey] at hne
      exact ⟨hne, by rw [symB_comm]; exact sym_of (hg' x (List.mem_cons_of_mem _ hx) (by simpa using fun q => hne q.symm))⟩
theorem setL_rg {tx m : Int} {xs : List Hd} (h : Rg xs) (ht : 1 ≤ tx) (h1 : 1 ≤ m) (h6 : m ≤ 6) (hg : goesB tx m xs = true) : Rg (setL tx m xs) := by
  refine ⟨fun x hx => ?_, setL_pair h.2 hg⟩
  rcases setL_mem hx with hx | rfl
  · exact h.1 x hx
  · exact ⟨ht, h1, h6⟩
theorem setL_fst (tx m : Int) (xs : List Hd) : fst tx (setL tx m xs) = m := by
  induction xs with
  | nil => simp [setL, fst]
  | cons y ys ih =>
    unfold setL
    cases e : y.1 == tx
    · rw [if_neg (by simp)]
      simp only [fst, e]
      exact ih
    · rw [if_pos rfl]
      simp [fst]
end Go.Proofs.YtlhhopanegnliaaGreatDoor.Hs
namespace Go.Proofs.YtlhhopanegnliaaGreatDoor.Ws
open Go Go.RowKit Go.Shelf

/-- those of others, of right ones -/
theorem rg_wout {xs : List Wt} (h : Rg xs) (tx : Int) : Rg (wout tx xs) :=
  ⟨fun x hx => h.1 x (List.mem_filter.1 hx).1, h.2.1.filter _, h.2.2.filter _⟩
theorem fnd_wout (tx : Int) (xs : List Wt) : fndI tx (wout tx xs) = -1 := by
  refine idx_none fun i hi => ?_
  have := (List.mem_filter.1 (List.getElem_mem hi)).2
  simpa using this
theorem wout_of {tx : Int} {ys : List Wt} (h : ∀ y ∈ ys, y.1 ≠ tx) : wout tx ys = ys := List.filter_eq_self.2 fun y hy => by simpa using h y hy
theorem ne_wout (tx : Int) (xs : List Wt) : ∀ y ∈ wout tx xs, y.1 ≠ tx := fun y hy => by
  have := (List.mem_filter.1 hy).2
  simpa using this
theorem wout_ins {x : Wt} {ys : List Wt} (h : ∀ y ∈ ys, y.1 ≠ x.1) : wout x.1 (ins x ys) = ys := by
  unfold ins
  have e1 : wout x.1 (ys.take (plc x.2.2.1 ys)) = ys.take (plc x.2.2.1 ys) := wout_of fun y hy => h y (List.mem_of_mem_take hy)
  have e2 : wout x.1 (ys.drop (plc x.2.2.1 ys)) = ys.drop (plc x.2.2.1 ys) := wout_of fun y hy => h y (List.mem_of_mem_drop hy)
  have e3 : wout x.1 [x] = [] := by simp [wout]
  have e4 : ∀ a b : List Wt, wout x.1 (a ++ b) = wout x.1 a ++ wout x.1 b := fun a b => by simp [wout]
  rw [e4, e4, e1, e2, e3, List.append_nil, List.take_append_drop]
theorem ins_len (x : Wt) (ys : List Wt) : (ins x ys).length = ys.length + 1 := by
  have := plc_le x.2.2.1 ys
  unfold ins
  rw [List.length_append, List.length_append, List.length_take, List.length_drop]
  simp
  omega
theorem rg_ins {x : Wt} {ys : List Wt} (h : Rg ys) (hx : okW x = true) (hn : ∀ y ∈ ys, y.1 ≠ x.1) : Rg (ins x ys) := by
  have hle := plc_le x.2.2.1 ys
  obtain ⟨h1, h2, h3⟩ := h
  have d2 := h2
  have d3 := h3
  rw [← List.take_append_drop (plc x.2.2.1 ys) ys] at h2 h3
  rw [List.pairwise_append] at h2 h3
  unfold ins
  refine ⟨fun y hy => ?_, ?_, ?_⟩
  · rw [List.mem_append, List.mem_append, List.mem_singleton] at hy
    rcases hy with (hy | rfl) | hy
    · exact h1 y (List.mem_of_mem_take hy)
    · exact hx
    · exact h1 y (List.mem_of_mem_drop hy)
  · rw [List.append_assoc, List.pairwise_append]
    refine ⟨h2.1, ?_, ?_⟩
    · rw [List.singleton_append, List.pairwise_cons]
      exact ⟨fun y hy => (hn y (List.mem_of_mem_drop hy)).symm, h2.2.1⟩
    · intro a ha b hb
      rw [List.singleton_append, List.mem_cons] at hb
      rcases hb with rfl | hb
      · exact hn a (List.mem_of_mem_take ha)
      · exact h2.2.2 a ha b hb
  · rw [List.append_assoc, List.pairwise_append]
    have hdrop : x.2.2.1 = true → ∀ y ∈ ys.drop (plc x.2.2.1 ys), y.2.2.1 = false := by
      intro hc y hy
      obtain ⟨i, hi, rfl⟩ := List.getElem_of_mem hy
      have hpl : plc x.2.2.1 ys = plc true ys := by rw [hc]
      rw [List.getElem_drop]
      rw [List.length_drop] at hi
      exact plc_true_false ys (by omega) (by omega)
    have hnil : x.2.2.1 = false → ys.drop (plc x.2.2.1 ys) = [] := by
      intro hc
      rw [hc, plc_false, List.drop_length]
    refine ⟨h3.1, ?_, ?_⟩
    · rw [List.singleton_append, List.pairwise_cons]
      refine ⟨fun y hy hyc => ?_, h3.2.1⟩
      cases hc : x.2.2.1
      · rw [hnil hc] at hy; simp at hy
      · exact absurd hyc (by rw [hdrop hc y hy]; simp)
    · intro a ha b hb hbc
      rw [List.singleton_append, List.mem_cons] at hb
      rcases hb with rfl | hb
      · obtain ⟨i, hi, rfl⟩ := List.mem_take_iff_getElem.1 ha
        rw [hbc] at hi
        rw [List.pairwise_iff_getElem] at d3
        obtain ⟨m, hm⟩ : ∃ m, plc true ys = m + 1 := ⟨plc true ys - 1, by omega⟩
        rw [hbc] at hle
        have hmt := plc_true_true ys hm (by omega)
        rcases Nat.lt_or_ge i m with him | him
        · exact d3 i m (by omega) (by omega) him hmt
        · obtain rfl : i = m := by omega
          exact hmt
      · exact h3.2.2 a ha b hb hbc
end Go.Proofs.YtlhhopanegnliaaGreatDoor.Ws
/- What a queue's holds and waits always are: right ones, converting where they have a lock, and the first one that waits can't be granted. -/
namespace Go.Proofs.YtlhhopanegnliaaGreatDoor
open Go Go.RowKit Go.Shelf

theorem goes_anti : ∀ i, i ≤ 6 → ∀ j, j ≤ 6 → ∀ k, k ≤ 6 → goesN (supN i j) k = true → goesN i k = true := by decide +kernel
theorem sup_pos : ∀ i, i ≤ 6 → ∀ j, j ≤ 6 → 1 ≤ j → 1 ≤ supN i j := by decide +kernel
theorem fnd_neg {tx : Int} {L : List Ws.Wt} (h : Ws.fndI tx L < 0) : ∀ y ∈ L, y.1 ≠ tx := by
  intro y hy e
  unfold Ws.fndI at h
  rcases Ws.idx_cases (fun x => x.1 == tx) L with ⟨_, h2⟩ | ⟨k, hk, h1, _, _⟩
  · have := h2 y hy
    simp [e] at this
  · omega
theorem fnd_pos {tx : Int} {L : List Ws.Wt} (h : ∀ y ∈ L, y.1 ≠ tx) : Ws.fndI tx L < 0 := by
  unfold Ws.fndI
  rcases Ws.idx_cases (fun x => x.1 == tx) L with ⟨h1, _⟩ | ⟨k, hk, _, h2, _⟩
  · omega
  · exact absurd (by simpa using h2) (h _ (List.getElem_mem hk))
theorem ok3 {tx m fl : Int} : Ws.okB3 tx m fl = true ↔ 1 ≤ tx ∧ 1 ≤ m ∧ m ≤ 6 ∧ 0 ≤ fl ∧ fl ≤ 2 := by
  unfold Ws.okB3 Ws.lockB Ws.knownB
  simp only [Bool.and_eq_true, decide_eq_true_iff]
  omega
theorem okW_iff {x : Ws.Wt} : Ws.okW x = true ↔ 1 ≤ x.1 ∧ 1 ≤ x.2.1 ∧ x.2.1 ≤ 6 := by
  unfold Ws.okW
  rw [ok3]
  omega
theorem tgt_bd {tx m : Int} {H : List Hs.Hd} (h1 : 1 ≤ m) (h6 : m ≤ 6) : 1 ≤ tgt tx m H ∧ tgt tx m H ≤ 6 := by
  unfold tgt
  have e1 := sup_pos _ (kn_le (Hs.fst tx H)) _ (kn_le m) (by
    obtain ⟨k, rfl⟩ : ∃ k : Nat, m = k := ⟨m.toNat, by omega⟩
    rw [kn_nat (by omega)]
    omega)
  have e2 := supN_le (kn (Hs.fst tx H)) (kn m)
  omega
theorem fst_setL_ne {tx m y : Int} {H : List Hs.Hd} (h : y ≠ tx) : Hs.fst y (Hs.setL tx m H) = Hs.fst y H := by
  have h' : (tx == y) = false := by simpa using fun e => h e.symm
  induction H with
  | nil => simp [Hs.setL, Hs.fst, h']
  | cons x xs ih =>
    unfold Hs.setL
    cases e : x.1 == tx
    · rw [if_neg (by simp)]
      simp only [Hs.fst]
      rw [ih]
    · rw [if_pos rfl]
      have ex : x.1 = tx := by simpa using e
      simp only [Hs.fst]
      rw [ex, h']
      rfl
theorem fst_wout_ne {tx y : Int} {H : List Hs.Hd} (h : y ≠ tx) : Hs.fst y (Hs.wout tx H) = Hs.fst y H := by
  induction H with
  | nil => rfl
  | cons x xs ih =>
    unfold Hs.wout at ih ⊢
    rw [List.filter_cons]
    cases e : x.1 == tx
    · rw [if_pos (by simp)]
      simp only [Hs.fst]
      rw [ih]
    · rw [if_neg (by simp)]
      have ex : x.1 = tx := by simpa using e
      rw [ih, Hs.fst, ex, show (tx == y) = false by simpa using fun e => h e.symm]
      rfl
theorem fst_mem {H : List Hs.Hd} {x : Hs.Hd} (h : H.Pairwise (fun a b => a.1 ≠ b.1 ∧ symB (kn a.2) (kn b.2) = true)) (hx : x ∈ H) : Hs.fst x.1 H = x.2 := by
  induction H with
  | nil => cases hx
  | cons y ys ih =>
    obtain ⟨h1, h2⟩ := List.pairwise_cons.1 h
    rcases List.mem_cons.1 hx with rfl | hx
    · simp [Hs.fst]
    · rw [Hs.fst, show (y.1 == x.1) = false by simpa using (h1 x hx).1]
      exact ih h2 hx
theorem setL_in (tx m : Int) (H : List Hs.Hd) : (tx, m) ∈ Hs.setL tx m H := by
  induction H with
  | nil => simp [Hs.setL]
  | cons x xs ih =>
    unfold Hs.setL
    split
    · exact List.mem_cons_self
    · exact List.mem_cons_of_mem _ ih
theorem setL_keep {tx m : Int} {H : List Hs.Hd} {x : Hs.Hd} (hx : x ∈ H) (hne : x.1 ≠ tx) : x ∈ Hs.setL tx m H := by
  induction H with
  | nil => cases hx
  | cons y ys ih =>
    unfold Hs.setL
    rcases List.mem_cons.1 hx with rfl | hx
    · rw [if_neg (by simpa using hne)]
      exact List.mem_cons_self
    · split
      · exact List.mem_cons_of_mem _ hx
      · exact List.mem_cons_of_mem _ (ih hx)
/-- whoever can't be granted can't be where another one's lock becomes more -/
theorem stuck_more {tx m y k : Int} {H : List Hs.Hd} (hr : Hs.Rg H) (hg : Hs.goesB y k H = false) (hy : y ≠ tx) : Hs.goesB y k (Hs.setL tx (tgt tx m H) H) = false := by
  cases e : Hs.goesB y k (Hs.setL tx (tgt tx m H) H)
  · rfl
  · refine absurd (Hs.goesB_mem.2 fun x hx hxy => ?_) (by rw [hg]; simp)
    have hh := Hs.goesB_mem.1 e
    by_cases ex : x.1 = tx
    · have h1 := hh _ (setL_in tx (tgt tx m H) H) (by simpa using fun e => hy e.symm)
      have h2 := fst_mem hr.2 hx
      rw [ex] at h2
      unfold tgt at h1
      simp only at h1
      rw [h2, kn_nat (supN_le _ _)] at h1
      exact goes_anti _ (kn_le _) _ (kn_le _) _ (kn_le _) h1
    · exact hh x (setL_keep hx ex) hxy
/-- what always holds -/
structure Inv (H : List Hs.Hd) (L : List Ws.Wt) : Prop where
  rh : Hs.Rg H
  rl : Ws.Rg L
  cv : ∀ x ∈ L, x.2.2.1 = (Hs.fst x.1 H != 0)
  st : ∀ x L', L = x :: L' → Hs.goesB x.1 x.2.1 H = false
theorem Inv.nil : Inv [] [] := ⟨⟨by simp, List.Pairwise.nil⟩, ⟨by simp, List.Pairwise.nil, List.Pairwise.nil⟩, by simp, by simp⟩
theorem Inv.once {H : List Hs.Hd} {L : List Ws.Wt} (h : Inv H L) : Once L := h.rl.2.1
theorem grant_rg {x : Ws.Wt} {H : List Hs.Hd} (h : Hs.Rg H) (hx : Ws.okW x = true) (hg : Hs.goesB x.1 x.2.1 H = true) : Hs.Rg (grantH x H) := by
  obtain ⟨h1, h2, h3⟩ := okW_iff.1 hx
  unfold grantH
  split
  · exact h
  · exact Hs.setL_rg h h1 h2 h3 hg
theorem grant_fst {x : Ws.Wt} {H : List Hs.Hd} {y : Int} (h : y ≠ x.1) : Hs.fst y (grantH x H) = Hs.fst y H := by
  unfold grantH
  split
  · rfl
  · exact fst_setL_ne h
theorem swp_inv : ∀ {L : List Ws.Wt} {H : List Hs.Hd}, Hs.Rg H → Ws.Rg L → (∀ x ∈ L, x.2.2.1 = (Hs.fst x.1 H != 0)) → Inv (swp L H).1 (swp L H).2.1
  | [], H, h, hl, hc => ⟨h, hl, hc, by simp [swp]⟩
  | x :: L, H, h, hl, hc => by
    cases hg : Hs.goesB x.1 x.2.1 H
    · rw [swp_no hg]
      exact ⟨h, hl, hc, fun y L' e => by cases e; exact hg⟩
    · rw [swp_yes hg]
      obtain ⟨l1, l2, l3⟩ := hl
      obtain ⟨p1, p2⟩ := List.pairwise_cons.1 l2
      refine swp_inv (grant_rg h (l1 x List.mem_cons_self) hg) ⟨fun y hy => l1 y (List.mem_cons_of_mem _ hy), p2, (List.pairwise_cons.1 l3).2⟩ fun y hy => ?_
      rw [grant_fst (fun e => p1 y hy e.symm)]
      exact hc y (List.mem_cons_of_mem _ hy)
theorem swp_len : ∀ (L : List Ws.Wt) (H : List Hs.Hd), (swp L H).1.length + (swp L H).2.1.length ≤ H.length + L.length
  | [], H => by simp [swp]
  | x :: L, H => by
    cases hg : Hs.goesB x.1 x.2.1 H
    · rw [swp_no hg]; exact Nat.le_refl _
    · rw [swp_yes hg]
      have := swp_len L (grantH x H)
      have := grant_len x H
      simp only [List.length_cons]
      omega
theorem swp_split : ∀ (L : List Ws.Wt) (H : List Hs.Hd), L = (swp L H).2.2 ++ (swp L H).2.1
  | [], H => rfl
  | x :: L, H => by
    cases hg : Hs.goesB x.1 x.2.1 H
    · rw [swp_no hg]; rfl
    · rw [swp_yes hg]
      simp only [List.cons_append]
      rw [← swp_split L (grantH x H)]
section
variable {H : List Hs.Hd} {L : List Ws.Wt} {tx m fl : Int}
theorem Inv.ask (h : Inv H L) (tx m fl : Int) : Inv (ask tx m fl H L).2.2.1 (ask tx m fl H L).2.2.2 := by
  rcases ask_cases tx m fl H L with ⟨_, _, _, e⟩ | ⟨_, _, e⟩ | ⟨he, _, hn, e⟩ | ⟨_, _, _, _, e⟩ | ⟨he, _, hn, _, e⟩ <;> rw [e]
  · exact h
  · exact h
  · rcases errR_cases tx m fl L with ⟨_, q⟩ | ⟨_, _, q⟩ | ⟨h1, h2, _⟩
    · omega
    · omega
    obtain ⟨k1, k2, k3, k4, k5⟩ := ok3.1 h1
    have hb := tgt_bd (tx := tx) (H := H) k2 k3
    unfold atOnce at hn
    rw [Bool.and_eq_true] at hn
    have hne := fnd_neg h2
    refine ⟨grant_rg h.rh (okW_iff.2 ⟨k1, hb⟩) hn.2, h.rl, fun x hx => ?_, fun x L' e => ?_⟩
    · rw [grant_fst (hne x hx)]
      exact h.cv x hx
    · show Hs.goesB x.1 x.2.1 (grantH _ H) = false
      unfold grantH
      split
      · exact h.st x L' e
      · exact stuck_more h.rh (h.st x L' e) (hne x (by
          have e' : L = x :: L' := e
          rw [e']; exact List.mem_cons_self))
  · exact h
  · rcases errR_cases tx m fl L with ⟨_, q⟩ | ⟨_, _, q⟩ | ⟨h1, h2, _⟩
    · omega
    · omega
    obtain ⟨k1, k2, k3, k4, k5⟩ := ok3.1 h1
    have hb := tgt_bd (tx := tx) (H := H) k2 k3
    have hne := fnd_neg h2
    refine ⟨h.rh, Ws.rg_ins h.rl (okW_iff.2 ⟨k1, hb⟩) hne, fun x hx => ?_, fun x L' e => ?_⟩
    · have hx' : x ∈ Ws.ins (reqW tx m fl H) L := hx
      unfold Ws.ins at hx'
      rw [List.mem_append, List.mem_append, List.mem_singleton] at hx'
      rcases hx' with (hx' | rfl) | hx'
      · exact h.cv x (List.mem_of_mem_take hx')
      · rfl
      · exact h.cv x (List.mem_of_mem_drop hx')
    · have e' : Ws.ins (reqW tx m fl H) L = x :: L' := e
      unfold Ws.ins at e'
      cases hp : Ws.plc (reqW tx m fl H).2.2.1 L with
      | zero =>
        rw [hp] at e'
        simp only [List.take_zero, List.nil_append, List.singleton_append, List.cons.injEq] at e'
        obtain ⟨rfl, -⟩ := e'
        unfold atOnce at hn
        have ht : turnB (Hs.fst tx H != 0) L = true := by
          unfold turnB
          cases hc : (Hs.fst tx H != 0)
          · rw [show (reqW tx m fl H).2.2.1 = false from hc, Ws.plc_false] at hp
            simp [hp]
          · rw [show (reqW tx m fl H).2.2.1 = true from hc] at hp
            simp [hp]
        rw [ht, Bool.true_and] at hn
        exact hn
      | succ k =>
        rw [hp] at e'
        cases L with
        | nil =>
          have := Ws.plc_le (reqW tx m fl H).2.2.1 []
          rw [hp] at this
          simp at this
        | cons y ys =>
          simp only [List.take_succ_cons, List.cons_append, List.cons.injEq] at e'
          obtain ⟨rfl, -⟩ := e'
          exact h.st y ys rfl
theorem Inv.rel (h : Inv H L) (tx : Int) : Inv (rel tx H L).hs (rel tx H L).ws := by
  unfold Go.Proofs.YtlhhopanegnliaaGreatDoor.rel
  split
  · exact h
  · refine swp_inv (Hs.wout_rg h.rh) (Ws.rg_wout h.rl tx) fun x hx => ?_
    rw [fst_wout_ne (Ws.ne_wout tx L x hx)]
    exact h.cv x (List.mem_filter.1 hx).1
theorem Inv.can (h : Inv H L) (tx : Int) : Inv (can tx H L).hs (can tx H L).ws := by
  unfold Go.Proofs.YtlhhopanegnliaaGreatDoor.can
  split
  · exact swp_inv h.rh (Ws.rg_wout h.rl tx) fun x hx => h.cv x (List.mem_filter.1 hx).1
  · exact h
theorem rel_len (tx : Int) (H : List Hs.Hd) (L : List Ws.Wt) : (rel tx H L).hs.length + (rel tx H L).ws.length ≤ H.length + L.length := by
  unfold rel
  split
  · exact Nat.le_refl _
  · have h1 := swp_len (Ws.wout tx L) (Hs.wout tx H)
    have h2 : (Hs.wout tx H).length ≤ H.length := List.length_filter_le _ _
    have h3 : (Ws.wout tx L).length ≤ L.length := List.length_filter_le _ _
    show (swp _ _).1.length + (swp _ _).2.1.length ≤ _
    omega
theorem can_len (tx : Int) (H : List Hs.Hd) (L : List Ws.Wt) : (can tx H L).hs.length + (can tx H L).ws.length ≤ H.length + L.length := by
  unfold can
  split
  · have h1 := swp_len (Ws.wout tx L) H
    have h3 : (Ws.wout tx L).length ≤ L.length := List.length_filter_le _ _
    show (swp _ _).1.length + (swp _ _).2.1.length ≤ _
    omega
  · exact Nat.le_refl _
end
end Go.Proofs.YtlhhopanegnliaaGreatDoor
/- Who has and who waits: whoever asked and has not gone; one that is alone. -/
namespace Go.Proofs.YtlhhopanegnliaaGreatDoor
open Go Go.RowKit Go.Shelf

/-- each that has or waits is such a one -/
def AllP (P : Int → Prop) (H : List Hs.Hd) (L : List Ws.Wt) : Prop := (∀ x ∈ H, P x.1) ∧ ∀ x ∈ L, P x.1
section
variable {P R : Int → Prop} {H : List Hs.Hd} {L : List Ws.Wt} {tx m fl : Int}
theorem AllP.mono (h : AllP P H L) (hpr : ∀ t, P t → R t) : AllP R H L := ⟨fun x hx => hpr _ (h.1 x hx), fun x hx => hpr _ (h.2 x hx)⟩
theorem AllP.nil (P : Int → Prop) : AllP P [] [] := ⟨by simp, by simp⟩
theorem grant_all {x : Ws.Wt} (h : ∀ y ∈ H, P y.1) (hx : P x.1) : ∀ y ∈ grantH x H, P y.1 := by
  unfold grantH
  split
  · exact h
  · intro y hy
    rcases Hs.setL_mem hy with hy | rfl
    · exact h y hy
    · exact hx
theorem swp_all : ∀ {L : List Ws.Wt} {H : List Hs.Hd}, AllP P H L → AllP P (swp L H).1 (swp L H).2.1
  | [], _, h => h
  | x :: L, H, h => by
    cases hg : Hs.goesB x.1 x.2.1 H
    · rw [swp_no hg]; exact h
    · rw [swp_yes hg]
      exact swp_all ⟨grant_all h.1 (h.2 x List.mem_cons_self), fun y hy => h.2 y (List.mem_cons_of_mem _ hy)⟩
theorem AllP.ask (h : AllP P H L) (hp : P tx) : AllP P (ask tx m fl H L).2.2.1 (ask tx m fl H L).2.2.2 := by
  rcases ask_cases tx m fl H L with ⟨_, _, _, e⟩ | ⟨_, _, e⟩ | ⟨_, _, _, e⟩ | ⟨_, _, _, _, e⟩ | ⟨_, _, _, _, e⟩ <;> rw [e]
  · exact h
  · exact h
  · exact ⟨grant_all h.1 hp, h.2⟩
  · exact h
  · refine ⟨h.1, fun x hx => ?_⟩
    have hx' : x ∈ Ws.ins (reqW tx m fl H) L := hx
    unfold Ws.ins at hx'
    rw [List.mem_append, List.mem_append, List.mem_singleton] at hx'
    rcases hx' with (hx' | rfl) | hx'
    · exact h.2 x (List.mem_of_mem_take hx')
    · exact hp
    · exact h.2 x (List.mem_of_mem_drop hx')
theorem AllP.rel (h : AllP P H L) (hi : Inv H L) (tx : Int) : AllP (fun t => P t ∧ t ≠ tx) (rel tx H L).hs (rel tx H L).ws := by
  unfold Go.Proofs.YtlhhopanegnliaaGreatDoor.rel
  split
  · rename_i hs
    unfold isnt at hs
    rw [Bool.and_eq_true] at hs
    refine ⟨fun x hx => ⟨h.1 x hx, fun e => ?_⟩, fun x hx => ⟨h.2 x hx, ?_⟩⟩
    · have h1 := fst_mem hi.rh.2 hx
      have h2 := (hi.rh.1 x hx).2.1
      have h3 : Hs.fst tx H = 0 := by simpa using hs.1
      rw [e] at h1
      omega
    · have h3 : Ws.fndI tx L < 0 := by simpa using hs.2
      exact fnd_neg h3 x hx
  · exact swp_all ⟨fun x hx => ⟨h.1 x (Hs.wout_mem hx).1, by simpa using (Hs.wout_mem hx).2⟩, fun x hx => ⟨h.2 x (List.mem_filter.1 hx).1, Ws.ne_wout tx L x hx⟩⟩
theorem AllP.can (h : AllP P H L) (tx : Int) : AllP P (can tx H L).hs (can tx H L).ws := by
  unfold Go.Proofs.YtlhhopanegnliaaGreatDoor.can
  split
  · exact swp_all ⟨h.1, fun x hx => h.2 x (List.mem_filter.1 hx).1⟩
  · exact h
theorem AllP.none (h : AllP P H L) (hp : ∀ t, ¬ P t) : H = [] ∧ L = [] := by
  constructor
  · cases H with
    | nil => rfl
    | cons x xs => exact absurd (h.1 x List.mem_cons_self) (hp _)
  · cases L with
    | nil => rfl
    | cons x xs => exact absurd (h.2 x List.mem_cons_self) (hp _)
end
theorem cov_sup : ∀ i, i ≤ 6 → ∀ j, j ≤ 6 → covB i j = true → supN i j = i := by decide +kernel
/-- what one that is alone has -/
def hold1 (tx : Int) (k : Nat) : List Hs.Hd := if k = 0 then [] else [(tx, (k : Int))]
theorem fst_hold1 (tx : Int) (k : Nat) : Hs.fst tx (hold1 tx k) = k := by
  unfold hold1
  split
  · rename_i h; subst h; rfl
  · simp [Hs.fst]
theorem hold1_len (tx : Int) (k : Nat) : (hold1 tx k).length ≤ 1 := by
  unfold hold1
  split <;> simp
theorem ask_bad {tx m : Int} {H : List Hs.Hd} {L : List Ws.Wt} (h : ¬ (1 ≤ m ∧ m ≤ 6)) : ask tx m 0 H L = (0, 1, H, L) := by
  refine ask_err ?_ (by decide)
  rcases errR_cases tx m 0 L with ⟨_, q⟩ | ⟨q, _⟩ | ⟨q, _⟩
  · exact q
  · exact absurd ⟨(ok3.1 q).2.1, (ok3.1 q).2.2.1⟩ h
  · exact absurd ⟨(ok3.1 q).2.1, (ok3.1 q).2.2.1⟩ h
theorem ask_alone {tx m : Int} {k : Nat} (ht : 1 ≤ tx) (h1 : 1 ≤ m) (h6 : m ≤ 6) (hk : k ≤ 6) : ask tx m 0 (hold1 tx k) [] = (1, 0, hold1 tx (supN k (kn m)), []) := by
  have he : errR tx m 0 [] = 0 := by
    rcases errR_cases tx m 0 [] with ⟨q, _⟩ | ⟨_, q, _⟩ | ⟨_, _, q⟩
    · rw [ok3.2 ⟨ht, h1, h6, by omega, by omega⟩] at q; cases q
    · exact absurd q (show ¬ (0 : Int) ≤ -1 by decide)
    · exact q
  have hf := fst_hold1 tx k
  have hm : 1 ≤ kn m := by
    obtain ⟨j, rfl⟩ : ∃ j : Nat, m = j := ⟨m.toNat, by omega⟩
    rw [kn_nat (by omega)]
    omega
  have hs := sup_pos k hk _ (kn_le m) hm
  have htg : tgt tx m (hold1 tx k) = (supN k (kn m) : Nat) := by unfold tgt; rw [hf, kn_nat hk]
  cases hh : has tx m (hold1 tx k)
  · have hn : atOnce tx m (hold1 tx k) [] = true := by
      unfold atOnce
      rw [Bool.and_eq_true]
      refine ⟨?_, Hs.goesB_mem.2 fun x hx hxe => ?_⟩
      · unfold turnB
        split
        · exact decide_eq_true (by rfl)
        · rfl
      · unfold hold1 at hx
        split at hx
        · cases hx
        · rw [List.mem_singleton.1 hx] at hxe
          simp at hxe
    rw [ask_now he hh hn]
    have e1 : grantH (reqW tx m 0 (hold1 tx k)) (hold1 tx k) = Hs.setL tx (supN k (kn m) : Nat) (hold1 tx k) := by
      unfold grantH reqW
      rw [if_neg (by simp), htg]
    have e2 : Hs.setL tx (supN k (kn m) : Nat) (hold1 tx k) = hold1 tx (supN k (kn m)) := by
      unfold hold1
      rw [if_neg (by omega : ¬ supN k (kn m) = 0)]
      split
      · rfl
      · simp [Hs.setL]
    rw [e1, e2]
  · rw [ask_has he hh]
    unfold has at hh
    rw [hf, kn_nat hk, Bool.and_eq_true] at hh
    rw [cov_sup k hk _ (kn_le m) hh.2]
theorem inv_hold1 {tx : Int} {k : Nat} (ht : 1 ≤ tx) (hk : k ≤ 6) : Inv (hold1 tx k) [] := by
  refine ⟨⟨fun x hx => ?_, ?_⟩, ⟨by simp, List.Pairwise.nil, List.Pairwise.nil⟩, by simp, by simp⟩
  · unfold hold1 at hx
    split at hx
    · cases hx
    · rw [List.mem_singleton.1 hx]
      exact ⟨ht, by simp; omega, by simp; omega⟩
  · unfold hold1
    split <;> simp
theorem all_hold1 (tx : Int) (k : Nat) : AllP (fun t => t = tx) (hold1 tx k) [] := by
  refine ⟨fun x hx => ?_, by simp⟩
  unfold hold1 at hx
  split at hx
  · cases hx
  · rw [List.mem_singleton.1 hx]
end Go.Proofs.YtlhhopanegnliaaGreatDoor
