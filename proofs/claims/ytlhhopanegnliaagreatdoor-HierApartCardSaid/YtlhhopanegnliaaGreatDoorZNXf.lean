import Derived.Test.YtlhhopanegnliaaGreatDoorZMLd
import Derived.Lib.SliceRun
import Derived.Laws.IdiomCopy
import Derived.Test.YtlhhopanegnliaaGreatDoorZNWa
import Derived.Test.YtlhhopanegnliaaGreatDoorZNWe
namespace Go.Proofs.YtlhhopanegnliaaGreatDoor.Lk
open Go Go.RowKit Go.Shelf Pa
set_option maxRecDepth 100000

section
variable {W W' : World} {g n cap K : Nat} {zs : List Hd}
theorem Row.keep {v : Value} (h : Row W K v zs) (hk : ∀ g, v.ownBlock = some g → W'.heap[g]? = W.heap[g]?) : Row W' K v zs := row_keep h hk
theorem Row.blk (h : Row W K (.slice (some ⟨g, 0, none⟩) n cap) zs) : ∃ cur, W.heap[g]? = some (.cells cur 39 (0, 0)) ∧ zs.length ≤ cap ∧ cap ≤ maxLen := by
  rcases h.2 with ⟨h0, _⟩ | ⟨g', cap', cur, e, _, hb, h1, h2, _⟩
  · cases h0
  · cases e; exact ⟨cur, hb, h1, h2⟩
theorem Row.free {k : Nat} (h : Row W K (.slice (some ⟨g, 0, none⟩) n cap) zs) : W.frozen? ⟨g, k, none⟩ = false := by
  obtain ⟨cur, hb, -⟩ := h.blk
  exact frozen_of_row _ _ _ _ _ hb
theorem Row.there {k : Nat} (h : Row W K (.slice (some ⟨g, 0, none⟩) n cap) zs) (hk : k < zs.length * 6) : (W.cell? ⟨g, k, none⟩).isSome = true := by
  have h1 := h.cells (g := g) rfl k _ (List.getElem?_eq_getElem (by rw [flat_length]; exact hk))
  rw [add_at] at h1
  rw [h1]; rfl
end
def zz (n : Nat) : List Value := (Builtin.zeroCells (Value.agg #[.int .i64 0, .int .i64 0, .int .i64 0, .int .i64 0, .int .i64 0, .int .i64 0]).cells n).toList
theorem filter_none {p : Hd → Bool} {xs : List Hd} (h : ∀ x ∈ xs, p x = false) : xs.filter (fun x => !p x) = xs := List.filter_eq_self.2 fun x hx => by simp [h x hx]
structure Mid (p : Hd → Bool) (xs zs : List Hd) (i j : Nat) : Prop where
  len : zs.length = xs.length
  ij : i < j
  jn : j ≤ xs.length
  kept : zs.take i = (xs.take j).filter (fun x => !p x)
  rest : zs.drop j = xs.drop j
theorem Mid.start {p : Hd → Bool} {xs : List Hd} {i : Nat} (h : i < xs.length) (hp : p xs[i] = true) (ha : ∀ k (h : k < i), p (xs[k]'(by omega)) = false) : Mid p xs xs i (i + 1) := by
  refine ⟨rfl, by omega, h, ?_, rfl⟩
  have ha' : ∀ y ∈ xs.take i, p y = false := by
    intro y hy
    obtain ⟨k, hk, rfl⟩ := List.getElem_of_mem hy
    rw [List.getElem_take]
    exact ha k (by rw [List.length_take] at hk; omega)
  rw [List.take_succ_eq_append_getElem h, List.filter_append, filter_none ha']
  simp [hp]
theorem Mid.at {p : Hd → Bool} {xs zs : List Hd} {i j : Nat} (h : Mid p xs zs i j) (hj : j < xs.length) : ∃ hz : j < zs.length, zs[j] = xs[j] := by
  have hz : j < zs.length := by rw [h.len]; exact hj
  refine ⟨hz, ?_⟩
  have := congrArg (fun l => l[0]?) h.rest
  simp [List.getElem?_drop, List.getElem?_eq_getElem hz, List.getElem?_eq_getElem hj] at this
  exact this
theorem Mid.skip {p : Hd → Bool} {xs zs : List Hd} {i j : Nat} (h : Mid p xs zs i j) (hj : j < xs.length) (hp : p xs[j] = true) : Mid p xs zs i (j + 1) := by
  refine ⟨h.len, by have := h.ij; omega, hj, ?_, ?_⟩
  · rw [h.kept, List.take_succ_eq_append_getElem hj, List.filter_append]; simp [hp]
  · rw [← List.drop_drop, ← List.drop_drop, h.rest]
theorem Mid.keep {p : Hd → Bool} {xs zs : List Hd} {i j : Nat} (h : Mid p xs zs i j) (hj : j < xs.length) (hp : p xs[j] = false) : Mid p xs (zs.set i xs[j]) (i + 1) (j + 1) := by
  have hij := h.ij
  have hz : i < zs.length := by rw [h.len]; omega
  refine ⟨by simpa using h.len, by omega, hj, ?_, ?_⟩
  · have hl : i < (zs.set i xs[j]).length := by simpa using hz
    rw [List.take_succ_eq_append_getElem hl, List.take_set_of_le (Nat.le_refl _), h.kept, List.take_succ_eq_append_getElem hj, List.filter_append]
    simp [hp]
  · rw [List.drop_set_of_lt (by omega), ← List.drop_drop, ← List.drop_drop, h.rest]
theorem Mid.done {p : Hd → Bool} {xs zs : List Hd} {i : Nat} (h : Mid p xs zs i xs.length) : zs.take i = xs.filter (fun x => !p x) := by
  rw [h.kept, List.take_length]
def Drops (W : World) (K : Nat) (v : Value) (xs : List Hd) (e : Ending) (w' : World) : Prop :=
  ∃ v', e = .returned v' ∧ Row w' K v' xs ∧ OnlyS (fun k => v.ownBlock = some k) W w'
end Go.Proofs.YtlhhopanegnliaaGreatDoor.Lk
namespace Go.Proofs.YtlhhopanegnliaaGreatDoor.Lk
open Go Go.RowKit Go.Shelf Pa
set_option maxRecDepth 100000

section
variable {W W' : World} {A : Option Addr} {c : Nat} {xs : List Hd}
def aftL (xs : List Hd) (x : Hd) : List Hd := (withL xs x).filter fun k => !(belB k.1 x.1)
end
end Go.Proofs.YtlhhopanegnliaaGreatDoor.Lk
namespace Go.Proofs.YtlhhopanegnliaaGreatDoor.Lk
open Go Go.RowKit Go.Shelf Pa
set_option maxRecDepth 100000
def exL : List Hd := [(⟨1, 0, 0, 0, 1⟩, 1), (⟨1, 1, 0, 0, 2⟩, 3), (⟨1, 2, 0, 0, 2⟩, 3)]
end Go.Proofs.YtlhhopanegnliaaGreatDoor.Lk
namespace Go.Proofs.YtlhhopanegnliaaGreatDoor.Lk
open Go Go.RowKit Go.Shelf Pa
set_option maxRecDepth 100000

theorem re_do : ∀ x, x ≤ 3 → reN (doN x) = x := by decide +kernel
theorem top_mem {xs : List Hd} {x : Hd} (h : x ∈ xs) : reN (kn x.2) ≤ topL xs := by
  unfold topL
  have up : ∀ (xs : List Hd) (m : Nat), m ≤ xs.foldl (fun m x => max m (reN (kn x.2))) m := by
    intro xs
    induction xs with
    | nil => intro m; exact Nat.le_refl _
    | cons x xs ih => intro m; exact Nat.le_trans (Nat.le_max_left _ _) (ih _)
  have : ∀ (xs : List Hd) (m : Nat), x ∈ xs → reN (kn x.2) ≤ xs.foldl (fun m x => max m (reN (kn x.2))) m := by
    intro xs
    induction xs with
    | nil => intro m h; cases h
    | cons y xs ih =>
      intro m h
      rcases List.mem_cons.1 h with rfl | h
      · exact Nat.le_trans (Nat.le_max_right _ _) (up xs _)
      · exact ih _ h
  exact this xs 0 h
structure Pd (xs : List Hd) (n : Int) (x : Hd) : Prop where
  one : 1 ≤ n
  kids : n ≤ (cntL xs x.1 : Int)
  bel : ∀ y ∈ fitL (fun p => belB p x.1) xs, reN (kn y.2) ≤ reN (kn x.2)
  cov : covB (kn x.2) (kn (ofL xs x.1)) = true
  more : reN (kn (ofL xs x.1)) < reN (kn x.2)
theorem pd_of {xs : List Hd} {n : Int} {x : Hd} (h1 : 1 ≤ n) (hc : candB xs n x.1 = true) (hx : x = itemG xs x.1) : Pd xs n x := by
  unfold candB at hc
  rw [Bool.and_eq_true, decide_eq_true_eq, decide_eq_true_eq] at hc
  have hk : kn x.2 = supN (kn (ofL xs x.1)) (doN (mxL xs x.1)) := by
    have := congrArg Prod.snd hx
    rw [this]
    exact kn_nat (supN_le _ _)
  have hr := sup_r (kn (ofL xs x.1)) (kn_le _) (doN (mxL xs x.1)) (doN_le _)
  have hl := sup_l (kn (ofL xs x.1)) (kn_le _) (doN (mxL xs x.1)) (doN_le _)
  have hm : mxL xs x.1 ≤ reN (kn x.2) := by
    have := cov_re hr
    rw [re_do _ (mx_le _ _)] at this
    rw [hk]
    exact this
  refine ⟨h1, hc.1, fun y hy => Nat.le_trans (top_mem hy) hm, by rw [hk]; exact hl, Nat.lt_of_lt_of_le hc.2 hm⟩
end Go.Proofs.YtlhhopanegnliaaGreatDoor.Lk
namespace Go.Proofs.YtlhhopanegnliaaGreatDoor.Lk
open Go Go.RowKit Go.Shelf Pa
set_option maxRecDepth 100000

theorem par_mono : ∀ i, i ≤ 6 → ∀ j, j ≤ 6 → covB i j = true → covB (parN i) (parN j) = true := by decide +kernel
theorem do_cov : ∀ m, m ≤ 6 → covB m (doN (reN m)) = true := by decide +kernel
theorem par_zero : ∀ j, j ≤ 6 → parN j = 0 → j = 0 := by decide +kernel
theorem kn_pos {m : Int} (h1 : 1 ≤ m) (h6 : m ≤ 6) : kn m ≠ 0 := by unfold kn; rw [if_pos ⟨by omega, h6⟩]; omega
theorem top_get : ∀ xs : List Hd, topL xs = 0 ∨ ∃ z ∈ xs, reN (kn z.2) = topL xs := by
  intro xs
  have : ∀ (xs : List Hd) (m : Nat), xs.foldl (fun m x => max m (reN (kn x.2))) m = m ∨ ∃ z ∈ xs, reN (kn z.2) = xs.foldl (fun m x => max m (reN (kn x.2))) m := by
    intro xs
    induction xs with
    | nil => intro m; exact .inl rfl
    | cons x xs ih =>
      intro m
      simp only [List.foldl_cons]
      rcases ih (max m (reN (kn x.2))) with h | ⟨z, hz, h⟩
      · rw [h]
        rcases Nat.le_total m (reN (kn x.2)) with hm | hm
        · exact .inr ⟨x, by simp, by omega⟩
        · exact .inl (by omega)
      · exact .inr ⟨z, by simp [hz], h⟩
  exact this xs 0
theorem chain_up {xs : List Hd} (h : Rt xs) {z : Hd} (hz : z ∈ xs) : ∀ i : Nat, 1 ≤ z.1.e - 1 - (i : Int) → covB (kn (ofL xs (cutP z.1 (z.1.e - 1 - i)))) (parN (kn z.2)) = true
  | 0, hi => by
    have h2 := h.2 z hz
    unfold upB at h2
    simp only [Bool.or_eq_true, beq_iff_eq] at h2
    rcases h2 with h2 | h2
    · omega
    · rw [show z.1.e - 1 - ((0 : Nat) : Int) = z.1.e - 1 by omega]
      exact h2
  | i + 1, hi => by
    have ih := chain_up h hz i (by omega)
    have hzr := h.1.2 z hz
    have h0 : ofL xs (cutP z.1 (z.1.e - 1 - i)) ≠ 0 := by
      intro e
      rw [e] at ih
      have := cov_zero _ (par_le _) ih
      exact kn_pos hzr.2.1 hzr.2.2 (par_zero _ (kn_le _) this)
    obtain ⟨y, hy, e1, e2⟩ := of_mem h0
    have h2 := h.2 y hy
    unfold upB at h2
    simp only [Bool.or_eq_true, beq_iff_eq] at h2
    have he : y.1.e = z.1.e - 1 - i := by rw [e1]; rfl
    rcases h2 with h2 | h2
    · omega
    · rw [he, e1, cut_cut z.1 (by omega)] at h2
      rw [show z.1.e - 1 - ((i + 1 : Nat) : Int) = z.1.e - 1 - (i : Int) - 1 by omega]
      rw [← e2] at ih
      have h3 := par_mono _ (kn_le _) _ (par_le _) ih
      rw [par_par _ (kn_le _)] at h3
      exact cov_tr h2 h3
theorem bel_anc {q p : Pt} (h : belB q p = true) : ∃ i : Nat, 1 ≤ q.e - 1 - (i : Int) ∧ cutP q (q.e - 1 - i) = p := by
  have hr := bel_right h
  have hd := right_depth hr
  rw [← anc_all hr (t := (q.e - 1).toNat) (by omega)] at h
  obtain ⟨j, hj, e⟩ := (anc_iff _ _ _).1 h
  exact ⟨j, by omega, e⟩
theorem bel_trans {p q r : Pt} (h1 : belB p q = true) (h2 : belB q r = true) : belB p r = true := by
  obtain ⟨i, hi, rfl⟩ := bel_anc h1
  obtain ⟨j, hj, e⟩ := bel_anc h2
  have hr := bel_right h1
  have hd := right_depth hr
  have he : (cutP p (p.e - 1 - i)).e = p.e - 1 - i := rfl
  rw [he] at hj e
  rw [cut_cut p (by omega)] at e
  rw [← anc_all hr (t := (p.e - 1).toNat) (by omega)]
  exact (anc_iff _ _ _).2 ⟨i + 1 + j, by omega, by rw [← e]; congr 1; omega⟩
theorem bel_up {p r : Pt} (hp : rightB p = true) (h1 : p.e ≠ 1) (h : belB (cutP p (p.e - 1)) r = true) : belB p r = true := by
  have hd := right_depth hp
  refine bel_trans (q := cutP p (p.e - 1)) ?_ h
  rw [← anc_all hp (t := (p.e - 1).toNat) (by omega)]
  exact (anc_iff _ _ _).2 ⟨0, by omega, by congr 1; omega⟩
theorem of_filter (f : Pt → Bool) : ∀ (xs : List Hd) (p : Pt), ofL (xs.filter fun k => f k.1) p = if f p then ofL xs p else 0
  | [], p => by simp [ofL]
  | x :: xs, p => by
    have ih := of_filter f xs p
    rw [List.filter_cons]
    by_cases hx : f x.1 = true
    · rw [if_pos hx]
      simp only [ofL]
      rw [ih]
      by_cases e : eqP x.1 p = true
      · have e' := (eqP_iff _ _).1 e
        rw [if_pos e, if_pos e, if_pos (by rw [← e']; exact hx)]
      · rw [if_neg e, if_neg e]
    · rw [if_neg hx, ih]
      simp only [ofL]
      by_cases e : eqP x.1 p = true
      · have e' := (eqP_iff _ _).1 e
        rw [if_neg (by rw [← e']; exact hx), if_neg (by rw [← e']; exact hx)]
      · rw [if_neg e]
theorem of_aft (xs : List Hd) (x : Hd) (p : Pt) : ofL (aftL xs x) p = if belB p x.1 then 0 else if eqP x.1 p then x.2 else ofL xs p := by
  unfold aftL
  rw [of_filter (fun q => !(belB q x.1)), of_with]
  cases belB p x.1 <;> rfl
section
variable {xs : List Hd} {n : Int} {x : Hd}
theorem pick_mode (hx : x = itemG xs x.1) : kn x.2 = supN (kn (ofL xs x.1)) (doN (mxL xs x.1)) ∧ x.2 = (kn x.2 : Nat) := by
  have := congrArg Prod.snd hx
  have h2 : kn x.2 = supN (kn (ofL xs x.1)) (doN (mxL xs x.1)) := by
    rw [this]
    exact kn_nat (supN_le _ _)
  exact ⟨h2, by rw [h2]; exact this⟩
theorem aft_right (h : Rt xs) (hd : Pd xs n x) (hk : 0 < cntL xs x.1) (hx : x = itemG xs x.1) : Rt (aftL xs x) := by
  obtain ⟨hm, hm2⟩ := pick_mode hx
  have hxr := cnt_right hk
  have hxd := right_depth hxr
  have hpos : kn x.2 ≠ 0 := by
    intro e
    have := hd.more
    rw [e] at this
    simp [reN] at this
  have hk6 := kn_le x.2
  have hw : Rt (withL xs x) := by
    refine rt_with h hxr (by omega) (by omega) hd.cov ?_
    by_cases h1 : x.1.e = 1
    · exact .inl h1
    · right
      rw [hm]
      refine par_sup _ (kn_le _) _ (kn_le _) _ (doN_le _) ?_ ?_
      · by_cases h0 : ofL xs x.1 = 0
        · rw [h0]
          exact cov_none _
        · obtain ⟨y, hy, e1, e2⟩ := of_mem h0
          have h2 := h.2 y hy
          unfold upB at h2
          simp only [Bool.or_eq_true, beq_iff_eq] at h2
          rw [e1, e2] at h2
          rcases h2 with h2 | h2
          · exact absurd h2 h1
          · exact h2
      · rcases top_get (fitL (fun p => belB p x.1) xs) with h0 | ⟨z, hz, h0⟩
        · have : mxL xs x.1 = 0 := h0
          rw [this]
          exact cov_none _
        · have e0 : reN (kn z.2) = mxL xs x.1 := h0
          obtain ⟨hz1, hz2⟩ := List.mem_filter.1 hz
          obtain ⟨i, hi, e⟩ := bel_anc (show belB z.1 x.1 = true from hz2)
          have h3 := chain_up h hz1 (i + 1) (by
            have := congrArg Pt.e e
            have e3 : (cutP z.1 (z.1.e - 1 - i)).e = z.1.e - 1 - i := rfl
            rw [e3] at this
            omega)
          have e4 : cutP x.1 (x.1.e - 1) = cutP z.1 (z.1.e - 1 - ((i + 1 : Nat) : Int)) := by
            have e3 : x.1.e = z.1.e - 1 - i := by rw [← e]; rfl
            rw [e3, ← e, cut_cut z.1 (by omega)]
            congr 1
            omega
          rw [e4]
          refine cov_tr h3 ?_
          rw [← e0]
          exact par_mono _ (kn_le _) _ (doN_le _) (do_cov _ (kn_le _))
  refine ⟨⟨?_, fun y hy => hw.1.2 y (List.mem_filter.1 hy).1⟩, fun y hy => ?_⟩
  · exact hw.1.1.sublist (List.filter_sublist.map _)
  · obtain ⟨hy1, hy2⟩ := List.mem_filter.1 hy
    have h2 := hw.2 y hy1
    have hyr := (hw.1.2 y hy1).1
    unfold upB at h2 ⊢
    simp only [Bool.or_eq_true, beq_iff_eq] at h2 ⊢
    rcases h2 with h2 | h2
    · exact .inl h2
    · by_cases h1 : y.1.e = 1
      · exact .inl h1
      · right
        have hb : belB (cutP y.1 (y.1.e - 1)) x.1 = false := by
          cases hb : belB (cutP y.1 (y.1.e - 1)) x.1
          · rfl
          · have := bel_up hyr h1 hb
            rw [this] at hy2
            cases hy2
        rw [of_aft, hb, ← of_with]
        exact h2
theorem lev_le {ys : List Hd} {ps : List Pt} {m : Nat} (h : ∀ a ∈ ps, reN (kn (ofL ys a)) ≤ m) : levN ys ps ≤ m := by
  unfold levN
  have : ∀ (ps : List Pt) (k : Nat), k ≤ m → (∀ a ∈ ps, reN (kn (ofL ys a)) ≤ m) → ps.foldl (fun l a => max l (reN (kn (ofL ys a)))) k ≤ m := by
    intro ps
    induction ps with
    | nil => intro k hk _; exact hk
    | cons p ps ih =>
      intro k hk hh
      simp only [List.foldl_cons]
      exact ih _ (Nat.max_le.2 ⟨hk, hh p (by simp)⟩) (fun a ha => hh a (by simp [ha]))
  exact this ps 0 (Nat.zero_le _) h
end
end Go.Proofs.YtlhhopanegnliaaGreatDoor.Lk
