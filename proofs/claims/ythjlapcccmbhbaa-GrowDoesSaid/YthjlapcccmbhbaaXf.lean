/- Plain facts: one lock in the place of many leaves what is held right, and lets one do no less anywhere. -/
import Derived.Test.YthjlapcccmbhbaaXb
import Derived.Test.YthjlapcccmbhbaaXe
namespace Go.Proofs.Ythjlapcccmbhbaa.Lk
open Go Go.RowKit Go.Shelf Pa
set_option maxRecDepth 100000

theorem par_mono : ∀ i, i ≤ 6 → ∀ j, j ≤ 6 → covB i j = true → covB (parN i) (parN j) = true := by decide +kernel
theorem do_cov : ∀ m, m ≤ 6 → covB m (doN (reN m)) = true := by decide +kernel
theorem par_zero : ∀ j, j ≤ 6 → parN j = 0 → j = 0 := by decide +kernel
theorem kn_pos {m : Int} (h1 : 1 ≤ m) (h6 : m ≤ 6) : kn m ≠ 0 := by unfold kn; rw [if_pos ⟨by omega, h6⟩]; omega
theorem top_get : ∀ xs : List Hd, topL xs = 0 ∨ ∃ z ∈ xs, reN (kn z.2) = topL xs := by
  intro xs
  have : ∀ (xs : List Hd) (m : Nat), xs.foldl (fun m x => max m (reN (kn x.2))) m = m ∨ ∃ z ∈ xs, reN (kn z.2) = xs.foldl (fun m x => max m (reN (kn x.2))) m := by
    intro xs
    induction xs with
    | nil => intro m; exact .inl rfl
    | cons x xs ih =>
      intro m
      simp only [List.foldl_cons]
      rcases ih (max m (reN (kn x.2))) with h | ⟨z, hz, h⟩
      · rw [h]
        rcases Nat.le_total m (reN (kn x.2)) with hm | hm
        · exact .inr ⟨x, by simp, by omega⟩
        · exact .inl (by omega)
      · exact .inr ⟨z, by simp [hz], h⟩
  exact this xs 0
/-- what a lock needs is held at every node above -/
theorem chain_up {xs : List Hd} (h : Rt xs) {z : Hd} (hz : z ∈ xs) : ∀ i : Nat, 1 ≤ z.1.e - 1 - (i : Int) → covB (kn (ofL xs (cutP z.1 (z.1.e - 1 - i)))) (parN (kn z.2)) = true
  | 0, hi => by
    have h2 := h.2 z hz
    unfold upB at h2
    simp only [Bool.or_eq_true, beq_iff_eq] at h2
    rcases h2 with h2 | h2
    · omega
    · rw [show z.1.e - 1 - ((0 : Nat) : Int) = z.1.e - 1 by omega]
      exact h2
  | i + 1, hi => by
    have ih := chain_up h hz i (by omega)
    have hzr := h.1.2 z hz
    have h0 : ofL xs (cutP z.1 (z.1.e - 1 - i)) ≠ 0 := by
      intro e
      rw [e] at ih
      have := cov_zero _ (par_le _) ih
      exact kn_pos hzr.2.1 hzr.2.2 (par_zero _ (kn_le _) this)
    obtain ⟨y, hy, e1, e2⟩ := of_mem h0
    have h2 := h.2 y hy
    unfold upB at h2
    simp only [Bool.or_eq_true, beq_iff_eq] at h2
    have he : y.1.e = z.1.e - 1 - i := by rw [e1]; rfl
    rcases h2 with h2 | h2
    · omega
    · rw [he, e1, cut_cut z.1 (by omega)] at h2
      rw [show z.1.e - 1 - ((i + 1 : Nat) : Int) = z.1.e - 1 - (i : Int) - 1 by omega]
      rw [← e2] at ih
      have h3 := par_mono _ (kn_le _) _ (par_le _) ih
      rw [par_par _ (kn_le _)] at h3
      exact cov_tr h2 h3
theorem bel_anc {q p : Pt} (h : belB q p = true) : ∃ i : Nat, 1 ≤ q.e - 1 - (i : Int) ∧ cutP q (q.e - 1 - i) = p := by
  have hr := bel_right h
  have hd := right_depth hr
  rw [← anc_all hr (t := (q.e - 1).toNat) (by omega)] at h
  obtain ⟨j, hj, e⟩ := (anc_iff _ _ _).1 h
  exact ⟨j, by omega, e⟩
theorem bel_trans {p q r : Pt} (h1 : belB p q = true) (h2 : belB q r = true) : belB p r = true := by
  obtain ⟨i, hi, rfl⟩ := bel_anc h1
  obtain ⟨j, hj, e⟩ := bel_anc h2
  have hr := bel_right h1
  have hd := right_depth hr
  have he : (cutP p (p.e - 1 - i)).e = p.e - 1 - i := rfl
  rw [he] at hj e
  rw [cut_cut p (by omega)] at e
  rw [← anc_all hr (t := (p.e - 1).toNat) (by omega)]
  exact (anc_iff _ _ _).2 ⟨i + 1 + j, by omega, by rw [← e]; congr 1; omega⟩
theorem bel_up {p r : Pt} (hp : rightB p = true) (h1 : p.e ≠ 1) (h : belB (cutP p (p.e - 1)) r = true) : belB p r = true := by
  have hd := right_depth hp
  refine bel_trans (q := cutP p (p.e - 1)) ?_ h
  rw [← anc_all hp (t := (p.e - 1).toNat) (by omega)]
  exact (anc_iff _ _ _).2 ⟨0, by omega, by congr 1; omega⟩
theorem bel_self (p : Pt) : belB p p = false := by unfold belB; rw [eqP_self]; rfl
theorem kid_bel {q p : Pt} (h : kidB q p = true) : belB q p = true := by
  have hr := kid_right h
  have hd := right_depth hr
  unfold kidB at h
  rw [hr] at h
  simp only [Bool.true_and, Bool.and_eq_true, Bool.not_eq_true', beq_eq_false_iff_ne] at h
  rw [← anc_all hr (t := (q.e - 1).toNat) (by omega)]
  exact (anc_iff _ _ _).2 ⟨0, by have := h.1; omega, by rw [← (eqP_iff _ _).1 h.2]; congr 1; omega⟩
theorem of_filter (f : Pt → Bool) : ∀ (xs : List Hd) (p : Pt), ofL (xs.filter fun k => f k.1) p = if f p then ofL xs p else 0
  | [], p => by simp [ofL]
  | x :: xs, p => by
    have ih := of_filter f xs p
    rw [List.filter_cons]
    by_cases hx : f x.1 = true
    · rw [if_pos hx]
      simp only [ofL]
      rw [ih]
      by_cases e : eqP x.1 p = true
      · have e' := (eqP_iff _ _).1 e
        rw [if_pos e, if_pos e, if_pos (by rw [← e']; exact hx)]
      · rw [if_neg e, if_neg e]
    · rw [if_neg hx, ih]
      simp only [ofL]
      by_cases e : eqP x.1 p = true
      · have e' := (eqP_iff _ _).1 e
        rw [if_neg (by rw [← e']; exact hx), if_neg (by rw [← e']; exact hx)]
      · rw [if_neg e]
theorem of_aft (xs : List Hd) (x : Hd) (p : Pt) : ofL (aftL xs x) p = if belB p x.1 then 0 else if eqP x.1 p then x.2 else ofL xs p := by
  unfold aftL
  rw [of_filter (fun q => !(belB q x.1)), of_with]
  cases belB p x.1 <;> rfl
section
variable {xs : List Hd} {n : Int} {x : Hd}
/-- a lock that comes in the place of many keeps what is held right -/
theorem pick_mode (hx : x = itemG xs x.1) : kn x.2 = supN (kn (ofL xs x.1)) (doN (mxL xs x.1)) ∧ x.2 = (kn x.2 : Nat) := by
  have := congrArg Prod.snd hx
  have h2 : kn x.2 = supN (kn (ofL xs x.1)) (doN (mxL xs x.1)) := by
    rw [this]
    exact kn_nat (supN_le _ _)
  exact ⟨h2, by rw [h2]; exact this⟩
theorem aft_right (h : Rt xs) (hd : Pd xs n x) (hk : 0 < cntL xs x.1) (hx : x = itemG xs x.1) : Rt (aftL xs x) := by
  obtain ⟨hm, hm2⟩ := pick_mode hx
  have hxr := cnt_right hk
  have hxd := right_depth hxr
  have hpos : kn x.2 ≠ 0 := by
    intro e
    have := hd.more
    rw [e] at this
    simp [reN] at this
  have hk6 := kn_le x.2
  have hw : Rt (withL xs x) := by
    refine rt_with h hxr (by omega) (by omega) hd.cov ?_
    by_cases h1 : x.1.e = 1
    · exact .inl h1
    · right
      rw [hm]
      refine par_sup _ (kn_le _) _ (kn_le _) _ (doN_le _) ?_ ?_
      · by_cases h0 : ofL xs x.1 = 0
        · rw [h0]
          exact cov_none _
        · obtain ⟨y, hy, e1, e2⟩ := of_mem h0
          have h2 := h.2 y hy
          unfold upB at h2
          simp only [Bool.or_eq_true, beq_iff_eq] at h2
          rw [e1, e2] at h2
          rcases h2 with h2 | h2
          · exact absurd h2 h1
          · exact h2
      · rcases top_get (fitL (fun p => belB p x.1) xs) with h0 | ⟨z, hz, h0⟩
        · have : mxL xs x.1 = 0 := h0
          rw [this]
          exact cov_none _
        · have e0 : reN (kn z.2) = mxL xs x.1 := h0
          obtain ⟨hz1, hz2⟩ := List.mem_filter.1 hz
          obtain ⟨i, hi, e⟩ := bel_anc (show belB z.1 x.1 = true from hz2)
          have h3 := chain_up h hz1 (i + 1) (by
            have := congrArg Pt.e e
            have e3 : (cutP z.1 (z.1.e - 1 - i)).e = z.1.e - 1 - i := rfl
            rw [e3] at this
            omega)
          have e4 : cutP x.1 (x.1.e - 1) = cutP z.1 (z.1.e - 1 - ((i + 1 : Nat) : Int)) := by
            have e3 : x.1.e = z.1.e - 1 - i := by rw [← e]; rfl
            rw [e3, ← e, cut_cut z.1 (by omega)]
            congr 1
            omega
          rw [e4]
          refine cov_tr h3 ?_
          rw [← e0]
          exact par_mono _ (kn_le _) _ (doN_le _) (do_cov _ (kn_le _))
  refine ⟨⟨?_, fun y hy => hw.1.2 y (List.mem_filter.1 hy).1⟩, fun y hy => ?_⟩
  · exact hw.1.1.sublist (List.filter_sublist.map _)
  · obtain ⟨hy1, hy2⟩ := List.mem_filter.1 hy
    have h2 := hw.2 y hy1
    have hyr := (hw.1.2 y hy1).1
    unfold upB at h2 ⊢
    simp only [Bool.or_eq_true, beq_iff_eq] at h2 ⊢
    rcases h2 with h2 | h2
    · exact .inl h2
    · by_cases h1 : y.1.e = 1
      · exact .inl h1
      · right
        have hb : belB (cutP y.1 (y.1.e - 1)) x.1 = false := by
          cases hb : belB (cutP y.1 (y.1.e - 1)) x.1
          · rfl
          · have := bel_up hyr h1 hb
            rw [this] at hy2
            cases hy2
        rw [of_aft, hb, ← of_with]
        exact h2
theorem lev_le {ys : List Hd} {ps : List Pt} {m : Nat} (h : ∀ a ∈ ps, reN (kn (ofL ys a)) ≤ m) : levN ys ps ≤ m := by
  unfold levN
  have : ∀ (ps : List Pt) (k : Nat), k ≤ m → (∀ a ∈ ps, reN (kn (ofL ys a)) ≤ m) → ps.foldl (fun l a => max l (reN (kn (ofL ys a)))) k ≤ m := by
    intro ps
    induction ps with
    | nil => intro k hk _; exact hk
    | cons p ps ih =>
      intro k hk hh
      simp only [List.foldl_cons]
      exact ih _ (Nat.max_le.2 ⟨hk, hh p (by simp)⟩) (fun a ha => hh a (by simp [ha]))
  exact this ps 0 (Nat.zero_le _) h
theorem way_up {q a : Pt} (ha : a ∈ waysP q) {p : Pt} (hb : belB a p = true) : p ∈ waysP q := by
  unfold waysP at ha ⊢
  split at ha
  · rename_i hq
    rw [if_pos hq]
    obtain ⟨j, hj, rfl⟩ := mem_ways.1 ha
    obtain ⟨i, hi, rfl⟩ := bel_anc hb
    have he : (cutP q ((j : Int) + 1)).e = (j : Int) + 1 := rfl
    rw [he] at hi ⊢
    rw [cut_cut q (by omega)]
    exact mem_ways.2 ⟨j - 1 - i, by omega, by congr 1; omega⟩
  · cases ha
theorem aft_level (hd : Pd xs n x) (q : Pt) : levL xs q ≤ levL (aftL xs x) q := by
  unfold levL
  refine lev_le fun a ha => ?_
  by_cases hb : belB a x.1 = true
  · have h1 := levN_mem (xs := aftL xs x) (way_up ha hb)
    rw [of_aft, bel_self, eqP_self] at h1
    refine Nat.le_trans ?_ h1
    by_cases h0 : ofL xs a = 0
    · rw [h0]
      exact Nat.zero_le _
    · obtain ⟨y, hy, e1, e2⟩ := of_mem h0
      rw [← e2]
      exact hd.bel y (List.mem_filter.2 ⟨hy, by rw [e1]; exact hb⟩)
  · have h1 := levN_mem (xs := aftL xs x) ha
    have hb' : belB a x.1 = false := by simpa using hb
    rw [of_aft, hb'] at h1
    refine Nat.le_trans ?_ h1
    by_cases e : eqP x.1 a = true
    · rw [if_neg (by simp), if_pos e]
      rw [← (eqP_iff _ _).1 e]
      exact Nat.le_of_lt hd.more
    · rw [if_neg (by simp), if_neg e]
      exact Nat.le_refl _
theorem aft_none : fitL (fun p => belB p x.1) (aftL xs x) = [] := by
  unfold fitL aftL
  rw [List.filter_filter]
  exact List.filter_eq_nil_iff.2 fun y _ => by simp
theorem in_with {y : Hd} {ys : List Hd} (h : y ∈ ys) (hne : y.1 ≠ x.1) : y ∈ withL ys x := by
  induction ys with
  | nil => cases h
  | cons z ys ih =>
    unfold withL
    split
    · rename_i he
      rcases List.mem_cons.1 h with rfl | h
      · exact absurd ((eqP_iff _ _).1 he) hne
      · simp [h]
    · rcases List.mem_cons.1 h with rfl | h
      · simp
      · simp [ih h]
theorem aft_less (hk : 0 < cntL xs x.1) : (aftL xs x).length < xs.length + 1 := by
  refine Nat.lt_of_lt_of_le ?_ (with_len x xs)
  unfold aftL
  refine List.length_filter_lt_length_iff_exists.2 ?_
  obtain ⟨y, hy⟩ := List.exists_mem_of_length_pos (show 0 < (fitL (fun p => kidB p x.1) xs).length from hk)
  obtain ⟨h1, h2⟩ := List.mem_filter.1 hy
  have h3 := kid_bel (show kidB y.1 x.1 = true from h2)
  refine ⟨y, in_with h1 (fun e => ?_), by rw [h3]; simp⟩
  rw [e, bel_self] at h3
  cases h3
theorem aft_own : ofL (aftL xs x) x.1 = x.2 := by
  rw [of_aft, bel_self, eqP_self]
  rfl
end
end Go.Proofs.Ythjlapcccmbhbaa.Lk
