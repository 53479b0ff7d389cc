/- Plain facts: what is needed, put to right locks one by one, keeps them right; no level falls; and it is enough. -/
import Derived.Test.YthjlapcccmbhbaaLg
import Derived.Test.YthjlapcccmbhbaaRi
namespace Go.Proofs.Ythjlapcccmbhbaa.Lk
open Go Go.RowKit Go.Shelf Pa
set_option maxRecDepth 100000

theorem cov_tr {i j k : Nat} (h1 : covB i j = true) (h2 : covB j k = true) : covB i k = true := by
  unfold covB at *
  simp at *
  omega
theorem cov_re {i j : Nat} (h : covB i j = true) : reN j ≤ reN i := by
  unfold covB at h
  simp at h
  exact h.1
theorem par_sup : ∀ A, A ≤ 6 → ∀ h, h ≤ 6 → ∀ L, L ≤ 6 → covB A (parN h) = true → covB A (parN L) = true → covB A (parN (supN h L)) = true := by decide +kernel
theorem par_par : ∀ j, j ≤ 6 → parN (parN j) = parN j := by decide +kernel
theorem sup_same : ∀ i, i ≤ 6 → ∀ j, j ≤ 6 → covB i j = true → supN i j = i := by decide +kernel
theorem cov_none (i : Nat) : covB i 0 = true := by unfold covB; simp [reN, imN]
theorem par_le (j : Nat) : parN j ≤ 6 := by
  unfold parN
  split
  · omega
  · split <;> omega

theorem of_with (ys : List Hd) (x : Hd) (q : Pt) : ofL (withL ys x) q = if eqP x.1 q then x.2 else ofL ys q := by
  induction ys with
  | nil => rfl
  | cons y ys ih =>
    unfold withL
    by_cases h : eqP y.1 x.1 = true
    · rw [if_pos h]
      have e := (eqP_iff _ _).1 h
      simp only [ofL]
      rw [e]
      split <;> rfl
    · rw [if_neg h]
      simp only [ofL]
      rw [ih]
      by_cases h1 : eqP y.1 q = true
      · have e := (eqP_iff _ _).1 h1
        have h2 : ¬ eqP x.1 q = true := fun h2 => h (by rw [(eqP_iff _ _).1 h2, e]; exact eqP_self _)
        rw [if_pos h1, if_neg h2, if_pos h1]
      · rw [if_neg h1, if_neg h1]
theorem map_with (ys : List Hd) (x : Hd) : (withL ys x).map (·.1) = if inL ys x.1 then ys.map (·.1) else ys.map (·.1) ++ [x.1] := by
  induction ys with
  | nil => rfl
  | cons y ys ih =>
    unfold withL
    by_cases h : eqP y.1 x.1 = true
    · rw [if_pos h]
      have hi : inL (y :: ys) x.1 = true := by unfold inL; simp [h]
      rw [if_pos hi]
      simp [(eqP_iff _ _).1 h]
    · have h' : eqP y.1 x.1 = false := by simpa using h
      rw [if_neg h, List.map_cons, ih]
      have hi : inL (y :: ys) x.1 = inL ys x.1 := by unfold inL; simp [h']
      rw [hi]
      split <;> simp
theorem mem_with {ys : List Hd} {x y : Hd} (hn : (ys.map (·.1)).Nodup) (h : y ∈ withL ys x) : y = x ∨ (y ∈ ys ∧ y.1 ≠ x.1) := by
  induction ys with
  | nil =>
    simp [withL] at h
    exact .inl h
  | cons z ys ih =>
    obtain ⟨h1, h2⟩ := List.nodup_cons.1 (show (z.1 :: ys.map (·.1)).Nodup from hn)
    unfold withL at h
    split at h
    · rename_i he
      have e := (eqP_iff _ _).1 he
      rcases List.mem_cons.1 h with rfl | h
      · exact .inl rfl
      · refine .inr ⟨by simp [h], fun q => h1 ?_⟩
        rw [e, ← q]
        exact List.mem_map_of_mem h
    · rename_i he
      rcases List.mem_cons.1 h with rfl | h
      · exact .inr ⟨by simp, fun q => he (by rw [q]; exact eqP_self _)⟩
      · rcases ih h2 h with rfl | ⟨h3, h4⟩
        · exact .inl rfl
        · exact .inr ⟨by simp [h3], h4⟩
theorem of_mem {ys : List Hd} {q : Pt} (h : ofL ys q ≠ 0) : ∃ y ∈ ys, y.1 = q ∧ y.2 = ofL ys q := by
  induction ys with
  | nil => exact absurd rfl h
  | cons y ys ih =>
    unfold ofL at h ⊢
    split at h
    · rename_i he
      rw [if_pos he]
      exact ⟨y, by simp, (eqP_iff _ _).1 he, rfl⟩
    · rename_i he
      rw [if_neg he]
      obtain ⟨z, h1, h2⟩ := ih h
      exact ⟨z, by simp [h1], h2⟩
theorem of_own {ys : List Hd} {y : Hd} (hn : (ys.map (·.1)).Nodup) (h : y ∈ ys) : ofL ys y.1 = y.2 := by
  induction ys with
  | nil => cases h
  | cons z ys ih =>
    obtain ⟨h1, h2⟩ := List.nodup_cons.1 (show (z.1 :: ys.map (·.1)).Nodup from hn)
    unfold ofL
    rcases List.mem_cons.1 h with rfl | h
    · rw [if_pos (eqP_self _)]
    · rw [if_neg, ih h2 h]
      intro he
      exact h1 (by rw [(eqP_iff _ _).1 he]; exact List.mem_map_of_mem h)
theorem of_range {ys : List Hd} (h : Rt1 ys) (q : Pt) : 0 ≤ ofL ys q ∧ ofL ys q ≤ 6 := by
  by_cases h0 : ofL ys q = 0
  · omega
  · obtain ⟨y, hy, -, e⟩ := of_mem h0
    have := h.2 y hy
    omega
theorem rt_with {ys : List Hd} {x : Hd} (h : Rt ys) (hx : rightB x.1 = true) (h1 : 1 ≤ x.2) (h6 : x.2 ≤ 6) (hc : covB (kn x.2) (kn (ofL ys x.1)) = true)
    (hu : x.1.e = 1 ∨ covB (kn (ofL ys (cutP x.1 (x.1.e - 1)))) (parN (kn x.2)) = true) : Rt (withL ys x) := by
  have hn := h.1.1
  refine ⟨⟨?_, fun y hy => ?_⟩, fun y hy => ?_⟩
  · rw [map_with]
    split
    · exact hn
    · rename_i hi
      refine List.nodup_append.2 ⟨hn, by simp, fun a ha b hb => ?_⟩
      simp at hb
      subst hb
      rintro rfl
      exact hi (in_iff.2 ha)
  · rcases mem_with hn hy with rfl | ⟨hy, -⟩
    · exact ⟨hx, h1, h6⟩
    · exact h.1.2 y hy
  · unfold upB
    simp only [Bool.or_eq_true, beq_iff_eq]
    rcases mem_with hn hy with rfl | ⟨hy', hne⟩
    · rcases hu with hu | hu
      · exact .inl hu
      · right
        rw [of_with, if_neg]
        · exact hu
        · intro he
          have := congrArg Pt.e ((eqP_iff _ _).1 he)
          simp [cutP] at this
          omega
    · have hy2 := h.2 y hy'
      unfold upB at hy2
      simp only [Bool.or_eq_true, beq_iff_eq] at hy2
      rcases hy2 with hy2 | hy2
      · exact .inl hy2
      · right
        rw [of_with]
        split
        · rename_i he
          have e := (eqP_iff _ _).1 he
          rw [← e] at hy2
          exact cov_tr hc hy2
        · exact hy2
theorem levN_mono {xs ys : List Hd} (h : ∀ q, reN (kn (ofL xs q)) ≤ reN (kn (ofL ys q))) (ps : List Pt) : levN xs ps ≤ levN ys ps := by
  unfold levN
  have : ∀ (ps : List Pt) (a b : Nat), a ≤ b → ps.foldl (fun l a => max l (reN (kn (ofL xs a)))) a ≤ ps.foldl (fun l a => max l (reN (kn (ofL ys a)))) b := by
    intro ps
    induction ps with
    | nil => intro a b h; exact h
    | cons p ps ih =>
      intro a b hab
      simp only [List.foldl_cons]
      exact ih _ _ (by have := h p; omega)
  exact this ps 0 0 (Nat.le_refl _)
theorem levN_mem {xs : List Hd} {ps : List Pt} {a : Pt} (h : a ∈ ps) : reN (kn (ofL xs a)) ≤ levN xs ps := by
  unfold levN
  have up : ∀ (ps : List Pt) (n : Nat), n ≤ ps.foldl (fun l a => max l (reN (kn (ofL xs a)))) n := by
    intro ps
    induction ps with
    | nil => intro n; exact Nat.le_refl _
    | cons p ps ih =>
      intro n
      simp only [List.foldl_cons]
      have := ih (max n (reN (kn (ofL xs p))))
      omega
  have : ∀ (ps : List Pt) (n : Nat), a ∈ ps → reN (kn (ofL xs a)) ≤ ps.foldl (fun l a => max l (reN (kn (ofL xs a)))) n := by
    intro ps
    induction ps with
    | nil => intro n h; cases h
    | cons p ps ih =>
      intro n h
      simp only [List.foldl_cons]
      rcases List.mem_cons.1 h with rfl | h
      · have := up ps (max n (reN (kn (ofL xs a))))
        omega
      · exact ih _ h
  exact this ps 0 h
/-- locks put to others one by one -/
def nowL (xs : List Hd) (ls : List Hd) : List Hd := ls.foldl withL xs
theorem now_snoc (xs ls : List Hd) (x : Hd) : nowL xs (ls ++ [x]) = withL (nowL xs ls) x := by unfold nowL; rw [List.foldl_append]; rfl
theorem now_len (xs : List Hd) : ∀ ls : List Hd, (nowL xs ls).length ≤ xs.length + ls.length := by
  intro ls
  unfold nowL
  induction ls generalizing xs with
  | nil => simp
  | cons x ls ih =>
    have h1 := ih (withL xs x)
    have h2 := with_len x xs
    simp only [List.foldl_cons, List.length_cons]
    omega
theorem of_now_out (xs : List Hd) {q : Pt} : ∀ {ls : List Hd}, (∀ y ∈ ls, y.1 ≠ q) → ofL (nowL xs ls) q = ofL xs q := by
  intro ls
  unfold nowL
  induction ls generalizing xs with
  | nil => intro _; rfl
  | cons x ls ih =>
    intro h
    simp only [List.foldl_cons]
    rw [ih (withL xs x) (fun y hy => h y (by simp [hy])), of_with, if_neg]
    intro he
    exact h x (by simp) ((eqP_iff _ _).1 he)
theorem of_now_in (xs : List Hd) {x : Hd} : ∀ {ls : List Hd}, (ls.map (·.1)).Nodup → x ∈ ls → ofL (nowL xs ls) x.1 = x.2 := by
  intro ls
  unfold nowL
  induction ls generalizing xs with
  | nil => intro _ h; cases h
  | cons y ls ih =>
    intro hn h
    obtain ⟨h1, h2⟩ := List.nodup_cons.1 (show (y.1 :: ls.map (·.1)).Nodup from hn)
    simp only [List.foldl_cons]
    rcases List.mem_cons.1 h with rfl | h
    · have := of_now_out (withL xs x) (q := x.1) (ls := ls) (fun z hz e => h1 (by rw [← e]; exact List.mem_map_of_mem hz))
      unfold nowL at this
      rw [this, of_with, if_pos (eqP_self _)]
    · exact ih (withL xs y) h2 h
end Go.Proofs.Ythjlapcccmbhbaa.Lk
