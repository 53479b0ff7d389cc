/- Plain facts, the second part: a plan put to right locks. -/
import Derived.Test.YtahafjhcebnokaaPn
namespace Go.Proofs.Ytahafjhcebnokaa.Lk
open Go Go.RowKit Go.Shelf Pa
set_option maxRecDepth 100000

/-- the nodes at which something may be needed -/
def ksL (xs : List Hd) (p : Pt) (m : Int) : List Pt := (waysP p).takeWhile (fun a => !brkB xs p m a)
theorem plan_ks {xs : List Hd} {p : Pt} {m : Int} {x : Hd} (h : x ∈ planL xs p m) : x.1 ∈ ksL xs p m := by
  unfold planL at h
  split at h
  · unfold planG at h
    obtain ⟨a, ha, hx⟩ := List.mem_flatMap.1 h
    rcases item_cases xs p m a with h0 | ⟨u, h0⟩
    · rw [h0] at hx; cases hx
    · rw [h0] at hx
      simp at hx
      subst hx
      exact ha
  · cases h
theorem take_ways (p : Pt) : ∀ d t, t ≤ d → (waysL p d).take t = waysL p t
  | 0, t, h => by
    obtain rfl : t = 0 := by omega
    rfl
  | d + 1, t, h => by
    by_cases e : t = d + 1
    · subst e
      rw [List.take_of_length_le (by rw [waysL_len]; omega)]
    · rw [show waysL p (d + 1) = waysL p d ++ [cutP p ((d : Nat) + 1)] from rfl, List.take_append_of_le_length (by rw [waysL_len]; omega), take_ways p d t (by omega)]
theorem ks_is {xs : List Hd} {p : Pt} {m : Int} (hp : rightB p = true) : ∃ t : Nat, (t : Int) ≤ p.e ∧ ksL xs p m = waysL p t := by
  have hd := right_depth hp
  have h1 : ksL xs p m <+: waysP p := List.takeWhile_prefix _
  have h2 := List.prefix_iff_eq_take.1 h1
  have h3 := h1.length_le
  have hw : waysP p = waysL p p.e.toNat := by unfold waysP; rw [if_pos hp]
  rw [hw, waysL_len] at h3
  rw [hw, take_ways p _ _ h3] at h2
  exact ⟨_, by omega, h2⟩
theorem mem_ways {p a : Pt} : ∀ {t : Nat}, a ∈ waysL p t ↔ ∃ j : Nat, j < t ∧ a = cutP p ((j : Int) + 1)
  | 0 => by simp [waysL]
  | t + 1 => by
    unfold waysL
    rw [List.mem_append, mem_ways (t := t)]
    constructor
    · rintro (⟨j, hj, h⟩ | h)
      · exact ⟨j, by omega, h⟩
      · exact ⟨t, by omega, by simpa using h⟩
    · rintro ⟨j, hj, h⟩
      by_cases e : j = t
      · subst e; exact .inr (by simpa using h)
      · exact .inl ⟨j, by omega, h⟩
theorem cut_cut (p : Pt) {k l : Int} (h : k ≤ l) : cutP (cutP p l) k = cutP p k := by
  have f : ∀ (n : Int) (v : Int), (if n < k then (if n < l then v else 0) else 0) = if n < k then v else 0 := by
    intro n v
    by_cases h1 : n < k
    · rw [if_pos h1, if_pos (by omega), if_pos h1]
    · rw [if_neg h1, if_neg h1]
  unfold cutP
  simp only [f]
theorem cut_self {p : Pt} (hp : rightB p = true) : cutP p p.e = p := by
  obtain ⟨a, b, c, d, e⟩ := p
  have hf := (right_iff a b c d e).1 hp
  have h1 := hf.e1
  have h4 := hf.e4
  have hb := hf.zb
  have hc := hf.zc
  have hd := hf.zd
  unfold cutP
  simp only [Pt.mk.injEq, true_and, and_true]
  refine ⟨?_, ?_, ?_⟩
  · split
    · rfl
    · exact (hb (by omega)).symm
  · split
    · rfl
    · exact (hc (by omega)).symm
  · split
    · rfl
    · exact (hd (by omega)).symm
theorem ks_up {xs : List Hd} {p a : Pt} {m : Int} (hp : rightB p = true) (h : a ∈ ksL xs p m) (h1 : a.e ≠ 1) : cutP a (a.e - 1) ∈ ksL xs p m ∧ a.e ≤ p.e := by
  obtain ⟨t, ht, hk⟩ := ks_is (xs := xs) (m := m) hp
  rw [hk] at h ⊢
  obtain ⟨j, hj, rfl⟩ := mem_ways.1 h
  have he : (cutP p ((j : Int) + 1)).e = (j : Int) + 1 := rfl
  rw [he] at h1 ⊢
  rw [cut_cut p (by omega)]
  exact ⟨mem_ways.2 ⟨j - 1, by omega, by congr 1; omega⟩, by omega⟩
theorem plan_nodup (xs : List Hd) (p : Pt) (m : Int) : ((planL xs p m).map (·.1)).Nodup := by
  refine List.pairwise_map.2 ((plan_rise xs p m).imp ?_)
  intro a b h e
  rw [e] at h
  omega
theorem cov_self (i : Nat) : covB i i = true := by unfold covB; simp
theorem least_le (p : Pt) (m : Int) (a : Pt) : kn (leastI p m a) ≤ 6 := kn_le _
theorem more_l (xs : List Hd) (p : Pt) (m : Int) (a : Pt) : covB (moreN xs p m a) (kn (ofL xs a)) = true := sup_l _ (kn_le _) _ (kn_le _)
theorem more_r (xs : List Hd) (p : Pt) (m : Int) (a : Pt) : covB (moreN xs p m a) (kn (leastI p m a)) = true := sup_r _ (kn_le _) _ (kn_le _)
theorem kn_more (xs : List Hd) (p : Pt) (m : Int) (a : Pt) : kn ((moreN xs p m a : Nat) : Int) = moreN xs p m a := kn_nat (more_le xs p m a)
/-- what is held then at a node at which something may be needed -/
theorem of_ks {xs ls : List Hd} {p b : Pt} {m : Int} (hp : rightB p = true) (hm : plB m = true) (hb : b ∈ ksL xs p m) (hs : ls.Sublist (planL xs p m)) (ha : ∀ y ∈ planL xs p m, y.1 = b → y ∈ ls) :
    ofL (nowL xs ls) b = (moreN xs p m b : Nat) := by
  have hn : (ls.map (·.1)).Nodup := (plan_nodup xs p m).sublist (hs.map _)
  by_cases h : (((moreN xs p m b : Nat) : Int) != ofL xs b) = true
  · have hi : (b, ((moreN xs p m b : Nat) : Int)) ∈ planL xs p m := by
      unfold planL planG
      rw [hp, hm]
      refine List.mem_flatMap.2 ⟨b, hb, ?_⟩
      unfold itemL
      rw [if_pos h]
      simp
    exact of_now_in xs (x := (b, ((moreN xs p m b : Nat) : Int))) hn (ha _ hi rfl)
  · have h' : ((moreN xs p m b : Nat) : Int) = ofL xs b := by simpa using h
    rw [of_now_out, h']
    intro y hy e
    have hI := (plan_item (hs.subset hy)).2.2
    have h1 := hI.not
    rw [hI.more, e, h', cov_self] at h1
    cases h1
/-- one step -/
theorem enough_step {xs : List Hd} {p : Pt} {m : Int} (hr : Rt xs) {j : Nat} (hj : j < (planL xs p m).length) (hn : Rt (nowL xs ((planL xs p m).take j))) :
    Rt (withL (nowL xs ((planL xs p m).take j)) (planL xs p m)[j]) ∧
      ∀ q, reN (kn (ofL (nowL xs ((planL xs p m).take j)) q)) ≤ reN (kn (ofL (withL (nowL xs ((planL xs p m).take j)) (planL xs p m)[j]) q)) := by
  have hmem := List.getElem_mem hj
  obtain ⟨hp, hm, hI⟩ := plan_item hmem
  have hks := plan_ks hmem
  have hrise := List.pairwise_iff_getElem.1 (plan_rise xs p m)
  have hsub : ((planL xs p m).take j).Sublist (planL xs p m) := List.take_sublist _ _
  have hout : ∀ y ∈ (planL xs p m).take j, y.1 ≠ (planL xs p m)[j].1 := by
    intro y hy e
    obtain ⟨i, hi, rfl⟩ := List.getElem_of_mem hy
    rw [List.length_take] at hi
    rw [List.getElem_take] at e
    have := hrise i j (by omega) hj (by omega)
    rw [e] at this
    omega
  have hbef : ∀ b : Pt, b.e < (planL xs p m)[j].1.e → ∀ y ∈ planL xs p m, y.1 = b → y ∈ (planL xs p m).take j := by
    intro b hb y hy e
    obtain ⟨i, hi, rfl⟩ := List.getElem_of_mem hy
    by_cases hij : i < j
    · refine List.mem_iff_getElem.2 ⟨i, by rw [List.length_take]; omega, by rw [List.getElem_take]⟩
    · exfalso
      rw [← e] at hb
      by_cases hij2 : i = j
      · subst hij2; omega
      · have := hrise j i hj hi (by omega)
        omega
  obtain ⟨a, ha⟩ : ∃ a, (planL xs p m)[j].1 = a := ⟨_, rfl⟩
  have hx2 := hI.more
  have hxa : ofL (nowL xs ((planL xs p m).take j)) a = ofL xs a := of_now_out xs (by rw [← ha]; exact hout)
  have hkn : kn (planL xs p m)[j].2 = moreN xs p m a := by rw [hx2, ha, kn_more]
  have hpos : 1 ≤ moreN xs p m a := by
    have h1 := more_r xs p m a
    have h2 := least_pos (p := p) (a := a) hm
    rcases Nat.eq_zero_or_pos (moreN xs p m a) with h0 | h0
    · rw [h0] at h1
      exact absurd (cov_zero _ (kn_le _) h1) h2
    · exact h0
  have hle := more_le xs p m a
  have hcov : covB (kn (planL xs p m)[j].2) (kn (ofL (nowL xs ((planL xs p m).take j)) (planL xs p m)[j].1)) = true := by
    rw [hkn, ha, hxa]
    exact more_l xs p m a
  have hright : rightB a = true := by
    obtain ⟨t, ht, hk⟩ := ks_is (xs := xs) (m := m) hp
    rw [ha, hk] at hks
    obtain ⟨i, hi, rfl⟩ := mem_ways.1 hks
    exact cut_right hp (by omega) (by omega)
  refine ⟨rt_with hn (by rw [ha]; exact hright) (by rw [hx2, ha]; omega) (by rw [hx2, ha]; omega) hcov ?_, fun q => ?_⟩
  · rw [ha, hkn]
    by_cases h1 : a.e = 1
    · exact .inl h1
    · right
      rw [ha] at hks hbef
      obtain ⟨hb, hpe⟩ := ks_up hp hks h1
      have hbe : (cutP a (a.e - 1)).e = a.e - 1 := rfl
      rw [of_ks hp hm hb hsub (hbef _ (by rw [hbe]; omega)), kn_more]
      have hbp : eqP (cutP a (a.e - 1)) p = false := eqP_ne (fun e => by
        have := congrArg Pt.e e
        rw [hbe] at this
        omega)
      have hr1 := more_r xs p m (cutP a (a.e - 1))
      have hlb : leastI p m (cutP a (a.e - 1)) = (parN (kn m) : Nat) := by unfold leastI; rw [hbp]; simp
      rw [hlb, kn_par] at hr1
      unfold moreN
      refine par_sup _ (more_le xs p m _) _ (kn_le _) _ (kn_le _) ?_ ?_
      · by_cases h0 : ofL xs a = 0
        · rw [h0]
          exact cov_none _
        · obtain ⟨y, hy, hya, hy2⟩ := of_mem h0
          have hu := hr.2 y hy
          unfold upB at hu
          simp only [Bool.or_eq_true, beq_iff_eq] at hu
          rw [hya, hy2] at hu
          rcases hu with hu | hu
          · exact absurd hu h1
          · exact cov_tr (more_l xs p m _) hu
      · have : parN (kn (leastI p m a)) = parN (kn m) := by
          unfold leastI
          split
          · rfl
          · rw [kn_par, par_par _ (kn_le _)]
        rw [this]
        exact hr1
  · rw [of_with]
    split
    · rename_i he
      rw [← (eqP_iff _ _).1 he]
      exact cov_re hcov
    · exact Nat.le_refl _
theorem split_tw {α : Type} (f : α → Bool) : ∀ l : List α, l.takeWhile f = l ∨ ∃ r rest, l = l.takeWhile f ++ r :: rest ∧ f r = false
  | [] => .inl rfl
  | x :: l => by
    cases hx : f x
    · exact .inr ⟨x, l, by simp [hx], hx⟩
    · rcases split_tw f l with h | ⟨r, rest, h1, h2⟩
      · exact .inl (by simp [hx, h])
      · refine .inr ⟨r, rest, ?_, h2⟩
        simp only [List.takeWhile_cons, hx, if_true, List.cons_append]
        rw [← h1]
theorem tw_sub {α : Type} {f : α → Bool} : ∀ {ks rest : List α} {r a : α}, f r = false → a ∈ (ks ++ r :: rest).takeWhile f → a ∈ ks
  | [], rest, r, a, hr, h => by simp [hr] at h
  | k :: ks, rest, r, a, hr, h => by
    simp only [List.cons_append, List.takeWhile_cons] at h
    split at h
    · rcases List.mem_cons.1 h with rfl | h
      · simp
      · exact List.mem_cons_of_mem _ (tw_sub hr h)
    · cases h
theorem plan_nil {ys : List Hd} {p : Pt} {m : Int} (h : ∀ a ∈ (waysP p).takeWhile (fun a => !brkB ys p m a), itemL ys p m a = []) : planL ys p m = [] := by
  unfold planL planG
  split
  · exact List.flatMap_eq_nil_iff.2 h
  · rfl
/-- at the end -/
theorem enough_end {xs : List Hd} {p : Pt} {m : Int} (hp : rightB p = true) (hm : plB m = true) :
    planL (nowL xs (planL xs p m)) p m = [] ∧ reN (kn m) ≤ levL (nowL xs (planL xs p m)) p := by
  have hd := right_depth hp
  have hks : ∀ a ∈ ksL xs p m, ofL (nowL xs (planL xs p m)) a = (moreN xs p m a : Nat) := fun a ha => of_ks hp hm ha (List.Sublist.refl _) (fun y hy _ => hy)
  have hitem : ∀ a ∈ ksL xs p m, itemL (nowL xs (planL xs p m)) p m a = [] := by
    intro a ha
    have e := hks a ha
    have h1 : moreN (nowL xs (planL xs p m)) p m a = moreN xs p m a := by
      rw [moreN, e, kn_more]
      exact sup_same _ (more_le xs p m a) _ (kn_le _) (more_r xs p m a)
    unfold itemL
    rw [h1, e]
    simp
  have hrise : (waysP p).Pairwise (fun a b => a.e < b.e) := by
    rw [show waysP p = waysL p p.e.toNat by unfold waysP; rw [if_pos hp]]
    exact (ways_rise p _).1
  rcases split_tw (fun a => !brkB xs p m a) (waysP p) with h | ⟨r, rest, h1, h2⟩
  · have hall : ∀ a ∈ waysP p, a ∈ ksL xs p m := fun a ha => by unfold ksL; rw [h]; exact ha
    constructor
    · exact plan_nil fun a ha => hitem a (hall a (List.takeWhile_subset _ ha))
    · have hpw : p ∈ waysP p := by
        unfold waysP
        rw [if_pos hp]
        refine mem_ways.2 ⟨p.e.toNat - 1, by omega, ?_⟩
        rw [show ((p.e.toNat - 1 : Nat) : Int) + 1 = p.e by omega, cut_self hp]
      have e := hks p (hall p hpw)
      have hl := levN_mem (xs := nowL xs (planL xs p m)) hpw
      rw [e, kn_more] at hl
      have hr1 := cov_re (more_r xs p m p)
      unfold leastI at hr1
      rw [eqP_self] at hr1
      simp only [if_true] at hr1
      unfold levL
      omega
  · have hrw : r ∈ waysP p := by rw [h1]; simp
    have hbk : brkB xs p m r = true := by simpa using h2
    have hne : ∀ a ∈ ksL xs p m, a ≠ r := by
      intro a ha e
      rw [h1] at hrise
      have := (List.pairwise_append.1 hrise).2.2 a ha r (by simp)
      rw [e] at this
      omega
    have hof : ofL (nowL xs (planL xs p m)) r = ofL xs r := of_now_out xs fun y hy => hne _ (plan_ks hy)
    have hbk2 : brkB (nowL xs (planL xs p m)) p m r = true := by
      unfold brkB at hbk ⊢
      rw [hof]
      exact hbk
    constructor
    · refine plan_nil fun a ha => hitem a ?_
      rw [h1] at ha
      exact tw_sub (by simp [hbk2]) ha
    · have hl := levN_mem (xs := nowL xs (planL xs p m)) hrw
      rw [hof] at hl
      unfold brkB at hbk
      simp at hbk
      unfold levL
      omega
end Go.Proofs.Ytahafjhcebnokaa.Lk
