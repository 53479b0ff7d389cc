import Derived.Test.YtlhhopanegnliaaGreatDoorZIm
import Derived.Test.YtlhhopanegnliaaGreatDoorZIl
import Derived.Test.YtlhhopanegnliaaGreatDoorZNXf
namespace Go.Proofs.YtlhhopanegnliaaGreatDoor
open Go Go.RowKit Go.Shelf
set_option maxRecDepth 100000
def UpOk (h : Pa.Pt → Int) (q : Pa.Pt) (md : Int) : Prop := q.e = 1 ∨ covB (kn (h (Pa.cutP q (q.e - 1)))) (Lk.parN (kn md)) = true
def hasF (C : CC) (y : Int) : Pa.Pt → Int := fun q => Hs.fst y (C q).1
structure Gd (y : Int) (C : CC) : Prop where
  h : ∀ q, hasF C y q ≠ 0 → UpOk (hasF C y) q (hasF C y q)
  w : ∀ q, ∀ z ∈ (C q).2, z.1 = y → UpOk (hasF C y) q z.2.1 ∧ covB (kn z.2.1) (kn (hasF C y q)) = true
section
variable {C C' : CC} {y tx : Int} {p q : Pa.Pt} {H : List Hs.Hd} {L : List Ws.Wt} {h h' : Pa.Pt → Int} {md : Int}
theorem UpOk.rise (hu : UpOk h q md) (hr : ∀ q, covB (kn (h' q)) (kn (h q)) = true) : UpOk h' q md := hu.imp id fun e => Lk.cov_tr (hr _) e
theorem UpOk.less {md' : Int} (hu : UpOk h q md) (hc : covB (kn md) (kn md') = true) : UpOk h q md' := hu.imp id fun e => Lk.cov_tr e (Lk.par_mono _ (kn_le _) _ (kn_le _) hc)
theorem Gd.rise (hg : Gd y C) (p : Pa.Pt) {x : Cx} (hu : UpOk (hasF C y) p (Hs.fst y x.1)) (hc : covB (kn (Hs.fst y x.1)) (kn (hasF C y p)) = true) (hw : ∀ z ∈ x.2, z.1 ≠ y) : Gd y (upC C p x) := by
  have e1 : hasF (upC C p x) y p = Hs.fst y x.1 := by unfold hasF; rw [upC_same]
  have e2 : ∀ q, q ≠ p → hasF (upC C p x) y q = hasF C y q := fun q hq => by unfold hasF; rw [upC_ne _ _ hq]
  have hr : ∀ q, covB (kn (hasF (upC C p x) y q)) (kn (hasF C y q)) = true := fun q => by
    by_cases e : q = p
    · rw [e, e1]; exact hc
    · rw [e2 q e]; exact Lk.cov_self _
  refine ⟨fun q hq => ?_, fun q z hz hy => ?_⟩
  · by_cases e : q = p
    · rw [e, e1]; exact hu.rise hr
    · rw [e2 q e] at hq ⊢
      exact (hg.h q hq).rise hr
  · by_cases e : q = p
    · rw [e, upC_same] at hz
      exact absurd hy (hw z hz)
    · rw [upC_ne _ _ e] at hz
      obtain ⟨k1, k2⟩ := hg.w q z hz hy
      exact ⟨k1.rise hr, by rw [e2 q e]; exact k2⟩
theorem Gd.same (hg : Gd y C) (p : Pa.Pt) {x : Cx} (hf : Hs.fst y x.1 = hasF C y p) (hw : ∀ z ∈ x.2, z.1 = y → z ∈ (C p).2 ∨ (UpOk (hasF C y) p z.2.1 ∧ covB (kn z.2.1) (kn (hasF C y p)) = true)) : Gd y (upC C p x) := by
  have e : hasF (upC C p x) y = hasF C y := by
    funext q
    unfold hasF at *
    by_cases e : q = p
    · rw [e, upC_same]; exact hf
    · rw [upC_ne _ _ e]
  refine ⟨fun q hq => ?_, fun q z hz hy => ?_⟩
  · rw [e] at hq ⊢; exact hg.h q hq
  · rw [e]
    by_cases ep : q = p
    · subst ep
      rw [upC_same] at hz
      rcases hw z hz hy with h1 | h1
      · exact hg.w _ z h1 hy
      · exact h1
    · rw [upC_ne _ _ ep] at hz
      exact hg.w q z hz hy
theorem swp_y (y : Int) : ∀ (L : List Ws.Wt) (H : List Hs.Hd), Once L → Hs.fst y (swp L H).1 = Hs.fst y H ∨ ∃ z ∈ L, z.1 = y ∧ Hs.fst y (swp L H).1 = z.2.1 ∧ ∀ z' ∈ (swp L H).2.1, z'.1 ≠ y
  | [], _, _ => .inl rfl
  | x :: L, H, ho => by
    have ho' := List.pairwise_cons.1 ho
    cases hg : Hs.goesB x.1 x.2.1 H
    · rw [swp_no hg]; exact .inl rfl
    · rw [swp_yes hg]
      by_cases e : x.1 = y
      · subst e
        have hne := swp_fst_ne (y := x.1) (L := L) (H := grantH x H) fun z hz => (ho'.1 z hz).symm
        cases hi : x.2.2.2
        · refine .inr ⟨x, List.mem_cons_self, rfl, ?_, fun z' hz' => (ho'.1 z' (swp_ws hz')).symm⟩
          simp only
          rw [hne]
          unfold grantH
          rw [hi, if_neg (by decide)]
          exact Hs.setL_fst _ _ _
        · refine .inl ?_
          simp only
          rw [hne]
          unfold grantH
          rw [hi, if_pos rfl]
      · rcases swp_y y L (grantH x H) ho'.2 with h1 | ⟨z, hz, h1, h2, h3⟩
        · exact .inl (h1.trans (grant_fst (Ne.symm e)))
        · exact .inr ⟨z, List.mem_cons_of_mem _ hz, h1, h2, h3⟩
theorem gd_swp (hg : Gd y C) (p : Pa.Pt) {H : List Hs.Hd} {L : List Ws.Wt} (ho : Once L) (hf : Hs.fst y H = hasF C y p) (hs : ∀ z ∈ L, z ∈ (C p).2) : Gd y (upC C p ((swp L H).1, (swp L H).2.1)) := by
  rcases swp_y y L H ho with e | ⟨z, hz, h1, h2, h3⟩
  · exact hg.same p (e.trans hf) fun z hz _ => .inl (hs z (swp_ws hz))
  · obtain ⟨k1, k2⟩ := hg.w p z (hs z hz) h1
    exact hg.rise p (by rw [h2]; exact k1) (by rw [h2]; exact k2) h3
theorem Gd.id (hg : Gd y C) (p : Pa.Pt) {x : Cx} (hx : C p = x) : Gd y (upC C p x) := by rw [upC_id hx]; exact hg
theorem Gd.can (hg : Gd y C) (hf : Fnt C) (tx : Int) (p : Pa.Pt) : Gd y (upC C p ((relT can C tx p).hs, (relT can C tx p).ws)) := by
  unfold relT
  split
  · exact hg.id p rfl
  · unfold Go.Proofs.YtlhhopanegnliaaGreatDoor.can
    split
    · exact gd_swp hg p (once_out (hf.ord.inv p).once tx) rfl fun z hz => (List.mem_filter.1 hz).1
    · exact hg.id p rfl
theorem Gd.rel (hg : Gd y C) (hf : Fnt C) {tx : Int} (hne : y ≠ tx) (p : Pa.Pt) : Gd y (upC C p ((relT rel C tx p).hs, (relT rel C tx p).ws)) := by
  unfold relT
  split
  · exact hg.id p rfl
  · unfold Go.Proofs.YtlhhopanegnliaaGreatDoor.rel
    split
    · exact hg.id p rfl
    · exact gd_swp hg p (once_out (hf.ord.inv p).once tx) (fst_wout_ne hne) fun z hz => (List.mem_filter.1 hz).1
theorem ask_fst_ne {tx md fl : Int} {H : List Hs.Hd} {L : List Ws.Wt} (hne : y ≠ tx) : Hs.fst y (ask tx md fl H L).2.2.1 = Hs.fst y H := by
  unfold ask
  split
  · rfl
  · split
    · rfl
    · split
      · exact grant_fst hne
      · split <;> rfl
theorem Gd.ask (hg : Gd y C) {m : Nat} {mr tx md fl : Int} {u t : Nat} (hne : y ≠ tx) (p : Pa.Pt) : Gd y (upC C p (askT m mr u t C tx p md fl).2.2) := by
  have h1 : Hs.fst y (askT m mr u t C tx p md fl).2.2.1 = hasF C y p := by
    unfold askT
    simp only
    split
    · rfl
    · split
      · rfl
      · split
        · rfl
        · exact ask_fst_ne hne
  refine hg.same p h1 fun z hz hy => ?_
  rcases askT_ws z hz with h2 | rfl
  · exact .inl h2
  · exact absurd hy.symm hne
theorem gd_rt (hg : Gd y C) (hf : Fnt C) : Lk.Rt (heldL C y) := by
  refine ⟨hf.rt1 y, fun x hx => ?_⟩
  obtain ⟨h1, h2, h3⟩ := held_in hx
  have := hg.h x.1 (by unfold hasF; rw [← h2]; exact h3)
  unfold Lk.upB
  rw [hf.held_of]
  rcases this with e | e
  · rw [e]; rfl
  · unfold hasF at e
    rw [← h2] at e
    rw [e, Bool.or_true]
theorem ask_form {tx md fl : Int} {H : List Hs.Hd} {L : List Ws.Wt} : (ask tx md fl H L).2.1 ≠ 0 ∨ (Ws.fndI tx L < 0 ∧ ((has tx md H = true ∧ ask tx md fl H L = (1, 0, H, L)) ∨
    (has tx md H = false ∧ (ask tx md fl H L = (1, 0, grantH (reqW tx md fl H) H, L) ∨ (fl ≠ 1 ∧ ask tx md fl H L = (2, 0, H, Ws.ins (reqW tx md fl H) L)))))) := by
  unfold ask
  by_cases h1 : errR tx md fl L ≠ 0
  · rw [if_pos h1]; exact .inl h1
  · have hn : Ws.fndI tx L < 0 := by
      rcases errR_cases tx md fl L with ⟨-, h⟩ | ⟨-, -, h⟩ | ⟨-, h, -⟩
      · rw [h] at h1; exact absurd (by decide) h1
      · rw [h] at h1; exact absurd (by decide) h1
      · exact h
    rw [if_neg h1]
    cases h2 : has tx md H
    · rw [if_neg (by decide)]
      cases h3 : atOnce tx md H L
      · rw [if_neg (by decide)]
        by_cases h4 : fl = 1
        · rw [if_pos h4]; exact .inl (show (40 : Int) ≠ 0 by decide)
        · rw [if_neg h4]; exact .inr ⟨hn, .inr ⟨rfl, .inr ⟨h4, rfl⟩⟩⟩
      · rw [if_pos rfl]; exact .inr ⟨hn, .inr ⟨rfl, .inl rfl⟩⟩
    · rw [if_pos rfl]; exact .inr ⟨hn, .inl ⟨rfl, rfl⟩⟩
theorem askT_form {m u t : Nat} {mr tx md fl : Int} : ((askT m mr u t C tx p md fl).1 = 0 ∧ (askT m mr u t C tx p md fl).2.2 = C p) ∨ (Ws.fndI tx (C p).2 < 0 ∧ ((has tx md (C p).1 = true ∧ askT m mr u t C tx p md fl = (1, 0, C p)) ∨
    (has tx md (C p).1 = false ∧ (askT m mr u t C tx p md fl = (1, 0, grantH (reqW tx md fl (C p).1) (C p).1, (C p).2) ∨ (fl ≠ 1 ∧ askT m mr u t C tx p md fl = (2, 0, (C p).1, Ws.ins (reqW tx md fl (C p).1) (C p).2)))))) := by
  have h := ask_form (tx := tx) (md := md) (fl := fl) (H := (C p).1) (L := (C p).2)
  unfold askT
  generalize ask tx md fl (C p).1 (C p).2 = X at *
  simp only
  split
  · exact .inl ⟨rfl, rfl⟩
  · split
    · exact .inl ⟨rfl, rfl⟩
    · rename_i h1
      split
      · exact .inl ⟨rfl, rfl⟩
      · rcases h with h | ⟨h0, ⟨h2, rfl⟩ | ⟨h2, rfl | ⟨h3, rfl⟩⟩⟩
        · exact absurd h h1
        · exact .inr ⟨h0, .inl ⟨h2, rfl⟩⟩
        · exact .inr ⟨h0, .inr ⟨h2, .inl rfl⟩⟩
        · exact .inr ⟨h0, .inr ⟨h2, .inr ⟨h3, rfl⟩⟩⟩
theorem askT_cases {m u t : Nat} {mr tx md fl : Int} : (askT m mr u t C tx p md fl).2.2 = C p ∨ (Ws.fndI tx (C p).2 < 0 ∧ has tx md (C p).1 = false ∧
    ((askT m mr u t C tx p md fl).2.2 = (grantH (reqW tx md fl (C p).1) (C p).1, (C p).2) ∨ (askT m mr u t C tx p md fl).2.2 = ((C p).1, Ws.ins (reqW tx md fl (C p).1) (C p).2))) := by
  rcases askT_form (C := C) (p := p) (m := m) (u := u) (t := t) (mr := mr) (tx := tx) (md := md) (fl := fl) with ⟨-, h⟩ | ⟨h0, ⟨h2, h⟩ | ⟨h2, h | ⟨h3, h⟩⟩⟩
  · exact .inl h
  · rw [h]; exact .inl rfl
  · rw [h]; exact .inr ⟨h0, h2, .inl rfl⟩
  · rw [h]; exact .inr ⟨h0, h2, .inr rfl⟩
theorem gd_step (hg : Gd tx C) (hf : Fnt C) {m : Nat} {mr md fl : Int} : Gd tx (stT m mr tx p md fl C).2.2 := by
  rcases st_cases m mr tx p md fl C with e | ⟨l, hn, e⟩
  · rw [e]; exact hg
  · rw [e]
    obtain ⟨r, hp⟩ : ∃ r, Lk.planL (heldL C tx) p md = l :: r := by
      cases hp : Lk.planL (heldL C tx) p md with
      | nil => rw [nx_none hp] at hn; cases hn
      | cons a r => rw [nx_some hp] at hn; cases hn; exact ⟨r, rfl⟩
    have hin : l ∈ Lk.planL (heldL C tx) p md := by rw [hp]; exact List.mem_cons_self
    have hm := Lk.plan_more hin
    obtain ⟨-, -, hit⟩ := Lk.plan_item hin
    have hst : Lk.Rt (Lk.withL (heldL C tx) l) := by
      have := (Lk.enough_step (gd_rt hg hf) (p := p) (m := md) (j := 0) (by rw [hp]; simp) (gd_rt hg hf)).1
      simp only [hp, List.take_zero, List.getElem_cons_zero] at this
      exact this
    have hself : Lk.ofL (Lk.withL (heldL C tx) l) l.1 = l.2 := by rw [Lk.of_with, if_pos (Pa.eqP_self _)]
    have hup : UpOk (hasF C tx) l.1 l.2 := by
      obtain ⟨y, hy, hy1, hy2⟩ := Lk.of_mem (ys := Lk.withL (heldL C tx) l) (q := l.1) (by rw [hself]; omega)
      have hu := hst.2 y hy
      unfold Lk.upB at hu
      rw [hy2, hy1, hself, Lk.of_with] at hu
      rcases Bool.or_eq_true_iff.1 hu with hu | hu
      · exact .inl (by simpa using hu)
      · refine .inr ?_
        have hne : l.1 ≠ Pa.cutP l.1 (l.1.e - 1) := fun h => by
          have := congrArg Pa.Pt.e h
          unfold Pa.cutP at this
          simp at this
          omega
        rw [if_neg (by simp only [Pa.eqP_ne hne]; decide)] at hu
        have e := hf.held_of tx (Pa.cutP l.1 (l.1.e - 1))
        rw [e] at hu
        exact hu
    have hcv : covB (kn l.2) (kn (hasF C tx l.1)) = true := by
      have := hit.yes
      rw [hf.held_of] at this
      exact this
    have htg : tgt tx l.2 (C l.1).1 = l.2 := by
      unfold tgt
      have := hm.2.1
      rw [hf.held_of] at this
      rw [this, ← hm.2.2.1]
    rcases askT_cases (C := C) (p := l.1) (m := m) (mr := mr) (u := usC C) (t := ttC C) (tx := tx) (md := l.2) (fl := fl) with h0 | ⟨h1, h2, h3 | h3⟩
    · rw [h0]; exact hg.id l.1 rfl
    · rw [h3]
      cases hi : (fl == 2)
      · have hgr : Hs.fst tx (grantH (reqW tx l.2 fl (C l.1).1) (C l.1).1) = l.2 := by
          unfold grantH reqW
          rw [hi, if_neg Bool.false_ne_true]
          rw [Hs.setL_fst, htg]
        exact hg.rise l.1 (by rw [hgr]; exact hup) (by rw [hgr]; exact hcv) (fnd_neg h1)
      · refine hg.same l.1 ?_ fun z hz _ => .inl hz
        unfold grantH reqW
        rw [hi, if_pos rfl]
        rfl
    · rw [h3]
      refine hg.same l.1 rfl fun z hz _ => ?_
      unfold Ws.ins at hz
      simp only [List.mem_append, List.mem_singleton] at hz
      rcases hz with (hz | rfl) | hz
      · exact .inl (List.mem_of_mem_take hz)
      · refine .inr ?_
        unfold reqW
        simp only
        rw [htg]
        exact ⟨hup, hcv⟩
      · exact .inl (List.mem_of_mem_drop hz)
theorem fnt_askT {m u t : Nat} {mr tx md fl : Int} (hf : Fnt C) (hp : Pa.rightB p = true) : Fnt (upC C p (askT m mr u t C tx p md fl).2.2) := by
  refine hf.up hp ?_
  unfold askT
  simp only
  split
  · exact hf.ord.inv p
  · split
    · exact hf.ord.inv p
    · split
      · exact hf.ord.inv p
      · exact (hf.ord.inv p).ask tx md fl
structure Alw (C : CC) : Prop where
  f : Fnt C
  n : Noin C
  g : ∀ y, Gd y C
theorem Alw.step (h : Alw C) {m : Nat} {mr md fl : Int} (hfl : (fl == 2) = false) : Alw (stT m mr tx p md fl C).2.2 := by
  refine ⟨?_, st_noin hfl h.n, fun y => ?_⟩
  · rcases st_cases m mr tx p md fl C with e | ⟨l, hn, e⟩
    · rw [e]; exact h.f
    · rw [e]
      refine fnt_askT h.f ?_
      cases hp : Lk.planL (heldL C tx) p md with
      | nil => rw [nx_none hp] at hn; cases hn
      | cons a r =>
        rw [nx_some hp] at hn
        cases hn
        exact (Lk.plan_more (xs := heldL C tx) (p := p) (m := md) (by rw [hp]; exact List.mem_cons_self)).2.2.2.2.2
  · by_cases hy : y = tx
    · subst hy; exact gd_step (h.g y) h.f
    · rcases st_cases m mr tx p md fl C with e | ⟨l, hn, e⟩
      · rw [e]; exact h.g y
      · rw [e]; exact (h.g y).ask hy l.1
theorem Alw.take {m : Nat} {mr md fl : Int} (hfl : (fl == 2) = false) : ∀ (n : Nat) {C : CC}, Alw C → Alw (tkT m mr tx p md fl n C).2.2
  | 0, C, h => by rw [tkT]; exact h.step hfl
  | n + 1, C, h => by
    rw [tkT]
    split
    · exact Alw.take hfl n (h.step hfl)
    · exact h.step hfl
theorem gd_cn (tx : Int) : ∀ (n : Nat) {C : CC}, Fnt C → (∀ y, Gd y C) → ∀ y, Gd y (cnT tx n C).2
  | 0, C, _, hg, y => by rw [cnT]; exact hg y
  | n + 1, C, hf, hg, y => by
    cases hw : waitL C tx with
    | none => rw [cn_none hw]; exact hg y
    | some x =>
      rw [cn_some hw]
      exact gd_cn tx n (hf.relT (fun hi => hi.can tx) x.1) (fun y => (hg y).can hf tx x.1) y
theorem gd_rl {tx : Int} (hne : y ≠ tx) : ∀ (ys : List Lk) {C : CC}, Fnt C → Gd y C → Gd y (rlT tx ys C).2
  | [], C, _, hg => by rw [rlT]; exact hg
  | x :: ys, C, hf, hg => by
    rw [rlT]
    exact gd_rl hne ys (hf.relT (fun hi => hi.rel tx) x.1) (hg.rel hf hne x.1)
theorem gd_none (hf : Fnt C) (hw : waitL C y = none) (hh : heldL C y = []) : Gd y C := by
  refine ⟨fun q hq => ?_, fun q z hz hy => absurd hy (hf.wait_no hw q z hz)⟩
  have := held_mem (tx := y) (p := q) hf hq
  rw [hh] at this
  cases this
theorem Alw.free (h : Alw C) (tx : Int) {n : Nat} {ys : List Lk} (hc : wsC C ≤ n) (hb : Lk.Bk (heldL (cnT tx n C).2 tx) ys) : Alw (frT tx n ys C).2 := by
  obtain ⟨t1, t2, t3⟩ := tells_fr h.f h.n hc hb
  obtain ⟨u1, -⟩ := tells_cn n (tx := tx) (l := []) ⟨h.f, h.n, fun w hw => by cases hw⟩ hc
  refine ⟨t1.f, t1.n, fun y => ?_⟩
  by_cases hy : y = tx
  · subst hy; exact gd_none t1.f t2 t3
  · exact gd_rl hy ys u1.f (gd_cn tx n h.f h.g y)
theorem rl_keep : ∀ (ys : List Lk) {C : CC}, Fnt C → (∀ q, ∀ z ∈ (C q).2, z.1 ≠ tx) → ∀ q, (∀ x ∈ ys, x.1 ≠ q) → Hs.fst tx ((rlT tx ys C).2 q).1 = Hs.fst tx (C q).1
  | [], C, _, _, q, _ => by rw [rlT]
  | x :: ys, C, hf, hn, q, hq => by
    have hl := lev_relT (tx := tx) lev_rel hf x.1
    rw [rlT]
    simp only
    rw [rl_keep ys (hf.relT (fun hi => hi.rel tx) x.1) (hl.still hn) q fun z hz => hq z (List.mem_cons_of_mem _ hz), upC_ne _ _ (Ne.symm (hq x List.mem_cons_self))]
theorem askT_nw {m u t : Nat} {mr tx md : Int} (h : (askT m mr u t C tx p md 1).1 ≠ 1) : (askT m mr u t C tx p md 1).2.2 = C p := by
  rcases askT_form (C := C) (p := p) (m := m) (u := u) (t := t) (mr := mr) (tx := tx) (md := md) (fl := 1) with ⟨-, e⟩ | ⟨h0, ⟨h2, e⟩ | ⟨h2, e | ⟨h3, e⟩⟩⟩
  · exact e
  · rw [e]
  · rw [e] at h; exact absurd rfl h
  · exact absurd rfl h3
theorem askT_gr {m u t : Nat} {mr tx md : Int} (h : (askT m mr u t C tx p md 1).1 = 1) : ((askT m mr u t C tx p md 1).2.2 = C p ∧ has tx md (C p).1 = true) ∨
    (askT m mr u t C tx p md 1).2.2 = (grantH (reqW tx md 1 (C p).1) (C p).1, (C p).2) := by
  rcases askT_form (C := C) (p := p) (m := m) (u := u) (t := t) (mr := mr) (tx := tx) (md := md) (fl := 1) with ⟨e, -⟩ | ⟨h0, ⟨h2, e⟩ | ⟨h2, e | ⟨h3, e⟩⟩⟩
  · rw [e] at h; exact absurd h (by decide)
  · rw [e]; exact .inl ⟨rfl, h2⟩
  · rw [e]; exact .inr rfl
  · exact absurd rfl h3
theorem sup_cov : ∀ i, i ≤ 6 → ∀ j, j ≤ 6 → covB (supN i j) i = true := by decide +kernel
theorem Alw.grow (h : Alw C) {m : Nat} {mr tx n : Int} {r : Lk × Bool} (hg : Grown m mr tx n C r C') : Alw C' := by
  obtain ⟨x, b, hpk, hc⟩ := hg
  rcases hc with ⟨-, -, rfl⟩ | ⟨rfl, hw, hY, -, rfl⟩ | ⟨rfl, hw, hY, -, ys, hb, rfl⟩
  · exact h
  · rw [askT_nw hY, upC_id rfl]; exact h
  · obtain ⟨-, hn1, hcn, hcd, hx, -⟩ : _ ∧ _ := by
      rcases hpk with ⟨h, -⟩ | h
      · cases h
      · exact h
    have hxr := Lk.cnt_right hcn
    have hRt := gd_rt (h.g tx) h.f
    have haft := Lk.aft_right hRt (Lk.pd_of hn1 hcd hx) hcn hx
    obtain ⟨hm, hm2⟩ := Lk.pick_mode hx
    rw [h.f.held_of] at hm
    have hno := h.f.wait_no hw
    generalize hY2 : (askT m mr (usC C) (ttC C) C tx x.1 x.2 1).2.2 = Cx' at *
    have hC : Cx'.2 = (C x.1).2 ∧ Hs.fst tx Cx'.1 = x.2 := by
      rcases askT_gr hY with ⟨e, e2⟩ | e
      · rw [hY2] at e
        subst e
        refine ⟨rfl, ?_⟩
        unfold has at e2
        rw [Bool.and_eq_true] at e2
        have e3 := Lk.cov_anti _ (kn_le _) _ (kn_le _) e2.2 (by rw [hm]; exact sup_cov _ (kn_le _) _ (Lk.doN_le _))
        rw [hm2, ← e3]
        by_cases e4 : Hs.fst tx (C x.1).1 = 0
        · rw [e4] at e2; exact absurd e2.1 (by decide)
        · have hq := held_mem h.f (tx := tx) (p := x.1) e4
          obtain ⟨-, k1, k2⟩ := (h.f.rt1 tx).2 _ hq
          simp only at k1 k2
          exact (kn_in (by omega) k2).symm
      · rw [hY2] at e
        subst e
        refine ⟨rfl, ?_⟩
        unfold grantH reqW
        rw [if_neg (by simp)]
        rw [Hs.setL_fst]
        unfold tgt
        rw [hm, Lk.sup_once _ (kn_le _) _ (Lk.doN_le _), ← hm, ← hm2]
    have hf1 : Fnt (upC C x.1 Cx') := by rw [← hY2]; exact fnt_askT h.f hxr
    have hn1' : Noin (upC C x.1 Cx') := fun q z hz => by
      by_cases e : q = x.1
      · rw [e, upC_same, hC.1] at hz; exact h.n _ z hz
      · rw [upC_ne _ _ e] at hz; exact h.n _ z hz
    have hw1 : ∀ q, ∀ z ∈ (upC C x.1 Cx' q).2, z.1 ≠ tx := fun q z hz => by
      by_cases e : q = x.1
      · rw [e, upC_same, hC.1] at hz; exact hno _ z hz
      · rw [upC_ne _ _ e] at hz; exact hno _ z hz
    have hf0 : ∀ q, Hs.fst tx (upC C x.1 Cx' q).1 = if Pa.eqP x.1 q then x.2 else hasF C tx q := fun q => by
      by_cases e : x.1 = q
      · subst e; rw [upC_same, if_pos (Pa.eqP_self _)]; exact hC.2
      · rw [upC_ne _ _ (Ne.symm e), if_neg (by rw [Pa.eqP_ne e]; decide)]; rfl
    obtain ⟨t1, t2, t3⟩ := tells_rl ys (tx := tx) (l := []) ⟨hf1, hn1', fun w hw => by cases hw⟩ hw1
    have hmem : ∀ z, z ∈ ys ↔ z ∈ heldL C tx ∧ Lk.belB z.1 x.1 = true := fun z => by
      rw [hb.stb.perm.mem_iff]
      unfold Lk.fitL
      rw [List.mem_filter]
    have hall : ∀ q, Hs.fst tx ((rlT tx ys (upC C x.1 Cx')).2 q).1 = Lk.ofL (Lk.aftL (heldL C tx) x) q := fun q => by
      rw [Lk.of_aft]
      cases hbq : Lk.belB q x.1
      · rw [rl_keep ys hf1 hw1 q (fun z hz e => by rw [← e, ((hmem z).1 hz).2] at hbq; exact Bool.noConfusion hbq), hf0, h.f.held_of]
        rfl
      · rw [if_pos rfl]
        refine t3 q ?_
        have hne : x.1 ≠ q := fun e => by
          rw [← e] at hbq
          unfold Lk.belB at hbq
          rw [Pa.eqP_self] at hbq
          cases hbq
        rw [hf0, if_neg (by rw [Pa.eqP_ne hne]; decide)]
        by_cases e0 : hasF C tx q = 0
        · exact .inl e0
        · have hq := held_mem h.f e0
          exact .inr ⟨_, (hmem _).2 ⟨hq, hbq⟩, rfl, ((h.f.rt1 tx).2 _ hq).1⟩
    refine ⟨t1.f, t1.n, fun y => ?_⟩
    by_cases hy : y = tx
    · subst hy
      have hff : hasF (rlT y ys (upC C x.1 Cx')).2 y = Lk.ofL (Lk.aftL (heldL C y) x) := funext hall
      refine ⟨fun q hq => ?_, fun q z hz hzy => absurd hzy (t2 q z hz)⟩
      rw [hff] at hq ⊢
      obtain ⟨z, hz, hz1, hz2⟩ := Lk.of_mem hq
      have hu := haft.2 z hz
      unfold Lk.upB at hu
      rw [hz2, hz1] at hu
      rcases Bool.or_eq_true_iff.1 hu with hu | hu
      · exact .inl (by simpa using hu)
      · exact .inr hu
    · refine gd_rl hy ys hf1 ?_
      rw [← hY2]
      exact (h.g y).ask hy x.1
end
end Go.Proofs.YtlhhopanegnliaaGreatDoor
