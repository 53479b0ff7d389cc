/- Ways row by row: the document's ring; who is reached, step by step. -/
import Derived.Test.YtgefponjlliaaaaPF
namespace Go.Proofs.Ytgefponjlliaaaa.Cy

section
variable {l : List Es.Ed} {s x y z : Int} {n m k : Nat} {r q : List Int}
/-- where a way is -/
def lst (q : List Int) : Int := q.getLastD 0
theorem lst_snoc (q : List Int) (x : Int) : lst (q ++ [x]) = x := by simp [lst]
theorem lst_mem (h : q ≠ []) : lst q ∈ q := by
  have e : q = q.dropLast ++ [q.getLast h] := (List.dropLast_concat_getLast h).symm
  rw [e, lst_snoc]
  simp
/-- the ways that are one edge longer, to where they have not been -/
def kids (l : List Es.Ed) (q : List Int) : List (List Int) := ((fromC (lst q) l).filter fun y => decide (y ∉ q)).map fun y => q ++ [y]
/-- all ways of so many edges that come nowhere twice -/
def lay (l : List Es.Ed) (s : Int) : Nat → List (List Int)
  | 0 => [[s]]
  | k + 1 => (lay l s k).flatMap (kids l)
theorem mem_kids : r ∈ kids l q ↔ ∃ y, EI l (lst q) y ∧ y ∉ q ∧ r = q ++ [y] := by
  unfold kids
  rw [List.mem_map]
  constructor
  · rintro ⟨y, hy, rfl⟩
    obtain ⟨h1, h2⟩ := List.mem_filter.1 hy
    exact ⟨y, mem_fromC.1 h1, by simpa using h2, rfl⟩
  · rintro ⟨y, h1, h2, rfl⟩
    exact ⟨y, List.mem_filter.2 ⟨mem_fromC.2 h1, by simpa using h2⟩, rfl⟩
/-- such a way -/
structure Way (l : List Es.Ed) (s : Int) (k : Nat) (q : List Int) : Prop where
  wk : Wk (EI l) k s (lst q)
  len : q.length = k + 1
  nd : q.Nodup
theorem lay_way : ∀ {k : Nat} {q : List Int}, q ∈ lay l s k → Way l s k q
  | 0, q, h => by
    obtain rfl : q = [s] := by simpa [lay] using h
    exact ⟨.nil _, rfl, by simp⟩
  | k + 1, q, h => by
    obtain ⟨p, hp, hq⟩ := List.mem_flatMap.1 h
    obtain ⟨y, e, hy, rfl⟩ := mem_kids.1 hq
    have h1 := lay_way hp
    refine ⟨by rw [lst_snoc]; exact h1.wk.snoc e, by rw [List.length_append, h1.len]; rfl, ?_⟩
    rw [List.nodup_append]
    refine ⟨h1.nd, by simp, fun a ha b hb => ?_⟩
    obtain rfl : b = y := by simpa using hb
    rintro rfl
    exact hy ha
/-- no such way that is shorter than the ring leads on to its beginning -/
theorem Gr.min (h : Gr l s n s r) : ∀ z m, EI l s z → Wk (EI l) m z s → n ≤ m := by
  cases h with
  | one e => intro _ _ _ _; exact Nat.zero_le _
  | more _ _ hm _ _ => exact hm
theorem lay_no (h : Gr l s n s r) (hk : k < n) (hq : q ∈ lay l s k) : ¬ EI l (lst q) s := fun e => by
  have h1 := (lay_way hq).wk.snoc e
  cases h1 with
  | cons e2 w => have := h.min _ _ e2 w; omega
/-- what is so of a ring that is told, edge by edge -/
theorem Gr.step (h : Gr l s n x r) : ∀ k, k < n → ∃ y, r[k + 1]? = some y ∧ EI l (r.getD k 0) y ∧ ∀ z, EI l (r.getD k 0) z → Wk (EI l) (n - k) z s → y ≤ z := by
  induction h with
  | one => intro k hk; omega
  | @more n x y r e hd hm hle hr ih =>
    intro k hk
    cases k with
    | zero =>
      refine ⟨y, ?_, by simpa using e, by simpa using hle⟩
      rw [List.getElem?_cons_succ]
      exact hr.head
    | succ k =>
      obtain ⟨y', h1, h2, h3⟩ := ih k (by omega)
      refine ⟨y', by rw [List.getElem?_cons_succ]; exact h1, by simpa using h2, ?_⟩
      intro z hz hw
      rw [show n + 1 - (k + 1) = n - k by omega] at hw
      exact h3 z (by simpa using hz) hw
/-- the beginnings of the ring stand in their rows, behind such alone as are farther back -/
theorem lay_at (h : Gr l s n s r) : ∀ k, k ≤ n → ∃ A B, lay l s k = A ++ r.take (k + 1) :: B ∧ ∀ q ∈ A, ¬ ∃ z, EI l (lst q) z ∧ Wk (EI l) (n - k) z s := by
  have hlen := h.length
  have hnd := h.nodup
  intro k
  induction k with
  | zero =>
    intro _
    refine ⟨[], [], ?_, fun q hq => by simp at hq⟩
    have h1 : r.take (0 + 1) = [s] := by
      have h0 := h.head
      cases r with
      | nil => simp at h0
      | cons a r => simp at h0; subst h0; simp
    rw [h1]
    rfl
  | succ k ih =>
    intro hk
    obtain ⟨A, B, e, hA⟩ := ih (by omega)
    obtain ⟨y, hy, he, hle⟩ := h.step k (by omega)
    have hk1 : k + 1 < r.length := by omega
    have hyk : r[k + 1] = y := by rw [List.getElem?_eq_getElem hk1] at hy; exact Option.some.inj hy
    have htk : r.take (k + 1 + 1) = r.take (k + 1) ++ [y] := by rw [List.take_succ_eq_append_getElem hk1, hyk]
    have hlst : lst (r.take (k + 1)) = r.getD k 0 := by
      rw [List.take_succ_eq_append_getElem (by omega), lst_snoc]
      simp [show k < r.length by omega]
    -- where y stands among those that an edge goes to
    have hyf : y ∈ fromC (lst (r.take (k + 1))) l := mem_fromC.2 (by rw [hlst]; exact he)
    obtain ⟨L1, L2, hL⟩ := List.append_of_mem hyf
    have hyn : y ∉ r.take (k + 1) := fun hm => by
      obtain ⟨i, hi, e2⟩ := List.mem_take_iff_getElem.1 hm
      have h3 := List.pairwise_iff_getElem.1 hnd i (k + 1) (by omega) hk1 (by omega)
      exact h3 (e2.trans hyk.symm)
    have hasc := fromC_asc (lst (r.take (k + 1))) l
    rw [hL] at hasc
    have hL1 : ∀ z ∈ L1, z < y := fun z hz => by
      have := (List.pairwise_append.1 hasc).2.2 z hz y (List.mem_cons_self ..)
      simpa [Is.ltI] using this
    have hkids : kids l (r.take (k + 1)) = ((L1.filter fun y => decide (y ∉ r.take (k + 1))).map fun y => r.take (k + 1) ++ [y]) ++ r.take (k + 1 + 1) :: ((L2.filter fun y => decide (y ∉ r.take (k + 1))).map fun y => r.take (k + 1) ++ [y]) := by
      unfold kids
      rw [hL, List.filter_append, List.map_append, List.filter_cons_of_pos (by simpa using hyn), List.map_cons, htk]
    refine ⟨A.flatMap (kids l) ++ ((L1.filter fun y => decide (y ∉ r.take (k + 1))).map fun y => r.take (k + 1) ++ [y]), ((L2.filter fun y => decide (y ∉ r.take (k + 1))).map fun y => r.take (k + 1) ++ [y]) ++ B.flatMap (kids l), ?_, ?_⟩
    · show (lay l s k).flatMap (kids l) = _
      rw [e, List.flatMap_append, List.flatMap_cons, hkids]
      simp
    · intro q hq
      rintro ⟨z, e1, hw⟩
      have hw1 : Wk (EI l) (n - k) (lst q) s := by
        rw [show n - k = n - (k + 1) + 1 by omega]
        exact .cons e1 hw
      rcases List.mem_append.1 hq with hq | hq
      · obtain ⟨p, hp, hqp⟩ := List.mem_flatMap.1 hq
        obtain ⟨y', e2, _, rfl⟩ := mem_kids.1 hqp
        rw [lst_snoc] at hw1
        exact hA p hp ⟨y', e2, hw1⟩
      · obtain ⟨y', hy', rfl⟩ := List.mem_map.1 hq
        have hy1 := (List.mem_filter.1 hy').1
        rw [lst_snoc] at hw1
        have h1 : y' ∈ fromC (lst (r.take (k + 1))) l := by rw [hL]; exact List.mem_append.2 (.inl hy1)
        have h2 := hle y' (by rw [← hlst]; exact mem_fromC.1 h1) hw1
        have := hL1 y' hy1
        omega
/-- among the ways as long as the ring, it is the first that leads on to its beginning -/
theorem lay_ring (h : Gr l s n s r) : ∃ A B, lay l s n = A ++ r :: B ∧ ∀ q ∈ A, ¬ EI l (lst q) s := by
  obtain ⟨A, B, e, hA⟩ := lay_at h n (Nat.le_refl _)
  rw [List.take_of_length_le (by rw [h.length]; exact Nat.le_refl _)] at e
  refine ⟨A, B, e, fun q hq e1 => hA q hq ⟨s, e1, ?_⟩⟩
  rw [Nat.sub_self]
  exact .nil _
end

section
variable {l : List Es.Ed} {s : Int} {q : List Int}
/-- the most ways that so many edges give -/
def wgt (n : Nat) : Nat := [1, 1, 2, 3, 4, 6, 9, 12, 18, 27, 36, 54, 81, 108, 162].getD n 0
theorem wgt_split : ∀ n, n < 15 → ∀ d, d ≤ n → d * wgt (n - d) ≤ wgt n := by decide
theorem wgt_pos : ∀ n, n < 15 → 1 ≤ wgt n := by decide
theorem wgt_most : ∀ n, n < 15 → wgt n ≤ 162 := by decide
/-- edges from where a way has not gone on yet -/
def rst (E : List Es.Ed) (q : List Int) : Nat := E.countP fun e => decide (e.1 ∉ q.dropLast)
theorem rst_le (E : List Es.Ed) (q : List Int) : rst E q ≤ E.length := List.countP_le_length
theorem fromC_count (x : Int) (l : List Es.Ed) : (fromC x l).length = (Od.can Es.lessE l).countP fun e => e.1 == x := by
  rw [← fromL_can, List.countP_eq_length_filter]
  unfold fromL
  rw [List.length_map]
theorem rst_snoc (h : q.Nodup) (h0 : q ≠ []) (y : Int) : rst (Od.can Es.lessE l) (q ++ [y]) + (fromC (lst q) l).length = rst (Od.can Es.lessE l) q := by
  rw [fromC_count]
  unfold rst
  rw [List.dropLast_concat]
  obtain ⟨p, x, rfl⟩ : ∃ p x, q = p ++ [x] := ⟨q.dropLast, q.getLast h0, (List.dropLast_concat_getLast h0).symm⟩
  have hx : x ∉ p := fun hm => by
    have := (List.nodup_append.1 h).2.2 x hm x (by simp)
    exact this rfl
  rw [List.dropLast_concat, lst_snoc]
  generalize Od.can Es.lessE l = E
  induction E with
  | nil => rfl
  | cons e E ih =>
    rw [List.countP_cons, List.countP_cons, List.countP_cons]
    by_cases h1 : e.1 = x
    · have h2 : e.1 ∉ p := by rw [h1]; exact hx
      simp [h1, hx] at ih ⊢
      omega
    · have h3 : (e.1 ∉ p ++ [x]) ↔ e.1 ∉ p := by simp [h1]
      by_cases h4 : e.1 ∈ p
      · simp [h1, h4] at ih ⊢; omega
      · simp [h1, h4] at ih ⊢; omega
theorem kids_weigh (hE : (Od.can Es.lessE l).length ≤ 14) (h : q.Nodup) (h0 : q ≠ []) : ((kids l q).map fun r => wgt (rst (Od.can Es.lessE l) r)).sum ≤ wgt (rst (Od.can Es.lessE l) q) := by
  have hr := rst_le (Od.can Es.lessE l) q
  have h1 : ∀ r ∈ kids l q, wgt (rst (Od.can Es.lessE l) r) = wgt (rst (Od.can Es.lessE l) q - (fromC (lst q) l).length) := fun r hr => by
    obtain ⟨y, _, _, rfl⟩ := mem_kids.1 hr
    have := rst_snoc (l := l) h h0 y
    congr 1
    omega
  have h2 : (fromC (lst q) l).length ≤ rst (Od.can Es.lessE l) q := by have := rst_snoc (l := l) h h0 0; omega
  have h3 : (kids l q).length ≤ (fromC (lst q) l).length := by
    unfold kids
    rw [List.length_map]
    exact List.length_filter_le ..
  have h4 : ∀ (L : List (List Int)), (∀ r ∈ L, wgt (rst (Od.can Es.lessE l) r) = wgt (rst (Od.can Es.lessE l) q - (fromC (lst q) l).length)) → (L.map fun r => wgt (rst (Od.can Es.lessE l) r)).sum = L.length * wgt (rst (Od.can Es.lessE l) q - (fromC (lst q) l).length) := fun L => by
    induction L with
    | nil => intro _; simp
    | cons a L ih =>
      intro hL
      rw [List.map_cons, List.sum_cons, hL a (List.mem_cons_self ..), ih fun r hr => hL r (List.mem_cons_of_mem _ hr), List.length_cons, Nat.succ_mul]
      omega
  rw [h4 _ h1]
  exact Nat.le_trans (Nat.mul_le_mul_right _ h3) (wgt_split _ (by omega) _ h2)
theorem lay_weigh (hE : (Od.can Es.lessE l).length ≤ 14) : ∀ k, ((lay l s k).map fun r => wgt (rst (Od.can Es.lessE l) r)).sum ≤ 162
  | 0 => by
    have := rst_le (Od.can Es.lessE l) [s]
    have := wgt_most (rst (Od.can Es.lessE l) [s]) (by omega)
    simpa [lay] using this
  | k + 1 => by
    refine Nat.le_trans ?_ (lay_weigh hE k)
    have key : ∀ L : List (List Int), (∀ q ∈ L, q.Nodup ∧ q ≠ []) → ((L.flatMap (kids l)).map fun r => wgt (rst (Od.can Es.lessE l) r)).sum ≤ (L.map fun r => wgt (rst (Od.can Es.lessE l) r)).sum := fun L => by
      induction L with
      | nil => intro _; simp
      | cons a L ih =>
        intro hL
        rw [List.flatMap_cons, List.map_append, List.sum_append, List.map_cons, List.sum_cons]
        have h1 := ih fun q hq => hL q (List.mem_cons_of_mem _ hq)
        have h2 := kids_weigh hE (hL a (List.mem_cons_self ..)).1 (hL a (List.mem_cons_self ..)).2
        omega
    exact key _ fun q hq => by
      have h1 := lay_way hq
      exact ⟨h1.nd, fun e => by have := h1.len; rw [e] at this; simp at this⟩
theorem lay_few (hE : (Od.can Es.lessE l).length ≤ 14) (k : Nat) : (lay l s k).length ≤ 162 := by
  refine Nat.le_trans ?_ (lay_weigh (s := s) hE k)
  have key : ∀ L : List (List Int), L.length ≤ (L.map fun r => wgt (rst (Od.can Es.lessE l) r)).sum := fun L => by
    induction L with
    | nil => simp
    | cons a L ih =>
      rw [List.map_cons, List.sum_cons, List.length_cons]
      have := wgt_pos (rst (Od.can Es.lessE l) a) (by have := rst_le (Od.can Es.lessE l) a; omega)
      omega
  exact key _
end

section
variable {l : List Es.Ed} {fr x y : Int} {k j : Nat} {out : List Int}
/-- those, and all to whom an edge goes from one of them -/
def rnd (l : List Es.Ed) (out : List Int) : List Int := Od.can Is.ltI (out ++ out.flatMap fun x => fromC x l)
/-- who is reached, so often gone on -/
def rnds (l : List Es.Ed) (fr : Int) : Nat → List Int
  | 0 => fromC fr l
  | k + 1 => rnd l (rnds l fr k)
theorem mem_rnd : y ∈ rnd l out ↔ y ∈ out ∨ ∃ x ∈ out, EI l x y := by
  unfold rnd
  rw [Od.can_mem, List.mem_append, List.mem_flatMap]
  constructor
  · rintro (h | ⟨x, hx, hy⟩)
    · exact .inl h
    · exact .inr ⟨x, hx, mem_fromC.1 hy⟩
  · rintro (h | ⟨x, hx, hy⟩)
    · exact .inl h
    · exact .inr ⟨x, hx, mem_fromC.2 hy⟩
theorem rnds_asc : ∀ k, Od.Asc Is.ltI (rnds l fr k)
  | 0 => fromC_asc _ _
  | _ + 1 => Od.can_asc Is.ordI _
theorem rnds_pl : ∀ k y, y ∈ rnds l fr k → Pl (EI l) fr y
  | 0, y, h => .one (mem_fromC.1 h)
  | k + 1, y, h => by
    rcases mem_rnd.1 h with h | ⟨x, hx, e⟩
    · exact rnds_pl k y h
    · exact (rnds_pl k x hx).snoc e
theorem rnds_from (e : EI l fr y) : ∀ k, y ∈ rnds l fr k
  | 0 => mem_fromC.2 e
  | k + 1 => mem_rnd.2 (.inl (rnds_from e k))
theorem rnds_few (k : Nat) : (rnds l fr k).length ≤ l.length := by
  have h := nodup_le (asc_nodup (rnds_asc (l := l) (fr := fr) k)) (m := l.map fun e => e.2) fun y hy => by
    obtain ⟨x, _, e⟩ := (rnds_pl k y hy).last
    exact List.mem_map.2 ⟨(x, y), e, rfl⟩
  rw [List.length_map] at h
  exact h
/-- either nobody comes in any more, or there are as many as rounds at least -/
theorem rnds_grow : ∀ k, (∀ x ∈ rnds l fr k, ∀ y, EI l x y → y ∈ rnds l fr k) ∨ k + 1 ≤ (rnds l fr k).length
  | 0 => by
    cases h : rnds l fr 0 with
    | nil => exact .inl fun x hx => by simp at hx
    | cons a t => right; simp
  | k + 1 => by
    have hsub : ∀ y ∈ rnds l fr k, y ∈ rnds l fr (k + 1) := fun y hy => mem_rnd.2 (.inl hy)
    by_cases hc : ∀ x ∈ rnds l fr k, ∀ y, EI l x y → y ∈ rnds l fr k
    · left
      have hback : ∀ y ∈ rnds l fr (k + 1), y ∈ rnds l fr k := fun y hy => by
        rcases mem_rnd.1 hy with h | ⟨x, hx, e⟩
        · exact h
        · exact hc x hx y e
      exact fun x hx y e => hsub y (hc x (hback x hx) y e)
    · right
      have h1 : k + 1 ≤ (rnds l fr k).length := (rnds_grow k).resolve_left hc
      obtain ⟨x, hx, y, e, hy⟩ : ∃ x ∈ rnds l fr k, ∃ y, EI l x y ∧ y ∉ rnds l fr k := Classical.byContradiction fun hn => hc fun x hx y e => Classical.byContradiction fun hy => hn ⟨x, hx, y, e, hy⟩
      have h2 := nodup_le (l := y :: rnds l fr k) (m := rnds l fr (k + 1)) (List.nodup_cons.2 ⟨hy, asc_nodup (rnds_asc k)⟩) fun z hz => by
        rcases List.mem_cons.1 hz with rfl | hz
        · exact mem_rnd.2 (.inr ⟨x, hx, e⟩)
        · exact hsub z hz
      rw [List.length_cons] at h2
      omega
/-- gone on as often as there are edges, all are reached -/
theorem rnds_all : Rises (Pl (EI l) fr) (rnds l fr l.length) := by
  refine ⟨rnds_asc _, fun y => ⟨rnds_pl _ y, fun h => ?_⟩⟩
  have hc := (rnds_grow (l := l) (fr := fr) l.length).resolve_right fun h => by have := rnds_few (l := l) (fr := fr) l.length; omega
  obtain ⟨x, e, hr⟩ := h
  exact hr.closed (P := fun y => y ∈ rnds l fr l.length) (fun a b ha e => hc a ha b e) (rnds_from e _)
end
end Go.Proofs.Ytgefponjlliaaaa.Cy
