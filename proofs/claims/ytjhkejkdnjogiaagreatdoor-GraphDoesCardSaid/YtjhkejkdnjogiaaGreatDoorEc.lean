/- The document's table, plainly: sorted entries, and what is at which node; its memory where an entry is turned, put in or taken away. -/
import Derived.Test.YtjhkejkdnjogiaaGreatDoorEb
import Derived.Test.YtjhkejkdnjogiaaGreatDoorPd
import Derived.Test.YtjhkejkdnjogiaaGreatDoorRp
namespace Go.Proofs.YtjhkejkdnjogiaaGreatDoor.Rt
open Go Go.RowKit Go.Shelf
set_option maxRecDepth 100000

/-- the entries are those nodes that have something, in order -/
structure Rel (C : Pa.Pt → Cx) (es : List Nd) : Prop where
  srt : es.Pairwise (fun a b => Pa.lessB a.p b.p = true)
  ok : ∀ e, e ∈ es → Pa.rightB e.p = true ∧ 0 < e.H.length + e.L.length
  cy : ∀ e, e ∈ es → C e.p = (e.H, e.L)
  cn : ∀ p, (∀ e, e ∈ es → e.p ≠ p) → C p = ([], [])
section
variable {C : Pa.Pt → Cx} {es : List Nd} {p : Pa.Pt} {e : Nd}
theorem Rel.nil : Rel (fun _ => ([], [])) [] := ⟨List.Pairwise.nil, by simp, by simp, fun _ _ => rfl⟩
theorem Rel.ne (h : Rel C es) {i j : Nat} (hi : i < es.length) (hj : j < es.length) (hp : es[i].p = es[j].p) : i = j := by
  have h1 := List.pairwise_iff_getElem.1 h.srt
  rcases Nat.lt_trichotomy i j with q | q | q
  · have := h1 i j hi hj q
    rw [hp, Pa.less_self] at this
    cases this
  · exact q
  · have := h1 j i hj hi q
    rw [hp, Pa.less_self] at this
    cases this
theorem Rel.fd (h : Rel C es) {i : Nat} (hi : i < es.length) : Fd es es[i].p i :=
  .inl ⟨i, hi, rfl, rfl, fun j hj e => by have := h.ne (by omega) hi e; omega⟩
theorem Rel.same (h : Rel C es) {x : Cx} (hx : x = C p) : Rel (upC C p x) es := by rw [hx, upC_id rfl]; exact h
theorem Rel.mem (h : Rel C es) : 0 < szC (C p) ↔ ∃ e, e ∈ es ∧ e.p = p := by
  constructor
  · intro hz
    by_cases hp : ∃ e, e ∈ es ∧ e.p = p
    · exact hp
    · rw [h.cn p fun e he q => hp ⟨e, he, q⟩] at hz
      exact absurd hz (by simp [szC])
  · rintro ⟨e, he, rfl⟩
    rw [h.cy e he]
    exact (h.ok e he).2
theorem Rel.nodup (h : Rel C es) : (es.map (·.p)).Nodup := by
  unfold List.Nodup
  rw [List.pairwise_map]
  refine h.srt.imp ?_
  intro a b hab e
  rw [e, Pa.less_self] at hab
  cases hab
theorem Rel.tot (h : Rel C es) : ((es.map (·.p)).map fun p => szC (C p)).sum = totE es := by
  unfold totE
  rw [List.map_map]
  congr 1
  refine List.map_congr_left fun e he => ?_
  show szC (C e.p) = _
  rw [h.cy e he]
  rfl
/-- an entry is turned -/
theorem Rel.set (h : Rel C es) {i : Nat} (hi : i < es.length) (Q : Nat) {x : Cx} (hx : 0 < szC x) : Rel (upC C es[i].p x) (es.set i ⟨es[i].p, Q, x.1, x.2⟩) := by
  have hm : ∀ e, e ∈ es.set i ⟨es[i].p, Q, x.1, x.2⟩ → e = ⟨es[i].p, Q, x.1, x.2⟩ ∨ (e ∈ es ∧ e.p ≠ es[i].p) := by
    intro e he
    obtain ⟨j, hj, rfl⟩ := List.mem_iff_getElem.1 he
    rw [List.length_set] at hj
    by_cases q : i = j
    · subst q
      rw [List.getElem_set_self]
      exact .inl rfl
    · rw [List.getElem_set_ne q]
      exact .inr ⟨List.getElem_mem hj, fun e => q (h.ne hi hj e.symm)⟩
  refine ⟨?_, ?_, ?_, ?_⟩
  · have h1 := List.pairwise_iff_getElem.1 h.srt
    rw [List.pairwise_iff_getElem]
    intro a b ha hb hab
    rw [List.length_set] at ha hb
    have h2 := h1 a b ha hb hab
    have hp : ∀ j (hj : j < es.length), ((es.set i ⟨es[i].p, Q, x.1, x.2⟩)[j]'(by rw [List.length_set]; exact hj)).p = es[j].p := by
      intro j hj
      by_cases q : i = j
      · subst q
        rw [List.getElem_set_self]
      · rw [List.getElem_set_ne q]
    rw [hp a ha, hp b hb]
    exact h2
  · intro e he
    rcases hm e he with rfl | ⟨he, -⟩
    · exact ⟨(h.ok _ (List.getElem_mem hi)).1, hx⟩
    · exact h.ok e he
  · intro e he
    rcases hm e he with rfl | ⟨he, hne⟩
    · rw [upC_same]
    · rw [upC_ne _ _ hne, h.cy e he]
  · intro p hp
    have h0 := hp ⟨es[i].p, Q, x.1, x.2⟩ (List.mem_iff_getElem.2 ⟨i, by rw [List.length_set]; exact hi, by rw [List.getElem_set_self]⟩)
    simp only at h0
    rw [upC_ne _ _ (fun e => h0 e.symm)]
    refine h.cn p fun e he q => ?_
    obtain ⟨j, hj, rfl⟩ := List.mem_iff_getElem.1 he
    by_cases z : i = j
    · subst z; exact h0 q
    · exact hp es[j] (List.mem_iff_getElem.2 ⟨j, by rw [List.length_set]; exact hj, by rw [List.getElem_set_ne z]⟩) q
/-- an entry goes -/
theorem Rel.del (h : Rel C es) {i : Nat} (hi : i < es.length) : Rel (upC C es[i].p ([], [])) (es.take i ++ es.drop (i + 1)) := by
  have hsub : (es.take i ++ es.drop (i + 1)).Sublist es := by
    have := List.Sublist.append (List.Sublist.refl (es.take i)) (List.drop_sublist_drop_left es (Nat.le_succ i))
    rw [List.take_append_drop] at this
    exact this
  have hm : ∀ e, e ∈ es.take i ++ es.drop (i + 1) → e ∈ es ∧ e.p ≠ es[i].p := by
    intro e he
    refine ⟨hsub.subset he, fun q => ?_⟩
    rw [List.mem_append] at he
    rcases he with he | he
    · obtain ⟨j, hj, rfl⟩ := List.mem_iff_getElem.1 he
      rw [List.length_take] at hj
      rw [List.getElem_take] at q
      have := h.ne (i := j) (by omega) hi q
      omega
    · obtain ⟨j, hj, rfl⟩ := List.mem_iff_getElem.1 he
      rw [List.length_drop] at hj
      rw [List.getElem_drop] at q
      have := h.ne (i := i + 1 + j) (by omega) hi q
      omega
  refine ⟨h.srt.sublist hsub, fun e he => h.ok e (hm e he).1, fun e he => ?_, fun p hp => ?_⟩
  · rw [upC_ne _ _ (hm e he).2, h.cy e (hm e he).1]
  · by_cases q : p = es[i].p
    · subst q; rw [upC_same]
    · rw [upC_ne _ _ q]
      refine h.cn p fun e he z => ?_
      obtain ⟨j, hj, rfl⟩ := List.mem_iff_getElem.1 he
      rcases Nat.lt_trichotomy j i with y | y | y
      · exact hp es[j] (List.mem_append_left _ (List.mem_iff_getElem.2 ⟨j, by rw [List.length_take]; omega, by rw [List.getElem_take]⟩)) z
      · subst y; exact q z.symm
      · refine hp es[j] (List.mem_append_right _ (List.mem_iff_getElem.2 ⟨j - (i + 1), by rw [List.length_drop]; omega, ?_⟩)) z
        rw [List.getElem_drop]
        congr 1
        omega
/-- an entry is put in, behind those that are less -/
theorem Rel.ins (h : Rel C es) (hn : ∀ e, e ∈ es → e.p ≠ p) (hp : Pa.rightB p = true) {k : Nat} (hk : k ≤ es.length) (hb : ∀ (i : Nat) (_ : i < k) (hi : i < es.length), Pa.lessB es[i].p p = true) (ha : ∀ hi : k < es.length, Pa.lessB es[k].p p = false) (Q : Nat) {x : Cx} (hx : 0 < szC x) :
    Rel (upC C p x) (es.take k ++ ([⟨p, Q, x.1, x.2⟩] ++ es.drop k)) := by
  have h1 := List.pairwise_iff_getElem.1 h.srt
  have hgt : ∀ e, e ∈ es.drop k → Pa.lessB p e.p = true := by
    intro e he
    obtain ⟨j, hj, rfl⟩ := List.mem_iff_getElem.1 he
    rw [List.length_drop] at hj
    rw [List.getElem_drop]
    have hkl : k < es.length := by omega
    have h0 : Pa.lessB p es[k].p = true := by
      cases hc : Pa.lessB p es[k].p
      · have := Pa.less_tot ⟨p, hp⟩ ⟨es[k].p, (h.ok _ (List.getElem_mem hkl)).1⟩ hc (ha hkl)
        exact absurd (congrArg Subtype.val this).symm (hn _ (List.getElem_mem hkl))
      · rfl
    by_cases q : j = 0
    · subst q; exact h0
    · exact Pa.less_tr h0 (h1 k (k + j) hkl (by omega) (by omega))
  have hlt : ∀ e, e ∈ es.take k → Pa.lessB e.p p = true := by
    intro e he
    obtain ⟨j, hj, rfl⟩ := List.mem_iff_getElem.1 he
    rw [List.length_take] at hj
    rw [List.getElem_take]
    exact hb j (by omega) (by omega)
  have hm : ∀ e, e ∈ es.take k ++ ([⟨p, Q, x.1, x.2⟩] ++ es.drop k) → e = ⟨p, Q, x.1, x.2⟩ ∨ e ∈ es := by
    intro e he
    rw [List.mem_append, List.mem_append, List.mem_singleton] at he
    rcases he with he | he | he
    · exact .inr (List.mem_of_mem_take he)
    · exact .inl he
    · exact .inr (List.mem_of_mem_drop he)
  refine ⟨?_, ?_, ?_, ?_⟩
  · rw [List.pairwise_append]
    refine ⟨h.srt.sublist (List.take_sublist _ _), ?_, ?_⟩
    · rw [List.singleton_append, List.pairwise_cons]
      exact ⟨fun e he => hgt e he, h.srt.sublist (List.drop_sublist _ _)⟩
    · intro a ha b hb
      rw [List.mem_append, List.mem_singleton] at hb
      rcases hb with rfl | hb
      · exact hlt a ha
      · exact Pa.less_tr (hlt a ha) (hgt b hb)
  · intro e he
    rcases hm e he with rfl | he
    · exact ⟨hp, hx⟩
    · exact h.ok e he
  · intro e he
    rcases hm e he with rfl | he
    · rw [upC_same]
    · rw [upC_ne _ _ (hn e he), h.cy e he]
  · intro r hr
    have h0 := hr ⟨p, Q, x.1, x.2⟩ (by simp)
    simp only at h0
    rw [upC_ne _ _ (fun e => h0 e.symm)]
    refine h.cn r fun e he => hr e ?_
    rw [List.mem_append, List.mem_append]
    rw [← List.take_append_drop k es, List.mem_append] at he
    exact he.imp id .inr
end
section
variable {W W' w : World} {t K m c c' : Nat} {mr : Int} {es es' : List Nd} {D D' T : Nat → Prop} {A A' : Option Addr} {e : Nd} {A1 A2 : Option Addr} {c1 c2 : Nat} {p : Pa.Pt} {H : List Hs.Hd} {L : List Ws.Wt}
/-- a queue was made since; it is to be the table's -/
theorem Di.wide (h : Di W t K m mr es D A c) (hb : Below W.heap.size W w) {N : Nat → Prop} (hN : ∀ k, N k → W.heap.size ≤ k ∧ k < w.heap.size) : Di w t K m mr es (fun k => D k ∨ N k) A c :=
  h.stay (T := fun _ => False) (fun _ h => h.elim) (fun _ _ h => h) (OnlyS.of_below hb) hN
/-- an entry's pointer is turned to a queue that was made since -/
theorem Di.setq {g i Q : Nat} (h : Di w t K m mr es D (some ⟨g, 0, none⟩) c) (hi : i < es.length) (hR : RAt w Q p A1 c1 A2 c2 H L) (hD : D Q) (hQ : ¬ Own t (some ⟨g, 0, none⟩) es Q) (hK : K ≤ Q) (o1 : Off D A1 H) (o2 : Off D A2 L) :
    Di (w.setCell ⟨g, i, none⟩ (qp Q)) t K m mr (es.set i ⟨p, Q, H, L⟩) D (some ⟨g, 0, none⟩) c ∧ Nb w (w.setCell ⟨g, i, none⟩ (qp Q)) := by
  have ho := OnlyS.set g i w (qp Q)
  obtain ⟨g', e', c0, -⟩ := h.at hi
  cases e'
  have hn : Nb w (w.setCell ⟨g, i, none⟩ (qp Q)) := Nb.set c0 (not_nb_ptr _) _
  have hgt := h.na _ rfl
  simp only at hgt
  have hm : ∀ e, e ∈ es.set i ⟨p, Q, H, L⟩ → e = ⟨p, Q, H, L⟩ ∨ e ∈ es := fun e he => (List.mem_or_eq_of_mem_set he).symm
  have hmap : (es.set i ⟨p, Q, H, L⟩).map (·.q) = (es.map (·.q)).set i Q := by rw [List.map_set]
  refine ⟨⟨?_, ?_, ?_, ?_, h.dt, h.da, ?_, ?_, h.na, ?_, h.kt, ?_⟩, hn⟩
  · rw [List.length_set]
    exact (ho.block t h.lt (fun e => hgt e.symm)).trans h.blk
  · rw [hmap]
    exact h.rd.put (by simpa using hi) Q
  · intro e he
    rcases hm e he with rfl | he
    · exact ⟨A1, c1, A2, c2, hR.beside ho (fun q => hQ (.inr (.inl ⟨_, rfl, q.symm⟩))) hn, o1, o2⟩
    · obtain ⟨B1, d1, B2, d2, h1, h2, h3⟩ := h.ent e he
      exact ⟨B1, d1, B2, d2, h1.beside ho (fun q => (h.nq e he).2 _ rfl q.symm) hn, h2, h3⟩
  · rw [hmap]
    rw [List.nodup_iff_pairwise_ne, List.pairwise_iff_getElem]
    have h1 := h.one
    rw [List.nodup_iff_pairwise_ne, List.pairwise_iff_getElem] at h1
    intro a b ha hb hab
    rw [List.length_set] at ha hb
    by_cases q : i = a
    · subst q
      rw [List.getElem_set_self, List.getElem_set_ne (by omega)]
      intro z
      refine hQ ?_
      rw [z]
      simp only [List.getElem_map]
      exact .inr (.inr ⟨_, List.getElem_mem _, rfl⟩)
    · rw [List.getElem_set_ne q]
      by_cases q2 : i = b
      · subst q2
        rw [List.getElem_set_self]
        intro z
        refine hQ ?_
        rw [← z]
        simp only [List.getElem_map]
        exact .inr (.inr ⟨_, List.getElem_mem _, rfl⟩)
      · rw [List.getElem_set_ne q2]
        exact h1 a b ha hb hab
  · intro e he
    rcases hm e he with rfl | he
    · exact hD
    · exact h.dq e he
  · intro k hk
    rw [show (w.setCell ⟨g, i, none⟩ (qp Q)).heap.size = w.heap.size by simp [World.setCell]]
    exact h.dl k hk
  · intro e he
    rcases hm e he with rfl | he
    · exact ⟨fun q => hQ (.inl q), fun a ha q => hQ (.inr (.inl ⟨a, ha, q⟩))⟩
    · exact h.nq e he
  · intro e he
    rcases hm e he with rfl | he
    · exact hK
    · exact h.kq e he
/-- another list of entries -/
theorem Di.relist (h : Di w t K m mr es D A c) (hrd : Rd w K A' c' (es'.map (·.q))) (hD : ∀ k, D k → D' k) (hDl : ∀ k, D' k → k < w.heap.size)
    (hent : ∀ e, e ∈ es' → ∃ A1 c1 A2 c2, RAt w e.q e.p A1 c1 A2 c2 e.H e.L ∧ Off D' A1 e.H ∧ Off D' A2 e.L) (hone : (es'.map (·.q)).Nodup) (hda : ∀ a, A' = some a → D' a.block) (hdq : ∀ e, e ∈ es' → D' e.q) (hna : ∀ a, A' = some a → a.block ≠ t)
    (hnq : ∀ e, e ∈ es' → e.q ≠ t ∧ ∀ a, A' = some a → a.block ≠ e.q) (hkq : ∀ e, e ∈ es' → K ≤ e.q) {n : Nat} (hn : es'.length = n) :
    Di (w.setCell ⟨t, 0, none⟩ (.slice A' n c')) t K m mr es' D' A' c' ∧ Nb w (w.setCell ⟨t, 0, none⟩ (.slice A' n c')) := by
  subst hn
  have ho := OnlyS.set t 0 w (.slice A' es'.length c')
  have hnb : Nb w (w.setCell ⟨t, 0, none⟩ (.slice A' es'.length c')) := Nb.set (h.e0 rfl) (not_nb_slice _ _ _) _
  have hsz : (w.setCell ⟨t, 0, none⟩ (.slice A' es'.length c')).heap.size = w.heap.size := by simp [World.setCell]
  refine ⟨⟨by rw [set_blk _ h.blk]; rfl, hrd.keepT (by rw [hsz]; exact Nat.le_refl _) fun a ha => ho.block _ (hrd.lt a ha).2 (hna a ha), fun e he => ?_, hone, hD _ h.dt, hda, hdq, fun k hk => by rw [hsz]; exact hDl k hk, hna, hnq, h.kt, hkq⟩, hnb⟩
  obtain ⟨A1, c1, A2, c2, h1, h2⟩ := hent e he
  exact ⟨A1, c1, A2, c2, h1.beside ho (hnq e he).1 hnb, h2⟩
/-- what the two appends of an insertion come to -/
theorem ins_some {g k Q : Nat} {l : List Nat} (hrd : Rd W K (some ⟨g, 0, none⟩) c l) (hk : k ≤ l.length) (hl : l.length ≤ 5000) {sa : Addr} (hs : sa = if c = k then ⟨g, 0, none⟩ else ⟨g, k, none⟩) {n : Nat} (hn : l.length = n) :
    ∃ A5 c5 w5 A6 c6 w6, (Builtin.append_ #[38, 38] 38 #[.slice (some ⟨W.heap.size, 0, none⟩) 1 1, .slice (some sa) (n - k) (c - k)]).run Tryz.prog (W.drew.alloc (.cells #[qp Q] 37)) = .ok (.slice A5 (1 + (n - k)) c5) w5 ∧
      (Builtin.append_ #[38, 38] 38 #[.slice (some ⟨g, 0, none⟩) k k, .slice A5 (1 + (n - k)) c5]).run Tryz.prog w5 = .ok (.slice A6 (k + (1 + (n - k))) c6) w6 ∧ Rd w6 W.heap.size A6 c6 (l.take k ++ ([Q] ++ l.drop k)) ∧ Below W.heap.size W w5 ∧ Below W.heap.size W w6 := by
  subst hn
  have hB1 : Below W.heap.size W (W.drew.alloc (.cells #[qp Q] 37)) := (drew_below W 1).trans (box_below W.drew _)
  have hl1 : (l.take k).length = k := by rw [List.length_take]; omega
  have hsf : From (W.drew.alloc (.cells #[qp Q] 37)) (some sa) (l.drop k) := by
    subst hs
    by_cases hc : c = k
    · have := hrd.cap
      have e : l.drop k = [] := List.drop_eq_nil_of_le (by omega)
      rw [e]
      exact fun j hj => by simp at hj
    · rw [if_neg hc]
      exact (hrd.below hB1).drops
  obtain ⟨A5, c5, w5, hrun5, hr5, hb5, -⟩ := join_any (W := W.drew.alloc (.cells #[qp Q] 37)) (l1 := [Q]) (l2 := l.drop k) (sc := c - k) (K := W.heap.size) (Rd.lit W.drew Q) hsf (by simp; omega) (by simp) 38
  have hB5 : Below W.heap.size W w5 := hB1.trans (hb5.mono hB1.size)
  obtain ⟨A6, c6, w6, hrun6, hj6⟩ := join_some (W := w5) (l1 := l.take k) (l2 := [Q] ++ l.drop k) ((hrd.below hB5).takes hk) hr5.from (by simp) (by rw [hl1]; simp; omega) c5 38
  have e1 : ([Q] ++ l.drop k).length = 1 + (l.length - k) := by simp; omega
  rw [hl1, e1] at hrun6
  rw [List.length_drop, show [Q].length = 1 from rfl] at hrun5
  exact ⟨A5, c5, w5, A6, c6, w6, hrun5, hrun6, hj6.rd.weak hB5.size, hB5, hB5.trans (hj6.bel.mono hB5.size)⟩
theorem ins_none {Q : Nat} (W : World) :
    ∃ A6 c6 w6, (Builtin.append_ #[38, 38] 38 #[.slice (some ⟨W.heap.size, 0, none⟩) 1 1, .slice none 0 0]).run Tryz.prog (W.drew.alloc (.cells #[qp Q] 37)) = .ok (.slice (some ⟨W.heap.size, 0, none⟩) 1 1) (W.drew.alloc (.cells #[qp Q] 37)) ∧
      (Builtin.append_ #[38, 38] 38 #[.slice none 0 0, .slice (some ⟨W.heap.size, 0, none⟩) 1 1]).run Tryz.prog (W.drew.alloc (.cells #[qp Q] 37)) = .ok (.slice A6 1 c6) w6 ∧ Rd w6 W.heap.size A6 c6 [Q] ∧ Below W.heap.size W w6 := by
  have hB1 : Below W.heap.size W (W.drew.alloc (.cells #[qp Q] 37)) := (drew_below W 1).trans (box_below W.drew _)
  obtain ⟨A6, c6, w6, hrun6, hj6⟩ := join_some (W := W.drew.alloc (.cells #[qp Q] 37)) (l1 := []) (l2 := [Q]) (Rd.nilq _ 0) (Rd.lit W.drew Q).from (by simp) (by simp) 1 38
  exact ⟨A6, c6, w6, join_nil 38, hrun6, hj6.rd.weak hB1.size, hB1.trans (hj6.bel.mono hB1.size)⟩
/-- what the append of a removal comes to -/
theorem del_some {g i : Nat} {l : List Nat} (hrd : Rd W K (some ⟨g, 0, none⟩) c l) (hi : i < l.length) (hl : l.length ≤ 5000) (hK : K ≤ W.heap.size) {sa : Addr} (hs : sa = if c = i + 1 then ⟨g, 0, none⟩ else ⟨g, i + 1, none⟩) {n : Nat} (hn : l.length = n) :
    ∃ A6 c6 w6, (Builtin.append_ #[38, 38] 38 #[.slice (some ⟨g, 0, none⟩) i i, .slice (some sa) (n - (i + 1)) (c - (i + 1))]).run Tryz.prog W.drew = .ok (.slice A6 (i + (n - (i + 1))) c6) w6 ∧ Rd w6 K A6 c6 (l.take i ++ l.drop (i + 1)) ∧ Below W.heap.size W w6 ∧ (A6 = some ⟨g, 0, none⟩ ∨ ∀ a, A6 = some a → W.heap.size ≤ a.block) := by
  subst hn
  have hd := drew_below W 1
  have hl1 : (l.take i).length = i := by rw [List.length_take]; omega
  have hsf : From W.drew (some sa) (l.drop (i + 1)) := by
    subst hs
    by_cases hc : c = i + 1
    · have := hrd.cap
      have e : l.drop (i + 1) = [] := List.drop_eq_nil_of_le (by omega)
      rw [e]
      exact fun j hj => by simp at hj
    · rw [if_neg hc]
      exact (hrd.below hd).drops
  obtain ⟨A6, c6, w6, h1, h2, h3, h4⟩ := join_any (W := W.drew) (sc := c - (i + 1)) ((hrd.below hd).takes (Nat.le_of_lt hi)) hsf (by rw [hl1, List.length_drop]; omega) hK 38
  rw [hl1, List.length_drop] at h1
  exact ⟨A6, c6, w6, h1, h2, hd.trans h3, h4⟩
end
end Go.Proofs.YtjhkejkdnjogiaaGreatDoor.Rt
/- The document's table: what an Ask leaves. -/
namespace Go.Proofs.YtjhkejkdnjogiaaGreatDoor.Rt
open Go Go.RowKit Go.Shelf
set_option maxRecDepth 100000

/-- what an Ask of the document's table comes to -/
def Aske (W : World) (t K m : Nat) (mr : Int) (es : List Nd) (A : Option Addr) (D : Nat → Prop) (C : Pa.Pt → Cx) (p : Pa.Pt) (Y : Int × Int × Cx) (e : Ending) (w' : World) : Prop :=
  e = .returned (.tuple #[.int .i64 Y.1, .int .i64 Y.2.1]) ∧ ∃ es', Dout W t K m mr es A D es' w' ∧ Rel (upC C p Y.2.2) es'
section
variable {W W' w w8 w9 : World} {t K m c c' : Nat} {mr : Int} {es es' : List Nd} {D D' T : Nat → Prop} {A A' : Option Addr} {e : Nd} {A1 A2 : Option Addr} {c1 c2 : Nat} {p : Pa.Pt} {H : List Hs.Hd} {L : List Ws.Wt} {C : Pa.Pt → Cx} {Q : Nat}
theorem Aske.same {Y : Int × Int × Cx} (h : Di W t K m mr es D A c) (R : Rel C es) (hb : Below W.heap.size W w) (hY : Y.2.2 = C p) : Aske W t K m mr es A D C p Y (.returned (.tuple #[.int .i64 Y.1, .int .i64 Y.2.1])) w :=
  ⟨rfl, es, Dout.same h hb, R.same hY⟩
/-- a list that lies off what there was, and off a queue -/
abbrev Fresh (W : World) (Q : Nat) (k : Nat) : Prop := k < W.heap.size ∨ k = Q
theorem set_done {g i : Nat} (h : Di W t K m mr es D (some ⟨g, 0, none⟩) c) (R : Rel C es) (hb : Below W.heap.size W w8) (hR : RAt w8 Q p A1 c1 A2 c2 H L) (hQ : W.heap.size ≤ Q) (o1 : Off (Fresh W Q) A1 H) (o2 : Off (Fresh W Q) A2 L)
    (hi : i < es.length) (hp : es[i].p = p) (hx : 0 < szC (H, L)) {Y : Int × Int × Cx} (hY : Y.2.2 = (H, L)) :
    Aske W t K m mr es (some ⟨g, 0, none⟩) D C p Y (.returned (.tuple #[.int .i64 Y.1, .int .i64 Y.2.1])) (w8.setCell ⟨g, i, none⟩ (qp Q)) := by
  subst hp
  have h8 := h.wide hb (N := (· = Q)) (fun k hk => ⟨hk ▸ hQ, hk ▸ hR.lt⟩)
  have hlt := h.lt
  have hDQ : ∀ k, Own t (some ⟨g, 0, none⟩) es k → k < W.heap.size := fun k hk => h.dl k (h.own k hk)
  have hof : ∀ k, (D k ∨ k = Q) → Fresh W Q k := fun k hk => hk.imp (h.dl k) id
  obtain ⟨h9, hn⟩ := h8.setq hi hR (.inr rfl) (fun hk => by have := hDQ Q hk; omega) (by have := h.kt; omega) (o1.mono hof) (o2.mono hof)
  refine ⟨rfl, es.set i ⟨es[i].p, Q, H, L⟩, ⟨_, _, _, h9, ?_, (Nb.below hb).trans hn, fun k hk => .inl hk, ?_⟩, ?_⟩
  · exact (OnlyS.of_below hb).trans ((OnlyS.set g i w8 (qp Q)).mono fun k _ hk => .inr (.inl ⟨_, rfl, hk.symm⟩))
  · rintro k (rfl | hk | ⟨e, he, rfl⟩)
    · exact .inl (.inl rfl)
    · exact .inl (.inr (.inl hk))
    · rcases List.mem_or_eq_of_mem_set he with he | rfl
      · exact .inl (.inr (.inr ⟨e, he, rfl⟩))
      · exact .inr hQ
  · rw [hY]
    exact R.set hi Q hx
theorem ins_done {k n' c6 : Nat} {A6 : Option Addr} (h : Di W t K m mr es D A c) (R : Rel C es) (hb : Below W.heap.size W w8) (hR : RAt w8 Q p A1 c1 A2 c2 H L) (hQ : W.heap.size ≤ Q) (o1 : Off (Fresh W Q) A1 H) (o2 : Off (Fresh W Q) A2 L)
    (hn : ∀ e, e ∈ es → e.p ≠ p) (hp : Pa.rightB p = true) (hk : k ≤ es.length) (hbl : ∀ (i : Nat) (_ : i < k) (hi : i < es.length), Pa.lessB es[i].p p = true) (ha : ∀ hi : k < es.length, Pa.lessB es[k].p p = false)
    (hrd : Rd w9 w8.heap.size A6 c6 ((es.map (·.q)).take k ++ ([Q] ++ (es.map (·.q)).drop k))) (hb9 : Below w8.heap.size w8 w9) (hx : 0 < szC (H, L)) (hn' : es.length + 1 = n') {Y : Int × Int × Cx} (hY : Y.2.2 = (H, L)) :
    Aske W t K m mr es A D C p Y (.returned (.tuple #[.int .i64 Y.1, .int .i64 Y.2.1])) (w9.setCell ⟨t, 0, none⟩ (.slice A6 n' c6)) := by
  have h8 := h.wide hb (N := (· = Q)) (fun k hk => ⟨hk ▸ hQ, hk ▸ hR.lt⟩)
  have h9 := h8.wide hb9 (N := fun k => ∃ a, A6 = some a ∧ a.block = k) (fun k ⟨a, ha, hk⟩ => hk ▸ hrd.lt a ha)
  have hlt := h.lt
  have hs8 := hb.size
  have hQ8 := hR.lt
  have hql : ∀ e, e ∈ es → e.q < W.heap.size := fun e he => h.dl _ (h.dq e he)
  have hm : ∀ e, e ∈ es.take k ++ ([⟨p, Q, H, L⟩] ++ es.drop k) → e = ⟨p, Q, H, L⟩ ∨ e ∈ es := by
    intro e he
    rw [List.mem_append, List.mem_append, List.mem_singleton] at he
    rcases he with he | he | he
    · exact .inr (List.mem_of_mem_take he)
    · exact .inl he
    · exact .inr (List.mem_of_mem_drop he)
  have hmap : (es.take k ++ ([(⟨p, Q, H, L⟩ : Nd)] ++ es.drop k)).map (fun e : Nd => e.q) = (es.map (·.q)).take k ++ ([Q] ++ (es.map (·.q)).drop k) := by simp
  have hof : ∀ {α : Type} {B : Option Addr} {xs : List α}, (xs = [] ∨ ∀ a, B = some a → a.block < w8.heap.size) → Off (Fresh W Q) B xs → Off (fun k => (D k ∨ k = Q) ∨ ∃ a, A6 = some a ∧ a.block = k) B xs := fun hi ho =>
    ho.grow hi fun k hk => hk.imp (fun q => q.imp (h.dl k) id) fun ⟨a, ha, q⟩ => q ▸ (hrd.lt a ha).1
  obtain ⟨h10, hn10⟩ := h9.relist (es' := es.take k ++ ([⟨p, Q, H, L⟩] ++ es.drop k)) (D' := fun k => (D k ∨ k = Q) ∨ ∃ a, A6 = some a ∧ a.block = k) (by rw [hmap]; exact hrd.weak (by have := h.kt; omega)) (fun _ hk => hk) h9.dl
    (fun e he => by
      rcases hm e he with rfl | he
      · exact ⟨A1, c1, A2, c2, hR.below hb9, hof hR.h.in o1, hof hR.l.in o2⟩
      · exact h9.ent e he)
    (by
      rw [hmap]
      have hp : ((es.map (·.q)).take k ++ ([Q] ++ (es.map (·.q)).drop k)).Perm (Q :: es.map (·.q)) := by
        have := List.perm_middle (a := Q) (l₁ := (es.map (·.q)).take k) (l₂ := (es.map (·.q)).drop k)
        rw [List.take_append_drop] at this
        exact this
      refine hp.nodup_iff.2 (List.nodup_cons.2 ⟨fun hq => ?_, h.one⟩)
      obtain ⟨e, he, hq⟩ := List.mem_map.1 hq
      have := hql e he
      omega)
    (fun a ha => .inr ⟨a, ha, rfl⟩)
    (fun e he => by
      rcases hm e he with rfl | he
      · exact .inl (.inr rfl)
      · exact .inl (.inl (h.dq e he)))
    (fun a ha => by have := (hrd.lt a ha).1; omega)
    (fun e he => by
      rcases hm e he with rfl | he
      · exact ⟨by simp only; omega, fun a ha => by have := (hrd.lt a ha).1; simp only; omega⟩
      · exact ⟨(h.nq e he).1, fun a ha => by have := (hrd.lt a ha).1; have := hql e he; omega⟩)
    (fun e he => by
      rcases hm e he with rfl | he
      · have := h.kt; simp only; omega
      · exact h.kq e he)
    (n := n') (by rw [← hn', List.length_append, List.length_append, List.length_take, List.length_drop, List.length_singleton]; omega)
  refine ⟨rfl, _, ⟨_, _, _, h10, ?_, ((Nb.below hb).then hb9).trans hn10, fun k hk => .inl (.inl hk), ?_⟩, ?_⟩
  · exact ((OnlyS.of_below hb).trans (OnlyS.of_below hb9)).trans ((OnlyS.set t 0 w9 _).mono fun k _ hk => .inl hk)
  · rintro k (rfl | ⟨a, ha, rfl⟩ | ⟨e, he, rfl⟩)
    · exact .inl (.inl rfl)
    · exact .inr (Nat.le_trans hs8 (hrd.lt a ha).1)
    · rcases hm e he with rfl | he
      · exact .inr hQ
      · exact .inl (.inr (.inr ⟨e, he, rfl⟩))
  · rw [hY]
    exact R.ins hn hp hk hbl ha Q hx
end
end Go.Proofs.YtjhkejkdnjogiaaGreatDoor.Rt
