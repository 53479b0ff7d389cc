/- A table: New, what it tells of itself; a copy of a node's queue. -/
import Derived.Test.YtjhkejkdnjogiaaGreatDoorTf
namespace Go.Proofs.YtjhkejkdnjogiaaGreatDoor
open Go Go.RowKit Go.Shelf
set_option maxRecDepth 100000

def clamp (x : Int) (hi : Nat) : Nat := if x < 0 then 0 else if (hi : Int) < x then hi else x.toNat
theorem clamp_le (x : Int) (hi : Nat) : clamp x hi ≤ hi := by unfold clamp; split <;> (try split) <;> omega
section
variable {W W' w' w0 : World} {T : Nat → Prop} {b ha mb B0 m nb i B c Q u t : Nat} {mr : Int} {ns ns' : Ns} {n : Nd} {p : Pa.Pt} {C : Pa.Pt → Cx}
theorem tnew_done {w1 w2 : World} {O : Nat → Prop} {Lo : Nat} (h0 : 0 < W.heap.size) (hA : An.ArenaAt w1 W.heap.size m (.slice none 0 0) (.slice none 0 0) [] []) (hb1 : Below W.heap.size W w1) (hM : Bu.Mq w2 Lo O mb 4 0 (fun _ => none))
    (hO : ∀ k, O k → w1.heap.size ≤ k ∧ k < w2.heap.size) (hb2 : Below w1.heap.size w1 w2) (hmr : 0 ≤ mr ∧ mr ≤ 1024) :
    ∃ T, Ta (w2.alloc (.cells #[An.wp W.heap.size, Bu.wp mb, .int .i64 mr, .int .i64 0] 100)) w2.heap.size T m mr 0 (fun _ => ([], [])) W.heap.size 0 0 ∧ Below W.heap.size W (w2.alloc (.cells #[An.wp W.heap.size, Bu.wp mb, .int .i64 mr, .int .i64 0] 100)) := by
  have hx := box_below w2 (.cells #[An.wp W.heap.size, Bu.wp mb, .int .i64 mr, .int .i64 0] 100)
  have hlt := hA.lt
  have hs1 := hb1.size
  have hs2 := hb2.size
  have hAr : An.Ar w1 W.heap.size (fun k => k = W.heap.size) m [] [] := ⟨_, _, hA, fun k => by simp [Value.ownBlock]⟩
  obtain ⟨g, cc, cs, hm⟩ := hM
  have hno : ∀ i n, ¬ Isn [] i n := fun i n h => by unfold Isn at h; simp at h
  refine ⟨Foot w2.heap.size (fun k => k = W.heap.size) O [], ⟨[], ⟨W.heap.size, mb, fun k => k = W.heap.size, O, 4, 0, [], fun _ => none, ⟨?_, ?_, ?_, ?_, ?_, ?_, ⟨Lo, g, cc, cs, hm.below hx⟩, ?_, ?_, ?_, ?_, ?_, ?_, ?_, h0⟩, Ok.nil, by omega, by omega, by omega, fun k => Iff.rfl⟩, ?_, rfl, rfl, by omega, hmr.1, hmr.2⟩, ?_⟩
  · simp [go_sem]
  · simp [go_sem]
  · simp [go_sem]
  · simp [go_sem]; rfl
  · simp [go_sem]
  · exact (hAr.below hb2).below hx
  · intro i n h; exact absurd h (hno i n)
  · intro i n h; exact absurd h (hno i n)
  · intro i n j k h; exact absurd h (hno i n)
  · intro k hk ho
    have := hO k ho
    omega
  · omega
  · intro ho
    have := hO _ ho
    omega
  · rintro k (hk | ⟨i, n, h, -⟩)
    · rcases hk with hk | hk | hk
      · omega
      · omega
      · have := hO k hk
        omega
    · exact absurd h (hno i n)
  · intro i n h; exact absurd h (hno i n)
  · exact (hb1.trans (hb2.mono hs1)).trans (hx.mono (by omega))
set_option maxHeartbeats 1000000 in
theorem tnew_any (hd rq : Int) (W : World) (h0 : 0 < W.heap.size) : Calls Tryz.prog 24 #[.int .i64 hd, .int .i64 rq] W fun e w' => ∃ b T, e = .returned (tp b) ∧ Ta w' b T (clamp hd 256) ((clamp rq 1024 : Nat) : Int) 0 (fun _ => ([], [])) W.heap.size 0 0 ∧ Below W.heap.size W w' := by
  have HA := Lib.hid (fun (x : Int) (k : Nat) (hk : k ≤ 256) (hx : x = k) => (show Calls Tryz.prog 46 #[.int .i64 x] W fun e w' => e = .returned (An.wp W.heap.size) ∧ An.ArenaAt w' W.heap.size k (.slice none 0 0) (.slice none 0 0) [] [] ∧ Below W.heap.size W w' from by
    subst hx
    have := An.new_any (k : Int) W
    rw [show An.cl (k : Int) = k by unfold An.cl; rw [if_neg (by omega), if_neg (by omega)]; simp] at this
    exact this))
  have HF := Lib.hid (fun (m : Nat) (mr : Int) (w1 w2 : World) (hA : An.ArenaAt w1 W.heap.size m (.slice none 0 0) (.slice none 0 0) [] []) (hb1 : Below W.heap.size W w1) (hM : Bu.Mq w2 w1.heap.size (fun k => w1.heap.size ≤ k ∧ k < w2.heap.size) (w1.heap.size + 1) 4 0 (fun _ => none)) (hb2 : Below w1.heap.size w1 w2) (hmr : 0 ≤ mr ∧ mr ≤ 1024) => tnew_done h0 hA hb1 hM (fun _ h => h) hb2 hmr)
  clear h0
  have hcases : ∀ (x : Int) (hi : Nat) (hI : Int), hI = hi → (x < 0 ∧ clamp x hi = 0) ∨ (¬ x < 0 ∧ hI < x ∧ clamp x hi = hi) ∨ (¬ x < 0 ∧ ¬ hI < x ∧ ∃ k : Nat, x = k ∧ clamp x hi = k) := fun x hi hI e => by
    subst e
    by_cases h1 : x < 0
    · exact .inl ⟨h1, by unfold clamp; rw [if_pos h1]⟩
    · by_cases h2 : (hi : Int) < x
      · exact .inr (.inl ⟨h1, h2, by unfold clamp; rw [if_neg h1, if_pos h2]⟩)
      · exact .inr (.inr ⟨h1, h2, x.toNat, by omega, by unfold clamp; rw [if_neg h1, if_neg h2]⟩)
  rcases hcases hd 256 256 rfl with ⟨a1, a3⟩ | ⟨a1, a2, a3⟩ | ⟨a1, a2, k, rfl, a3⟩ <;> rcases hcases rq 1024 1024 rfl with ⟨b1, b3⟩ | ⟨b1, b2, b3⟩ | ⟨b1, b2, l, rfl, b3⟩
  all_goals
    clear hcases
    rw [a3, b3]
    clear a3 b3
    go_enter Tryz.func24, Tryz.ntmps24
    go_wp2_with fail
    (first | refine (HA.out _ k (by omega) rfl).mono ?_ | refine (HA.out 0 0 (by decide) rfl).mono ?_ | refine (HA.out 256 256 (by decide) rfl).mono ?_)
    rintro e w1 ⟨rfl, hA, hb1⟩
    have HA1 := Lib.hid hA
    have HB1 := Lib.hid hb1
    clear hA hb1
    go_wp2_with fail
    refine (Bu.new_any w1).mono ?_
    rintro e w2 ⟨rfl, hM, hb2⟩
    have HE := Lib.hid (fun mr hmr => HF.out _ mr w1 w2 HA1.out HB1.out hM hb2 hmr)
    clear hM hb2
    go_wp2
    go_ret
    (first
      | (obtain ⟨T, k1, k2⟩ := HE.out (l : Int) (by omega); exact ⟨_, T, rfl, k1, k2⟩)
      | (obtain ⟨T, k1, k2⟩ := HE.out 0 (by decide); exact ⟨_, T, rfl, k1, k2⟩)
      | (obtain ⟨T, k1, k2⟩ := HE.out 1024 (by decide); exact ⟨_, T, rfl, k1, k2⟩))
theorem Tx.len {r : Int} (h : Tx W b T m mr c ns r C B0) : ∃ ha mb, ∀ W', Below W.heap.size W W' → (Calls Tryz.prog 88 #[An.wp ha] W' fun e w' => e = .returned (.int .i64 (us ns : Int)) ∧ ∃ j, w' = W'.drewN j) ∧
    (Calls Tryz.prog 50 #[An.wp ha] W' fun e w' => e = .returned (.int .i64 ((m : Int) - (us ns : Int))) ∧ ∃ j, w' = W'.drewN j) ∧ Calls Tryz.prog 66 #[tp b] W' fun e w' => e = .returned (tv (An.wp ha) (Bu.wp mb) (.int .i64 mr) (.int .i64 r)) ∧ Below W'.heap.size W' w' := by
  obtain ⟨ha, mb, S, O, nb, t, fs, F, h1, h2, h3⟩ := h.is
  have hc := h2.cnt
  refine ⟨ha, mb, fun W' hb => ⟨?_, ?_, (h1.below hb).its⟩⟩
  · obtain ⟨pv, fv, hA, -⟩ := (h1.below hb).ar
    have := An.len_any hA
    rw [pls_len] at this
    rw [show (ns.length : Int) - (fs.length : Int) = (us ns : Int) by omega] at this
    exact this
  · obtain ⟨pv, fv, hA, -⟩ := (h1.below hb).ar
    have := An.left_any hA
    rw [pls_len] at this
    rw [show (m : Int) - ((ns.length : Int) - (fs.length : Int)) = (m : Int) - (us ns : Int) by omega] at this
    exact this
/-- what is told of a node's queue: nil, or a copy -/
def Cpy (W : World) (x : Cx) (e : Ending) (w' : World) : Prop := Below W.heap.size W w' ∧ ((szC x = 0 ∧ e = .returned (.pointer none)) ∨ (0 < szC x ∧ ∃ B A1 c1 A2 c2, e = .returned (qp B) ∧ QAt w' B A1 c1 A2 c2 x.1 x.2 ∧ W.heap.size ≤ B ∧ (∀ a, A1 = some a → W.heap.size ≤ a.block) ∧ ∀ a, A2 = some a → W.heap.size ≤ a.block))
theorem Ta.queue (h : Ta W b T m mr c C B0 u t) (hc : c ≤ 400) (p : Pa.Pt) : Calls Tryz.prog 8 #[tp b, p.v] W (Cpy W (C p)) := by
  obtain ⟨ns, g1, g2, g3, g4, g5, g6⟩ := h.is
  have hx := box_below W (.cells (pcs p) 25)
  have HX := Lib.hid hx
  have HFi := Lib.hid ((g1.below hx).find p)
  have HB := Lib.hid (Pbx.new W p 25)
  have hsz := g1.size p
  have HNe := Lib.hid (show (∃ i n, Isn ns i n ∧ n.p = p) → 0 < szC (C p) from fun ⟨i, n, hi, e⟩ => by rw [← e, g1.cy hi]; exact g2 i n hi)
  have HCo := Lib.hid (fun (w : World) (Q : Nat) (hq : ∃ A1 c1 A2 c2, QAt w Q A1 c1 A2 c2 (C p).1 (C p).2) => (show Calls Tryz.prog 33 #[qp Q] w (Mk w (C p).1 (C p).2) from by
    obtain ⟨A1, c1, A2, c2, hq⟩ := hq
    exact copy_some hq.its (by omega) (by omega)))
  clear h g1 g2 g3 g4 g5 g6 hx hsz
  obtain ⟨pa, pb, pc, pd, pe⟩ := p
  have hB1 := HB.out
  have b0 := hB1.c0
  have b1 := hB1.c1
  have b2 := hB1.c2
  have b3 := hB1.c3
  have b4 := hB1.c4
  simp only at b0 b1 b2 b3 b4
  clear hB1
  go_enter Tryz.func8, Tryz.ntmps8
  go_wp2_with fail
  refine HFi.out.mono ?_
  rintro e w1 ⟨Q, is, rfl, hb1, hq, hor⟩
  have HX1 := Lib.hid (HX.out.trans (hb1.mono HX.out.size))
  have HC1 := Lib.hid (HCo.out w1 Q hq)
  have HO := Lib.hid hor
  clear hb1 hq hor HFi HCo b0 b1 b2 b3 b4
  rcases HO.out with ⟨rfl, i, n, hi, hnp, -⟩ | ⟨rfl, hn, -, -, hC⟩
  · have HZ := Lib.hid (HNe.out ⟨i, n, hi, hnp⟩)
    clear hi hnp
    go_wp2_with fail
    refine HC1.out.mono ?_
    rintro e w2 ⟨B, A1, c1, A2, c2, rfl, hq, hb, hB, f1, f2⟩
    have HE := Lib.hid (show Cpy W (C ⟨pa, pb, pc, pd, pe⟩) (.returned (qp B)) w2 from ⟨HX1.out.trans (hb.mono HX1.out.size), .inr ⟨HZ.out, B, A1, c1, A2, c2, rfl, hq, Nat.le_trans HX1.out.size hB, fun a ha => Nat.le_trans HX1.out.size (f1 a ha), fun a ha => Nat.le_trans HX1.out.size (f2 a ha)⟩⟩)
    clear hq hb hB f1 f2
    go_wp2_with fail
    go_ret
    exact HE.out
  · have HE := Lib.hid (show Cpy W (C ⟨pa, pb, pc, pd, pe⟩) (.returned (.pointer none)) w1 from ⟨HX1.out, .inl ⟨by rw [hC]; rfl, rfl⟩⟩)
    clear hn hC
    go_wp2_with fail
    go_ret
    exact HE.out
end
end Go.Proofs.YtjhkejkdnjogiaaGreatDoor
/- A table beside what there was; deeds that came in; the chapter's example. -/
namespace Go.Proofs.YtjhkejkdnjogiaaGreatDoor
open Go Go.RowKit Go.Shelf
set_option maxRecDepth 100000

/-- the nodes of a table -/
def nds (ns : Ns) : List Nd := ns.filterMap id
section
variable {ns : Ns} {n : Nd} {i : Nat}
theorem mem_nds : n ∈ nds ns ↔ ∃ i, Isn ns i n := by
  unfold nds Isn
  rw [List.mem_filterMap]
  constructor
  · rintro ⟨a, ha, hn⟩
    obtain ⟨i, hi, e⟩ := List.mem_iff_getElem.1 ha
    refine ⟨i, ?_⟩
    rw [List.getElem?_eq_getElem hi, e]
    simp at hn
    rw [hn]
  · rintro ⟨i, hi⟩
    exact ⟨some n, List.mem_of_getElem? hi, rfl⟩
theorem us_nds (ns : Ns) : us ns = (nds ns).length ∧ tot ns = ((nds ns).map fun n => n.H.length + n.L.length).sum := by
  induction ns with
  | nil => exact ⟨rfl, rfl⟩
  | cons z ns ih =>
    unfold us tot at *
    rw [sm_cons, sm_cons, ih.1, ih.2]
    unfold nds
    cases z with
    | none => simp [oneN, szN]
    | some n => simp [oneN, szN]; omega
theorem nds_once (h : ∀ i n j m, Isn ns i n → Isn ns j m → n.p = m.p → i = j) : ((nds ns).map (·.p)).Nodup := by
  unfold List.Nodup nds
  rw [List.pairwise_map, List.pairwise_filterMap, List.pairwise_iff_getElem]
  intro i j hi hj hij a ha b hb e
  have h1 : Isn ns i a := by unfold Isn; rw [List.getElem?_eq_getElem hi]; simp at ha; rw [ha]
  have h2 : Isn ns j b := by unfold Isn; rw [List.getElem?_eq_getElem hj]; simp at hb; rw [hb]
  have := h i a j b h1 h2 e
  omega
end
section
variable {W W' w' w w0 : World} {T T' : Nat → Prop} {b B0 m i B c Q u t : Nat} {mr : Int} {ns ns' : Ns} {n : Nd} {p : Pa.Pt} {C : Pa.Pt → Cx} {H : List Hs.Hd} {L : List Ws.Wt}
theorem Tx.one {r : Int} (h : Tx W b T m mr c ns r C B0) : ∀ i n j m, Isn ns i n → Isn ns j m → n.p = m.p → i = j := by
  obtain ⟨ha, mb, S, O, nb, t, fs, F, h1, h2, h3⟩ := h.is
  exact fun i n j m hi hj e => h2.one i n j m hi hj (.inl e)
/-- so many nodes, holds and waits there are: those at the nodes that have some -/
theorem Ta.count (h : Ta W b T m mr c C B0 u t) {ps : List Pa.Pt} (hnd : ps.Nodup) (hm : ∀ p, p ∈ ps ↔ 0 < szC (C p)) : u = ps.length ∧ t = (ps.map fun p => szC (C p)).sum := by
  obtain ⟨ns, h1, h2, rfl, rfl, -⟩ := h.is
  obtain ⟨e1, e2⟩ := us_nds ns
  have hp : ((nds ns).map (·.p)).Perm ps := by
    refine (List.perm_ext_iff_of_nodup (nds_once h1.one) hnd).2 fun p => ?_
    rw [hm p, List.mem_map]
    constructor
    · rintro ⟨n, hn, rfl⟩
      obtain ⟨i, hi⟩ := mem_nds.1 hn
      rw [h1.cy hi]
      exact h2 i n hi
    · intro hz
      by_cases hp : ∃ i n, Isn ns i n ∧ n.p = p
      · obtain ⟨i, n, hi, e⟩ := hp
        exact ⟨n, mem_nds.2 ⟨i, hi⟩, e⟩
      · rw [h1.cn fun i n hi e => hp ⟨i, n, hi, e⟩] at hz
        exact absurd hz (Nat.lt_irrefl 0)
  refine ⟨?_, ?_⟩
  · rw [e1, ← hp.length_eq, List.length_map]
  · rw [e2, ← (hp.map fun p => szC (C p)).sum_nat, List.map_map]
    congr 1
    refine List.map_congr_left fun n hn => ?_
    obtain ⟨i, hi⟩ := mem_nds.1 hn
    show _ = szC (C n.p)
    rw [h1.cy hi]
    rfl
theorem Ta.inv (h : Ta W b T m mr c C B0 u t) (p : Pa.Pt) : Inv (C p).1 (C p).2 := by
  obtain ⟨ns, h1, -⟩ := h.is
  exact h1.inv p
theorem Ta.wrong (h : Ta W b T m mr c C B0 u t) {p : Pa.Pt} (hp : errP p ≠ 0) : C p = ([], []) := by
  obtain ⟨ns, h1, -⟩ := h.is
  refine h1.cn fun i n hi e => hp ?_
  rw [← e]
  unfold errP
  rw [if_pos (h1.right hi)]
theorem Ta.lt (h : Ta W b T m mr c C B0 u t) {k : Nat} (hk : T k) : B0 ≤ k ∧ k < W.heap.size := by
  obtain ⟨ns, h1, -⟩ := h.is
  exact h1.lt hk
theorem Ta.bounds (h : Ta W b T m mr c C B0 u t) : u ≤ m ∧ (t : Int) ≤ mr ∧ t ≤ c ∧ mr ≤ 1024 ∧ m ≤ 4096 := by
  obtain ⟨ns, h1, h2, rfl, rfl, h5, h6, h7⟩ := h.is
  exact ⟨h1.usm.1, h6, h5, h7, h1.usm.2⟩
theorem Ta.size {W : World} {b : Nat} {T : Nat → Prop} {m : Nat} {mr : Int} {c : Nat} {C : Pa.Pt → Cx} {B0 u t : Nat} (h : Ta W b T m mr c C B0 u t) (p : Pa.Pt) : (C p).1.length + (C p).2.length ≤ t := by
  obtain ⟨ns, h1, h2, h3, rfl, -⟩ := h.is
  exact h1.size p
/-- what lies beside a table stays, whatever the table does -/
def Stays (K : (Nat → Prop) → World → Prop) : Prop := ∀ T T' W W', K T W → (∀ k, T k → k < W.heap.size) → OnlyS T W W' → (∀ k, T' k → T k ∨ W.heap.size ≤ k) → K T' W'
abbrev Nil : (Nat → Prop) → World → Prop := fun _ _ => True
theorem nil_stays : Stays Nil := fun _ _ _ _ _ _ _ _ => trivial
/-- a queue beside -/
def Bes (Q : Nat) (H : List Hs.Hd) (L : List Ws.Wt) (T : Nat → Prop) (W : World) : Prop := ∃ A1 c1 A2 c2, QAt W Q A1 c1 A2 c2 H L ∧ ¬ T Q ∧ Off T A1 H ∧ Off T A2 L
theorem bes_stays (Q : Nat) (H : List Hs.Hd) (L : List Ws.Wt) : Stays (Bes Q H L) := by
  rintro T T' W W' ⟨A1, c1, A2, c2, hq, h1, h2, h3⟩ hT ho hT'
  refine ⟨A1, c1, A2, c2, hq.stay ho h1 h2 h3, fun hk => ?_, h2.grow hq.h.in hT', h3.grow hq.l.in hT'⟩
  rcases hT' Q hk with q | q
  · exact h1 q
  · have := hq.lt; omega
/-- a table made since, and what lies beside it -/
structure Ot (w W : World) (b m : Nat) (mr : Int) (c : Nat) (C : Pa.Pt → Cx) (u t : Nat) (K : (Nat → Prop) → World → Prop) : Prop where
  is : ∃ T B0, Ta W b T m mr c C B0 u t ∧ w.heap.size ≤ B0 ∧ K T W
  bel : Below w.heap.size w W
variable {K : (Nat → Prop) → World → Prop}
theorem Ot.below (h : Ot w W b m mr c C u t K) (hK : Stays K) (hb : Below W.heap.size W W') : Ot w W' b m mr c C u t K := by
  obtain ⟨T, B0, h1, h2, h3⟩ := h.is
  exact ⟨⟨T, B0, h1.below hb, h2, hK T T W W' h3 (fun _ hk => (h1.lt hk).2) (OnlyS.of_below hb) fun _ hk => .inl hk⟩, h.bel.trans (hb.mono h.bel.size)⟩
theorem Ot.more {c' : Nat} (h : Ot w W b m mr c C u t K) (hc : c ≤ c') : Ot w W b m mr c' C u t K := by
  obtain ⟨T, B0, h1, h2, h3⟩ := h.is
  exact ⟨⟨T, B0, h1.more hc, h2, h3⟩, h.bel⟩
theorem Ot.step {c' u' t' : Nat} {C' : Pa.Pt → Cx} (h : Below w.heap.size w W) (h1 : Ta W b T m mr c C B0 u t) (h2 : w.heap.size ≤ B0) (h3 : K T W) (hK : Stays K) (k1 : Ta W' b T' m mr c' C' B0 u' t') (ho : OnlyS T W W') (hT' : ∀ k, T' k → T k ∨ W.heap.size ≤ k) : Ot w W' b m mr c' C' u' t' K :=
  ⟨⟨T', B0, k1, h2, hK T T' W W' h3 (fun _ hk => (h1.lt hk).2) ho hT'⟩, h.trans (ho.below (fun _ hk => Nat.le_trans h2 (h1.lt hk).1) h.size)⟩
theorem Ot.ask (h : Ot w W b m mr c C u t K) (hK : Stays K) (ht : TabG w) (hc : c ≤ 239) (tx md fl : Int) (p : Pa.Pt) {Y : Int × Int × Cx} (hY : askT m mr u t C tx p md fl = Y) :
    Calls Tryz.prog 25 #[tp b, .int .i64 tx, p.v, .int .i64 md, .int .i64 fl] W fun e w' => e = .returned (.tuple #[.int .i64 Y.1, .int .i64 Y.2.1]) ∧ ∃ u' t', Ot w w' b m mr (c + 1) (upC C p Y.2.2) u' t' K ∧ (Y.2.1 ≠ 0 → u' = u ∧ t' = t) := by
  obtain ⟨T, B0, h1, h2, h3⟩ := h.is
  subst hY
  refine (h1.ask (ht.later h.bel) hc tx md fl p).mono ?_
  rintro e w' ⟨rfl, T', u', t', k1, k2, k3, k4, -⟩
  exact ⟨rfl, u', t', Ot.step h.bel h1 h2 h3 hK k1 k2 k3, k4⟩
theorem Ot.release (h : Ot w W b m mr c C u t K) (hK : Stays K) (ht : TabG w) (hc : c ≤ 239) (tx : Int) (p : Pa.Pt) {X : Out} (hX : relT rel C tx p = X) :
    Calls Tryz.prog 27 #[tp b, .int .i64 tx, p.v] W fun e w' => ∃ A k, e = .returned (.tuple #[.slice A X.told.length k, .int .i64 X.err]) ∧ ∃ u' t', Ot w w' b m mr (c + 1) (upC C p (X.hs, X.ws)) u' t' K := by
  obtain ⟨T, B0, h1, h2, h3⟩ := h.is
  subst hX
  refine (h1.release (ht.later h.bel) hc tx p).mono ?_
  rintro e w' ⟨A, k, rfl, -, -, T', u', t', k1, k2, k3, -⟩
  exact ⟨A, k, rfl, u', t', Ot.step h.bel h1 h2 h3 hK k1 k2 k3⟩
theorem Ot.cancel (h : Ot w W b m mr c C u t K) (hK : Stays K) (ht : TabG w) (hc : c ≤ 239) (tx : Int) (p : Pa.Pt) {X : Out} (hX : relT can C tx p = X) :
    Calls Tryz.prog 29 #[tp b, .int .i64 tx, p.v] W fun e w' => ∃ A k, e = .returned (.tuple #[.slice A X.told.length k, .int .i64 X.err]) ∧ ∃ u' t', Ot w w' b m mr (c + 1) (upC C p (X.hs, X.ws)) u' t' K := by
  obtain ⟨T, B0, h1, h2, h3⟩ := h.is
  subst hX
  refine (h1.cancel (ht.later h.bel) hc tx p).mono ?_
  rintro e w' ⟨A, k, rfl, -, -, T', u', t', k1, k2, k3, -⟩
  exact ⟨A, k, rfl, u', t', Ot.step h.bel h1 h2 h3 hK k1 k2 k3⟩
/-- a copy, or nil; it lies beside -/
theorem Ot.queue (h : Ot w W b m mr c C u t K) (hK : Stays K) (hc : c ≤ 400) (p : Pa.Pt) : Calls Tryz.prog 8 #[tp b, p.v] W fun e w' =>
    Ot w w' b m mr c C u t K ∧ ((szC (C p) = 0 ∧ e = .returned (.pointer none)) ∨ (0 < szC (C p) ∧ ∃ Q, e = .returned (qp Q) ∧ W.heap.size ≤ Q ∧ Ot w w' b m mr c C u t (Bes Q (C p).1 (C p).2))) := by
  obtain ⟨T, B0, h1, h2, h3⟩ := h.is
  refine (h1.queue hc p).mono ?_
  rintro e w' ⟨hb, hor⟩
  have ho := h.below hK hb
  refine ⟨ho, hor.imp id ?_⟩
  rintro ⟨hz, Q, A1, c1, A2, c2, rfl, hq, hQ, f1, f2⟩
  have hT : ∀ k, T k → k < W.heap.size := fun _ hk => (h1.lt hk).2
  exact ⟨hz, Q, rfl, hQ, ⟨T, B0, h1.below hb, h2, A1, c1, A2, c2, hq, fun hk => by have := hT Q hk; omega, .inr fun a ha hk => by have := hT _ hk; have := f1 a ha; omega, .inr fun a ha hk => by have := hT _ hk; have := f2 a ha; omega⟩, ho.bel⟩
theorem ot_new (hd rq : Int) (hb : Below w.heap.size w W) (h0 : 0 < w.heap.size) : Calls Tryz.prog 24 #[.int .i64 hd, .int .i64 rq] W fun e w' => ∃ b, e = .returned (tp b) ∧ Ot w w' b (clamp hd 256) ((clamp rq 1024 : Nat) : Int) 0 (fun _ => ([], [])) 0 0 Nil := by
  refine (tnew_any hd rq W (Nat.lt_of_lt_of_le h0 hb.size)).mono ?_
  rintro e w' ⟨b, T, rfl, h1, h2⟩
  exact ⟨b, rfl, ⟨T, W.heap.size, h1, hb.size, trivial⟩, hb.trans (h2.mono hb.size)⟩
end
/-- a deed: where, its kind, whose, which mode, which flag -/
structure Dd where
  p : Pa.Pt
  k : Int
  t : Int
  m : Int
  f : Int
/-- a deed of a list that came in -/
structure DeedAt (w : World) (ad : Addr) (i : Nat) (d : Dd) : Prop where
  c0 : w.cell? (ad.add (i * 9)) = some (.int .i64 d.p.a)
  c1 : w.cell? ⟨(ad.add (i * 9)).block, (ad.add (i * 9)).off + 1, none⟩ = some (.int .i64 d.p.b)
  c2 : w.cell? ⟨(ad.add (i * 9)).block, (ad.add (i * 9)).off + 2, none⟩ = some (.int .i64 d.p.c)
  c3 : w.cell? ⟨(ad.add (i * 9)).block, (ad.add (i * 9)).off + 3, none⟩ = some (.int .i64 d.p.d)
  c4 : w.cell? ⟨(ad.add (i * 9)).block, (ad.add (i * 9)).off + 4, none⟩ = some (.int .i64 d.p.e)
  c5 : w.cell? ⟨(ad.add (i * 9)).block, (ad.add (i * 9)).off + 5, none⟩ = some (.int .i64 d.k)
  c6 : w.cell? ⟨(ad.add (i * 9)).block, (ad.add (i * 9)).off + 6, none⟩ = some (.int .i64 d.t)
  c7 : w.cell? ⟨(ad.add (i * 9)).block, (ad.add (i * 9)).off + 7, none⟩ = some (.int .i64 d.m)
  c8 : w.cell? ⟨(ad.add (i * 9)).block, (ad.add (i * 9)).off + 8, none⟩ = some (.int .i64 d.f)
/-- deeds that came in, as a function -/
def InD (w : World) (A : Option Addr) (n : Nat) (d : Nat → Dd) : Prop := ∀ i, i < n → ∃ ad, A = some ad ∧ ad.block < w.heap.size ∧ DeedAt w ad i (d i) ∧ Hs.wf64 (d i).t
theorem InD.at {w w' : World} {A : Option Addr} {n i : Nat} {d : Nat → Dd} (h : InD w A n d) (hb : Below w.heap.size w w') (hi : i < n) : ∃ ad, A = some ad ∧ DeedAt w' ad i (d i) := by
  obtain ⟨ad, h1, h2, h4, -⟩ := h i hi
  have k : ∀ o, w'.cell? ⟨(ad.add (i * 9)).block, o, none⟩ = w.cell? ⟨(ad.add (i * 9)).block, o, none⟩ := fun o => hb.cell (p := ⟨(ad.add (i * 9)).block, o, none⟩) (by show (ad.add (i * 9)).block < _; rw [Hs.block_add']; exact h2)
  refine ⟨ad, h1, ⟨?_, (k _).trans h4.c1, (k _).trans h4.c2, (k _).trans h4.c3, (k _).trans h4.c4, (k _).trans h4.c5, (k _).trans h4.c6, (k _).trans h4.c7, (k _).trans h4.c8⟩⟩
  rw [hb.cell (p := ad.add (i * 9)) (by rw [Hs.block_add']; exact h2)]; exact h4.c0
abbrev dcs (d : Dd) : Array Value := #[.int .i64 d.p.a, .int .i64 d.p.b, .int .i64 d.p.c, .int .i64 d.p.d, .int .i64 d.p.e, .int .i64 d.k, .int .i64 d.t, .int .i64 d.m, .int .i64 d.f]
abbrev dv (d : Dd) : Value := .agg (dcs d)
/-- a deed in a block -/
structure Dbx (w : World) (K : Nat) (d : Dd) : Prop where
  c0 : w.cell? ⟨K, 0, none⟩ = some (.int .i64 d.p.a)
  c1 : w.cell? ⟨K, 1, none⟩ = some (.int .i64 d.p.b)
  c2 : w.cell? ⟨K, 2, none⟩ = some (.int .i64 d.p.c)
  c3 : w.cell? ⟨K, 3, none⟩ = some (.int .i64 d.p.d)
  c4 : w.cell? ⟨K, 4, none⟩ = some (.int .i64 d.p.e)
  c5 : w.cell? ⟨K, 5, none⟩ = some (.int .i64 d.k)
  c6 : w.cell? ⟨K, 6, none⟩ = some (.int .i64 d.t)
  c7 : w.cell? ⟨K, 7, none⟩ = some (.int .i64 d.m)
  c8 : w.cell? ⟨K, 8, none⟩ = some (.int .i64 d.f)
theorem Dbx.new (w : World) (d : Dd) (t : TypeId) : Dbx (w.alloc (.cells (dcs d) t)) w.heap.size d := by
  refine ⟨?_, ?_, ?_, ?_, ?_, ?_, ?_, ?_, ?_⟩ <;> simp [go_sem]
theorem Dbx.lt {w : World} {K : Nat} {d : Dd} (h : Dbx w K d) : K < w.heap.size := cell_lt h.c0
theorem Dbx.only {w w' : World} {K : Nat} {d : Dd} {T : Nat → Prop} (h : Dbx w K d) (ho : OnlyS T w w') (hK : ¬ T K) : Dbx w' K d := by
  have hb := ho.block K h.lt hK
  have k : ∀ o, w'.cell? ⟨K, o, none⟩ = w.cell? ⟨K, o, none⟩ := fun o => World.cell?_of_block (w := w) (a := ⟨K, o, none⟩) hb
  exact ⟨(k 0).trans h.c0, (k 1).trans h.c1, (k 2).trans h.c2, (k 3).trans h.c3, (k 4).trans h.c4, (k 5).trans h.c5, (k 6).trans h.c6, (k 7).trans h.c7, (k 8).trans h.c8⟩
theorem Dbx.below {w w' : World} {K : Nat} {d : Dd} (h : Dbx w K d) (hb : Below w.heap.size w w') : Dbx w' K d := h.only (OnlyS.of_below (S := fun _ => False) hb) id
/-- a deed's box beside a table -/
def Box (M : Nat) (d : Dd) (T : Nat → Prop) (W : World) : Prop := Dbx W M d ∧ ¬ T M
theorem box_stays (M : Nat) (d : Dd) : Stays (Box M d) := by
  rintro T T' W W' ⟨h1, h2⟩ hT ho hT'
  refine ⟨h1.only ho h2, fun hk => ?_⟩
  rcases hT' M hk with q | q
  · exact h2 q
  · have := h1.lt; omega
theorem and_stays {K K' : (Nat → Prop) → World → Prop} (h : Stays K) (h' : Stays K') : Stays (fun T W => K T W ∧ K' T W) :=
  fun T T' W W' hk hT ho hT' => ⟨h T T' W W' hk.1 hT ho hT', h' T T' W W' hk.2 hT ho hT'⟩
section
variable {w W : World} {b m c u t : Nat} {mr : Int} {C : Pa.Pt → Cx} {K K' : (Nat → Prop) → World → Prop}
theorem Ot.mono (h : Ot w W b m mr c C u t K) (hk : ∀ T W, K T W → K' T W) : Ot w W b m mr c C u t K' := by
  obtain ⟨T, B0, h1, h2, h3⟩ := h.is
  exact ⟨⟨T, B0, h1, h2, hk _ _ h3⟩, h.bel⟩
/-- a deed is boxed beside -/
theorem Ot.box (h : Ot w W b m mr c C u t K) (hK : Stays K) (d : Dd) (ty : TypeId) : Ot w (W.alloc (.cells (dcs d) ty)) b m mr c C u t (fun T W' => K T W' ∧ Box W.heap.size d T W') := by
  have hb := h.below hK (box_below W (.cells (dcs d) ty))
  obtain ⟨T, B0, h1, h2, h3⟩ := h.is
  refine ⟨⟨T, B0, h1.below (box_below W _), h2, hK T T W _ h3 (fun _ hk => (h1.lt hk).2) (OnlyS.of_below (box_below W _)) fun _ hk => .inl hk, Dbx.new W d ty, fun hk => by have := (h1.lt hk).2; omega⟩, hb.bel⟩
theorem Ot.boxed {d : Dd} {M : Nat} (h : Ot w W b m mr c C u t (fun T W' => K T W' ∧ Box M d T W')) : Dbx W M d := by
  obtain ⟨T, B0, h1, h2, h3⟩ := h.is
  exact h3.2.1
end
theorem askT_of {m u t : Nat} {mr tx md fl : Int} {C : Pa.Pt → Cx} {p : Pa.Pt} {x : Cx} (h : C p = x) : askT m mr u t C tx p md fl = askT m mr u t (fun _ => x) tx p md fl := by
  unfold askT
  simp only
  rw [h]
theorem ex1 : askT 1 9 0 0 (fun _ => ([], [])) 1 ⟨1, 0, 0, 0, 1⟩ 3 0 = (1, 0, [(1, 3)], []) := by kernel_rfl
theorem ex2 : askT 1 9 1 1 (upC (fun _ => ([], [])) ⟨1, 0, 0, 0, 1⟩ ([(1, 3)], [])) 1 ⟨2, 0, 0, 0, 1⟩ 3 0 = (0, 10, [], []) := by
  exact (askT_of (upC_ne _ _ (by simp))).trans (by kernel_rfl)
end Go.Proofs.YtjhkejkdnjogiaaGreatDoor
