import Derived.Test.YtlhhopanegnliaaGreatDoorTf
import Derived.Test.YtlhhopanegnliaaGreatDoorRows
import Derived.ProofKit
import Derived.OpenShut
import Derived.LaidMore
import Derived.Stop.Joined
import Derived.Carry
import Derived.ChangeSlices
import Derived.Deep.Slices
namespace Go.Proofs.YtlhhopanegnliaaGreatDoor
open Go Go.RowKit Go.Shelf
set_option maxRecDepth 100000

def clamp (x : Int) (hi : Nat) : Nat := if x < 0 then 0 else if (hi : Int) < x then hi else x.toNat
section
variable {W W' w' w0 : World} {T : Nat → Prop} {b ha mb : Nat} {B0 : Lo0} {m nb i B c Q u t : Nat} {mr : Int} {ns ns' : Ns} {n : Nd} {p : Pa.Pt} {C : Pa.Pt → Cx}
theorem tnew_done {w1 w2 : World} {O : Nat → Prop} {Lo : Nat} (h0 : 0 < W.heap.size) (hA : An.ArenaAt w1 W.heap.size m (.slice none 0 0) (.slice none 0 0) [] []) (hb1 : Below W.heap.size W w1) (hM : Bu.Mq w2 Lo O mb 4 0 (fun _ => none))
    (hO : ∀ k, O k → w1.heap.size ≤ k ∧ k < w2.heap.size) (hb2 : Below w1.heap.size w1 w2) (hmr : 0 ≤ mr ∧ mr ≤ 1024) :
    ∃ T, Ta (w2.alloc (.cells #[An.wp W.heap.size, Bu.wp mb, .int .i64 mr, .int .i64 0] 74)) w2.heap.size T m mr 0 (fun _ => ([], [])) ⟨W.heap.size, fun _ => False⟩ 0 0 ∧ Below W.heap.size W (w2.alloc (.cells #[An.wp W.heap.size, Bu.wp mb, .int .i64 mr, .int .i64 0] 74)) := by
  have hx := box_below w2 (.cells #[An.wp W.heap.size, Bu.wp mb, .int .i64 mr, .int .i64 0] 74)
  have hlt := hA.lt
  have hs1 := hb1.size
  have hs2 := hb2.size
  have hAr : An.Ar w1 W.heap.size (fun k => k = W.heap.size) m [] [] := ⟨_, _, hA, fun k => by simp [Value.ownBlock]⟩
  obtain ⟨g, cc, cs, hm⟩ := hM
  have hno : ∀ i n, ¬ Isn [] i n := fun i n h => by unfold Isn at h; simp at h
  refine ⟨Foot w2.heap.size (fun k => k = W.heap.size) O [], ⟨[], ⟨W.heap.size, mb, fun k => k = W.heap.size, O, 4, 0, [], fun _ => none, ⟨?_, ?_, ?_, ?_, ?_, ?_, ⟨Lo, g, cc, cs, hm.below hx⟩, ?_, ?_, ?_, ?_, ?_, ?_, ?_, h0, fun _ h => h.elim, fun _ h => h.elim⟩, Ok.nil, by omega, by simp [us, sm], by omega, fun k => Iff.rfl⟩, ?_, rfl, rfl, by omega, hmr.1, hmr.2⟩, ?_⟩
  · simp [go_sem]
  · simp [go_sem]
  · simp [go_sem]
  · simp [go_sem]; rfl
  · simp [go_sem]
  · exact (hAr.below hb2).below hx
  · intro i n h; exact absurd h (hno i n)
  · intro i n h; exact absurd h (hno i n)
  · intro i n j k h; exact absurd h (hno i n)
  · intro k hk ho
    have := hO k ho
    omega
  · omega
  · intro ho
    have := hO _ ho
    omega
  · rintro k (hk | ⟨i, n, h, -⟩)
    · show W.heap.size ≤ k
      rcases hk with hk | hk | hk
      · omega
      · omega
      · have := hO k hk
        omega
    · exact absurd h (hno i n)
  · intro i n h; exact absurd h (hno i n)
  · exact (hb1.trans (hb2.mono hs1)).trans (hx.mono (by omega))
set_option maxHeartbeats 1000000 in
theorem tnew_any (hd rq : Int) (W : World) (h0 : 0 < W.heap.size) : Calls Tryz.prog 7 #[.int .i64 hd, .int .i64 rq] W fun e w' => ∃ b T, e = .returned (tp b) ∧ Ta w' b T (clamp hd 256) ((clamp rq 1024 : Nat) : Int) 0 (fun _ => ([], [])) ⟨W.heap.size, fun _ => False⟩ 0 0 ∧ Below W.heap.size W w' := by
  have HA := Lib.hid (fun (x : Int) (k : Nat) (hk : k ≤ 256) (hx : x = k) => (show Calls Tryz.prog 26 #[.int .i64 x] W fun e w' => e = .returned (An.wp W.heap.size) ∧ An.ArenaAt w' W.heap.size k (.slice none 0 0) (.slice none 0 0) [] [] ∧ Below W.heap.size W w' from by
    subst hx
    have := An.new_any (k : Int) W
    rw [show An.cl (k : Int) = k by unfold An.cl; rw [if_neg (by omega), if_neg (by omega)]; simp] at this
    exact this))
  have HF := Lib.hid (fun (m : Nat) (mr : Int) (w1 w2 : World) (hA : An.ArenaAt w1 W.heap.size m (.slice none 0 0) (.slice none 0 0) [] []) (hb1 : Below W.heap.size W w1) (hM : Bu.Mq w2 w1.heap.size (fun k => w1.heap.size ≤ k ∧ k < w2.heap.size) (w1.heap.size + 1) 4 0 (fun _ => none)) (hb2 : Below w1.heap.size w1 w2) (hmr : 0 ≤ mr ∧ mr ≤ 1024) => tnew_done h0 hA hb1 hM (fun _ h => h) hb2 hmr)
  clear h0
  have hcases : ∀ (x : Int) (hi : Nat) (hI : Int), hI = hi → (x < 0 ∧ clamp x hi = 0) ∨ (¬ x < 0 ∧ hI < x ∧ clamp x hi = hi) ∨ (¬ x < 0 ∧ ¬ hI < x ∧ ∃ k : Nat, x = k ∧ clamp x hi = k) := fun x hi hI e => by
    subst e
    by_cases h1 : x < 0
    · exact .inl ⟨h1, by unfold clamp; rw [if_pos h1]⟩
    · by_cases h2 : (hi : Int) < x
      · exact .inr (.inl ⟨h1, h2, by unfold clamp; rw [if_neg h1, if_pos h2]⟩)
      · exact .inr (.inr ⟨h1, h2, x.toNat, by omega, by unfold clamp; rw [if_neg h1, if_neg h2]⟩)
  rcases hcases hd 256 256 rfl with ⟨a1, a3⟩ | ⟨a1, a2, a3⟩ | ⟨a1, a2, k, rfl, a3⟩ <;> rcases hcases rq 1024 1024 rfl with ⟨b1, b3⟩ | ⟨b1, b2, b3⟩ | ⟨b1, b2, l, rfl, b3⟩
  all_goals
    clear hcases
    rw [a3, b3]
    clear a3 b3
    go_enter Tryz.func7, Tryz.ntmps7
    go_wp2_with fail
    (first | refine (HA.out _ k (by omega) rfl).mono ?_ | refine (HA.out 0 0 (by decide) rfl).mono ?_ | refine (HA.out 256 256 (by decide) rfl).mono ?_)
    rintro e w1 ⟨rfl, hA, hb1⟩
    have HA1 := Lib.hid hA
    have HB1 := Lib.hid hb1
    clear hA hb1
    go_wp2_with fail
    refine (Bu.new_any w1).mono ?_
    rintro e w2 ⟨rfl, hM, hb2⟩
    have HE := Lib.hid (fun mr hmr => HF.out _ mr w1 w2 HA1.out HB1.out hM hb2 hmr)
    clear hM hb2
    go_wp2
    go_ret
    (first
      | (obtain ⟨T, k1, k2⟩ := HE.out (l : Int) (by omega); exact ⟨_, T, rfl, k1, k2⟩)
      | (obtain ⟨T, k1, k2⟩ := HE.out 0 (by decide); exact ⟨_, T, rfl, k1, k2⟩)
      | (obtain ⟨T, k1, k2⟩ := HE.out 1024 (by decide); exact ⟨_, T, rfl, k1, k2⟩))
theorem Tx.len {r : Int} (h : Tx W b T m mr c ns r C B0) : ∃ ha mb, ∀ W', Below W.heap.size W W' → (Calls Tryz.prog 68 #[An.wp ha] W' fun e w' => e = .returned (.int .i64 (us ns : Int)) ∧ ∃ j, w' = W'.drewN j) ∧
    (Calls Tryz.prog 93 #[An.wp ha] W' fun e w' => e = .returned (.int .i64 ((m : Int) - (us ns : Int))) ∧ ∃ j, w' = W'.drewN j) ∧ Calls Tryz.prog 67 #[tp b] W' fun e w' => e = .returned (tv (An.wp ha) (Bu.wp mb) (.int .i64 mr) (.int .i64 r)) ∧ Below W'.heap.size W' w' := by
  obtain ⟨ha, mb, S, O, nb, t, fs, F, h1, h2, h3⟩ := h.is
  have hc := h2.cnt
  refine ⟨ha, mb, fun W' hb => ⟨?_, ?_, (h1.below hb).its⟩⟩
  · obtain ⟨pv, fv, hA, -⟩ := (h1.below hb).ar
    have := An.len_any hA
    rw [pls_len] at this
    rw [show (ns.length : Int) - (fs.length : Int) = (us ns : Int) by omega] at this
    exact this
  · obtain ⟨pv, fv, hA, -⟩ := (h1.below hb).ar
    have := An.left_any hA
    rw [pls_len] at this
    rw [show (m : Int) - ((ns.length : Int) - (fs.length : Int)) = (m : Int) - (us ns : Int) by omega] at this
    exact this
theorem Ta.heads (h : Ta W b T m mr c C B0 u t) : Calls Tryz.prog 25 #[tp b] W fun e w' => e = .returned (.int .i64 (u : Int)) ∧ Below W.heap.size W w' := by
  obtain ⟨ns, g1, g2, rfl, g4⟩ := h.is
  obtain ⟨ha, mb, hh⟩ := g1.len
  have HI := Lib.hid (hh W (Below.refl _ _)).2.2
  have HL := Lib.hid (fun (W' : World) (hb : Below W.heap.size W W') => (hh W' hb).1)
  clear h g1 g2 g4 hh
  generalize us ns = u at *
  go_enter Tryz.func25, Tryz.ntmps25
  go_wp2_with fail
  refine HI.out.mono ?_
  rintro e w1 ⟨rfl, hb1⟩
  have HB1 := Lib.hid hb1
  have HL1 := Lib.hid (HL.out w1 hb1)
  clear hb1 HI HL
  go_wp2_with fail
  refine HL1.out.mono ?_
  rintro e w2 ⟨rfl, j, rfl⟩
  go_wp2_with fail
  go_ret
  exact ⟨rfl, HB1.out.trans ((drew_below w1 j).mono HB1.out.size)⟩
def Cpy (W : World) (x : Cx) (e : Ending) (w' : World) : Prop := Below W.heap.size W w' ∧ ((szC x = 0 ∧ e = .returned (.pointer none)) ∨ (0 < szC x ∧ ∃ B A1 c1 A2 c2, e = .returned (qp B) ∧ QAt w' B A1 c1 A2 c2 x.1 x.2 ∧ W.heap.size ≤ B ∧ (∀ a, A1 = some a → W.heap.size ≤ a.block) ∧ ∀ a, A2 = some a → W.heap.size ≤ a.block))
end
end Go.Proofs.YtlhhopanegnliaaGreatDoor
namespace Go.Proofs.YtlhhopanegnliaaGreatDoor
open Go Go.RowKit Go.Shelf
set_option maxRecDepth 100000
def nds (ns : Ns) : List Nd := ns.filterMap id
section
variable {ns : Ns} {n : Nd} {i : Nat}
theorem mem_nds : n ∈ nds ns ↔ ∃ i, Isn ns i n := by
  unfold nds Isn
  rw [List.mem_filterMap]
  constructor
  · rintro ⟨a, ha, hn⟩
    obtain ⟨i, hi, e⟩ := List.mem_iff_getElem.1 ha
    refine ⟨i, ?_⟩
    rw [List.getElem?_eq_getElem hi, e]
    simp at hn
    rw [hn]
  · rintro ⟨i, hi⟩
    exact ⟨some n, List.mem_of_getElem? hi, rfl⟩
theorem us_nds (ns : Ns) : us ns = (nds ns).length ∧ tot ns = ((nds ns).map fun n => n.H.length + n.L.length).sum := by
  induction ns with
  | nil => exact ⟨rfl, rfl⟩
  | cons z ns ih =>
    unfold us tot at *
    rw [sm_cons, sm_cons, ih.1, ih.2]
    unfold nds
    cases z with
    | none => simp [oneN, szN]
    | some n => simp [oneN, szN]; omega
theorem nds_once (h : ∀ i n j m, Isn ns i n → Isn ns j m → n.p = m.p → i = j) : ((nds ns).map (·.p)).Nodup := by
  unfold List.Nodup nds
  rw [List.pairwise_map, List.pairwise_filterMap, List.pairwise_iff_getElem]
  intro i j hi hj hij a ha b hb e
  have h1 : Isn ns i a := by unfold Isn; rw [List.getElem?_eq_getElem hi]; simp at ha; rw [ha]
  have h2 : Isn ns j b := by unfold Isn; rw [List.getElem?_eq_getElem hj]; simp at hb; rw [hb]
  have := h i a j b h1 h2 e
  omega
end
section
variable {W W' w' w w0 : World} {T T' : Nat → Prop} {b : Nat} {B0 : Lo0} {m i B c Q u t : Nat} {mr : Int} {ns ns' : Ns} {n : Nd} {p : Pa.Pt} {C : Pa.Pt → Cx} {H : List Hs.Hd} {L : List Ws.Wt}
theorem Tx.one {r : Int} (h : Tx W b T m mr c ns r C B0) : ∀ i n j m, Isn ns i n → Isn ns j m → n.p = m.p → i = j := by
  obtain ⟨ha, mb, S, O, nb, t, fs, F, h1, h2, h3⟩ := h.is
  exact fun i n j m hi hj e => h2.one i n j m hi hj (.inl e)
theorem Ta.count (h : Ta W b T m mr c C B0 u t) {ps : List Pa.Pt} (hnd : ps.Nodup) (hm : ∀ p, p ∈ ps ↔ 0 < szC (C p)) : u = ps.length ∧ t = (ps.map fun p => szC (C p)).sum := by
  obtain ⟨ns, h1, h2, rfl, rfl, -⟩ := h.is
  obtain ⟨e1, e2⟩ := us_nds ns
  have hp : ((nds ns).map (·.p)).Perm ps := by
    refine (List.perm_ext_iff_of_nodup (nds_once h1.one) hnd).2 fun p => ?_
    rw [hm p, List.mem_map]
    constructor
    · rintro ⟨n, hn, rfl⟩
      obtain ⟨i, hi⟩ := mem_nds.1 hn
      rw [h1.cy hi]
      exact h2 i n hi
    · intro hz
      by_cases hp : ∃ i n, Isn ns i n ∧ n.p = p
      · obtain ⟨i, n, hi, e⟩ := hp
        exact ⟨n, mem_nds.2 ⟨i, hi⟩, e⟩
      · rw [h1.cn fun i n hi e => hp ⟨i, n, hi, e⟩] at hz
        exact absurd hz (Nat.lt_irrefl 0)
  refine ⟨?_, ?_⟩
  · rw [e1, ← hp.length_eq, List.length_map]
  · rw [e2, ← (hp.map fun p => szC (C p)).sum_nat, List.map_map]
    congr 1
    refine List.map_congr_left fun n hn => ?_
    obtain ⟨i, hi⟩ := mem_nds.1 hn
    show _ = szC (C n.p)
    rw [h1.cy hi]
    rfl
theorem Ta.inv (h : Ta W b T m mr c C B0 u t) (p : Pa.Pt) : Inv (C p).1 (C p).2 := by
  obtain ⟨ns, h1, -⟩ := h.is
  exact h1.inv p
theorem Ta.lt (h : Ta W b T m mr c C B0 u t) {k : Nat} (hk : T k) : B0.n ≤ k ∧ k < W.heap.size := by
  obtain ⟨ns, h1, -⟩ := h.is
  exact h1.lt hk
theorem Ta.bounds (h : Ta W b T m mr c C B0 u t) : u ≤ m ∧ (t : Int) ≤ mr ∧ t ≤ c ∧ mr ≤ 1024 ∧ m ≤ 4096 := by
  obtain ⟨ns, h1, h2, rfl, rfl, h5, h6, h7⟩ := h.is
  exact ⟨h1.usm.1, h6, h5, h7, h1.usm.2⟩
theorem Ta.size {W : World} {b : Nat} {T : Nat → Prop} {m : Nat} {mr : Int} {c : Nat} {C : Pa.Pt → Cx} {B0 : Lo0} {u t : Nat} (h : Ta W b T m mr c C B0 u t) (p : Pa.Pt) : (C p).1.length + (C p).2.length ≤ t := by
  obtain ⟨ns, h1, h2, h3, rfl, -⟩ := h.is
  exact h1.size p
def Stays (K : (Nat → Prop) → World → Prop) : Prop := ∀ T T' W W', K T W → (∀ k, T k → k < W.heap.size) → OnlyS T W W' → (∀ k, T' k → T k ∨ W.heap.size ≤ k) → K T' W'
abbrev Nil : (Nat → Prop) → World → Prop := fun _ _ => True
def Bes (Q : Nat) (H : List Hs.Hd) (L : List Ws.Wt) (T : Nat → Prop) (W : World) : Prop := ∃ A1 c1 A2 c2, QAt W Q A1 c1 A2 c2 H L ∧ ¬ T Q ∧ Off T A1 H ∧ Off T A2 L
structure Ot (w W : World) (b m : Nat) (mr : Int) (c : Nat) (C : Pa.Pt → Cx) (u t : Nat) (K : (Nat → Prop) → World → Prop) : Prop where
  is : ∃ T B0, Ta W b T m mr c C B0 u t ∧ w.heap.size ≤ B0.n ∧ K T W
  bel : Below w.heap.size w W
variable {K : (Nat → Prop) → World → Prop}
theorem Ot.below (h : Ot w W b m mr c C u t K) (hK : Stays K) (hb : Below W.heap.size W W') : Ot w W' b m mr c C u t K := by
  obtain ⟨T, B0, h1, h2, h3⟩ := h.is
  exact ⟨⟨T, B0, h1.below hb, h2, hK T T W W' h3 (fun _ hk => (h1.lt hk).2) (OnlyS.of_below hb) fun _ hk => .inl hk⟩, h.bel.trans (hb.mono h.bel.size)⟩
theorem Ot.more {c' : Nat} (h : Ot w W b m mr c C u t K) (hc : c ≤ c') : Ot w W b m mr c' C u t K := by
  obtain ⟨T, B0, h1, h2, h3⟩ := h.is
  exact ⟨⟨T, B0, h1.more hc, h2, h3⟩, h.bel⟩
theorem Ot.step {c' u' t' : Nat} {C' : Pa.Pt → Cx} (h : Below w.heap.size w W) (h1 : Ta W b T m mr c C B0 u t) (h2 : w.heap.size ≤ B0.n) (h3 : K T W) (hK : Stays K) (k1 : Ta W' b T' m mr c' C' B0 u' t') (ho : OnlyS T W W') (hT' : ∀ k, T' k → T k ∨ W.heap.size ≤ k) : Ot w W' b m mr c' C' u' t' K :=
  ⟨⟨T', B0, k1, h2, hK T T' W W' h3 (fun _ hk => (h1.lt hk).2) ho hT'⟩, h.trans (ho.below (fun _ hk => Nat.le_trans h2 (h1.lt hk).1) h.size)⟩
theorem Ot.ask (h : Ot w W b m mr c C u t K) (hK : Stays K) (ht : TabG w) (hc : c ≤ 239) (tx md fl : Int) (p : Pa.Pt) {Y : Int × Int × Cx} (hY : askT m mr u t C tx p md fl = Y) :
    Calls Tryz.prog 59 #[tp b, .int .i64 tx, p.v, .int .i64 md, .int .i64 fl] W fun e w' => e = .returned (.tuple #[.int .i64 Y.1, .int .i64 Y.2.1]) ∧ ∃ u' t', Ot w w' b m mr (c + 1) (upC C p Y.2.2) u' t' K ∧ (Y.2.1 ≠ 0 → u' = u ∧ t' = t) := by
  obtain ⟨T, B0, h1, h2, h3⟩ := h.is
  subst hY
  refine (h1.ask (ht.later h.bel) hc tx md fl p).mono ?_
  rintro e w' ⟨rfl, T', u', t', k1, k2, k3, k4, -⟩
  exact ⟨rfl, u', t', Ot.step h.bel h1 h2 h3 hK k1 k2 k3, k4⟩
theorem Ot.release (h : Ot w W b m mr c C u t K) (hK : Stays K) (ht : TabG w) (hc : c ≤ 239) (tx : Int) (p : Pa.Pt) {X : Out} (hX : relT rel C tx p = X) :
    Calls Tryz.prog 96 #[tp b, .int .i64 tx, p.v] W fun e w' => ∃ A k, e = .returned (.tuple #[.slice A X.told.length k, .int .i64 X.err]) ∧ ∃ u' t', Ot w w' b m mr c (upC C p (X.hs, X.ws)) u' t' K := by
  obtain ⟨T, B0, h1, h2, h3⟩ := h.is
  subst hX
  refine (h1.release (ht.later h.bel) hc tx p).mono ?_
  rintro e w' ⟨A, k, rfl, -, -, T', u', t', k1, k2, k3, -⟩
  exact ⟨A, k, rfl, u', t', Ot.step h.bel h1 h2 h3 hK k1 k2 k3⟩
theorem Ot.cancel (h : Ot w W b m mr c C u t K) (hK : Stays K) (ht : TabG w) (hc : c ≤ 239) (tx : Int) (p : Pa.Pt) {X : Out} (hX : relT can C tx p = X) :
    Calls Tryz.prog 95 #[tp b, .int .i64 tx, p.v] W fun e w' => ∃ A k, e = .returned (.tuple #[.slice A X.told.length k, .int .i64 X.err]) ∧ ∃ u' t', Ot w w' b m mr c (upC C p (X.hs, X.ws)) u' t' K := by
  obtain ⟨T, B0, h1, h2, h3⟩ := h.is
  subst hX
  refine (h1.cancel (ht.later h.bel) hc tx p).mono ?_
  rintro e w' ⟨A, k, rfl, -, -, T', u', t', k1, k2, k3, -⟩
  exact ⟨A, k, rfl, u', t', Ot.step h.bel h1 h2 h3 hK k1 k2 k3⟩
theorem Ot.heads (h : Ot w W b m mr c C u t K) (hK : Stays K) : Calls Tryz.prog 25 #[tp b] W fun e w' => e = .returned (.int .i64 (u : Int)) ∧ Ot w w' b m mr c C u t K := by
  obtain ⟨T, B0, h1, h2, h3⟩ := h.is
  exact h1.heads.mono fun e w' ⟨he, hb⟩ => ⟨he, h.below hK hb⟩
end
structure Dd where
  p : Pa.Pt
  k : Int
  t : Int
  m : Int
  f : Int
structure DeedAt (w : World) (ad : Addr) (i : Nat) (d : Dd) : Prop where
  c0 : w.cell? (ad.add (i * 9)) = some (.int .i64 d.p.a)
  c1 : w.cell? ⟨(ad.add (i * 9)).block, (ad.add (i * 9)).off + 1, none⟩ = some (.int .i64 d.p.b)
  c2 : w.cell? ⟨(ad.add (i * 9)).block, (ad.add (i * 9)).off + 2, none⟩ = some (.int .i64 d.p.c)
  c3 : w.cell? ⟨(ad.add (i * 9)).block, (ad.add (i * 9)).off + 3, none⟩ = some (.int .i64 d.p.d)
  c4 : w.cell? ⟨(ad.add (i * 9)).block, (ad.add (i * 9)).off + 4, none⟩ = some (.int .i64 d.p.e)
  c5 : w.cell? ⟨(ad.add (i * 9)).block, (ad.add (i * 9)).off + 5, none⟩ = some (.int .i64 d.k)
  c6 : w.cell? ⟨(ad.add (i * 9)).block, (ad.add (i * 9)).off + 6, none⟩ = some (.int .i64 d.t)
  c7 : w.cell? ⟨(ad.add (i * 9)).block, (ad.add (i * 9)).off + 7, none⟩ = some (.int .i64 d.m)
  c8 : w.cell? ⟨(ad.add (i * 9)).block, (ad.add (i * 9)).off + 8, none⟩ = some (.int .i64 d.f)
def InD (w : World) (A : Option Addr) (n : Nat) (d : Nat → Dd) : Prop := ∀ i, i < n → ∃ ad, A = some ad ∧ ad.block < w.heap.size ∧ DeedAt w ad i (d i) ∧ Hs.wf64 (d i).t
theorem InD.at {w w' : World} {A : Option Addr} {n i : Nat} {d : Nat → Dd} (h : InD w A n d) (hb : Below w.heap.size w w') (hi : i < n) : ∃ ad, A = some ad ∧ DeedAt w' ad i (d i) := by
  obtain ⟨ad, h1, h2, h4, -⟩ := h i hi
  have k : ∀ o, w'.cell? ⟨(ad.add (i * 9)).block, o, none⟩ = w.cell? ⟨(ad.add (i * 9)).block, o, none⟩ := fun o => hb.cell (p := ⟨(ad.add (i * 9)).block, o, none⟩) (by show (ad.add (i * 9)).block < _; rw [Hs.block_add']; exact h2)
  refine ⟨ad, h1, ⟨?_, (k _).trans h4.c1, (k _).trans h4.c2, (k _).trans h4.c3, (k _).trans h4.c4, (k _).trans h4.c5, (k _).trans h4.c6, (k _).trans h4.c7, (k _).trans h4.c8⟩⟩
  rw [hb.cell (p := ad.add (i * 9)) (by rw [Hs.block_add']; exact h2)]; exact h4.c0
abbrev dcs (d : Dd) : Array Value := #[.int .i64 d.p.a, .int .i64 d.p.b, .int .i64 d.p.c, .int .i64 d.p.d, .int .i64 d.p.e, .int .i64 d.k, .int .i64 d.t, .int .i64 d.m, .int .i64 d.f]
abbrev dv (d : Dd) : Value := .agg (dcs d)
structure Dbx (w : World) (K : Nat) (d : Dd) : Prop where
  c0 : w.cell? ⟨K, 0, none⟩ = some (.int .i64 d.p.a)
  c1 : w.cell? ⟨K, 1, none⟩ = some (.int .i64 d.p.b)
  c2 : w.cell? ⟨K, 2, none⟩ = some (.int .i64 d.p.c)
  c3 : w.cell? ⟨K, 3, none⟩ = some (.int .i64 d.p.d)
  c4 : w.cell? ⟨K, 4, none⟩ = some (.int .i64 d.p.e)
  c5 : w.cell? ⟨K, 5, none⟩ = some (.int .i64 d.k)
  c6 : w.cell? ⟨K, 6, none⟩ = some (.int .i64 d.t)
  c7 : w.cell? ⟨K, 7, none⟩ = some (.int .i64 d.m)
  c8 : w.cell? ⟨K, 8, none⟩ = some (.int .i64 d.f)
theorem Dbx.new (w : World) (d : Dd) (t : TypeId) : Dbx (w.alloc (.cells (dcs d) t)) w.heap.size d := by
  refine ⟨?_, ?_, ?_, ?_, ?_, ?_, ?_, ?_, ?_⟩ <;> simp [go_sem]
theorem Dbx.lt {w : World} {K : Nat} {d : Dd} (h : Dbx w K d) : K < w.heap.size := cell_lt h.c0
theorem Dbx.only {w w' : World} {K : Nat} {d : Dd} {T : Nat → Prop} (h : Dbx w K d) (ho : OnlyS T w w') (hK : ¬ T K) : Dbx w' K d := by
  have hb := ho.block K h.lt hK
  have k : ∀ o, w'.cell? ⟨K, o, none⟩ = w.cell? ⟨K, o, none⟩ := fun o => World.cell?_of_block (w := w) (a := ⟨K, o, none⟩) hb
  exact ⟨(k 0).trans h.c0, (k 1).trans h.c1, (k 2).trans h.c2, (k 3).trans h.c3, (k 4).trans h.c4, (k 5).trans h.c5, (k 6).trans h.c6, (k 7).trans h.c7, (k 8).trans h.c8⟩
theorem Dbx.below {w w' : World} {K : Nat} {d : Dd} (h : Dbx w K d) (hb : Below w.heap.size w w') : Dbx w' K d := h.only (OnlyS.of_below (S := fun _ => False) hb) id
def Box (M : Nat) (d : Dd) (T : Nat → Prop) (W : World) : Prop := Dbx W M d ∧ ¬ T M
section
variable {w W : World} {b m c u t : Nat} {mr : Int} {C : Pa.Pt → Cx} {K K' : (Nat → Prop) → World → Prop}
theorem Ot.mono (h : Ot w W b m mr c C u t K) (hk : ∀ T W, K T W → K' T W) : Ot w W b m mr c C u t K' := by
  obtain ⟨T, B0, h1, h2, h3⟩ := h.is
  exact ⟨⟨T, B0, h1, h2, hk _ _ h3⟩, h.bel⟩
theorem Ot.box (h : Ot w W b m mr c C u t K) (hK : Stays K) (d : Dd) (ty : TypeId) : Ot w (W.alloc (.cells (dcs d) ty)) b m mr c C u t (fun T W' => K T W' ∧ Box W.heap.size d T W') := by
  have hb := h.below hK (box_below W (.cells (dcs d) ty))
  obtain ⟨T, B0, h1, h2, h3⟩ := h.is
  refine ⟨⟨T, B0, h1.below (box_below W _), h2, hK T T W _ h3 (fun _ hk => (h1.lt hk).2) (OnlyS.of_below (box_below W _)) fun _ hk => .inl hk, Dbx.new W d ty, fun hk => by have := (h1.lt hk).2; omega⟩, hb.bel⟩
theorem Ot.boxed {d : Dd} {M : Nat} (h : Ot w W b m mr c C u t (fun T W' => K T W' ∧ Box M d T W')) : Dbx W M d := by
  obtain ⟨T, B0, h1, h2, h3⟩ := h.is
  exact h3.2.1
end
theorem askT_of {m u t : Nat} {mr tx md fl : Int} {C : Pa.Pt → Cx} {p : Pa.Pt} {x : Cx} (h : C p = x) : askT m mr u t C tx p md fl = askT m mr u t (fun _ => x) tx p md fl := by
  unfold askT
  simp only
  rw [h]
end Go.Proofs.YtlhhopanegnliaaGreatDoor
namespace Go.Proofs.YtlhhopanegnliaaGreatDoor
open Go Go.ChangeShapes Go.WideShapes Go.ChangeAt Go.RowKit Go.Deep
set_option maxRecDepth 100000

theorem own : ownKnob Tryz.prog.godebug = none := by kernel_rfl
theorem laidOut : laidOutB Tryz.prog = true := by kernel_rfl
theorem law_post {H : Type} {enc : TypeId × Value → H} {P : Program} {f : Func} {s : ChangeSpec} {apart fresh handsOn : Bool} {W W' : World} {args : Array Value} {v : Value} {ds gs : List (DataW H)} {before : List MemPlace}
    (hW : DataW.Whole enc P f.params.toList s.vars apart W args.toList ds gs before)
    (hres : ∀ (b : Nat) (sp : Nat → Bool) (hd : Bool), DataW.TrodAll enc P W' b sp hd f.resultTypes.toList (v.resultList f.resultTypes.size) (s.fn H (ds ++ gs)).results [])
    (hargs : DataW.TrodAll enc P W' 0 (fun b => decide (b < W.heap.size)) true f.params.toList args.toList (s.fn H (ds ++ gs)).args before)
    (hvars : DataW.TrodVars enc P W' (fun b => decide (b < W.heap.size)) s.vars (s.fn H (ds ++ gs)).vars []) (hb : Below W.heap.size W W') :
    s.post enc P f apart fresh handsOn false W args v W' :=
  ⟨ds, gs, before, [], before, [], hW, hres _ _ _, hargs, hvars, World.keptBut_mono (fun _ hp => ⟨hp, Or.inr (Or.inl hp)⟩) (hb.frame (· ∈ before)), fun h => by cases h⟩
theorem readable30 : Tryz.prog.readableRec 30 = true := by kernel_rfl
theorem small30 : 30 < Tryz.prog.types.size := by decide +kernel
theorem cells3 : Tryz.prog.cellsOf 3 = 1 := by kernel_rfl
theorem cellsN4 : Tryz.prog.cellsOf 28 = 4 := by kernel_rfl
theorem cellsPT : Tryz.prog.cellsOf 30 = 5 := by kernel_rfl
section
variable {H : Type} {enc : TypeId × Value → H} {w W : World} {base b0 : Nat} {spare sp : Nat → Bool} {held : Bool} {fuel : Nat} {cs : List Value} {y : DataW H × List MemPlace} {v : Value} {d : DataW H} {p : List MemPlace}
theorem int_of_trod (h : DataW.trod enc Tryz.prog W base sp held fuel 3 [v] = some y) : ∃ n : Int, v = .int .i64 n ∧ Hs.wf64 n := by
  obtain ⟨k, e, _, wt⟩ := DataW.trod_int Tryz.underlying3 h
  simp at e
  exact ⟨k, e, wt⟩
theorem pt_of_trod (h : DataW.trod enc Tryz.prog w base spare held fuel 30 cs = some y) : ∃ q : Pa.Pt, cs = [.int .i64 q.a, .int .i64 q.b, .int .i64 q.c, .int .i64 q.d, .int .i64 q.e] := by
  obtain ⟨xs, n, _, hx, hlen, hxl, hg⟩ := DataW.trod_struct Tryz.underlying30 h
  rw [cellsPT] at hlen
  match cs, hlen with
  | [x0, x1, x2, x3, x4], _ =>
    match xs, hxl with
    | [y0, y1], _ =>
      have h0 := hg 0 _ rfl
      have h1 := hg 1 _ rfl
      change DataW.trod enc Tryz.prog w base spare held n 28 (([x0, x1, x2, x3, x4].drop 0).take (Tryz.prog.cellsOf 28)) = some y0 at h0
      change DataW.trod enc Tryz.prog w base spare held n 3 (([x0, x1, x2, x3, x4].drop 4).take (Tryz.prog.cellsOf 3)) = some y1 at h1
      rw [cellsN4] at h0
      rw [cells3] at h1
      obtain ⟨zs, m, _, _, _, hzl, hz⟩ := DataW.trod_array Tryz.underlying28 h0
      rw [cells3] at hz
      match zs, hzl with
      | [z0, z1, z2, z3], _ =>
        obtain ⟨n0, rfl, -⟩ := int_of_trod (hz 0 (by omega))
        obtain ⟨n1, rfl, -⟩ := int_of_trod (hz 1 (by omega))
        obtain ⟨n2, rfl, -⟩ := int_of_trod (hz 2 (by omega))
        obtain ⟨n3, rfl, -⟩ := int_of_trod (hz 3 (by omega))
        obtain ⟨n4, rfl, -⟩ := int_of_trod h1
        exact ⟨⟨n0, n1, n2, n3, n4⟩, rfl⟩
theorem node_of_trod (hval : Value.okWide Tryz.prog W .any b0 30 v) (h : DataW.Trod enc Tryz.prog W base sp held 30 v d p) : ∃ q : Pa.Pt, v = q.v := by
  obtain ⟨cs, rfl, hsz⟩ := okWide_struct Tryz.underlying30 hval
  obtain ⟨fuel, hf⟩ := h
  obtain ⟨q, e⟩ := pt_of_trod hf
  obtain ⟨l⟩ := cs
  simp only [Value.cells] at e
  subst e
  exact ⟨q, rfl⟩
end
instance : Inhabited Dd := ⟨⟨⟨0, 0, 0, 0, 0⟩, 0, 0, 0, 0⟩⟩
theorem gGoes : Tryz.prog.globalNamed "escutcheon/mode.goes" = some 0 := by kernel_rfl
theorem tGoes : (Tryz.prog.globals[0]?).map (·.type) = some 247 := by kernel_rfl
theorem cRow : Tryz.prog.cellsOf 246 = 7 := by kernel_rfl
theorem c4 : Tryz.prog.cellsOf 4 = 1 := by kernel_rfl
def rowD (i : Nat) : List Bool := (List.range 7).map (goesN i)
theorem goes_is : (Rows.laid_escutcheon_mode_goes : DataW Unit) = .agg ((List.range 7).map fun i => .agg ((rowD i).map fun b => .lit (.bool b))) := by kernel_rfl
theorem goes_cell {enc : TypeId × Value → Unit} {w : World} {base : Nat} {sp : Nat → Bool} {held : Bool} {fuel : Nat} {cs : List Value} {p : List MemPlace}
    (h : DataW.trod enc Tryz.prog w base sp held fuel 247 cs = some (Rows.laid_escutcheon_mode_goes, p)) (i j : Nat) (hi : i ≤ 6) (hj : j ≤ 6) : cs[i * 7 + j]? = some (.bool (goesN i j)) := by
  obtain ⟨xs, m, rfl, hx, hlen, hn, hel⟩ := DataW.trod_array Tryz.underlying247 h
  rw [goes_is] at hx
  simp only [Prod.mk.injEq, DataW.agg.injEq] at hx
  have h1 := hel i (by omega)
  rw [cRow] at h1
  obtain ⟨y, hy⟩ : ∃ y, xs[i]? = some y := ⟨_, List.getElem?_eq_getElem (by omega)⟩
  rw [hy] at h1
  have e1 : y.1 = .agg ((rowD i).map fun b => .lit (.bool b)) := by
    have := congrArg (fun l => l[i]?) hx.1
    simp only [List.getElem?_map, hy, Option.map_some] at this
    rw [List.getElem?_range (by omega)] at this
    simpa using this.symm
  obtain ⟨ys, m1, rfl, hx1, hlen1, hn1, hel1⟩ := DataW.trod_array Tryz.underlying246 h1
  have h2 := hel1 j (by omega)
  rw [c4] at h2
  obtain ⟨z, hz⟩ : ∃ z, ys[j]? = some z := ⟨_, List.getElem?_eq_getElem (by omega)⟩
  rw [hz] at h2
  have e2 : z.1 = .lit (.bool (goesN i j)) := by
    rw [hx1] at e1
    simp only [DataW.agg.injEq] at e1
    have := congrArg (fun l => l[j]?) e1
    simp only [List.getElem?_map, hz, Option.map_some, rowD] at this
    rw [List.getElem?_range (by omega)] at this
    simpa using this
  obtain ⟨b, e3, e4⟩ := DataW.trod_bool Tryz.underlying4 h2
  rw [e4] at e2
  simp only [DataW.lit.injEq, Lit.bool.injEq] at e2
  subst e2
  have := congrArg (fun l => l[0]?) e3
  simp only [List.getElem?_take, List.getElem?_drop] at this
  have h3 : j < 7 ∧ cs[i * 7 + j]? = some (.bool (goesN i j)) := by simpa using this
  exact h3.2
theorem tab_goes {W : World} {cs : Array Value} {enc : TypeId × Value → Unit} {base : Nat} {sp : Nat → Bool} {held : Bool} {fuel : Nat} {p : List MemPlace}
    (hv : W.var? Tryz.prog "escutcheon/mode.goes" = some cs) (hd : DataW.trod enc Tryz.prog W base sp held fuel 247 cs.toList = some (Rows.laid_escutcheon_mode_goes, p)) : TabG W := by
  have hc : ∀ i j, i ≤ 6 → j ≤ 6 → W.cell? ⟨0, i * 7 + j, none⟩ = some (.bool (goesN i j)) := fun i j hi hj => by
    rw [World.var?_cell gGoes hv, ← Array.getElem?_toList]
    exact goes_cell hd i j hi hj
  refine ⟨?_, hc⟩
  have h0 := hc 0 0 (by omega) (by omega)
  rcases Nat.lt_or_ge 0 W.heap.size with h | h
  · exact h
  · have : W.heap[0]? = none := Array.getElem?_eq_none h
    simp [World.cell?, this] at h0
theorem tab_of_one {W : World} (h : laidMetH Tryz.prog [("escutcheon/mode.goes", Rows.laid_escutcheon_mode_goes)] W) : TabG W := by
  rw [MakeChecks.laidMetH_plain _ _ _ (by kernel_rfl)] at h
  obtain ⟨ps, ⟨g0, t0, cs0, f0, p0, q0, hg0, ht0, hv0, hd0, _⟩, _⟩ := h
  obtain rfl := Option.some.inj (gGoes.symm.trans hg0)
  obtain rfl := Option.some.inj (tGoes.symm.trans ht0)
  exact tab_goes hv0 hd0
abbrev laidG : List (String × DataW Unit) := [("escutcheon/mode.goes", Rows.laid_escutcheon_mode_goes)]
theorem door_met (os : Os) (args : Array Value) : laidMetH Tryz.prog laidG ((World.doorLaid Tryz.prog 21 os).forCall (fun _ _ => 0) ⟨#[], args, []⟩).memory :=
  laidMetH_of_parts3 (fuel := 8) (laidMet_of_run' 8 (by kernel_rfl) (by kernel_rfl)) (by kernel_rfl) (by kernel_rfl)
end Go.Proofs.YtlhhopanegnliaaGreatDoor
namespace Go.Proofs.YtlhhopanegnliaaGreatDoor
open Go Go.ChangeShapes Go.WideShapes Go.ChangeAt Go.RowKit Go.Deep
set_option maxRecDepth 100000
structure D19 where
  k : Int
  t : Int
  p : Pa.Pt
  m : Int
  f : Int
  n : Int
instance : Inhabited D19 := ⟨⟨0, 0, ⟨0, 0, 0, 0, 0⟩, 0, 0, 0⟩⟩
abbrev d19 (d : D19) : Array Value := #[.int .i64 d.k, .int .i64 d.t, .int .i64 d.p.a, .int .i64 d.p.b, .int .i64 d.p.c, .int .i64 d.p.d, .int .i64 d.p.e, .int .i64 d.m, .int .i64 d.f, .int .i64 d.n]
structure At19 (w : World) (ad : Addr) (i : Nat) (d : D19) : Prop where
  c0 : w.cell? (ad.add (i * 10)) = some (.int .i64 d.k)
  c1 : w.cell? ⟨(ad.add (i * 10)).block, (ad.add (i * 10)).off + 1, none⟩ = some (.int .i64 d.t)
  c2 : w.cell? ⟨(ad.add (i * 10)).block, (ad.add (i * 10)).off + 2, none⟩ = some (.int .i64 d.p.a)
  c3 : w.cell? ⟨(ad.add (i * 10)).block, (ad.add (i * 10)).off + 3, none⟩ = some (.int .i64 d.p.b)
  c4 : w.cell? ⟨(ad.add (i * 10)).block, (ad.add (i * 10)).off + 4, none⟩ = some (.int .i64 d.p.c)
  c5 : w.cell? ⟨(ad.add (i * 10)).block, (ad.add (i * 10)).off + 5, none⟩ = some (.int .i64 d.p.d)
  c6 : w.cell? ⟨(ad.add (i * 10)).block, (ad.add (i * 10)).off + 6, none⟩ = some (.int .i64 d.p.e)
  c7 : w.cell? ⟨(ad.add (i * 10)).block, (ad.add (i * 10)).off + 7, none⟩ = some (.int .i64 d.m)
  c8 : w.cell? ⟨(ad.add (i * 10)).block, (ad.add (i * 10)).off + 8, none⟩ = some (.int .i64 d.f)
  c9 : w.cell? ⟨(ad.add (i * 10)).block, (ad.add (i * 10)).off + 9, none⟩ = some (.int .i64 d.n)
theorem In19.at {w w' : World} {A : Option Addr} {n i : Nat} {d : Nat → D19} (h : ∀ i, i < n → ∃ ad, A = some ad ∧ ad.block < w.heap.size ∧ At19 w ad i (d i)) (hb : Below w.heap.size w w') (hi : i < n) : ∃ ad, A = some ad ∧ At19 w' ad i (d i) := by
  obtain ⟨ad, rfl, hl, c0, c1, c2, c3, c4, c5, c6, c7, c8, c9⟩ := h i hi
  have hbl : (ad.add (i * 10)).block < w.heap.size := by rw [Hs.block_add']; exact hl
  have k : ∀ o, w'.cell? ⟨(ad.add (i * 10)).block, o, none⟩ = w.cell? ⟨(ad.add (i * 10)).block, o, none⟩ := fun o => hb.cell (p := ⟨_, o, none⟩) hbl
  exact ⟨ad, rfl, (hb.cell (p := ad.add (i * 10)) hbl).trans c0, (k _).trans c1, (k _).trans c2, (k _).trans c3, (k _).trans c4, (k _).trans c5, (k _).trans c6, (k _).trans c7, (k _).trans c8, (k _).trans c9⟩
def In19 (w : World) (A : Option Addr) (n : Nat) (d : Nat → D19) : Prop := ∀ i, i < n → ∃ ad, A = some ad ∧ ad.block < w.heap.size ∧ At19 w ad i (d i)
theorem readable22 : Tryz.prog.readableRec 22 = true := by kernel_rfl
theorem small22 : 22 < Tryz.prog.types.size := by decide +kernel
theorem cells19 : Tryz.prog.cellsOf 32 = 10 := by kernel_rfl
section
variable {H : Type} {enc : TypeId × Value → H} {w W : World} {base b0 : Nat} {spare sp : Nat → Bool} {held : Bool} {fuel : Nat} {cs : List Value} {y : DataW H × List MemPlace} {v : Value} {d : DataW H} {p : List MemPlace}
theorem deed_in_trod (h : DataW.trod enc Tryz.prog w base spare held fuel 32 cs = some y) : ∃ g : D19, cs = (d19 g).toList := by
  obtain ⟨xs, n, _, _, hlen, hxl, hf⟩ := DataW.trod_struct Tryz.underlying32 h
  rw [cells19] at hlen
  match cs, hlen with
  | [x0, x1, x2, x3, x4, x5, x6, x7, x8, x9], _ =>
    match xs, hxl with
    | [y0, y1, y2, y3, y4, y5], _ =>
      have h0 := hf 0 _ rfl
      have h1 := hf 1 _ rfl
      have h2 := hf 2 _ rfl
      have h3 := hf 3 _ rfl
      have h4 := hf 4 _ rfl
      have h5 := hf 5 _ rfl
      change DataW.trod enc Tryz.prog w base spare held n 3 (([x0, x1, x2, x3, x4, x5, x6, x7, x8, x9].drop 0).take (Tryz.prog.cellsOf 3)) = some y0 at h0
      change DataW.trod enc Tryz.prog w base spare held n 3 (([x0, x1, x2, x3, x4, x5, x6, x7, x8, x9].drop 1).take (Tryz.prog.cellsOf 3)) = some y1 at h1
      change DataW.trod enc Tryz.prog w base spare held n 30 (([x0, x1, x2, x3, x4, x5, x6, x7, x8, x9].drop 2).take (Tryz.prog.cellsOf 30)) = some y2 at h2
      change DataW.trod enc Tryz.prog w base spare held n 3 (([x0, x1, x2, x3, x4, x5, x6, x7, x8, x9].drop 7).take (Tryz.prog.cellsOf 3)) = some y3 at h3
      change DataW.trod enc Tryz.prog w base spare held n 3 (([x0, x1, x2, x3, x4, x5, x6, x7, x8, x9].drop 8).take (Tryz.prog.cellsOf 3)) = some y4 at h4
      change DataW.trod enc Tryz.prog w base spare held n 3 (([x0, x1, x2, x3, x4, x5, x6, x7, x8, x9].drop 9).take (Tryz.prog.cellsOf 3)) = some y5 at h5
      rw [cells3] at h0 h1 h3 h4 h5
      rw [cellsPT] at h2
      obtain ⟨k, e0, _⟩ := int_of_trod h0
      obtain ⟨t, e1, _⟩ := int_of_trod h1
      obtain ⟨q, e2⟩ := pt_of_trod h2
      obtain ⟨m, e3, _⟩ := int_of_trod h3
      obtain ⟨f, e4, _⟩ := int_of_trod h4
      obtain ⟨z, e5, _⟩ := int_of_trod h5
      simp at e0 e1 e2 e3 e4 e5
      obtain ⟨rfl, rfl, rfl, rfl, rfl⟩ := e2
      subst e0 e1 e3 e4 e5
      exact ⟨⟨k, t, q, m, f, z⟩, rfl⟩
end
theorem d19_of_trod {H : Type} {enc : TypeId × Value → H} {W : World} {base : Nat} {v : Value} {d : DataW H} {p : List MemPlace} (hval : Value.okWide Tryz.prog W .any base 22 v) (h : DataW.Trod enc Tryz.prog W 0 (fun _ => true) true 22 v d p) :
    ∃ A n c g, v = .slice A n c ∧ n ≤ maxLen ∧ In19 W A n g := by
  obtain ⟨A, n, c, rfl⟩ := okWide_slice Tryz.underlying22 hval
  obtain ⟨fuel, hf⟩ := h
  rcases open_slice Tryz.underlying22 hf with ⟨hcs, _⟩ | ⟨a, len, cap, m, k, D, Pl, hcs, _, hl, hm, hmm, _, hx⟩
  · simp [Value.cells] at hcs
    obtain ⟨rfl, rfl, rfl⟩ := hcs
    exact ⟨none, 0, 0, fun _ => default, rfl, Nat.zero_le _, fun i hi => by omega⟩
  · simp [Value.cells] at hcs
    obtain ⟨rfl, rfl, rfl⟩ := hcs
    simp only [if_true] at hmm
    obtain ⟨g, hg⟩ := choose_lt (α := D19) (n := n) (p := fun i x => a.block < W.heap.size ∧ At19 W a i x) (fun i hi => by
      obtain ⟨cs', h1, h2⟩ := hx i (by omega)
      rw [cells19] at h1
      obtain ⟨x, rfl⟩ := deed_in_trod h2
      obtain ⟨_, _, hat⟩ := World.cells?_some h1
      have g0 := hat 0 (by omega)
      have gb := cell_lt g0
      rw [Hs.block_add', Hs.block_add'] at gb
      exact ⟨x, gb, ⟨g0, hat 1 (by omega), hat 2 (by omega), hat 3 (by omega), hat 4 (by omega), hat 5 (by omega), hat 6 (by omega), hat 7 (by omega), hat 8 (by omega), hat 9 (by omega)⟩⟩)
    exact ⟨_, _, _, g, rfl, Nat.le_trans hl hm, fun i hi => ⟨a, rfl, (hg i hi).1, (hg i hi).2⟩⟩
end Go.Proofs.YtlhhopanegnliaaGreatDoor
