/- A table and the document's, beside each other: what a deed at either leaves of both. -/
import Derived.Test.YtjhkejkdnjogiaaGreatDoorTp
import Derived.Test.YtjhkejkdnjogiaaGreatDoorEe
import Derived.Test.YtjhkejkdnjogiaaGreatDoorEg
namespace Go.Proofs.YtjhkejkdnjogiaaGreatDoor
open Go Go.RowKit Go.Shelf
set_option maxRecDepth 100000

section
variable {W W' w w0 : World} {T T' D U : Nat → Prop} {b ha mb B0 K0 m nb c c' u r u' r' t cc : Nat} {mr rr tt : Int} {ns : Ns} {fs : List Nat} {F : Int → Option Int} {S O : Nat → Prop} {C C' : Pa.Pt → Cx} {es es' : List Nd} {A : Option Addr} {K : (Nat → Prop) → World → Prop}
/-- what changes no number, and none of its blocks, leaves a table as it is -/
theorem Tw.nbs (h : Tw W b ha mb S O m mr rr nb tt ns fs F B0) (ho : OnlyS U W W') (hn : Nb W W') (hU : ∀ k, Foot b S O ns k → ¬ U k) : Tw W' b ha mb S O m mr rr nb tt ns fs F B0 := by
  obtain ⟨f0, f1, f2, f3, f4⟩ := h.cells ho (hU b (.inl (.inl rfl)))
  obtain ⟨Lo, hm⟩ := h.mq
  refine ⟨f0, f1, f2, f3, f4, h.ar.keep ho (fun k hk => hU k (.inl (.inr (.inl hk)))), ⟨Lo, hm.only ho fun k hk => hU k (.inl (.inr (.inr hk)))⟩, ?_, h.qn, h.dq, h.so, h.sb, h.ob, h.lo, h.z⟩
  intro j a hj
  obtain ⟨A3, c3, A4, c4, q, o3, o4⟩ := h.qs j a hj
  exact ⟨A3, c3, A4, c4, ⟨(ho.block a.q q.lt (hU _ (.inr ⟨j, a, hj, rfl⟩))).trans q.blk, q.h.nb hn, q.l.nb hn⟩, o3, o4⟩
theorem Ta.nbs (h : Ta W b T m mr c C B0 u r) (ho : OnlyS U W W') (hn : Nb W W') (hU : ∀ k, T k → ¬ U k) : Ta W' b T m mr c C B0 u r := by
  obtain ⟨ns, g1, g2⟩ := h.is
  obtain ⟨ha, mb, S, O, nb, t, fs, F, h1, h2, h3, h4, h5, h6⟩ := g1.is
  exact ⟨ns, ⟨ha, mb, S, O, nb, t, fs, F, h1.nbs ho hn (fun k hk => hU k ((h6 k).2 hk)), h2, h3, h4, h5, h6⟩, g2⟩
theorem Ta.of (h : Ta W b T m mr c C B0 u r) (R : Rt.Rel C es) : u = es.length ∧ r = Rt.totE es := by
  obtain ⟨h1, h2⟩ := h.count R.nodup (fun p => by rw [R.mem, List.mem_map])
  rw [R.tot] at h2
  rw [List.length_map] at h1
  exact ⟨h1, h2⟩
/-- both, beside each other, and what lies beside both -/
structure Du (w W : World) (b t m : Nat) (mr : Int) (c : Nat) (C : Pa.Pt → Cx) (es : List Nd) (K : (Nat → Prop) → World → Prop) : Prop where
  is : ∃ T B0 u r K0 A D cc, Ta W b T m mr c C B0 u r ∧ w.heap.size ≤ B0 ∧ Rt.Di W t K0 m mr es D A cc ∧ w.heap.size ≤ K0 ∧ (∀ k, T k → D k) ∧ (∀ k, Rt.Own t A es k → ¬ T k) ∧ K (fun k => T k ∨ Rt.Own t A es k) W
  bel : Below w.heap.size w W
theorem Du.tstep (bel : Below w.heap.size w W) (h1 : Ta W b T m mr c C B0 u r) (h2 : w.heap.size ≤ B0) (h3 : Rt.Di W t K0 m mr es D A cc) (h4 : w.heap.size ≤ K0) (h5 : ∀ k, T k → D k) (h6 : ∀ k, Rt.Own t A es k → ¬ T k) (h7 : K (fun k => T k ∨ Rt.Own t A es k) W) (hK : Stays K)
    (k1 : Ta W' b T' m mr c' C' B0 u' r') (ho : OnlyS T W W') (hT' : ∀ k, T' k → T k ∨ W.heap.size ≤ k) : Du w W' b t m mr c' C' es K := by
  have hD := h3.stay h5 h6 ho (N := fun k => W.heap.size ≤ k ∧ k < W'.heap.size) (fun _ h => h)
  refine ⟨⟨T', B0, u', r', K0, A, _, cc, k1, h2, hD, h4, fun k hk => ?_, fun k hk hT => ?_, ?_⟩, bel.trans (ho.below (fun k hk => Nat.le_trans h2 (h1.lt hk).1) bel.size)⟩
  · rcases hT' k hk with q | q
    · exact .inl (h5 k q)
    · exact .inr ⟨q, (k1.lt hk).2⟩
  · rcases hT' k hT with q | q
    · exact h6 k hk q
    · have := h3.dl k (h3.own k hk); omega
  · refine hK _ _ _ _ h7 (fun k hk => ?_) (ho.mono fun k _ hk => .inl hk) (fun k hk => ?_)
    · rcases hk with q | q
      · exact (h1.lt q).2
      · exact h3.dl k (h3.own k q)
    · rcases hk with q | q
      · exact (hT' k q).imp .inl id
      · exact .inl (.inr q)
theorem Du.dstep (bel : Below w.heap.size w W) (h1 : Ta W b T m mr c C B0 u r) (h2 : w.heap.size ≤ B0) (h3 : Rt.Di W t K0 m mr es D A cc) (h4 : w.heap.size ≤ K0) (h5 : ∀ k, T k → D k) (h6 : ∀ k, Rt.Own t A es k → ¬ T k) (h7 : K (fun k => T k ∨ Rt.Own t A es k) W) (hK : Stays K)
    (hd : Rt.Dout W t K0 m mr es A D es' W') : Du w W' b t m mr c C es' K ∧ Nb W W' := by
  obtain ⟨A', c', D', k1, ho, hn, hD, hO⟩ := hd
  have hT := h1.nbs ho hn (fun k hk hU => h6 k hU hk)
  refine ⟨⟨⟨T, B0, u, r, K0, A', D', c', hT, h2, k1, h4, fun k hk => hD k (h5 k hk), fun k hk hT => ?_, ?_⟩, bel.trans (ho.below (fun k hk => Nat.le_trans h4 (h3.ownK k hk)) bel.size)⟩, hn⟩
  · rcases hO k hk with q | q
    · exact h6 k q hT
    · have := (h1.lt hT).2; omega
  · refine hK _ _ _ _ h7 (fun k hk => ?_) (ho.mono fun k _ hk => .inr hk) (fun k hk => ?_)
    · rcases hk with q | q
      · exact (h1.lt q).2
      · exact h3.dl k (h3.own k q)
    · rcases hk with q | q
      · exact .inl (.inl q)
      · exact (hO k q).imp .inr id
theorem Du.below (h : Du w W b t m mr c C es K) (hK : Stays K) (hb : Below W.heap.size W W') : Du w W' b t m mr c C es K := by
  obtain ⟨T, B0, u, r, K0, A, D, cc, h1, h2, h3, h4, h5, h6, h7⟩ := h.is
  refine ⟨⟨T, B0, u, r, K0, A, D, cc, h1.below hb, h2, h3.below hb, h4, h5, h6, hK _ _ _ _ h7 (fun k hk => ?_) (OnlyS.of_below hb) (fun k hk => .inl hk)⟩, h.bel.trans (hb.mono h.bel.size)⟩
  rcases hk with q | q
  · exact (h1.lt q).2
  · exact h3.dl k (h3.own k q)
theorem Du.mono {K' : (Nat → Prop) → World → Prop} (h : Du w W b t m mr c C es K) (hk : ∀ T W, K T W → K' T W) : Du w W b t m mr c C es K' := by
  obtain ⟨T, B0, u, r, K0, A, D, cc, h1, h2, h3, h4, h5, h6, h7⟩ := h.is
  exact ⟨⟨T, B0, u, r, K0, A, D, cc, h1, h2, h3, h4, h5, h6, hk _ _ h7⟩, h.bel⟩
theorem len_tot (R : Rt.Rel C es) : es.length ≤ Rt.totE es := by
  have : ∀ l : List Nd, (∀ e, e ∈ l → 0 < e.H.length + e.L.length) → l.length ≤ Rt.totE l := by
    intro l
    induction l with
    | nil => intro _; exact Nat.le_refl _
    | cons e l ih =>
      intro h
      have h1 := ih fun x hx => h x (List.mem_cons_of_mem _ hx)
      have h2 := h e List.mem_cons_self
      unfold Rt.totE at *
      rw [List.map_cons, List.sum_cons, List.length_cons]
      omega
  exact this es fun e he => (R.ok e he).2
/-- how many there are, and may be -/
theorem Du.facts (h : Du w W b t m mr c C es K) (R : Rt.Rel C es) : es.length ≤ m ∧ Rt.totE es ≤ c ∧ 0 ≤ mr ∧ mr ≤ 1024 ∧ es.length ≤ Rt.totE es ∧ m ≤ 4096 := by
  obtain ⟨T, B0, u, r, K0, A, D, cc, h1, -⟩ := h.is
  obtain ⟨rfl, rfl⟩ := h1.of R
  obtain ⟨b1, b2, b3, b4, b5⟩ := h1.bounds
  exact ⟨b1, b3, by omega, b4, len_tot R, b5⟩
theorem Du.box (h : Du w W b t m mr c C es K) (hK : Stays K) (d : Dd) (ty : TypeId) : Du w (W.alloc (.cells (dcs d) ty)) b t m mr c C es (fun U W' => K U W' ∧ Box W.heap.size d U W') := by
  have hb := box_below W (.cells (dcs d) ty)
  obtain ⟨T, B0, u, r, K0, A, D, cc, h1, h2, h3, h4, h5, h6, h7⟩ := h.is
  have hU : ∀ k, (T k ∨ Rt.Own t A es k) → k < W.heap.size := fun k hk => by
    rcases hk with q | q
    · exact (h1.lt q).2
    · exact h3.dl k (h3.own k q)
  exact ⟨⟨T, B0, u, r, K0, A, D, cc, h1.below hb, h2, h3.below hb, h4, h5, h6, hK _ _ _ _ h7 hU (OnlyS.of_below hb) (fun k hk => .inl hk), Dbx.new W d ty, fun hk => by have := hU _ hk; omega⟩, h.bel.trans (hb.mono h.bel.size)⟩
theorem Du.boxed {d : Dd} {M : Nat} (h : Du w W b t m mr c C es (fun U W' => K U W' ∧ Box M d U W')) : Dbx W M d := by
  obtain ⟨T, B0, u, r, K0, A, D, cc, h1, h2, h3, h4, h5, h6, h7⟩ := h.is
  exact h7.2.1
theorem Du.task (h : Du w W b t m mr c C es K) (hK : Stays K) (R : Rt.Rel C es) (ht : TabG w) (hc : c ≤ 239) (tx md fl : Int) (p : Pa.Pt) {Y : Int × Int × Cx} (hY : askT m mr es.length (Rt.totE es) C tx p md fl = Y) :
    Calls Tryz.prog 25 #[tp b, .int .i64 tx, p.v, .int .i64 md, .int .i64 fl] W fun e w' => e = .returned (.tuple #[.int .i64 Y.1, .int .i64 Y.2.1]) ∧ Du w w' b t m mr (c + 1) (upC C p Y.2.2) es K := by
  obtain ⟨T, B0, u, r, K0, A, D, cc, h1, h2, h3, h4, h5, h6, h7⟩ := h.is
  obtain ⟨rfl, rfl⟩ := h1.of R
  subst hY
  refine (h1.ask (ht.later h.bel) hc tx md fl p).mono ?_
  rintro e w' ⟨rfl, T', u', t', k1, k2, k3, -, -⟩
  exact ⟨rfl, Du.tstep h.bel h1 h2 h3 h4 h5 h6 h7 hK k1 k2 k3⟩
theorem Du.dask (h : Du w W b t m mr c C' es K) (hK : Stays K) (R : Rt.Rel C es) (f : es.length ≤ m ∧ Rt.totE es ≤ 239 ∧ 0 ≤ mr ∧ mr ≤ 1024 ∧ es.length ≤ Rt.totE es ∧ m ≤ 4096) (tx md fl : Int) (p : Pa.Pt) {Y : Int × Int × Cx} (hY : askT m mr es.length (Rt.totE es) C tx p md fl = Y) :
    Calls Tryz.prog 31 #[qp t, .int .i64 tx, p.v, .int .i64 md, .int .i64 fl] W fun e w' => e = .returned (.tuple #[.int .i64 Y.1, .int .i64 Y.2.1]) ∧ ∃ es', Du w w' b t m mr c C' es' K ∧ Rt.Rel (upC C p Y.2.2) es' := by
  obtain ⟨T, B0, u, r, K0, A, D, cc, h1, h2, h3, h4, h5, h6, h7⟩ := h.is
  subst hY
  obtain ⟨f1, f2, f3, f4, f5, f6⟩ := f
  refine (h3.ask R (by omega) (by omega) f1 f3 f4 tx md fl p).mono ?_
  rintro e w' ⟨rfl, es', k1, k2⟩
  exact ⟨rfl, es', (Du.dstep h.bel h1 h2 h3 h4 h5 h6 h7 hK k1).1, k2⟩
/-- what a Release or a Cancel of the table comes to -/
def TRel (w : World) (b t m : Nat) (mr : Int) (c : Nat) (C : Pa.Pt → Cx) (es : List Nd) (K : (Nat → Prop) → World → Prop) (p : Pa.Pt) (X : Out) (e : Ending) (w' : World) : Prop :=
  ∃ A k, e = .returned (.tuple #[.slice A X.told.length k, .int .i64 X.err]) ∧ Ws.Ls w' A k X.told ∧ Du w w' b t m mr (c + 1) (upC C p (X.hs, X.ws)) es K
theorem Du.trelease (h : Du w W b t m mr c C es K) (hK : Stays K) (ht : TabG w) (hc : c ≤ 239) (tx : Int) (p : Pa.Pt) : Calls Tryz.prog 27 #[tp b, .int .i64 tx, p.v] W (TRel w b t m mr c C es K p (relT rel C tx p)) := by
  obtain ⟨T, B0, u, r, K0, A, D, cc, h1, h2, h3, h4, h5, h6, h7⟩ := h.is
  refine (h1.release (ht.later h.bel) hc tx p).mono ?_
  rintro e w' ⟨A, k, rfl, g1, -, T', u', t', k1, k2, k3, -⟩
  exact ⟨A, k, rfl, g1, Du.tstep h.bel h1 h2 h3 h4 h5 h6 h7 hK k1 k2 k3⟩
theorem Du.tcancel (h : Du w W b t m mr c C es K) (hK : Stays K) (ht : TabG w) (hc : c ≤ 239) (tx : Int) (p : Pa.Pt) : Calls Tryz.prog 29 #[tp b, .int .i64 tx, p.v] W (TRel w b t m mr c C es K p (relT can C tx p)) := by
  obtain ⟨T, B0, u, r, K0, A, D, cc, h1, h2, h3, h4, h5, h6, h7⟩ := h.is
  refine (h1.cancel (ht.later h.bel) hc tx p).mono ?_
  rintro e w' ⟨A, k, rfl, g1, -, T', u', t', k1, k2, k3, -⟩
  exact ⟨A, k, rfl, g1, Du.tstep h.bel h1 h2 h3 h4 h5 h6 h7 hK k1 k2 k3⟩
/-- .. of the document's -/
def DRel (w W : World) (b t m : Nat) (mr : Int) (c : Nat) (C C' : Pa.Pt → Cx) (K : (Nat → Prop) → World → Prop) (p : Pa.Pt) (X : Out) (e : Ending) (w' : World) : Prop :=
  ∃ A k, e = .returned (.tuple #[.slice A X.told.length k, .int .i64 X.err]) ∧ Ws.Ls w' A k X.told ∧ (∃ es', Du w w' b t m mr c C' es' K ∧ Rt.Rel (upC C p (X.hs, X.ws)) es') ∧ Nb W w'
theorem Du.drelease (h : Du w W b t m mr c C' es K) (hK : Stays K) (R : Rt.Rel C es) (f : es.length ≤ m ∧ Rt.totE es ≤ 239 ∧ 0 ≤ mr ∧ mr ≤ 1024 ∧ es.length ≤ Rt.totE es ∧ m ≤ 4096) (tx : Int) (p : Pa.Pt) : Calls Tryz.prog 28 #[qp t, .int .i64 tx, p.v] W (DRel w W b t m mr c C C' K p (relT rel C tx p)) := by
  obtain ⟨T, B0, u, r, K0, A, D, cc, h1, h2, h3, h4, h5, h6, h7⟩ := h.is
  obtain ⟨f1, f2, f3, f4, f5, f6⟩ := f
  refine (h3.release R (by omega) (by omega) tx p).mono ?_
  rintro e w' ⟨A, k, rfl, g1, es', k1, k2⟩
  have := Du.dstep h.bel h1 h2 h3 h4 h5 h6 h7 hK k1
  exact ⟨A, k, rfl, g1, ⟨es', this.1, k2⟩, this.2⟩
theorem Du.dcancel (h : Du w W b t m mr c C' es K) (hK : Stays K) (R : Rt.Rel C es) (f : es.length ≤ m ∧ Rt.totE es ≤ 239 ∧ 0 ≤ mr ∧ mr ≤ 1024 ∧ es.length ≤ Rt.totE es ∧ m ≤ 4096) (tx : Int) (p : Pa.Pt) : Calls Tryz.prog 30 #[qp t, .int .i64 tx, p.v] W (DRel w W b t m mr c C C' K p (relT can C tx p)) := by
  obtain ⟨T, B0, u, r, K0, A, D, cc, h1, h2, h3, h4, h5, h6, h7⟩ := h.is
  obtain ⟨f1, f2, f3, f4, f5, f6⟩ := f
  refine (h3.cancel R (by omega) (by omega) tx p).mono ?_
  rintro e w' ⟨A, k, rfl, g1, es', k1, k2⟩
  have := Du.dstep h.bel h1 h2 h3 h4 h5 h6 h7 hK k1
  exact ⟨A, k, rfl, g1, ⟨es', this.1, k2⟩, this.2⟩
end
end Go.Proofs.YtjhkejkdnjogiaaGreatDoor
