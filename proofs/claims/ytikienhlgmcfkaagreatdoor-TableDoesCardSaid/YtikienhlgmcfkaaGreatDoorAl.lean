/- Whether a table is as the document's. -/
import Derived.Test.YtikienhlgmcfkaaGreatDoorTp
import Derived.Test.YtikienhlgmcfkaaGreatDoorAx
import Derived.Test.YtikienhlgmcfkaaGreatDoorWt
namespace Go.Proofs.YtikienhlgmcfkaaGreatDoor
open Go Go.RowKit Go.Shelf
attribute [local go_sem] Oper.semAt_some
set_option maxRecDepth 100000

theorem results_b {fn : Func} {q : Tmp} (h : fn.results = #[.cell q 4]) {tmps : Array Value} {w : World} {R : Nat} {b : Bool} (hq : tmps.getD q undef = .pointer (some ⟨R, 0, none⟩)) (hR : w.cell? ⟨R, 0, none⟩ = some (.bool b)) : (results fn tmps).run Tryz.prog w = .ok (.bool b) w := by
  have hq' : tmps[q]?.getD undef = .pointer (some ⟨R, 0, none⟩) := by simpa using hq
  simp [results, h, hq', go_sem, hR]
/-- what the test has of its own -/
structure AI (w : World) (D0 : Nat) (b t i : Nat) (W : World) : Prop where
  b0 : Boxed W w.heap.size 24 (tp b)
  b1 : Boxed W (w.heap.size + 1) 26 (qp t)
  b2 : Boxed W (w.heap.size + 1 + 1) 4 (.bool false)
  b3 : Boxed W (w.heap.size + 1 + 1 + 1) 3 (.int .i64 (i : Int))
  bel : Below w.heap.size w W
  sz : D0 ≤ W.heap.size
section
variable {w W W' : World} {D0 b t i : Nat}
theorem AI.turn (h : AI w D0 b t i W) (tt : Turn D0 W W') (h1 : w.heap.size ≤ D0) : AI w D0 b t i W' :=
  ⟨Abides.boxed _ _ _ _ _ _ h.b0 tt, Abides.boxed _ _ _ _ _ _ h.b1 tt, Abides.boxed _ _ _ _ _ _ h.b2 tt, Abides.boxed _ _ _ _ _ _ h.b3 tt, tt.below h.bel h1 (Nat.le_refl _), Nat.le_trans h.sz tt.size⟩
theorem AI.below (h : AI w D0 b t i W) (hb : Below W.heap.size W W') : AI w D0 b t i W' :=
  ⟨(hb.block _ h.b0.lt).trans h.b0, (hb.block _ h.b1.lt).trans h.b1, (hb.block _ h.b2.lt).trans h.b2, (hb.block _ h.b3.lt).trans h.b3, h.bel.trans (hb.mono h.bel.size), Nat.le_trans h.sz hb.size⟩
theorem AI.next (h : AI w D0 b t i W) (k : Nat) : AI w D0 b t k (W.setCell ⟨w.heap.size + 1 + 1 + 1, 0, none⟩ (.int .i64 (k : Int))) ∧ OnlyS (· = w.heap.size + 1 + 1 + 1) W (W.setCell ⟨w.heap.size + 1 + 1 + 1, 0, none⟩ (.int .i64 (k : Int))) := by
  have ho := OnlyS.set (w.heap.size + 1 + 1 + 1) 0 W (.int .i64 (k : Int))
  have hz := h.bel.size
  exact ⟨⟨(ho.block _ h.b0.lt (by omega)).trans h.b0, (ho.block _ h.b1.lt (by omega)).trans h.b1, (ho.block _ h.b2.lt (by omega)).trans h.b2, h.b3.set _, h.bel.trans (ho.below (fun q hq => by omega) hz), Nat.le_trans h.sz ho.size⟩, ho⟩
end
theorem heap4 (w : World) (o0 o1 o2 o3 : Obj) : let W := (((w.alloc o0).alloc o1).alloc o2).alloc o3
    W.heap[w.heap.size]? = some o0 ∧ W.heap[w.heap.size + 1]? = some o1 ∧ W.heap[w.heap.size + 1 + 1]? = some o2 ∧ W.heap[w.heap.size + 1 + 1 + 1]? = some o3 ∧ Below w.heap.size w W ∧ W.heap.size = w.heap.size + 1 + 1 + 1 + 1 := by
  intro W
  have s1 : (w.alloc o0).heap.size = w.heap.size + 1 := by simp
  have s2 : ((w.alloc o0).alloc o1).heap.size = w.heap.size + 1 + 1 := by simp
  have s3 : (((w.alloc o0).alloc o1).alloc o2).heap.size = w.heap.size + 1 + 1 + 1 := by simp
  have h0 := World.alloc_heap_new w o0
  have h1 := World.alloc_heap_new (w.alloc o0) o1
  have h2 := World.alloc_heap_new ((w.alloc o0).alloc o1) o2
  have h3 := World.alloc_heap_new (((w.alloc o0).alloc o1).alloc o2) o3
  rw [s1] at h1
  rw [s2] at h2
  rw [s3] at h3
  have b1 := box_below (w.alloc o0) o1
  have b2 := box_below ((w.alloc o0).alloc o1) o2
  have b3 := box_below (((w.alloc o0).alloc o1).alloc o2) o3
  refine ⟨?_, ?_, ?_, h3, ?_, by simp [W]⟩
  · exact (b3.block _ (by omega)).trans ((b2.block _ (by omega)).trans ((b1.block _ (by omega)).trans h0))
  · exact (b3.block _ (by omega)).trans ((b2.block _ (by omega)).trans h1)
  · exact (b3.block _ (by omega)).trans h2
  · have b0 := box_below w o0
    exact b0.trans ((b1.mono (by omega)).trans ((b2.mono (by omega)).trans (b3.mono (by omega))))
section
variable {w : World} {b t m c u r B0 K0 cc : Nat} {T D : Nat → Prop} {mr : Int} {C : Pa.Pt → Cx} {es : List Nd} {A : Option Addr}
set_option maxHeartbeats 16000000 in
theorem alike_any (h : Ta w b T m mr c C B0 u r) (hm : m ≤ 1000) (hc : c ≤ 400) (d : Rt.Di w t K0 m mr es D A cc) (R : Rt.Rel C es) (hu : u = es.length) (hrr : r = Rt.totE es) (hn : es.length ≤ 300) (hs : Rt.totE es ≤ 300) :
    Calls Tryz.prog 17 #[tp b, qp t] w fun e w' => e = .returned (.bool true) ∧ Below w.heap.size w w' := by
  subst hu
  subst hrr
  refine (callsIn_wide (n := 9)).1 ?_
  refine callsIn_of_wp_marks Tryz.func17 rfl trivial ?_ rfl
  simp only [Tryz.ntmps17, List.size_toArray, List.length_cons, List.length_nil, Nat.reduceAdd, Nat.reduceSub, Array.replicate_succ, Array.replicate_zero, List.push_toArray, List.append_toArray, List.nil_append, List.cons_append]
  refine wpIn_wide.2 ?_
  have HTa := Lib.hid h
  have HD := Lib.hid d
  have HR := Lib.hid R
  have h4 := heap4 w (.cells #[tp b] 24) (.cells #[qp t] 26) (.cells #[.bool false] 4) (.cells #[.int .i64 0] 3)
  simp only at h4
  obtain ⟨o0, o1, o2, o3, ob, hsz⟩ := h4
  have hw : AI w (w.heap.size + 1 + 1 + 1 + 1) b t 0 ((((w.alloc (.cells #[tp b] 24)).alloc (.cells #[qp t] 26)).alloc (.cells #[.bool false] 4)).alloc (.cells #[.int .i64 0] 3)) := ⟨o0, o1, o2, o3, ob, Nat.le_of_eq hsz.symm⟩
  have hps : ∀ p, p ∈ es.map (·.p) ↔ 0 < szC (C p) := fun p => by rw [R.mem, List.mem_map]
  have hsr : (es.map (·.p)).Pairwise (fun p q => Pa.lessB p q = true) := by
    rw [List.pairwise_map]
    exact R.srt
  have HP := Lib.hid ((h.below hw.bel).paths hm hsr hps)
  have H0 := Lib.hid hw
  obtain ⟨n, hnn⟩ : ∃ n, es.length = n := ⟨_, rfl⟩
  have HN := Lib.hid hnn

  have hDlt := d.lt
  rw [hnn] at hn
  clear h d R hw o0 o1 o2 o3 ob hps hsr hnn
  go_wp2_with fail
  generalize (((w.alloc (.cells #[tp b] 24)).alloc (.cells #[qp t] 26)).alloc (.cells #[.bool false] 4)).alloc (.cells #[.int .i64 0] 3) = w2 at *
  refine HP.out.mono ?_
  rintro e w3 ⟨B, pv, rfl, hbx, hrow, hb3, hB⟩
  have H3 := Lib.hid (H0.out.below hb3)
  have hz3 := hb3.size
  have HTl := Lib.hid (vals_tells hbx hrow (by rw [List.length_map, HN.out]; omega))
  have HLt := Lib.hid (show ∀ k, OfRow B pv k → w2.heap.size ≤ k ∧ k < w3.heap.size from fun k hk => by
    rcases hk with rfl | hk
    · exact ⟨by omega, hbx.lt⟩
    · have := hrow.lt k hk; exact ⟨by omega, this.2⟩)
  clear hbx hrow hb3 hB HP H0
  go_wp2_with fail
  refine (wpIn_wide (n := 9)).1 ?_
  refine wp_range (α := Pa.Pt) (encs := encP) (xs := es.map (·.p)) (S := OfRow B pv) rfl (enters_of Tryz.func96 (by kernel_rfl) rfl) HTl.out (fun k hk => (HLt.out k hk).2) (fun _ => rfl)
    (fun pre W => AI w w3.heap.size b t pre.length W)
    (fun _ _ _ => False)
    (fun pre p a' W => AI w w3.heap.size b t pre.length W ∧ ∃ K, w3.heap.size ≤ K ∧ PbT W K p ∧
      a' = { tmps := #[tp b, qp t, tp w.heap.size, tp (w.heap.size + 1), tp (w.heap.size + 1 + 1), tp (w.heap.size + 1 + 1 + 1), tp K, undef, undef, undef, tp b, .func (.func 96) #[] #[tp B], p.v, undef, undef, undef, undef, undef, undef, undef, undef, undef, undef, undef, undef, undef, undef, undef, undef, undef, undef, undef, undef, undef, undef, undef, undef, undef, undef, undef, undef, undef, undef, undef, undef, undef, undef, undef, undef, undef, undef, undef, undef, undef, undef, undef, undef, undef, undef, undef, undef, undef, undef, undef, undef, undef, undef, undef, undef, undef, undef, undef, undef, undef, undef, undef, undef, undef, undef, undef, undef, undef, undef, undef, undef, undef, undef, undef, undef, undef, undef, undef, undef, undef, undef, undef, undef, undef, undef, undef, undef, undef, undef, undef, undef, undef, undef, undef, undef, undef], defers := [] })
    ?hI ?hIx ?hA ⟨H3.out.b0, H3.out.b1, H3.out.b2, H3.out.b3, H3.out.bel, Nat.le_refl _⟩ ?assign ?body ?done ?stop
  case hI => exact fun s X Y h tt => h.turn tt (by omega)
  case hIx => exact fun _ _ _ _ h _ => h
  case hA =>
    rintro s x a' X Y ⟨h, K, hK0, hK, h6⟩ tt
    exact ⟨h.turn tt (by omega), K, hK0, tt.cells _ _ hK rfl, h6⟩
  case assign =>
    rintro l pre p W hi
    have HC := Lib.hid (hi.below (box_below W (.cells (pcs p) 30)))
    have HK := Lib.hid (show w3.heap.size ≤ W.heap.size ∧ PbT (W.alloc (.cells (pcs p) 30)) W.heap.size p from ⟨hi.sz, World.alloc_heap_new W _⟩)
    have HKf := Lib.hid (An.keepsFrom_box w3.heap.size W (.cells (pcs p) 30))
    have HKs := Lib.hid (keeps_of (S := OfRow B pv) (box_below W (.cells (pcs p) 30)) (fun k hk => Nat.lt_of_lt_of_le (HLt.out k hk).2 hi.sz))
    clear hi
    obtain ⟨pa, pb, pc, pd, pe⟩ := p
    gi_wp2
    exact ⟨HKf.out, HKs.out, HC.out, W.heap.size, HK.out.1, HK.out.2, by simp⟩
  case body =>
    rintro l pre p post a' W hx ⟨hc4, K, hK0, hK, rfl⟩
    have hjl : pre.length < es.length := by
      have := congrArg List.length hx
      simp at this
      omega
    have hxp : (es[pre.length]'hjl).p = p := by
      have := congrArg (fun l => l[pre.length]?) hx
      simp [List.getElem?_eq_getElem hjl] at this
      exact this
    have hpl : (pre ++ [p]).length = pre.length + 1 := by simp
    have d1 := HD.out.below hc4.bel
    obtain ⟨g, rfl, c0, -⟩ := d1.at hjl
    obtain ⟨A1, c1, A2, c2, hRW, -⟩ := d1.ent _ (List.getElem_mem hjl)
    have hcy := HR.out.cy _ (List.getElem_mem hjl)
    have hok := (HR.out.ok _ (List.getElem_mem hjl)).2
    have hz := Rt.totE_ge (List.getElem_mem hjl)
    have ct := d1.e0 HN.out
    have hjn : pre.length < n := by rw [← HN.out]; exact hjl
    obtain ⟨x, hxx⟩ : ∃ x, es[pre.length]'hjl = x := ⟨_, rfl⟩
    rw [hxx] at c0 hRW hcy hok hz hxp
    obtain ⟨p', q, H, L⟩ := x
    simp only at c0 hRW hcy hok hz hxp
    subst hxp
    have HQu := Lib.hid (fun (W' : World) (hb : Below w.heap.size w W') => (show Calls Tryz.prog 26 #[tp b, p'.v] W' fun e w' => ∃ Q0 A1 c1 A2 c2, e = .returned (qp Q0) ∧ QAt w' Q0 A1 c1 A2 c2 H L ∧ Below W'.heap.size W' w' from by
      have := (HTa.out.below hb).queue hc p'
      rw [hcy] at this
      refine this.mono ?_
      rintro e w' ⟨hb', ⟨h0, -⟩ | ⟨-, Q0, A1, c1, A2, c2, rfl, hq, -⟩⟩
      · exact absurd h0 (by unfold szC; simp only; omega)
      · exact ⟨Q0, A1, c1, A2, c2, rfl, hq, hb'⟩))
    obtain ⟨j, hjj⟩ : ∃ j, pre.length = j := ⟨_, rfl⟩
    rw [hjj] at c0 hjn hc4 hpl
    have HC := Lib.hid hc4
    have HK := Lib.hid (And.intro hK0 hK)
    have HRW := Lib.hid hRW
    have Hct := Lib.hid ct
    have Hc0 := Lib.hid c0
    have HPl := Lib.hid hpl
    clear hx hxx hc4 hK0 hK hRW hcy hok hjj hjl d1 ct c0 hpl
    gi_wp2
    refine reg4 (K := K) (p := p') HC.out.b3.cell HC.out.b1.cell Hct.out Hc0.out hjn HK.out.2.cells ⟨HRW.out.e0, HRW.out.e1, HRW.out.e2, HRW.out.e3, HRW.out.e4⟩ (by rintro ⟨a, w, h⟩; exact h) (fun _ _ _ _ h => h) ?_
    intro t13 t14 t15 t16 t17 t18 t19 t20 t21 t22 t23 t24 t25 t26 t27 t28 t29 t30 t31 t32 kk
    have hbk : Below W.heap.size W (W.drewN kk) := drew_below W kk
    have hC1 := HC.out.below hbk
    have e0 := hC1.b0.cell
    have hK1 : PbT (W.drewN kk) K p' := (hbk.block _ HK.out.2.lt).trans HK.out.2
    have k0 := hK1.cells.c0
    have k1 := hK1.cells.c1
    have k2 := hK1.cells.c2
    have k3 := hK1.cells.c3
    have k4 := hK1.cells.c4
    have HC1 := Lib.hid hC1
    have HBk := Lib.hid hbk
    have HQ1 := Lib.hid (HQu.out _ hC1.bel)
    have Hct1 := Lib.hid ((hbk.cell (cell_lt Hct.out)).trans Hct.out)
    have Hc01 := Lib.hid ((hbk.cell (cell_lt Hc0.out)).trans Hc0.out)
    have HRW1 := Lib.hid (HRW.out.below hbk)
    obtain ⟨pa, pb, pc, pd, pe⟩ := p'
    simp only at k0 k1 k2 k3 k4
    clear hC1 hbk hK1 HQu
    generalize W.drewN kk = W1 at *
    gi_wp2_with (refine ⟨trivial, ?_⟩; gi_at_call 26; refine (callsIn_round HQ1.out).mono ?_; rintro e w4 ⟨Q0, B1, q1, B2, q2, rfl, hq, hb4⟩; have HC4 := Lib.hid (HC1.out.below hb4); have HB4 := Lib.hid (HBk.out.trans (hb4.mono HBk.out.size)); have Hct4 := Lib.hid ((hb4.cell (cell_lt Hct1.out)).trans Hct1.out); have Hc04 := Lib.hid ((hb4.cell (cell_lt Hc01.out)).trans Hc01.out); have HRW4 := Lib.hid (HRW1.out.below hb4); have HQ4 := Lib.hid hq; clear hq hb4)
    refine reg7 (K := K) HC4.out.b3.cell HC4.out.b1.cell Hct4.out Hc04.out hjn HRW4.out HQ4.out (by omega) (by rintro ⟨a, w, h⟩; exact h) (fun _ _ _ _ h => h) ?_
    intro u37 u38 u39 u40 u41 u42 u43 u44 u45 u46 u47 u48 u49 u50 u51 u52 u53 u54 u55 u56 u57 u58 u59 u60 u61 u62 u63 u64 u65 w5 hb5
    have HC5 := Lib.hid (HC4.out.below hb5)
    have HB5 := Lib.hid (HB4.out.trans (hb5.mono HB4.out.size))
    have f3 := HC5.out.b3.cell
    have f3f := HC5.out.b3.frozen
    have hw1 : IntKind.i64.wrap ((j : Int) + 1) = (j : Int) + 1 := IntWalk.i64_in _ (by omega)
    have hnx := HC5.out.next (j + 1)
    rw [show (((j + 1 : Nat)) : Int) = (j : Int) + 1 by omega] at hnx
    have HNx := Lib.hid hnx
    clear hb5 hnx
    gi_wp2
    refine ⟨(keepsFrom_below HB5.out _).trans ((KeepsOthers.setCell _ _ _).from _), (keeps_of HB5.out (fun k hk => Nat.lt_of_lt_of_le (HLt.out k hk).2 HC.out.sz)).trans (keeps_only HNx.out.2 (fun k hk => ⟨Nat.lt_of_lt_of_le (HLt.out k hk).2 HC5.out.sz, ?_⟩)), ?_⟩
    · have := HLt.out k hk
      omega
    · show AI w w3.heap.size b t (pre ++ [_]).length _
      rw [HPl.out]
      exact HNx.out.1
  case done =>
    rintro D X hDD hf hd
    have HDd := Lib.hid hd
    have HF1 := Lib.hid hf
    have f2 := hf.b0.cell
    have HFu := Lib.hid ((HTa.out.below hf.bel).full)
    clear hf hd
    dsimp only [Exit.inBlock, Exit.then]
    rename_i hK0
    refine hK0 _ _ ?_
    clear hK0
    go_wp2_with fail
    refine HFu.out.mono ?_
    rintro e w5 ⟨rfl, hb5⟩
    have HC5 := Lib.hid (HF1.out.below hb5)
    have HD5 := Lib.hid ((hb5.block D (Array.getElem?_eq_some_iff.1 HDd.out).1).trans HDd.out)
    have d5 := HD.out.below HC5.out.bel
    have hln : (es.map (·.p)).length = n := by rw [List.length_map]; exact HN.out
    have f5 := HC5.out.b3.cell
    rw [hln] at f5
    clear hb5 HFu f2
    go_wp2_with fail
    refine reg11 (n2 := w.heap.size) (n := n) (r := Rt.totE es) f5 HC5.out.b1.cell HC5.out.b0.cell (d5.e0 HN.out) d5.e1 d5.e2 HC5.out.b2 (by omega) (by omega) (by omega) (by omega) ?_ ?_ ?_ ?_
    · intro w' hb
      have := (HTa.out.below (HC5.out.bel.trans (hb.mono HC5.out.bel.size))).heads
      rw [HN.out] at this
      exact this.mono fun e w'' ⟨he, hb'⟩ => ⟨he, hb.trans (hb'.mono hb.size)⟩
    · intro w' hb
      have := (HTa.out.below (HC5.out.bel.trans (hb.mono HC5.out.bel.size))).reqs
      exact this.mono fun e w'' ⟨he, hb'⟩ => ⟨he, hb.trans (hb'.mono hb.size)⟩
    · intro w' hb
      have := (HD.out.below (HC5.out.bel.trans (hb.mono HC5.out.bel.size))).used (by rw [HN.out]; omega) (by omega)
      exact this.mono fun e w'' ⟨he, hb'⟩ => ⟨he, hb.trans (hb'.mono hb.size)⟩
    · intro v74 v75 v76 v77 v78 v79 v80 v81 v82 v83 v84 v85 v86 v87 v88 v89 v90 v91 v92 v93 v94 v95 v96 v97 v98 v99 v100 v101 v102 v103 v104 v105 v106 v107 v108 v109 w6 hb6
      have HC6 := Lib.hid (HC5.out.below hb6)
      have HO := Lib.hid (OnlyS.set (w.heap.size + 1 + 1) 0 w6 (.bool true))
      have hd6 := (hb6.block D (Array.getElem?_eq_some_iff.1 HD5.out).1).trans HD5.out
      have hd7 := (HO.out.block D (Array.getElem?_eq_some_iff.1 hd6).1 (by omega)).trans hd6
      have hr7 : Boxed (w6.setCell ⟨w.heap.size + 1 + 1, 0, none⟩ (.bool true)) (w.heap.size + 1 + 1) 4 (.bool true) := HC6.out.b2.set _
      have HR7 := Lib.hid hr7
      have HD7 := Lib.hid hd7
      clear hb6 hd6 hd7 hr7
      go_wp2_with fail
      refine ⟨by simp, .inl ⟨_, _, rfl, run_takeDeferred HD7.out, ?_⟩⟩
      have ht := Turn.put (B := w.heap.size) (.deferred none) (by omega) HD7.out rfl
      exact ⟨_, results_b rfl rfl (Abides.boxed _ _ _ _ _ _ HR7.out ht).cell, rfl, ht.below (HC6.out.bel.trans (HO.out.below (fun k hk => by omega) HC6.out.bel.size)) (Nat.le_refl _) (Nat.le_refl _)⟩
  case stop =>
    rintro D cd pre post W _ _ h _
    exact h.elim
end
end Go.Proofs.YtikienhlgmcfkaaGreatDoor
