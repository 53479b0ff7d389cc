import Derived.Test.YtlhhopanegnliaaGreatDoorZIp
import Derived.Test.YtlhhopanegnliaaGreatDoorZIr
namespace Go.Proofs.YtlhhopanegnliaaGreatDoor
open Go Go.RowKit Go.Shelf
set_option maxRecDepth 100000
structure MadV (w W : World) (b m : Nat) (mr : Int) (c : Nat) (C : CC) (v : Value) (xs : List Int) : Prop where
  is : ∃ T B0 u t, Ta W b T m mr c C (XR B0 v) u t ∧ w.heap.size ≤ B0.n
  bel : Below w.heap.size w W
  row : Is.Row W w.heap.size v xs
section
variable {w W W1 w' : World} {b m c : Nat} {mr tx : Int} {C C' : CC} {v : Value} {xs : List Int} {K : Nat}
theorem MadV.mad (h : MadV w W b m mr c C v xs) : Mad w W b m mr c C := by
  obtain ⟨T, B0, u, t, h1, h2⟩ := h.is
  exact ⟨⟨T, _, u, t, h1, h2⟩, h.bel⟩
theorem MadV.start (h : Mad w W b m mr c C) : MadV w W b m mr c C (.slice none 0 0) [] := by
  obtain ⟨T, B0, u, t, h1, h2⟩ := h.is
  exact ⟨⟨T, B0, u, t, h1.lessX (X' := (XR B0 (.slice none 0 0)).X) (fun k hk => hk.elim id fun e => by cases e), h2⟩, h.bel, World.ownsRow_nil _ _ _ _⟩
theorem MadV.own (h : MadV w W b m mr c C v xs) (hb : Below W.heap.size W W1) (hK : W.heap.size ≤ K) (hK1 : K < W1.heap.size) :
    ∃ T B0 u t, Ta W1 b T m mr c C ⟨B0.n, fun k => (XR B0 v).X k ∨ k = K⟩ u t ∧ w.heap.size ≤ B0.n ∧ Below w.heap.size w W1 ∧ Is.Row W1 w.heap.size v xs := by
  obtain ⟨T, B0, u, t, h1, h2⟩ := h.is
  exact ⟨T, B0, u, t, h1.ownX hb (X' := fun k => (XR B0 v).X k ∨ k = K) (fun k hk => hk.imp id fun e => ⟨by omega, by omega⟩), h2, h.bel.trans (hb.mono h.bel.size), row_below h.row hb⟩
theorem MadV.fin {T : Nat → Prop} {B0 B1 : Lo0} {u t c' : Nat} (h : Ta W1 b T m mr c C ⟨B0.n, fun k => (XR B0 v).X k ∨ k = K⟩ u t) (hn : w.heap.size ≤ B0.n) (hb : Below w.heap.size w W1) (hr : Is.Row W1 w.heap.size v xs)
    (h1 : B1.n = B0.n) (h2 : ∀ k, (XR B0 v).X k → B1.X k) (k : Ch W1 T b m mr B1 c' C' w') : MadV w w' b m mr c' C' v xs ∧ w'.heap[K]? = W1.heap[K]? := by
  obtain ⟨T', u', t', k1, k2, k3⟩ := k
  refine ⟨⟨⟨T', ⟨B0.n, B0.X⟩, u', t', ?_, hn⟩, hb.trans (k2.below (fun k hk => Nat.le_trans hn (h.lt hk).1) hb.size), row_keep hr fun g hg => k2.block g (h.xl (k := g) (.inl (.inr hg))).1 (h.xl (k := g) (.inl (.inr hg))).2⟩, k2.block K (h.xl (k := K) (.inr rfl)).1 (h.xl (k := K) (.inr rfl)).2⟩
  have := k1.lessX (X' := (XR B0 v).X) h2
  rw [h1] at this
  exact this
theorem MadV.take (h : MadV w W b m mr c C v xs) (ht : TabG w) (hb : Below W.heap.size W W1) (hK : W.heap.size ≤ K) (hK1 : K < W1.heap.size) (hm : m ≤ 1000) (hc : c ≤ 236) (tx : Int) (p : Pa.Pt) (md fl : Int) {S : Int × Int × CC} (hS : tkT m mr tx p md fl 3 C = S) :
    Calls Tryz.prog 20 #[tp b, .int .i64 tx, p.v, .int .i64 md, .int .i64 fl] W1 fun e w' => e = .returned (.tuple #[.int .i64 S.1, .int .i64 S.2.1]) ∧ MadV w w' b m mr (c + 4) S.2.2 v xs ∧ w'.heap[K]? = W1.heap[K]? := by
  obtain ⟨T, B0, u, t, h1, h2, h3, h4⟩ := h.own hb hK hK1
  exact (h1.take (ht.later h3) hm hc tx p md fl hS).mono fun e w' ⟨he, hc⟩ => ⟨he, MadV.fin h1 h2 h3 h4 (B1 := ⟨B0.n, fun k => (XR B0 v).X k ∨ k = K⟩) rfl (fun k hk => .inl hk) hc⟩
theorem MadV.free (h : MadV w W b m mr c C v xs) (ht : TabG w) (hb : Below W.heap.size W W1) (hK : W.heap.size ≤ K) (hK1 : K < W1.heap.size) (hm : m ≤ 1000) (hc : c ≤ 239) (tx : Int) :
    Calls Tryz.prog 18 #[tp b, .int .i64 tx] W1 fun e w' => ∃ v', e = .returned v' ∧ ∃ ys, Lk.Bk (heldL (cnT tx c C).2 tx) ys ∧ MadV w w' b m mr c (frT tx c ys C).2 v xs ∧ w'.heap[K]? = W1.heap[K]? := by
  obtain ⟨T, B0, u, t, h1, h2, h3, h4⟩ := h.own hb hK hK1
  exact (h1.freeH (ht.later h3) hm hc tx (Nat.le_refl c)).mono fun e w' ⟨ys, hbk, v', he, hv, hl⟩ => ⟨v', he, ys, hbk, MadV.fin h1 h2 h3 h4 (B1 := XR ⟨B0.n, fun k => (XR B0 v).X k ∨ k = K⟩ v') rfl (fun k hk => .inl (.inl hk)) hv.ch⟩
theorem MadV.grow (h : MadV w W b m mr c C v xs) (ht : TabG w) (hb : Below W.heap.size W W1) (hK : W.heap.size ≤ K) (hK1 : K < W1.heap.size) (hm : m ≤ 1000) (hc : c ≤ 238) (tx n : Int) :
    Calls Tryz.prog 19 #[tp b, .int .i64 tx, .int .i64 n] W1 fun e w' => ∃ v', e = .returned v' ∧ ∃ r C', Grown m mr tx n C r C' ∧ MadV w w' b m mr (c + 1) C' v xs ∧ w'.heap[K]? = W1.heap[K]? := by
  obtain ⟨T, B0, u, t, h1, h2, h3, h4⟩ := h.own hb hK hK1
  exact (h1.growH (ht.later h3) hm hc tx n).mono fun e w' ⟨r, C', he, hg, hch⟩ => ⟨_, he, r, C', hg, MadV.fin h1 h2 h3 h4 (B1 := ⟨B0.n, fun k => (XR B0 v).X k ∨ k = K⟩) rfl (fun k hk => .inl hk) hch⟩
theorem MadV.app (h : MadV w W b m mr c C v xs) (hl : xs.length ≤ 1000) (tx : Int) (ty : TypeId) :
    ∃ v' W', (Builtin.append_ #[50, 50] ty #[v, .slice (some ⟨W.heap.size, 0, none⟩) 1 1]).run Tryz.prog (W.alloc (.cells #[.int .i64 tx] 3)) = .ok v' W' ∧ MadV w W' b m mr c C v' (xs ++ [tx]) := by
  have hx := box_below W (.cells #[.int .i64 tx] 3)
  obtain ⟨T, B0, u, t, h1, h2⟩ := h.is
  have h1' := h1.below hx
  have hb := h.bel.trans (hx.mono h.bel.size)
  obtain ⟨v', W', hrun, hrow, hg, how⟩ := Is.Row.app (row_below h.row hx) (Is.box_ls W tx) (by simp; omega) hb.size ty
  have hog : OnlyS (fun k => v.ownBlock = some k) (W.alloc (.cells #[.int .i64 tx] 3)) W' := (OnlyS.refl _ _).grown hg fun _ hk => .inl hk
  refine ⟨v', W', hrun, ⟨⟨T, B0, u, t, h1'.growX hog (fun k hk => .inr hk) (X' := (XR B0 v').X) (fun k hk => ?_), h2⟩, hb.trans (Is.Row.app_below (row_below h.row hx) hg hb.size), hrow⟩⟩
  rcases hk with hk | hk
  · exact .inl (.inl hk)
  · rcases how with e | e
    · exact .inl (.inr (by rw [← e]; exact hk))
    · rw [e] at hk
      cases hk
      exact .inr ⟨Nat.le_refl _, (hrow.lt _ e).2⟩
theorem MadV.below (h : MadV w W b m mr c C v xs) (hb : Below W.heap.size W W1) : MadV w W1 b m mr c C v xs := by
  obtain ⟨T, B0, u, t, h1, h2⟩ := h.is
  exact ⟨⟨T, B0, u, t, h1.below hb, h2⟩, h.bel.trans (hb.mono h.bel.size), row_below h.row hb⟩
theorem MadV.more {c' : Nat} (h : MadV w W b m mr c C v xs) (hc : c ≤ c') : MadV w W b m mr c' C v xs := by
  obtain ⟨T, B0, u, t, h1, h2⟩ := h.is
  exact ⟨⟨T, B0, u, t, h1.more hc, h2⟩, h.bel, h.row⟩
theorem Mad.right (h : Mad w W b m mr c C) (hA : Alw C) (hm : m ≤ 1000) (hc : c ≤ 400) (tx : Int) : Calls Tryz.prog 14 #[tp b, .int .i64 tx] W fun e w' => e = .returned (.bool true) ∧ Below W.heap.size W w' := by
  obtain ⟨T, B0, u, t, h1, h2⟩ := h.is
  exact (h1.rightH hm hc tx).mono fun e w' ⟨d, he, hd, hb⟩ => ⟨by rw [he, hd.2 (gd_rt (hA.g tx) hA.f)], hb⟩
theorem Alw.nil (hf : Fnt (fun _ => ([], []))) : Alw (fun _ => ([], [])) :=
  ⟨hf, fun q z hz => (by cases hz), fun y => ⟨fun q hq => absurd rfl hq, fun q z hz => by cases hz⟩⟩
end
theorem and_one (x : Int) : (bits BinOp.and IntKind.i64 x 1 == 2) = false := by
  have h : ((BitVec.ofInt IntKind.i64.bits x) &&& (BitVec.ofInt IntKind.i64.bits 1)).toNat ≤ 1 := by
    rw [BitVec.toNat_and, show (BitVec.ofInt IntKind.i64.bits 1).toNat = 1 by decide, Nat.and_one_is_mod]
    omega
  unfold bits
  simp only
  generalize ((BitVec.ofInt IntKind.i64.bits x) &&& (BitVec.ofInt IntKind.i64.bits 1)).toNat = y at *
  rw [IntKind.wrap_i64, beq_eq_false_iff_ne]
  omega
theorem d19_at {w : World} {K : Nat} {g : D19} (h : w.heap[K]? = some (.cells (d19 g) 32)) :
    w.cell? ⟨K, 0, none⟩ = some (.int .i64 g.k) ∧ w.cell? ⟨K, 1, none⟩ = some (.int .i64 g.t) ∧ w.cell? ⟨K, 2, none⟩ = some (.int .i64 g.p.a) ∧ w.cell? ⟨K, 3, none⟩ = some (.int .i64 g.p.b) ∧ w.cell? ⟨K, 4, none⟩ = some (.int .i64 g.p.c) ∧
      w.cell? ⟨K, 5, none⟩ = some (.int .i64 g.p.d) ∧ w.cell? ⟨K, 6, none⟩ = some (.int .i64 g.p.e) ∧ w.cell? ⟨K, 7, none⟩ = some (.int .i64 g.m) ∧ w.cell? ⟨K, 8, none⟩ = some (.int .i64 g.f) ∧ w.cell? ⟨K, 9, none⟩ = some (.int .i64 g.n) := by
  refine ⟨?_, ?_, ?_, ?_, ?_, ?_, ?_, ?_, ?_, ?_⟩ <;> simp [World.cell?, h, d19]
theorem apart_long (A : Option Addr) (n c : Nat) (q : Pa.Pt) (w : World) (ht : TabG w) (h : 40 < n) :
    Calls Tryz.prog 4 #[.slice A n c, q.v] w fun e w' => e = .returned (.bool true) ∧ Below w.heap.size w w' := by
  have HA := Lib.hid (fun (w1 : World) (hb : Below w.heap.size w w1) => awake_any w1 (ht.later hb))
  have HX := Lib.hid (box_below w (.cells (pcs q) 30))
  obtain ⟨qa, qb, qc, qd, qe⟩ := q
  have q1 : (40 : Int) < (n : Int) := by omega
  clear ht
  go_enter Tryz.func4, Tryz.ntmps4
  go_wp2_with fail
  refine (HA.out _ HX.out).mono ?_
  rintro e w1 ⟨rfl, hb1⟩
  have HB1 := Lib.hid (HX.out.trans (hb1.mono HX.out.size))
  clear hb1
  go_wp2_with fail
  go_ret
  exact ⟨rfl, HB1.out⟩
set_option maxHeartbeats 16000000 in
theorem apart_walk (A : Option Addr) (n c : Nat) (g : Nat → D19) (q : Pa.Pt) (w : World) (ht : TabG w) (hi : In19 w A n g) :
    Calls Tryz.prog 4 #[.slice A n c, q.v] w fun e w' => e = .returned (.bool true) ∧ Below w.heap.size w w' := by
  by_cases h40 : 40 < n
  · exact apart_long A n c q w ht h40
  have HX := Lib.hid (box_below w (.cells (pcs q) 30))
  have HQ := Lib.hid (Pbx.new w q 30)
  have HA := Lib.hid (awake_any _ (ht.later HX.out))
  have HT := Lib.hid (ht.later HX.out)
  have D := Lib.hid (fun (w' : World) (hb : Below w.heap.size w w') (i : Nat) (hi' : i < n) => In19.at hi hb hi')
  have q1 : ¬ (40 : Int) < (n : Int) := by omega
  obtain ⟨q', hq'⟩ : ∃ q', q = q' := ⟨_, rfl⟩
  have HEnd := Lib.hid (fun C L (hA : Alw C) (hL : L.Nodup) => apart_end (q := q') hA (L := L) hL)
  have HSn := Lib.hid (fun C k L tx => atL_snoc (C := C) (q := q') k L tx)
  have HLe := Lib.hid (fun C k L => atL_le (C := C) (q := q') k L)
  have HLv := Lib.hid (fun (W : World) (A : Option Addr) (c : Nat) (xs : List Lk) (hr : Lk.Ls W A c xs) (hl : xs.length ≤ 1000) => (show Calls Tryz.prog 22 #[.slice A xs.length c, q.v] W fun e w' => e = .returned (.int .i64 (Lk.levL xs q' : Nat)) ∧ Below W.heap.size W w' by rw [← hq']; exact Lk.level_any hr hl q))
  clear ht hi hq'
  obtain ⟨qa, qb, qc, qd, qe⟩ := q
  obtain ⟨K3, hK3⟩ : ∃ K3, w.heap.size = K3 := ⟨_, rfl⟩
  rw [hK3] at HQ
  go_enter Tryz.func4, Tryz.ntmps4
  go_upto_region 1 with (fail)
  generalize hW0 : w.alloc (.cells #[.int .i64 qa, .int .i64 qb, .int .i64 qc, .int .i64 qd, .int .i64 qe] 30) = W0 at *
  clear hW0 hK3
  go_wp2_with fail
  refine HA.out.mono ?_
  rintro e w1 ⟨rfl, hb1⟩
  have HN := Lib.hid (mad_new hb1 HT.out.size 200 1000)
  rw [show clamp 200 256 = 200 from rfl, show ((clamp 1000 1024 : Nat) : Int) = 1000 from rfl] at HN
  clear hb1 HA
  go_wp2_with fail
  refine HN.out.mono ?_
  rintro e w2 ⟨b, rfl, h2⟩
  have H2 : Hid (∃ C xs, MadV W0 w2 b 200 1000 (4 * 0) C (.slice none 0 0) xs ∧ Alw C ∧ xs.length = 0) := ⟨_, [], MadV.start h2, Alw.nil h2.facts.1, rfl⟩
  clear h2 HN
  go_wp2_with fail
  go_loopw [22, 6] (fun t v wr => ∃ k : Nat, k ≤ n ∧ t = .int .i64 k ∧ ∃ C xs, MadV W0 wr b 200 1000 (4 * k) C v xs ∧ Alw C ∧ xs.length = k) (fun t _ _ => n - (intOf t).toNat)
  case atStart => exact ⟨0, by omega, rfl, H2.out⟩
  case round =>
    obtain ⟨w3, rfl⟩ : ∃ w3, w3 = wr := ⟨_, rfl⟩
    obtain ⟨k, hk, rfl, C, xs, ho, hAl, hxl⟩ := hrel
    have H := Lib.hid ho
    have HAl := Lib.hid hAl
    have HXl := Lib.hid hxl
    clear ho H2 hAl hxl
    by_cases hlt : k < n
    · obtain ⟨ad, rfl, ⟨c0, c1, c2, c3, c4, c5, c6, c7, c8, c9⟩⟩ := D.out w3 (HX.out.trans (H.out.bel.mono HX.out.size)) k hlt
      generalize g k = gk at c0 c1 c2 c3 c4 c5 c6 c7 c8 c9
      obtain ⟨gk, gt, ⟨ga, gb, gc, gd, ge⟩, gm, gf, gn⟩ := gk
      simp only at c0 c1 c2 c3 c4 c5 c6 c7 c8 c9
      have HB3 := Lib.hid (box_below w3 (.cells (d19 ⟨gk, gt, ⟨ga, gb, gc, gd, ge⟩, gm, gf, gn⟩) 32))
      have HG3 := Lib.hid (heap_alloc_new w3 (.cells (d19 ⟨gk, gt, ⟨ga, gb, gc, gd, ge⟩, gm, gf, gn⟩) 32))
      have HL3 := Lib.hid (box_lt w3 (.cells (d19 ⟨gk, gt, ⟨ga, gb, gc, gd, ge⟩, gm, gf, gn⟩) 32))
      go_upto_region 10 with (fail)
      have HTk := Lib.hid (fun fl => H.out.take HT.out HB3.out (Nat.le_refl _) HL3.out (by decide) (by omega) gt ⟨ga, gb, gc, gd, ge⟩ gm fl rfl)
      have HFr := Lib.hid (H.out.free HT.out HB3.out (Nat.le_refl _) HL3.out (by decide) (by omega) gt)
      have HGr := Lib.hid (H.out.grow HT.out HB3.out (Nat.le_refl _) HL3.out (by decide) (by omega) gt gn)
      have HFc := Lib.hid (show wsC C ≤ 4 * k from H.out.mad.facts.2.1)
      clear H HB3 HL3 c0 c1 c2 c3 c4 c5 c6 c7 c8 c9
      generalize w3.alloc (.cells #[.int .i64 gk, .int .i64 gt, .int .i64 ga, .int .i64 gb, .int .i64 gc, .int .i64 gd, .int .i64 ge, .int .i64 gm, .int .i64 gf, .int .i64 gn] 32) = w8 at *
      generalize w3.heap.size = K8 at *
      obtain ⟨c0, c1, c2, c3, c4, c5, c6, c7, c8, c9⟩ := d19_at HG3.out
      simp only at c0 c1 c2 c3 c4 c5 c6 c7 c8 c9
      by_cases h3 : gk = 3
      · subst h3
        clear HTk HGr
        go_wp2_with fail
        refine HFr.out.mono ?_
        rintro e w4 ⟨v', rfl, ys, hbk, hm, hg⟩
        have HAl' := Lib.hid (HAl.out.free gt HFc.out hbk)
        have HM := Lib.hid hm
        have HG4 := Lib.hid (hg.trans HG3.out)
        clear hm hg c0 c1 c2 c3 c4 c5 c6 c7 c8 c9
        obtain ⟨-, c1, -⟩ := d19_at HG4.out
        simp only at c1
        obtain ⟨v2, w5, hrun, hm2⟩ := HM.out.app (by have := HXl.out; omega) gt 50
        have HM2 := Lib.hid hm2
        have HRun := Lib.hid hrun
        clear hm2 hrun
        go_wp2_with (at_builtin; refine Lib.wpList_append_run _ rfl _ _ _ _ rfl _ _ rfl rfl _ _ HRun.out ?_)
        go_roundw
        case rel => exact ⟨k + 1, by omega, by go_num, _, _, HM2.out.more (by omega), HAl'.out, by have := HXl.out; simp; omega⟩
        case measure => simp [intOf]; omega
      by_cases h4 : gk = 4
      · subst h4
        clear HTk HFr
        go_wp2_with fail
        refine HGr.out.mono ?_
        rintro e w4 ⟨v', rfl, r, C', hgr, hm, hg⟩
        have HAl' := Lib.hid (HAl.out.grow hgr)
        have HM := Lib.hid hm
        have HG4 := Lib.hid (hg.trans HG3.out)
        clear hm hg c0 c1 c2 c3 c4 c5 c6 c7 c8 c9
        obtain ⟨-, c1, -⟩ := d19_at HG4.out
        simp only at c1
        obtain ⟨v2, w5, hrun, hm2⟩ := HM.out.app (by have := HXl.out; omega) gt 50
        have HM2 := Lib.hid hm2
        have HRun := Lib.hid hrun
        clear hm2 hrun
        go_wp2_with (at_builtin; refine Lib.wpList_append_run _ rfl _ _ _ _ rfl _ _ rfl rfl _ _ HRun.out ?_)
        go_roundw
        case rel => exact ⟨k + 1, by omega, by go_num, _, _, HM2.out.more (by omega), HAl'.out, by have := HXl.out; simp; omega⟩
        case measure => simp [intOf]; omega
      · have e3 : (gk == 3) = false := by simpa using h3
        have e4 : (gk == 4) = false := by simpa using h4
        clear HFr HGr h3 h4
        go_wp2_with fail
        have hfl : (bits BinOp.and IntKind.i64 gf 1 == 2) = false := and_one gf
        generalize bits BinOp.and IntKind.i64 gf 1 = fl at *
        refine (HTk.out fl).mono ?_
        rintro e w4 ⟨rfl, hm, hg⟩
        have HAl' := Lib.hid (HAl.out.take (m := 200) (mr := 1000) (tx := gt) (p := ⟨ga, gb, gc, gd, ge⟩) (md := gm) (fl := fl) hfl 3)
        have HM := Lib.hid hm
        have HG4 := Lib.hid (hg.trans HG3.out)
        clear hm hg c0 c1 c2 c3 c4 c5 c6 c7 c8 c9
        obtain ⟨-, c1, -⟩ := d19_at HG4.out
        simp only at c1
        obtain ⟨v2, w5, hrun, hm2⟩ := HM.out.app (by have := HXl.out; omega) gt 50
        have HM2 := Lib.hid hm2
        have HRun := Lib.hid hrun
        clear hm2 hrun
        go_wp2_with (at_builtin; refine Lib.wpList_append_run _ rfl _ _ _ _ rfl _ _ rfl rfl _ _ HRun.out ?_)
        go_roundw
        case rel => exact ⟨k + 1, by omega, by go_num, _, _, HM2.out.more (by omega), HAl'.out, by have := HXl.out; simp; omega⟩
        case measure => simp [intOf]; omega
    · obtain rfl : k = n := by omega
      have HW3 := Lib.hid (HX.out.trans (H.out.bel.mono HX.out.size))
      have HQ3 := Lib.hid (HQ.out.only (OnlyS.of_below (S := fun _ => False) H.out.bel) id)
      have HMd := Lib.hid H.out.mad
      have hl := H.out.mad.facts.2.2
      have HHl := Lib.hid (fun tx => show (heldL C tx).length ≤ 1000 by have := hl tx; omega)
      obtain ⟨A6, k6, rfl, hls⟩ := H.out.row.ls
      have HNu := Lib.hid (Is.numbers_any hls (by have := HXl.out; omega))
      have HNd := Lib.hid (Is.can_nodup xs)
      have HCl := Lib.hid (Od.can_len (lt := Is.ltI) xs)
      have hx40 : xs.length ≤ 40 := by have := HXl.out; omega
      clear D H hl hls
      go_wp2_with fail
      refine HNu.out.mono ?_
      rintro e w4 ⟨v4, rfl, hrow4, hb4⟩
      obtain ⟨A4, k4, rfl, hls4⟩ := hrow4.ls
      have HLs4 := Lib.hid hls4
      have HW4 := Lib.hid (HW3.out.trans (hb4.mono HW3.out.size))
      have HM4 := Lib.hid (HMd.out.below hb4)
      have HQ4 := Lib.hid (HQ3.out.only (OnlyS.of_below (S := fun _ => False) hb4) id)
      clear HNu HMd HQ3 hrow4 hb4 hls4 HW3
      generalize Od.can Is.ltI xs = L at *
      obtain ⟨nt, hnt⟩ : ∃ nt, L.length = nt := ⟨_, rfl⟩
      have HNt := Lib.hid hnt
      have hn40 : nt ≤ 40 := by have := HCl.out; omega
      rw [hnt]
      clear hnt HCl
      go_wp2_with fail
      go_loopw [62, 9, 10, 11] (fun t s3 s2 s1 wr => ∃ j : Nat, j ≤ nt ∧ t = .int .i64 j ∧ s3 = .int .i64 (atL C q' 3 (L.take j) : Nat) ∧ s2 = .int .i64 (atL C q' 2 (L.take j) : Nat) ∧ s1 = .int .i64 (atL C q' 1 (L.take j) : Nat) ∧ Below w4.heap.size w4 wr) (fun t _ _ _ _ => nt - (intOf t).toNat)
      case atStart => exact ⟨0, by omega, rfl, rfl, rfl, rfl, Below.refl _ _⟩
      case round =>
        obtain ⟨j, hj, rfl, rfl, rfl, rfl, hbr⟩ := hrel
        have HBr := Lib.hid hbr
        clear hbr
        by_cases hjn : j < nt
        · have hjl : j < L.length := by rw [HNt.out]; exact hjn
          obtain ⟨a4, rfl, d0⟩ := (HLs4.out.below HBr.out).here hjl
          have b3 : atL C q' 3 (L.take j) ≤ 40 := Nat.le_trans (HLe.out C 3 _) (by rw [List.length_take]; omega)
          have b2 : atL C q' 2 (L.take j) ≤ 40 := Nat.le_trans (HLe.out C 2 _) (by rw [List.length_take]; omega)
          have b1 : atL C q' 1 (L.take j) ≤ 40 := Nat.le_trans (HLe.out C 1 _) (by rw [List.length_take]; omega)
          have HS := Lib.hid (fun k => (show atL C q' k (L.take (j + 1)) = atL C q' k (L.take j) + if Lk.levL (heldL C L[j]) q' = k then 1 else 0 by rw [List.take_succ_eq_append_getElem hjl]; exact HSn.out C k _ _))
          generalize L[j] = tx at *
          have h3 := HS.out 3
          have h2 := HS.out 2
          have h1 := HS.out 1
          have HRi := Lib.hid ((HM4.out.below HBr.out).right HAl.out (by decide) (by omega) tx)
          clear HS
          generalize atL C q' 3 (L.take j) = a3 at *
          generalize atL C q' 2 (L.take j) = a2 at *
          generalize atL C q' 1 (L.take j) = a1 at *
          have H3 := Lib.hid h3
          have H2 := Lib.hid h2
          have H1 := Lib.hid h1
          clear h1 h2 h3
          have hlv := lev_three (C := C) (q := q') tx
          go_wp2_with fail
          refine HRi.out.mono ?_
          rintro e w5 ⟨rfl, hb5⟩
          have HB5 := Lib.hid (HBr.out.trans (hb5.mono HBr.out.size))
          clear hb5 HRi d0
          have HHd := Lib.hid ((HM4.out.below HB5.out.drew).held (by decide) (by omega) tx)
          have HQ5 := Lib.hid (HQ4.out.only (OnlyS.of_below (S := fun _ => False) HB5.out) id)
          have HHl' := HHl.out tx
          generalize heldL C tx = hs at *
          obtain ⟨b0, b1', b2', b3', b4⟩ := HQ5.out
          simp only at b0 b1' b2' b3' b4
          go_upto_region 24 with (fail)
          go_region_law (first
            | (go_simp; go_at_call 23; refine HHd.out.mono ?_; rintro e w6 ⟨A6, c6, rfl, hls6, hb6, -⟩; have hb6' := undrew hb6; obtain ⟨b0, b1', b2', b3', b4⟩ := HQ5.out.only (OnlyS.of_below (S := fun _ => False) hb6') id; simp only at b0 b1' b2' b3' b4)
            | (go_simp; go_at_call 22; refine (HLv.out _ _ _ _ hls6 HHl').mono ?_; rintro e w7 ⟨rfl, hb7⟩))
          all_goals
            have HB7 := Lib.hid ((HB5.out.trans (hb6'.mono HB5.out.size)).trans (hb7.mono (HB5.out.trans (hb6'.mono HB5.out.size)).size))
            clear hb6 hb6' hb7 hls6 b0 b1' b2' b3' b4 HHd HQ5 HHl' HB5 HBr
            generalize Lk.levL hs q' = lv at *
            rcases (show lv = 0 ∨ lv = 1 ∨ lv = 2 ∨ lv = 3 by omega) with rfl | rfl | rfl | rfl
            all_goals
              go_wp2_with fail
              go_roundw
              case rel => exact ⟨j + 1, by omega, by go_num, by rw [H3.out]; simp, by rw [H2.out]; simp, by rw [H1.out]; simp, HB7.out⟩
              case measure => simp [intOf]; omega
        · obtain rfl : j = nt := by omega
          obtain ⟨e2, e3, e0⟩ := HEnd.out C L HAl.out HNd.out
          rw [List.take_of_length_le (by rw [HNt.out]; exact Nat.le_refl _)]
          have b1 : atL C q' 1 L ≤ 40 := Nat.le_trans (HLe.out C 1 _) (by have := HNt.out; omega)
          generalize atL C q' 3 L = a3 at *
          generalize atL C q' 2 L = a2 at *
          generalize atL C q' 1 L = a1 at *
          have HBf := Lib.hid (HW4.out.trans (HBr.out.mono HW4.out.size))
          have f2 : (a2 : Int) ≤ 1 := by omega
          have f3 : (a3 : Int) ≤ 1 := by omega
          clear HBr HEnd HSn HLe HLv HW4 HM4 HQ4
          by_cases h0 : a3 = 0
          · have g0 : ((a3 : Int) == 0) = true := by simp; omega
            clear e0 h0
            go_wp2_with fail
            go_ret
            exact ⟨rfl, HBf.out⟩
          · have g0 : ((a3 : Int) == 0) = false := by simp; omega
            have g1 : ((a1 : Int) + (a2 : Int) == 0) = true := by simp; omega
            clear e0 h0
            go_wp2_with fail
            go_ret
            exact ⟨rfl, HBf.out⟩
end Go.Proofs.YtlhhopanegnliaaGreatDoor
