/- A table: its nodes, gathered, sorted, and told one by one. -/
import Derived.Test.YtjhkejkdnjogiaaGreatDoorUs
import Derived.Test.YtjhkejkdnjogiaaGreatDoorPd
import Derived.Test.YtjhkejkdnjogiaaGreatDoorTg
namespace Go.Proofs.YtjhkejkdnjogiaaGreatDoor
open Go Go.RowKit Go.Shelf
attribute [local go_sem] Oper.semAt_some
set_option maxRecDepth 100000

theorem keeps_only {S T : Nat → Prop} {W W' : World} (ho : OnlyS T W W') (hS : ∀ k, S k → k < W.heap.size ∧ ¬ T k) : Keeps S W W' := ⟨ho.size, fun k hk => ho.block k (hS k hk).1 (hS k hk).2⟩
theorem bp (b : Nat) : tp b = .pointer (some ⟨b, 0, none⟩) := rfl
/-- a box with a row of nodes -/
structure CP (n0 D0 : Nat) (w W : World) (ps : List Pa.Pt) (v : Value) : Prop where
  bn : Boxed W n0 129 v
  rn : Pa.Row W D0 v ps
  bel : Below n0 w W
  sz : D0 ≤ W.heap.size
theorem CP.turn {n0 D0 : Nat} {w W W' : World} {ps : List Pa.Pt} {v : Value} (h : CP n0 D0 w W ps v) (t : Turn D0 W W') (h1 : n0 ≤ D0) (h2 : n0 ≤ w.heap.size) : CP n0 D0 w W' ps v :=
  ⟨Abides.boxed _ _ _ _ _ _ h.bn t, An.row_turn h.rn t, t.below h.bel h1 h2, Nat.le_trans h.sz t.size⟩
theorem CP.step {n0 D0 : Nat} {w W w1 : World} {ps : List Pa.Pt} {p : Pa.Pt} {v v' : Value} {tmp : Obj} (h : CP n0 D0 w W ps v) (h1 : n0 < D0) (h2 : n0 ≤ W.heap.size) (hown : w1.ownsRow D0 25 5 v' (ps.length + 1) (Pa.flatN ps ++ Pa.encN p)) (hgrow : (W.alloc tmp).grownBy w1 v.ownBlock) :
    Boxed w1 n0 129 v ∧ CP n0 D0 w (w1.setCell ⟨n0, 0, none⟩ v') (ps ++ [p]) v' ∧ KeepsOthers W (w1.setCell ⟨n0, 0, none⟩ v') ∧ OnlyS (fun j => j = n0 ∨ v.ownBlock = some j) W (w1.setCell ⟨n0, 0, none⟩ v') := by
  obtain ⟨a1, a2, a3, a4, a5⟩ := h.bn.appended (by decide) (row_base h.rn (Nat.le_of_lt h1)) h2 (Nat.le_refl _) (row_base hown (Nat.le_of_lt h1)) hgrow
  refine ⟨a1, ⟨a2, ?_, h.bel.trans a5, Nat.le_trans h.sz (An.app_only (v' := v') hgrow).size⟩, a4, An.app_only hgrow⟩
  have := ownsRow_setCell_below hown (a := ⟨n0, 0, none⟩) h1 v'
  show (w1.setCell ⟨n0, 0, none⟩ v').ownsRow D0 25 5 v' (ps ++ [p]).length (Pa.flatN (ps ++ [p]))
  rw [List.length_append, Pa.flatN_snoc]
  exact this
theorem new_node (W : World) (p : Pa.Pt) : ∀ j u, (Pa.encN p)[j]? = some u → (W.alloc (.cells (pcs p) 25)).cell? ((⟨W.heap.size, 0, none⟩ : Addr).add j) = some u := by
  intro j u hj
  rw [add_at]
  match j, hj with
  | 0, hj => simp [Pa.encN] at hj; subst hj; simp [go_sem]
  | 1, hj => simp [Pa.encN] at hj; subst hj; simp [go_sem]
  | 2, hj => simp [Pa.encN] at hj; subst hj; simp [go_sem]
  | 3, hj => simp [Pa.encN] at hj; subst hj; simp [go_sem]
  | 4, hj => simp [Pa.encN] at hj; subst hj; simp [go_sem]
theorem one_node (p : Pa.Pt) : ∀ u ∈ Pa.encN p, u.oneCell' = true := by
  intro u hu
  simp [Pa.encN] at hu
  rcases hu with rfl | rfl | rfl | rfl | rfl <;> rfl
theorem info_node : (Tryz.prog.info? 25).map (fun i => (i.zero, i.size, i.bytes)) = some (some (.agg #[.int .i64 0, .int .i64 0, .int .i64 0, .int .i64 0, .int .i64 0]), 5, 40) := by kernel_rfl
def CPI (n0 D0 : Nat) (w : World) (pre : List An.Told) (W : World) : Prop := ∃ v, CP n0 D0 w W (pre.map fun x => x.2.1) v
/-- a call that hands back an iterator over a row of nodes of its own -/
def PathsOf (w : World) (ps : List Pa.Pt) (e : Ending) (w' : World) : Prop :=
  ∃ B v, e = .returned (.func (.func 116) #[] #[tp B]) ∧ Boxed w' B 129 v ∧ Pa.Row w' w.heap.size v ps ∧ Below w.heap.size w w' ∧ w.heap.size ≤ B
theorem values_any (A : Option Addr) (n c : Nat) (W : World) : Calls Tryz.prog 78 #[.slice A n c] W fun e w' => e = .returned (.func (.func 116) #[] #[tp W.heap.size]) ∧ Boxed w' W.heap.size 129 (.slice A n c) ∧ Below W.heap.size W w' := by
  go_enter Tryz.func78, Tryz.ntmps78
  go_wp2
  go_ret
  exact ⟨rfl, Boxed.new W _ _, box_below _ _⟩
set_option maxHeartbeats 4000000 in
theorem paths_any {tpv pv x1 : Value} {mv rv : Int} {xs : List An.Told} {rs : List Pa.RPt} {w : World} (hI : ∀ W, Below w.heap.size w W → Calls Tryz.prog 66 #[tpv] W fun e w' => e = .returned (tv pv x1 (.int .i64 mv) (.int .i64 rv)) ∧ Below W.heap.size W w')
    (hs : ∀ W, Below w.heap.size w W → Tells Tryz.prog 112 #[pv] #[] An.encT (· < W.heap.size) xs W) (hr : (xs.map fun x => x.2.1) = Pa.vals rs) (hl : xs.length ≤ 1000) :
    Calls Tryz.prog 38 #[tpv] w (PathsOf w (Pa.vals (Pa.srt rs))) := by
  refine (callsIn_wide (n := 9)).1 ?_
  refine callsIn_of_wp_marks Tryz.func38 rfl trivial ?_ rfl
  simp only [Tryz.ntmps38, List.size_toArray, List.length_cons, List.length_nil, Nat.reduceAdd, Nat.reduceSub, Array.replicate_succ, Array.replicate_zero, List.push_toArray, List.append_toArray, List.nil_append, List.cons_append]
  refine wpIn_wide.2 ?_
  have HI := Lib.hid (hI _ (box_below w (.cells #[.slice none 0 0] 129)))
  have HS := Lib.hid hs
  have HRs := Lib.hid hr
  clear hI hs hr
  go_wp2_with fail
  refine HI.out.mono ?_
  rintro e w1 ⟨rfl, hb1⟩
  have HBx := Lib.hid ((Boxed.new w 129 (.slice none 0 0)))
  have hbw := (box_below w (.cells #[.slice none 0 0] 129)).trans (hb1.mono (box_below w _).size)
  have HB1 := Lib.hid hbw
  have HU := Lib.hid (An.used_any (HS.out w1 hbw) (by omega))
  have hbx1 : Boxed w1 w.heap.size 129 (.slice none 0 0) := (hb1.block _ (by simp)).trans HBx.out
  have HX1 := Lib.hid hbx1
  clear hb1 hbw HI HBx hbx1
  go_wp2_with fail
  refine HU.out.mono ?_
  rintro e w3 ⟨vn, vt, rfl, hcol⟩
  have HCol := Lib.hid hcol
  have hlt1 : w.heap.size < w1.heap.size := by have := HX1.out.lt; exact this
  have hx3 : Boxed w3 w.heap.size 129 (.slice none 0 0) := (hcol.bel.block _ hlt1).trans HX1.out
  have hz3 := hcol.bel.size
  have HF := Lib.hid (show CP w.heap.size w3.heap.size w w3 [] (.slice none 0 0) from ⟨hx3, World.ownsRow_nil _ _ _ _, HB1.out.trans (hcol.bel.mono HB1.out.size), Nat.le_refl _⟩)
  have hD : w.heap.size < w3.heap.size := Nat.lt_of_lt_of_le hlt1 hz3
  clear hx3 HU HX1 hcol
  go_wp2_with fail
  refine (wpIn_wide (n := 9)).1 ?_
  obtain ⟨i0, hi, hz0, hz1, hz2⟩ := info_parts info_node
  refine wp_range (α := An.Told) (encs := An.encT) (xs := xs) (S := An.OfCol w1.heap.size vn vt) rfl (enters_of Tryz.func113 (by kernel_rfl) rfl) (An.seq_tells HCol.out (by omega)) (fun k hk => (HCol.out.lt hk).2) (fun _ => rfl)
    (CPI w.heap.size w3.heap.size w) (fun _ _ _ => False)
    (fun pre x a' W => CPI w.heap.size w3.heap.size w pre W ∧ ∃ B, An.BxT W B x.2.1 x.2.2 ∧
      a' = { tmps := #[tpv, undef, .nilFunc, tp w.heap.size, undef, tp B, tpv, tv pv x1 (.int .i64 mv) (.int .i64 rv), pv, .func (.func 113) #[] #[tp w1.heap.size, tp (w1.heap.size + 1)], .int .i64 (x.1 : Int), An.hv x.2.1 x.2.2, undef, undef, undef, undef, undef, undef, undef, undef, undef], defers := [] })
    ?hI ?hIx ?hA ⟨_, HF.out⟩ ?assign ?body ?done ?stop
  case hI =>
    rintro s X Y ⟨v, h⟩ t
    exact ⟨v, h.turn t (Nat.le_of_lt hD) (Nat.le_refl _)⟩
  case hIx => exact fun _ _ _ _ h _ => h
  case hA =>
    rintro s x a' X Y ⟨⟨v, h⟩, B, hB, h6⟩ t
    exact ⟨⟨v, h.turn t (Nat.le_of_lt hD) (Nat.le_refl _)⟩, B, t.cells _ _ hB rfl, h6⟩
  case assign =>
    rintro l pre x W ⟨v, hi⟩
    have HC := Lib.hid (show CPI w.heap.size w3.heap.size w pre (W.alloc (.cells (An.hca x.2.1 x.2.2) 96)) from ⟨v, hi.turn (Turn.later (box_below W (.cells (An.hca x.2.1 x.2.2) 96))) (Nat.le_of_lt hD) (Nat.le_refl _)⟩)
    have HB := Lib.hid (show An.BxT (W.alloc (.cells (An.hca x.2.1 x.2.2) 96)) W.heap.size x.2.1 x.2.2 from World.alloc_heap_new W _)
    have HKf := Lib.hid (An.keepsFrom_box w3.heap.size W (.cells (An.hca x.2.1 x.2.2) 96))
    have HKs := Lib.hid (keeps_of (S := An.OfCol w1.heap.size vn vt) (box_below W (.cells (An.hca x.2.1 x.2.2) 96)) (fun k hk => Nat.lt_of_lt_of_le (HCol.out.lt hk).2 hi.sz))
    clear hi
    obtain ⟨xi, ⟨pa, pb, pc, pd, pe⟩, xq⟩ := x
    gi_wp2
    exact ⟨HKf.out, HKs.out, HC.out, HB.out⟩
  case body =>
    rintro l pre x post a' W hx ⟨⟨v, hc⟩, B, hB, rfl⟩
    have hlen : (pre.map fun x => x.2.1).length < 1000 := by
      have := congrArg List.length hx
      simp at this
      simp
      omega
    have c0 := hc.bn.cell
    have f0 := hc.bn.frozen
    have hzW := hc.bel.size
    have hsz := hc.sz
    have hBn := hB.not_box hc.bn
    have hb := hB.cells
    have d0 := hb.c0
    have d1 := hb.c1
    have d2 := hb.c2
    have d3 := hb.c3
    have d4 := hb.c4
    have HE := Lib.hid (show ((pre ++ [x]).map fun x => x.2.1) = (pre.map fun x => x.2.1) ++ [x.2.1] by simp)
    have HRow := Lib.hid (fun k (hk : v.ownBlock = some k) => hc.rn.lt k hk)
    clear hx hB hb
    generalize (pre.map fun x => x.2.1) = ps at *
    obtain ⟨xi, ⟨pa, pb, pc, pd, pe⟩, xq⟩ := x
    simp only at d0 d1 d2 d3 d4 HE
    gi_wp2_with (gi_at_builtin; refine wpListIn_append_own_at _ rfl (.tmp 12) (.tmp 15) 129 rfl w3.heap.size 25 i0 (.agg #[.int .i64 0, .int .i64 0, .int .i64 0, .int .i64 0, .int .i64 0]) 5 40 Tryz.underlying129 hi hz0 hz1 hz2 rfl (by decide) _ _ _ rfl (hc.rn.alloc _) ⟨W.heap.size, 0, none⟩ 1 1 (Pa.encN ⟨pa, pb, pc, pd, pe⟩) rfl rfl (new_node W _) (one_node _) (by unfold maxLen; omega) (by omega) (by simp; omega) ?_; intro v' w5 hown' hgrow _ hat; obtain ⟨g', cap', rfl⟩ := ownsRow_succ hown'; obtain ⟨hv1, hc2, hk2, ho2⟩ := hc.step hD hzW hown' hgrow; have hc1 := hv1.cell; have hf1 := hv1.frozen)
    have HC2 := Lib.hid hc2
    have HK := Lib.hid hk2
    have HO := Lib.hid ho2
    clear hown' hgrow hat hc2 hk2 ho2 hc
    gi_wp2
    refine ⟨HK.out.from _, keeps_only HO.out (fun k hk => ⟨Nat.lt_of_lt_of_le (HCol.out.lt hk).2 hsz, ?_⟩), ?_⟩
    · have h1 := HCol.out.lt hk
      rintro (q | q)
      · omega
      · have := HRow.out k q
        omega
    · unfold CPI
      rw [HE.out]
      exact ⟨_, HC2.out⟩
  case done =>
    rintro D X hDD ⟨v, hf⟩ hd
    have HDd := Lib.hid hd
    rw [HRs.out] at hf
    have HF1 := Lib.hid hf
    have c0 := hf.bn.cell
    have hl2 : rs.length ≤ 1000 := by
      have := congrArg List.length HRs.out
      simp [Pa.vals_length] at this
      omega
    have HSo := Lib.hid (Pa.sortf_any hf.rn hl2)
    clear hf hd
    dsimp only [Exit.inBlock, Exit.then]
    rename_i hK0
    refine hK0 _ _ ?_
    clear hK0
    go_wp2_with fail
    refine HSo.out.mono ?_
    rintro e w5 ⟨rfl, hrow, hb5, ho5⟩
    have hdn : v.ownBlock ≠ some D := fun e => by
      rcases HF1.out.rn.2 with ⟨rfl, _⟩ | ⟨g, cap, cur, rfl, _, hg, _⟩
      · simp [Value.ownBlock] at e
      · simp [Value.ownBlock] at e
        subst e
        rw [HDd.out] at hg
        cases hg
    have hd5 := (ho5.block D (Array.getElem?_eq_some_iff.1 HDd.out).1 hdn).trans HDd.out
    have hbn5 : Boxed w5 w.heap.size 129 v := (ho5.block _ HF1.out.bn.lt (fun e => HF1.out.bn.not_row (by decide) HF1.out.rn e.symm)).trans HF1.out.bn
    have c5 := hbn5.cell
    have HR5 := Lib.hid (row_base hrow (Nat.le_of_lt hD))
    have HB5 := Lib.hid (HF1.out.bel.trans ((OnlyS.below (S := fun k => v.ownBlock = some k) ho5 (fun k hk => Nat.le_trans (Nat.le_of_lt hD) (HF1.out.rn.lt k hk).1) HF1.out.bel.size)))
    obtain ⟨A, c, rfl, -⟩ := row_slice hrow
    have HV := Lib.hid (values_any A (Pa.vals (Pa.srt rs)).length c w5)
    have HD5 := Lib.hid hd5
    have HL5 := Lib.hid (show D < w5.heap.size from (Array.getElem?_eq_some_iff.1 hd5).1)
    clear hrow hb5 ho5 hdn hd5 hbn5 HSo c0
    generalize hnn : (Pa.vals (Pa.srt rs)).length = nn at *
    have HN := Lib.hid hnn
    clear hnn
    go_wp2_with fail
    refine HV.out.mono ?_
    rintro e w6 ⟨rfl, hbox, hb6⟩
    have hd6 := (hb6.block D HL5.out).trans HD5.out
    have HBox := Lib.hid hbox
    have HR6 := Lib.hid (row_below HR5.out hb6)
    have HB6 := Lib.hid (HB5.out.trans (hb6.mono HB5.out.size))
    have hsz6 : w.heap.size ≤ w5.heap.size := HB5.out.size
    clear hbox hb6 HV c5
    go_wp2_with fail
    refine ⟨by simp, .inl ⟨_, _, rfl, run_takeDeferred hd6, ?_⟩⟩
    have ht := Turn.put (B := w.heap.size) (.deferred none) (Nat.le_trans (Nat.le_of_lt hD) hDD) hd6 rfl
    exact ⟨_, results_tmp rfl _ _ _, _, _, rfl, Abides.boxed _ _ _ _ _ _ HBox.out ht, (by unfold Pa.Row; rw [HN.out]; exact An.row_turn HR6.out ht), ht.below HB6.out (Nat.le_refl _) (Nat.le_refl _), hsz6⟩
  case stop =>
    rintro D c pre post W _ _ h _
    exact h.elim
end Go.Proofs.YtjhkejkdnjogiaaGreatDoor
/- The nodes of a row are told, one by one. -/
namespace Go.Proofs.YtjhkejkdnjogiaaGreatDoor
open Go Go.RowKit Go.Shelf
attribute [local go_sem] Oper.semAt_some
set_option maxRecDepth 100000

theorem node_cell {W : World} {base g n c : Nat} {ps : List Pa.Pt} (h : W.ownsRow base 25 5 (.slice (some ⟨g, 0, none⟩) n c) ps.length (Pa.flatN ps)) {i j : Nat} (hi : i < ps.length) (hj : j < 5) {u : Value} (hu : (Pa.encN ps[i])[j]? = some u) : W.cell? ⟨g, i * 5 + j, none⟩ = some u := by
  have := h.cells (g := g) rfl (i * 5 + j) u ((Pa.flatN_at ps i j hi hj).trans hu)
  rw [add_at] at this
  exact this
theorem take_node (xs : List Pa.Pt) {j : Nat} (h : j < xs.length) : xs = xs.take j ++ xs[j] :: xs.drop (j + 1) ∧ xs.take (j + 1) = xs.take j ++ [xs[j]] :=
  ⟨by rw [← List.drop_eq_getElem_cons h, List.take_append_drop], List.take_succ_eq_append_getElem h⟩
abbrev encP (p : Pa.Pt) : Array Value := #[p.v]
/-- the blocks of a box and of its row -/
def OfRow (B : Nat) (v : Value) (k : Nat) : Prop := k = B ∨ v.ownBlock = some k
set_option maxHeartbeats 2000000 in
theorem vals_tells {w : World} {B base : Nat} {v : Value} {ps : List Pa.Pt} (hbx : Boxed w B 129 v) (hr : Pa.Row w base v ps) (hl : ps.length ≤ 5000) :
    Tells Tryz.prog 116 #[] #[tp B] encP (OfRow B v) ps w := by
  intro l J Jx W hW hJ hY h0
  have hlt : ∀ k, OfRow B v k → k < w.heap.size := fun k hk => by
    rcases hk with rfl | hk
    · exact hbx.lt
    · exact (hr.lt k hk).2
  have HT : ∀ W', Keeps (OfRow B v) W W' → W.heap.size ≤ W'.heap.size ∧ Boxed W' B 129 v ∧ Pa.Row W' base v ps := fun W' hk =>
    ⟨hk.size, (hk.block B (.inl rfl)).trans ((hW.block B hbx.lt).trans hbx), row_keep hr fun g hg => (hk.block g (.inr hg)).trans (hW.block g (hr.lt g hg).2)⟩
  have HTT := Lib.hid HT
  have HJ := Lib.hid hJ
  have HY := Lib.hid hY
  have HLt := Lib.hid (fun k (hk : OfRow B v k) => Nat.lt_of_lt_of_le (hlt k hk) hW.size)
  obtain ⟨A, c, hA, hA2⟩ := row_slice hr
  subst hA
  have c0 := (HT W (Keeps.refl _ _)).2.1.cell
  have HA := Lib.hid hA2
  obtain ⟨n, hn⟩ : ∃ n, ps.length = n := ⟨_, rfl⟩
  have HN := Lib.hid hn
  rw [hn] at c0 hl
  clear hJ hY hbx hr hW HT hA2 hn hlt
  refine callsIn_of_wp Tryz.func116 rfl trivial ?_ rfl
  simp only [Tryz.ntmps116, List.size_toArray, List.length_cons, List.length_nil, Nat.reduceAdd, Nat.reduceSub, Array.replicate_succ, Array.replicate_zero, List.push_toArray, List.append_toArray, List.nil_append, List.cons_append]
  gi_wp2
  gi_loopw [7] (fun t wr => ∃ j : Nat, j ≤ n ∧ t = .int .i64 j ∧ J (ps.take j) wr ∧ Keeps (OfRow B (.slice A ps.length c)) W wr) (fun t _ => n - (intOf t).toNat)
  case atStart => exact ⟨0, by omega, rfl, by simpa using h0, Keeps.refl _ _⟩
  case round =>
    obtain ⟨j, hj, rfl, hjj, hbj⟩ := hrel
    clear c0 h0
    by_cases hjn : j < n
    · have hjl : j < ps.length := by rw [HN.out]; exact hjn
      obtain ⟨hz, h3, h4⟩ := HTT.out _ hbj
      rcases HA.out with q | ⟨ga, rfl⟩
      · have := HN.out; omega
      have c2 := fun (k : Nat) (hk : k < 5) (u : Value) => node_cell h4 hjl hk (u := u)
      obtain ⟨p, hp⟩ : ∃ p, ps[j] = p := ⟨_, rfl⟩
      rw [hp] at c2
      have b0 := c2 0 (by omega) _ rfl
      have b1 := c2 1 (by omega) _ rfl
      have b2 := c2 2 (by omega) _ rfl
      have b3 := c2 3 (by omega) _ rfl
      have b4 := c2 4 (by omega) _ rfl
      rw [Nat.add_zero] at b0
      obtain ⟨hs1, hs2⟩ := take_node ps hjl
      rw [hp] at hs1 hs2
      have hb1 := box_below wr (.cells (pcs p) 25)
      obtain ⟨fn, tmps, assign, body, hy, hR⟩ := HY.out _ p _ _ hs1 (HJ.out _ _ _ hjj hb1)
      have HS := Lib.hid hs2
      have HP := Lib.hid (show ps = (ps.take j ++ [p]) ++ ps.drop (j + 1) by rw [List.append_assoc]; exact hs1)
      have HK := Lib.hid (hbj.trans (keeps_of hb1 (fun k hk => Nat.lt_of_lt_of_le (HLt.out k hk) hz)))
      clear hs1 hs2 hp hjl h3 h4 hbj hjj c2 hb1 hz
      obtain ⟨pa, pb, pc, pd, pe⟩ := p
      simp only at b0 b1 b2 b3 b4
      gi_wp2
      refine hR.mono ?_
      rintro e W3 (⟨rfl, hJ3, hk3⟩ | ⟨rfl, hJx3⟩)
      · have HB3 := Lib.hid (HK.out.trans hk3)
        clear hy hR b0 b1 b2 b3 b4 hk3
        gi_wp2
        go_roundw
        case rel => exact ⟨j + 1, by omega, by go_num, by rw [HS.out]; exact hJ3, HB3.out⟩
        case measure => simp [intOf]; omega
      · gi_wp2
        refine bodyPost_ret (results_none rfl _ _ _) rfl ?_
        exact ⟨⟨_, rfl⟩, .inr ⟨_, _, HP.out, hJx3⟩⟩
    · obtain rfl : j = n := by omega
      gi_wp2
      go_end0
      refine ⟨⟨_, rfl⟩, .inl ?_⟩
      rw [List.take_of_length_le (Nat.le_of_eq HN.out)] at hjj
      exact hjj
end Go.Proofs.YtjhkejkdnjogiaaGreatDoor
