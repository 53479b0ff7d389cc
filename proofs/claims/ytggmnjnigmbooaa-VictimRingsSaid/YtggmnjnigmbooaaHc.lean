/- Ways of edges, built in memory. -/
import Derived.Test.YtggmnjnigmbooaaHb
import Derived.Test.YtggmnjnigmbooaaPE
namespace Go.Proofs.Ytggmnjnigmbooaa
open Go Go.RowKit Go.Shelf
set_option maxRecDepth 100000

theorem results_ways {fn : Func} {p : Tmp} (h : fn.results = #[.cell p 48]) {tmps : Array Value} {w : World} {b : Nat} (hp : tmps.getD p undef = .pointer (some ⟨b, 0, none⟩)) {A1 A2 : Option Addr} {n1 c1 n2 c2 : Nat}
    (h0 : w.cell? ⟨b, 0, none⟩ = some (.slice A1 n1 c1)) (h1 : w.cell? ⟨b, 1, none⟩ = some (.slice A2 n2 c2)) : (results fn tmps).run Try.prog w = .ok (wayV A1 n1 c1 A2 n2 c2) w := by
  have hp' : tmps[p]?.getD undef = .pointer (some ⟨b, 0, none⟩) := by simpa using hp
  simp [results, h, hp', go_sem, h0, h1]
theorem Is.Ls.only' {W W' : World} {A : Option Addr} {c : Nat} {xs : List Int} {T : Nat → Prop} (h : Is.Ls W A c xs) (ho : OnlyS T W W') (hT : ∀ a, A = some a → ¬ T a.block) : Is.Ls W' A c xs :=
  ⟨h.cap, h.room, h.nil, fun a ha j u hj => by
    have := h.at' a ha j u hj
    rw [World.cell?_of_block (w := W) (a := a.add j) (ho.block _ (cell_lt this) (by rw [Es.block_add']; exact hT a ha))]
    exact this⟩
theorem info24 : (Try.prog.info? 23).map (fun i => (i.zero, i.size, i.bytes)) = some (some (.slice none 0 0), 1, 24) := by kernel_rfl
theorem mk_rows (W : World) (N : Nat) (hN : N ≤ 65536) : (Instr.makeSlice 46 (.int .i64 (N : Int)) (.int .i64 (N : Int))).run Try.prog W = .ok (.slice (some ⟨W.heap.size, 0, none⟩) N N) (W.alloc (.cells (madeCells #[.slice none 0 0] N) 23)) := by
  obtain ⟨i0, hi, hz0, hz1, hz2⟩ := info_parts info24
  have := run_make (P := Try.prog) W 46 23 i0 _ Try.underlying46 hi hz0 .i64 .i64 (N : Int) (N : Int) (by omega) (Int.le_refl _) (by rw [hz2]; omega) (by omega)
  rw [hz1, Int.toNat_natCast, Nat.mul_one] at this
  exact this
theorem made_none (N : Nat) : madeCells #[.slice none 0 0] N = Array.replicate N (.slice none 0 0) := by
  apply Array.ext
  · simp [madeCells]
  · intro i h1 h2
    simp [madeCells, Nat.mod_one]
theorem heap_new' (w : World) (o : Obj) : (w.alloc o).heap[w.heap.size]? = some o := heap_alloc_new w o
/-- ways handed back, in memory of their own -/
def Ways (W : World) (l : List Es.Ed) (e : Ending) (w' : World) : Prop :=
  ∃ A1 n1 c1 A2 n2 c2 nums to, e = .returned (wayV A1 n1 c1 A2 n2 c2) ∧ n1 = nums.length ∧ n2 = to.length ∧ Is.Ls w' A1 c1 nums ∧ Tl w' A2 c2 to ∧ Cy.Wy l nums to ∧ Below W.heap.size W w'
set_option maxHeartbeats 8000000 in
theorem ways_any {W : World} {A : Option Addr} {c : Nat} {l : List Es.Ed} (hr : Es.Ls W A c l) (hl : l.length ≤ 1000) : Calls Try.prog 20 #[.slice A l.length c] W (Ways W l) := by
  have hb0 := box_below W (.cells #[.slice none 0 0, .slice none 0 0] 48)
  have HB0 := Lib.hid hb0
  have HR := Lib.hid hr
  have HNd := Lib.hid (nodes_any (hr.below hb0) (by omega))
  obtain ⟨n, hn⟩ : ∃ n, l.length = n := ⟨_, rfl⟩
  rw [hn] at hl HNd ⊢
  have HN := Lib.hid hn
  clear hn hr hb0
  go_enter Try.func20, Try.ntmps20
  go_wp2_with fail
  refine HNd.out.mono ?_
  rintro e w1 ⟨v1, rfl, hr1, hb1⟩
  obtain ⟨A1, c1, rfl, hls1⟩ := hr1.ls
  have HLs1 := Lib.hid hls1
  have hA1 : ∀ a, A1 = some a → a.block ≠ w1.heap.size := fun a ha => by
    subst ha
    have := (hr1.lt a.block rfl).2
    omega
  have hA1' : ∀ a, A1 = some a → a.block ≠ W.heap.size := fun a ha => by
    subst ha
    have := (hr1.lt a.block rfl).1
    simp at this
    omega
  obtain ⟨nums, hnums⟩ : ∃ nums, Od.can Is.ltI (nodesL l) = nums := ⟨_, rfl⟩
  have hnl : nums.length ≤ 2000 := by rw [← hnums]; refine Nat.le_trans (Od.can_len _) ?_; rw [nodesL_len]; have := HN.out; omega
  rw [hnums] at HLs1 ⊢
  have HNs := Lib.hid hnums
  obtain ⟨m, hm⟩ : ∃ m, nums.length = m := ⟨_, rfl⟩
  have HM := Lib.hid hm
  rw [hm] at hnl ⊢
  have HB1 := Lib.hid (HB0.out.trans (hb1.mono HB0.out.size))
  -- the rows, still empty, and the value's cells
  have hmk := mk_rows w1 m (by omega)
  have hsz0 : W.heap.size < w1.heap.size := by have := hb1.size; simp at this; omega
  have hq0 : w1.cell? ⟨W.heap.size, 0, none⟩ = some (.slice none 0 0) := (hb1.cell (p := ⟨W.heap.size, 0, none⟩) (by simp)).trans (by simp [go_sem])
  have hq1 : w1.cell? ⟨W.heap.size, 1, none⟩ = some (.slice none 0 0) := (hb1.cell (p := ⟨W.heap.size, 1, none⟩) (by simp)).trans (by simp [go_sem])
  have hf0 : w1.frozen? ⟨W.heap.size, 0, none⟩ = false := (hb1.frozen (p := ⟨W.heap.size, 0, none⟩) (by simp)).trans (by simp [go_sem])
  have hf1 : w1.frozen? ⟨W.heap.size, 1, none⟩ = false := (hb1.frozen (p := ⟨W.heap.size, 1, none⟩) (by simp)).trans (by simp [go_sem])
  clear hr1 hls1 hnums hm HNd hb1
  go_wp2_with fail
  have hX := (box_below w1 (.cells (madeCells #[.slice none 0 0] m) 23)).trans ((box_below (w1.alloc (.cells (madeCells #[.slice none 0 0] m) 23)) (.cells #[.slice A1 m c1, .slice (some ⟨w1.heap.size, 0, none⟩) m m] 48)).mono (by simp))
  have HS := Lib.hid (Es.sort_any ((HR.out.below (HB1.out.trans (hX.mono HB1.out.size)))) (by rw [HN.out]; omega))
  rw [HN.out] at HS
  have HX := Lib.hid hX
  have hblk : ((w1.alloc (.cells (madeCells #[.slice none 0 0] m) 23)).alloc (.cells #[.slice A1 m c1, .slice (some ⟨w1.heap.size, 0, none⟩) m m] 48)).heap[w1.heap.size]? = some (.cells (madeCells #[.slice none 0 0] m) 23) := heap_alloc2_old w1 _ _
  have hcb : ((w1.alloc (.cells (madeCells #[.slice none 0 0] m) 23)).alloc (.cells #[.slice A1 m c1, .slice (some ⟨w1.heap.size, 0, none⟩) m m] 48)).heap[w1.heap.size + 1]? = some (.cells #[.slice A1 m c1, .slice (some ⟨w1.heap.size, 0, none⟩) m m] 48) := by
    have := heap_new' (w1.alloc (.cells (madeCells #[.slice none 0 0] m) 23)) (.cells #[.slice A1 m c1, .slice (some ⟨w1.heap.size, 0, none⟩) m m] 48)
    simpa using this
  have hq0' := (HX.out.cell (p := ⟨W.heap.size, 0, none⟩) hsz0).trans hq0
  have hq1' := (HX.out.cell (p := ⟨W.heap.size, 1, none⟩) hsz0).trans hq1
  have hf0' := (HX.out.frozen (p := ⟨W.heap.size, 0, none⟩) hsz0).trans hf0
  have hf1' := (HX.out.frozen (p := ⟨W.heap.size, 1, none⟩) hsz0).trans hf1
  have hxs : ((w1.alloc (.cells (madeCells #[.slice none 0 0] m) 23)).alloc (.cells #[.slice A1 m c1, .slice (some ⟨w1.heap.size, 0, none⟩) m m] 48)).heap.size = w1.heap.size + 2 := by simp
  generalize (w1.alloc (.cells (madeCells #[.slice none 0 0] m) 23)).alloc (.cells #[.slice A1 m c1, .slice (some ⟨w1.heap.size, 0, none⟩) m m] 48) = X at *
  refine HS.out.mono ?_
  rintro e w3 ⟨v3, rfl, hr3, hb3⟩
  obtain ⟨A3, c3, rfl, hls3⟩ := hr3.ls
  have hE3 : ∀ a, A3 = some a → a.block ≠ w1.heap.size := fun a ha => by
    subst ha
    have := (hr3.lt a.block rfl).1
    omega
  have HE3 := Lib.hid hE3
  have HLs3 := Lib.hid hls3
  obtain ⟨E, hE⟩ : ∃ E, Od.can Es.lessE l = E := ⟨_, rfl⟩
  have HE := Lib.hid hE
  obtain ⟨q, hq⟩ : ∃ q, E.length = q := ⟨_, rfl⟩
  have HQ := Lib.hid hq
  have hqn : q ≤ 1000 := by rw [← hq, ← hE]; refine Nat.le_trans (Od.can_len _) ?_; have := HN.out; omega
  rw [hE] at HLs3 ⊢
  rw [hq]
  have hX3 := hb3.size
  have HB3 := Lib.hid (HB1.out.trans ((HX.out.trans (hb3.mono HX.out.size)).mono HB1.out.size))
  have HA1 := Lib.hid hA1
  have HA1' := Lib.hid hA1'
  have HNa := Lib.hid (show Od.Asc Is.ltI nums by rw [← HNs.out]; exact Od.can_asc Is.ordI _)
  have HLs13 := Lib.hid (HLs1.out.below (HX.out.trans (hb3.mono HX.out.size)))
  have g0 := (hb3.cell (p := ⟨W.heap.size, 0, none⟩) (by show W.heap.size < _; omega)).trans hq0'
  have g1 := (hb3.cell (p := ⟨W.heap.size, 1, none⟩) (by show W.heap.size < _; omega)).trans hq1'
  have e0 := (hb3.frozen (p := ⟨W.heap.size, 0, none⟩) (by show W.heap.size < _; omega)).trans hf0'
  have e1 := (hb3.frozen (p := ⟨W.heap.size, 1, none⟩) (by show W.heap.size < _; omega)).trans hf1'
  have b0 : w3.cell? ⟨w1.heap.size + 1, 0, none⟩ = some (.slice A1 m c1) := (hb3.cell (p := ⟨w1.heap.size + 1, 0, none⟩) (by show w1.heap.size + 1 < _; omega)).trans (by unfold World.cell?; simp [hcb])
  have b1 : w3.cell? ⟨w1.heap.size + 1, 1, none⟩ = some (.slice (some ⟨w1.heap.size, 0, none⟩) m m) := (hb3.cell (p := ⟨w1.heap.size + 1, 1, none⟩) (by show w1.heap.size + 1 < _; omega)).trans (by unfold World.cell?; simp [hcb])
  have HT := Lib.hid (show Tw w3 w3.heap.size w1.heap.size (Cy.wl nums (E.take 0)) (List.replicate (Cy.wl nums (E.take 0)).length (.slice none 0 0)) from
    Tw.start (by
      have := (hb3.block w1.heap.size (by omega)).trans hblk
      rw [this, made_none, Cy.wl_length, HM.out]) (by omega) (fun i h => Cy.wl_nil nums i h))
  have HK := Lib.hid (show W.heap.size < w1.heap.size ∧ w1.heap.size + 2 ≤ w3.heap.size from ⟨hsz0, by omega⟩)
  generalize w1.heap.size = g at *
  have HG := Lib.hid (And.intro (And.intro g0 g1) (And.intro e0 e1))
  have HBb := Lib.hid (And.intro b0 b1)
  clear hA1 hA1' hr3 hb3 hls3 hE hq HS HB1 HLs1 HX hX hblk hcb hq0 hq1 hf0 hf1 hq0' hq1' hf0' hf1' hxs hX3 g0 g1 e0 e1 b0 b1 hE3 hmk hsz0
  go_wp2_with fail
  go_loopw [21] (fun t wr => ∃ k vs, k ≤ q ∧ t = .int .i64 (k : Nat) ∧ Tw wr w3.heap.size g (Cy.wl nums (E.take k)) vs ∧ OnlyS (· = g) w3 wr) (fun t _ => q - (intOf t).toNat)
  case atStart => exact ⟨0, _, Nat.zero_le _, rfl, HT.out, OnlyS.refl _ _⟩
  case round =>
    obtain ⟨k, vs, hk, rfl, htw, hon⟩ := hrel
    have HTw := Lib.hid htw
    have HOn := Lib.hid hon
    clear htw hon HT
    by_cases hkq : k < q
    · have hkE : k < E.length := by rw [HQ.out]; exact hkq
      obtain ⟨a, ha, hh⟩ := (HLs3.out.only HOn.out HE3.out).here hkE
      subst ha
      obtain ⟨c0, c1'⟩ := hh
      obtain ⟨x, hx⟩ : ∃ x, E[k] = x := ⟨_, rfl⟩
      rw [hx] at c0 c1'
      have HXE := Lib.hid (show ∃ h : k < E.length, E[k] = x from ⟨hkE, hx⟩)
      have hxm : x.1 ∈ nums ∧ x.2 ∈ nums := by
        have h1 : x ∈ E := hx ▸ List.getElem_mem hkE
        rw [← HE.out, Od.can_mem] at h1
        rw [← HNs.out]
        exact ⟨(show Cy.EI l x.1 x.2 from h1).src, (show Cy.EI l x.1 x.2 from h1).dst⟩
      have HXm := Lib.hid hxm
      obtain ⟨x1, x2⟩ := x
      simp only at c0 c1' hxm
      have hbx := box_below wr (.cells #[.int .i64 x1, .int .i64 x2] 34)
      have hon1 : OnlyS (· = g) w3 (wr.alloc (.cells #[.int .i64 x1, .int .i64 x2] 34)) := HOn.out.alloc _
      have d0 := hon1.cell HBb.out.1 (by show ¬ g + 1 = g; omega)
      have d1 := hon1.cell HBb.out.2 (by show ¬ g + 1 = g; omega)
      have HPl := Lib.hid (fun (w : World) (ho : OnlyS (· = g) w3 w) (y : Int) => place_any (A2 := some ⟨g, 0, none⟩) (n2 := m) (c2 := m) (W := w) (HLs13.out.only' ho HA1.out) (by rw [HM.out]; omega) HNa.out y)
      rw [HM.out] at HPl
      have HO1 := Lib.hid hon1
      have HT1 := Lib.hid (HTw.out.below hbx)
      have e0 : (wr.alloc (.cells #[.int .i64 x1, .int .i64 x2] 34)).cell? ⟨wr.heap.size, 1, none⟩ = some (.int .i64 x2) := by simp [go_sem]
      have HE0 := Lib.hid e0
      have hwz : wr.heap.size < (wr.alloc (.cells #[.int .i64 x1, .int .i64 x2] 34)).heap.size := by simp
      have HWz := Lib.hid hwz
      clear hkE hx hbx hon1 hxm e0 hwz
      go_wp2_with fail
      refine (HPl.out _ HO1.out x1).mono ?_
      rintro e w5 ⟨⟨v5, rfl, i, hf5⟩, hb5⟩
      rcases hf5 with ⟨rfl, hi5⟩ | ⟨-, hi5⟩
      · have HI := Lib.hid hi5
        have hon5 : OnlyS (· = g) w3 w5 := HO1.out.trans (OnlyS.of_below hb5)
        have d0' := hon5.cell HBb.out.1 (by show ¬ g + 1 = g; omega)
        have d1' := hon5.cell HBb.out.2 (by show ¬ g + 1 = g; omega)
        have e1 := (hb5.cell (p := ⟨wr.heap.size, 1, none⟩) HWz.out).trans HE0.out
        have HO5 := Lib.hid hon5
        have HT5 := Lib.hid (HT1.out.below hb5)
        clear hon5 hb5 HO1 HT1 HE0 HWz c0 c1' d0 d1 hi5
        go_wp2_with fail
        refine (HPl.out _ HO5.out x2).mono ?_
        rintro e w6 ⟨⟨v6, rfl, j, hf6⟩, hb6⟩
        rcases hf6 with ⟨rfl, hj6⟩ | ⟨-, hj6⟩
        · have HJ := Lib.hid hj6
          have hon6 : OnlyS (· = g) w3 w6 := HO5.out.trans (OnlyS.of_below hb6)
          have HO6 := Lib.hid hon6
          have HT6 := Lib.hid ((HT5.out.below hb6).drewN 1)
          obtain ⟨hin, hie⟩ := HI.out
          obtain ⟨hjn, hje⟩ := HJ.out
          have him : i < m := by rw [← HM.out]; exact hin
          have hmore := Cy.wl_more (E := E) (k := k) (i := i) (j := j) (Cy.asc_nodup HNa.out) HXE.out.1 hin hjn (by rw [hie, HXE.out.2]) (by rw [hje, HXE.out.2])
          obtain ⟨A7, q7, c7, A8, c8, w8, z1, z2, hrun, z3, z4, z5, z6, z7⟩ := HT6.out.put (i := i) (by show w3.heap.size ≤ _; exact HO6.out.size) (by rw [Cy.wl_length]; exact hin) (by
            have := Cy.wl_le (nums := nums) (E := E.take k) (i := i) (by rw [Cy.wl_length]; exact hin)
            rw [List.length_take] at this
            omega) j
          rw [← hmore] at z6
          have HZ6 := Lib.hid z6
          have HZ7 := Lib.hid (show OnlyS (· = g) w3 (w8.setCell ⟨g, i, none⟩ (.slice A8 (q7 + 1) c8)) from ((HO6.out.drewN 1).mono (T := fun k => k = g ∨ w3.heap.size ≤ k) (fun _ _ h => .inl h) |>.trans z7).mono fun k hk h => by
            rcases h with h | h
            · exact h
            · omega)
          have y1 := hon6.cell HBb.out.2 (by show ¬ g + 1 = g; omega)
          have y1' : (w6.drewN 1).cell? ⟨g + 1, 1, none⟩ = some (.slice (some ⟨g, 0, none⟩) m m) := y1
          have y2 : w8.cell? ⟨g + 1, 1, none⟩ = some (.slice (some ⟨g, 0, none⟩) m m) := z5.cell y1' (by have := HK.out; show ¬ w3.heap.size ≤ g + 1; omega)
          have z1' : w6.cell? ⟨g, i, none⟩ = some (.slice A7 q7 c7) := z1
          have y3 : g + 1 < w6.heap.size := cell_lt y1
          have y4 : g < w6.heap.size := by omega
          have HRun := Lib.hid hrun
          clear hon6 hb6 HO5 HT5 hj6 d0' d1' e1 hie hje hmore z5 z6 z7 HT6 HO6 hrun
          go_wp2_with fail
          go_region_law (first
            | (refine step_append ?h1 (.tmp 46) (.tmp 48) 23 ?h2 (.slice A7 q7 c7) (.slice (some ⟨w6.heap.size, 0, none⟩) 1 1) ?h3 ?h4 _ _ HRun.out ?_; rotate_right; (case h1 => rfl); (case h2 => rfl); (case h3 => kernel_rfl); (case h4 => kernel_rfl)))
          all_goals
            go_wp2_with fail
            go_roundw
            case rel => exact ⟨k + 1, _, by omega, by go_num, HZ6.out, HZ7.out⟩
            case measure => simp [intOf]; omega
        · exact absurd HXm.out.2 hj6
      · exact absurd HXm.out.1 hi5
    · obtain rfl : k = q := by omega
      have hE9 : E.take k = E := List.take_of_length_le (Nat.le_of_eq HQ.out)
      have hKs := HK.out
      have hw := HOn.out.size
      have s0 := HOn.out.cell HG.out.1.1 (by show ¬ W.heap.size = g; omega)
      have s1 := HOn.out.cell HG.out.1.2 (by show ¬ W.heap.size = g; omega)
      have t0 : wr.frozen? ⟨W.heap.size, 0, none⟩ = false := (World.frozen?_of_block (w := w3) (HOn.out.block W.heap.size (cell_lt HG.out.1.1) (by show ¬ W.heap.size = g; omega))).trans HG.out.2.1
      have t1 : wr.frozen? ⟨W.heap.size, 1, none⟩ = false := (World.frozen?_of_block (w := w3) (HOn.out.block W.heap.size (cell_lt HG.out.1.1) (by show ¬ W.heap.size = g; omega))).trans HG.out.2.2
      have d0 := HOn.out.cell HBb.out.1 (by show ¬ g + 1 = g; omega)
      have d1 := HOn.out.cell HBb.out.2 (by show ¬ g + 1 = g; omega)
      have hTw := HTw.out
      rw [hE9] at hTw
      have hLs := HLs13.out.only' HOn.out HA1.out
      have HFin := Lib.hid (fun (w : World) (ho : OnlyS (· = W.heap.size) wr w) => show Ways W l (.returned (wayV A1 m c1 (some ⟨g, 0, none⟩) m m)) w by
        have h1 := (hTw.only ho (by omega) (by intro k hk; omega)).tl (by rw [Cy.wl_length, HM.out]; unfold maxLen; omega)
        rw [Cy.wl_length, HM.out] at h1
        have h2 := Cy.wl_wy l
        rw [show Cy.nodesC l = nums from HNs.out, HE.out] at h2
        refine ⟨_, _, _, _, _, _, nums, _, rfl, HM.out.symm, by rw [Cy.wl_length, HM.out], hLs.only' ho HA1'.out, h1, h2, ?_⟩
        have h3 : Below W.heap.size W wr := HB3.out.trans (OnlyS.below HOn.out (by intro k hk; omega) (by omega))
        exact h3.trans (ho.below (by intro k hk; omega) h3.size))
      clear hKs hE9 HG HBb HK hTw hLs HTw HOn
      go_wp2_with fail
      exact bodyPost_ret (results_ways rfl rfl (by simp [go_sem, s0]) (by simp [go_sem, s1])) rfl (HFin.out _ ((OnlyS.set _ _ _ _).trans (OnlyS.set _ _ _ _)))
end Go.Proofs.Ytggmnjnigmbooaa
