/- The document's table: Waiting. -/
import Derived.Test.YtikienhlgmcfkaaGreatDoorEh
import Derived.Test.YtikienhlgmcfkaaGreatDoorWa
import Derived.Deep.RegionLaw
namespace Go.Proofs.YtikienhlgmcfkaaGreatDoor.Rt
open Go Go.RowKit Go.Shelf
set_option maxRecDepth 100000

theorem results_wait2 {fn : Func} {q r s : Tmp} (h : fn.results = #[.cell q 30, .cell r 47, .tmp s]) {tmps : Array Value} {w : World} {K1 K2 : Nat} {p : Pa.Pt} {x : Ws.Wt} {b : Bool} (hq : tmps.getD q undef = .pointer (some ⟨K1, 0, none⟩)) (hr : tmps.getD r undef = .pointer (some ⟨K2, 0, none⟩)) (hs : tmps.getD s undef = .bool b)
    (hp : Pbx w K1 p) (hx : Wcx w K2 x) : (results fn tmps).run Tryz.prog w = .ok (.tuple #[p.v, Ws.wv x, .bool b]) w := by
  have hq' : tmps[q]?.getD undef = .pointer (some ⟨K1, 0, none⟩) := by simpa using hq
  have hr' : tmps[r]?.getD undef = .pointer (some ⟨K2, 0, none⟩) := by simpa using hr
  have hs' : tmps[s]?.getD undef = .bool b := by simpa using hs
  simp [results, h, hq', hr', hs', go_sem, hp.c0, hp.c1, hp.c2, hp.c3, hp.c4, hx.c0, hx.c1, hx.c2, hx.c3]
abbrev nineSet (W : World) (K1 K2 : Nat) (p : Pa.Pt) (x : Ws.Wt) : World :=
  ((((((((W.setCell ⟨K1, 0, none⟩ (.int .i64 p.a)).setCell ⟨K1, 1, none⟩ (.int .i64 p.b)).setCell ⟨K1, 2, none⟩ (.int .i64 p.c)).setCell ⟨K1, 3, none⟩ (.int .i64 p.d)).setCell ⟨K1, 4, none⟩ (.int .i64 p.e)).setCell ⟨K2, 0, none⟩ (.int .i64 x.1)).setCell ⟨K2, 1, none⟩ (.int .i64 x.2.1)).setCell ⟨K2, 2, none⟩ (.bool x.2.2.1)).setCell ⟨K2, 3, none⟩ (.bool x.2.2.2)
theorem nine_only (W : World) (K1 K2 : Nat) (p : Pa.Pt) (x : Ws.Wt) : OnlyS (fun k => k = K1 ∨ k = K2) W (nineSet W K1 K2 p x) :=
  (((((((((OnlyS.refl _ W).setIn K1 0 _ (.inl (.inl rfl))).setIn K1 1 _ (.inl (.inl rfl))).setIn K1 2 _ (.inl (.inl rfl))).setIn K1 3 _ (.inl (.inl rfl))).setIn K1 4 _ (.inl (.inl rfl))).setIn K2 0 _ (.inl (.inr rfl))).setIn K2 1 _ (.inl (.inr rfl))).setIn K2 2 _ (.inl (.inr rfl))).setIn K2 3 _ (.inl (.inr rfl))
theorem nine_res {W : World} {K1 K2 : Nat} {p0 : Pa.Pt} {x0 : Ws.Wt} (hp : Pbx W K1 p0) (hx : Wcx W K2 x0) (hne : K1 ≠ K2) (p : Pa.Pt) (x : Ws.Wt) : Pbx (nineSet W K1 K2 p x) K1 p ∧ Wcx (nineSet W K1 K2 p x) K2 x := by
  obtain ⟨a0, a1, a2, a3, a4⟩ := hp
  obtain ⟨c0, c1, c2, c3⟩ := hx
  refine ⟨⟨?_, ?_, ?_, ?_, ?_⟩, ⟨?_, ?_, ?_, ?_⟩⟩ <;> simp [go_sem, a0, a1, a2, a3, a4, c0, c1, c2, c3]
theorem nine_drew {W : World} {K1 K2 : Nat} {p : Pa.Pt} {x : Ws.Wt} (h : Pbx W K1 p ∧ Wcx W K2 x) : Pbx W.drew K1 p ∧ Wcx W.drew K2 x :=
  ⟨⟨h.1.c0, h.1.c1, h.1.c2, h.1.c3, h.1.c4⟩, ⟨h.2.c0, h.2.c1, h.2.c2, h.2.c3⟩⟩
/-- the first entry where one waits -/
def hitE (tx : Int) : List Nd → Option (Pa.Pt × Ws.Wt)
  | [] => none
  | e :: es => match hitL tx e.L with
    | some x => some (e.p, x)
    | none => hitE tx es
theorem hitE_none {tx : Int} : ∀ {es : List Nd}, (∀ (i : Nat) (hi : i < es.length), hitL tx es[i].L = none) → hitE tx es = none
  | [], _ => rfl
  | e :: es, h => by
    have h0 := h 0 (by simp)
    simp only [List.getElem_cons_zero] at h0
    unfold hitE
    rw [h0]
    exact hitE_none fun i hi => by have := h (i + 1) (by simpa using hi); simpa using this
theorem hitE_at {tx : Int} : ∀ {es : List Nd} {i : Nat} (hi : i < es.length) {e : Nd} {x : Ws.Wt}, es[i] = e → (∀ (j : Nat) (hj : j < i), hitL tx (es[j]'(by omega)).L = none) → hitL tx e.L = some x → hitE tx es = some (e.p, x)
  | e :: es, 0, hi, e', x, he, _, hx => by
    simp only [List.getElem_cons_zero] at he
    subst he
    unfold hitE
    rw [hx]
  | e :: es, i + 1, hi, e', x, he, h, hx => by
    have h0 := h 0 (by omega)
    simp only [List.getElem_cons_zero] at h0
    unfold hitE
    rw [h0]
    exact hitE_at (i := i) (by simpa using hi) (by simpa using he) (fun j hj => by have := h (j + 1) (by omega); simpa using this) hx
theorem Rel.hit {C : Pa.Pt → Cx} {es : List Nd} (R : Rel C es) (tx : Int) : hitP (fun p => hitL tx (C p).2) (es.map (·.p)) = hitE tx es := by
  have : ∀ l : List Nd, (∀ e, e ∈ l → e ∈ es) → hitP (fun p => hitL tx (C p).2) (l.map (·.p)) = hitE tx l := by
    intro l
    induction l with
    | nil => intro _; rfl
    | cons e l ih =>
      intro h
      rw [List.map_cons]
      unfold hitP hitE
      rw [R.cy e (h e List.mem_cons_self), ih fun x hx => h x (List.mem_cons_of_mem _ hx)]
      rfl
  exact this es fun _ h => h
section
variable {W W' w : World} {t K m c : Nat} {mr : Int} {es : List Nd} {D : Nat → Prop} {A : Option Addr}
set_option maxHeartbeats 4000000 in
theorem Di.waiting (h : Di W t K m mr es D A c) (hl : es.length ≤ 300) (hs : totE es ≤ 300) (tx : Int) : Calls Tryz.prog 16 #[qp t, .int .i64 tx] W fun e w' => e = .returned (waitV (hitE tx es)) ∧ Below W.heap.size W w' := by
  obtain ⟨n, hn⟩ : ∃ n, es.length = n := ⟨_, rfl⟩
  rw [hn] at hl
  have HN := Lib.hid hn
  have hx1 := box_below W (.cells #[.int .i64 0, .int .i64 0, .int .i64 0, .int .i64 0, .int .i64 0] 30)
  have hx2 := box_below (W.alloc (.cells #[.int .i64 0, .int .i64 0, .int .i64 0, .int .i64 0, .int .i64 0] 30)) (.cells #[.int .i64 0, .int .i64 0, .bool false, .bool false] 47)
  have hb2 := hx1.trans (hx2.mono hx1.size)
  have HX := Lib.hid hb2
  have h2 := h.below hb2
  have HO1 := Lib.hid (show ((W.alloc (.cells #[.int .i64 0, .int .i64 0, .int .i64 0, .int .i64 0, .int .i64 0] 30)).alloc (.cells #[.int .i64 0, .int .i64 0, .bool false, .bool false] 47)).heap[W.heap.size]? = some (.cells #[.int .i64 0, .int .i64 0, .int .i64 0, .int .i64 0, .int .i64 0] 30 (0, 0)) from (hx2.block _ (by simp)).trans (heap_alloc_new W _))
  have HO2 := Lib.hid (show ((W.alloc (.cells #[.int .i64 0, .int .i64 0, .int .i64 0, .int .i64 0, .int .i64 0] 30)).alloc (.cells #[.int .i64 0, .int .i64 0, .bool false, .bool false] 47)).heap[W.heap.size + 1]? = some (.cells #[.int .i64 0, .int .i64 0, .bool false, .bool false] 47 (0, 0)) from by
    have := heap_alloc_new (W.alloc (.cells #[.int .i64 0, .int .i64 0, .int .i64 0, .int .i64 0, .int .i64 0] 30)) (.cells #[.int .i64 0, .int .i64 0, .bool false, .bool false] 47)
    rw [World.size_alloc] at this
    exact this)
  have HDd := Lib.hid h
  have e0 := h2.e0 hn
  have hlt := h2.lt
  have H1 := Lib.hid h2
  clear h hn h2 hx1 hx2 hb2
  go_enter Tryz.func16, Tryz.ntmps16
  go_wp2_with fail
  generalize (W.alloc (.cells #[.int .i64 0, .int .i64 0, .int .i64 0, .int .i64 0, .int .i64 0] 30)).alloc (.cells #[.int .i64 0, .int .i64 0, .bool false, .bool false] 47) = W2 at *
  obtain ⟨K1, hK1⟩ : ∃ k, W.heap.size = k := ⟨_, rfl⟩
  obtain ⟨K2, hK2⟩ : ∃ k, W.heap.size + 1 = k := ⟨_, rfl⟩
  have HK := Lib.hid (show K1 ≠ K2 ∧ W.heap.size ≤ K1 ∧ W.heap.size ≤ K2 by omega)
  rw [hK1] at HO1
  rw [hK2] at HO2
  have HW2 := Lib.hid HX.out.size
  rw [hK2, hK1]
  clear hK1 hK2
  go_loopw [15] (fun v wr => ∃ j : Nat, j ≤ n ∧ v = .int .i64 j ∧ (∀ (i : Nat) (_ : i < j) (hi : i < es.length), hitL tx es[i].L = none) ∧ Below W2.heap.size W2 wr) (fun v _ => n - (intOf v).toNat)
  case atStart => exact ⟨0, by omega, rfl, fun i hi => by omega, Below.refl _ _⟩
  case round =>
    obtain ⟨j, hj, rfl, hall, hb⟩ := hrel
    have HA := Lib.hid hall
    have HB1 := Lib.hid hb
    clear hall
    by_cases hjn : j < n
    · have hjl : j < es.length := by rw [HN.out]; exact hjn
      obtain ⟨g, rfl, c0, -⟩ := (H1.out.below hb).at hjl
      obtain ⟨A1, c1, A2, c2, hRW, -⟩ := HDd.out.ent _ (List.getElem_mem hjl)
      have hR := (hRW.below HX.out).below hb
      obtain ⟨x, hx⟩ : ∃ x, es[j]'hjl = x := ⟨_, rfl⟩
      have hz := totE_ge (List.getElem_mem hjl)
      rw [hx] at c0 hR hz hRW
      have HIn := Lib.hid (And.intro hRW.lt hRW.l.in)
      clear hRW
      have HXx := Lib.hid hx
      have HR := Lib.hid hR
      have HFi := Lib.hid (Ws.rfind_any hR.l (by omega) tx)
      have e6 := hR.e6
      obtain ⟨⟨pa, pb, pc, pd, pe⟩, Q, H, L⟩ := x
      simp only at c0 HFi e6
      rcases hit_cases tx L with ⟨k1, k2⟩ | ⟨k, hk, k1, k2⟩
      · have HNo := Lib.hid k2
        rw [k1] at HFi
        clear hx hz hb hR k1 k2
        go_wp2_with fail
        refine HFi.out.mono ?_
        rintro e w2 ⟨rfl, hb2⟩
        have HB2 := Lib.hid (HB1.out.trans (hb2.mono HB1.out.size))
        clear hb2 HFi e6
        go_wp2_with fail
        go_roundw
        case rel =>
          refine ⟨j + 1, by omega, by go_num, fun i hi h => ?_, HB2.out⟩
          rcases Nat.lt_or_ge i j with h' | h'
          · exact HA.out i h' h
          · obtain rfl : i = j := by omega
            rw [HXx.out]; exact HNo.out
        case measure => simp [intOf]; omega
      · obtain ⟨y, hy⟩ : ∃ y, L[k]'hk = y := ⟨_, rfl⟩
        rw [hy] at k2
        have HYy := Lib.hid (show ∃ h : k < L.length, L[k]'h = y from ⟨hk, hy⟩)
        have HE := Lib.hid (hitE_at hjl hx (fun i hi => HA.out i hi (by omega)) k2)
        rw [k1] at HFi
        have hkn := hk
        obtain ⟨l, hll⟩ : ∃ l, L.length = l := ⟨_, rfl⟩
        rw [hll] at HFi e6 hkn
        have hll1 : l ≤ 300 := by simp only at hz; omega
        have HLl := Lib.hid hll
        clear hx hz hb hR k1 k2 hll hy hk
        go_wp2_with fail
        refine HFi.out.mono ?_
        rintro e w2 ⟨rfl, hb2⟩
        have HB2 := Lib.hid (HB1.out.trans (hb2.mono HB1.out.size))
        have hR2 := HR.out.below hb2
        have r0 := hR2.e0
        have r1 := hR2.e1
        have r2 := hR2.e2
        have r3 := hR2.e3
        have r4 := hR2.e4
        have r6 := hR2.e6n HLl.out
        obtain ⟨hk, hy⟩ := HYy.out
        obtain ⟨a, ha, hh⟩ := hR2.l.here hk
        rw [hy] at hh
        obtain ⟨q0, q1, q2, q3⟩ := hh
        obtain ⟨y0, y1, y2, y3⟩ := y
        have n0 : (a.add (k * 4)).block < W.heap.size := by
          rw [Hs.block_add']
          rcases HIn.out.2 with q | q
          · rw [show L = [] from q] at hk
            simp at hk
          · exact q a ha
        have nQ : Q < W.heap.size := HIn.out.1
        have n1 : ¬ (a.add (k * 4)).block = K1 := by have := HK.out; omega
        have n2 : ¬ K1 = (a.add (k * 4)).block := by have := HK.out; omega
        have n3 : ¬ (a.add (k * 4)).block = K2 := by have := HK.out; omega
        have n4 : ¬ K2 = (a.add (k * 4)).block := by have := HK.out; omega
        have n5 : ¬ Q = K1 := by have := HK.out; omega
        have n6 : ¬ K1 = Q := by have := HK.out; omega
        have n7 : ¬ Q = K2 := by have := HK.out; omega
        have n8 : ¬ K2 = Q := by have := HK.out; omega
        have n9 : ∀ o, ¬ (⟨K1, o, none⟩ : Addr) = a.add (k * 4) := fun o e => n1 (by rw [← e])
        have n10 : ∀ o, ¬ (⟨K2, o, none⟩ : Addr) = a.add (k * 4) := fun o e => n3 (by rw [← e])
        simp only at r0 r1 r2 r3 r4 q0 q1 q2 q3
        have o1 := (HB2.out.block _ (lt_blk HO1.out)).trans HO1.out
        have o2 := (HB2.out.block _ (lt_blk HO2.out)).trans HO2.out
        have f1 : ∀ o, w2.frozen? ⟨K1, o, none⟩ = false := fun o => free_blk o1
        have f2 : ∀ o, w2.frozen? ⟨K2, o, none⟩ = false := fun o => free_blk o2
        have s0 : w2.cell? ⟨K1, 0, none⟩ = some (.int .i64 0) := by rw [cell_blk o1]; rfl
        have s1 : w2.cell? ⟨K1, 1, none⟩ = some (.int .i64 0) := by rw [cell_blk o1]; rfl
        have s2 : w2.cell? ⟨K1, 2, none⟩ = some (.int .i64 0) := by rw [cell_blk o1]; rfl
        have s3 : w2.cell? ⟨K1, 3, none⟩ = some (.int .i64 0) := by rw [cell_blk o1]; rfl
        have s4 : w2.cell? ⟨K1, 4, none⟩ = some (.int .i64 0) := by rw [cell_blk o1]; rfl
        have u0 : w2.cell? ⟨K2, 0, none⟩ = some (.int .i64 0) := by rw [cell_blk o2]; rfl
        have u1 : w2.cell? ⟨K2, 1, none⟩ = some (.int .i64 0) := by rw [cell_blk o2]; rfl
        have u2 : w2.cell? ⟨K2, 2, none⟩ = some (.bool false) := by rw [cell_blk o2]; rfl
        have u3 : w2.cell? ⟨K2, 3, none⟩ = some (.bool false) := by rw [cell_blk o2]; rfl
        have hK12 : ¬ K1 = K2 := HK.out.1
        have hK21 : ¬ K2 = K1 := fun e => HK.out.1 e.symm
        have HRs := Lib.hid (nine_drew (nine_res (W := w2) (p0 := zeroP) (x0 := zeroW) ⟨s0, s1, s2, s3, s4⟩ ⟨u0, u1, u2, u3⟩ HK.out.1 ⟨pa, pb, pc, pd, pe⟩ (y0, y1, y2, y3)))
        have HOn := Lib.hid (nine_only w2 K1 K2 ⟨pa, pb, pc, pd, pe⟩ (y0, y1, y2, y3)).drew
        subst ha
        clear hb2 HFi e6 hR2 hy hk HYy o1 o2 n0 nQ
        go_wp2_with fail
        go_region_law (fail)
        all_goals
          go_wp2_with fail
          refine bodyPost_ret (results_wait2 rfl (by kernel_rfl) (by kernel_rfl) (by kernel_rfl) (p := ⟨pa, pb, pc, pd, pe⟩) (x := (y0, y1, y2, y3)) (b := true) HRs.out.1 HRs.out.2) (by kernel_rfl) ⟨by rw [HE.out]; rfl, HX.out.trans ((HB2.out.mono HX.out.size).trans (HOn.out.below (fun q hq => by have := HK.out; omega) (Nat.le_trans HX.out.size HB2.out.size)))⟩
    · obtain rfl : j = n := by omega
      have HE := Lib.hid (hitE_none (fun i hi => HA.out i (by have := HN.out; omega) hi))
      have o1 := (hb.block _ (lt_blk HO1.out)).trans HO1.out
      have o2 := (hb.block _ (lt_blk HO2.out)).trans HO2.out
      have f1 : ∀ o, wr.frozen? ⟨K1, o, none⟩ = false := fun o => free_blk o1
      have f2 : ∀ o, wr.frozen? ⟨K2, o, none⟩ = false := fun o => free_blk o2
      have s0 : wr.cell? ⟨K1, 0, none⟩ = some (.int .i64 0) := by rw [cell_blk o1]; rfl
      have s1 : wr.cell? ⟨K1, 1, none⟩ = some (.int .i64 0) := by rw [cell_blk o1]; rfl
      have s2 : wr.cell? ⟨K1, 2, none⟩ = some (.int .i64 0) := by rw [cell_blk o1]; rfl
      have s3 : wr.cell? ⟨K1, 3, none⟩ = some (.int .i64 0) := by rw [cell_blk o1]; rfl
      have s4 : wr.cell? ⟨K1, 4, none⟩ = some (.int .i64 0) := by rw [cell_blk o1]; rfl
      have u0 : wr.cell? ⟨K2, 0, none⟩ = some (.int .i64 0) := by rw [cell_blk o2]; rfl
      have u1 : wr.cell? ⟨K2, 1, none⟩ = some (.int .i64 0) := by rw [cell_blk o2]; rfl
      have u2 : wr.cell? ⟨K2, 2, none⟩ = some (.bool false) := by rw [cell_blk o2]; rfl
      have u3 : wr.cell? ⟨K2, 3, none⟩ = some (.bool false) := by rw [cell_blk o2]; rfl
      have hK12 : ¬ K1 = K2 := HK.out.1
      have hK21 : ¬ K2 = K1 := fun e => HK.out.1 e.symm
      have HRs := Lib.hid (nine_res (W := wr) (p0 := zeroP) (x0 := zeroW) ⟨s0, s1, s2, s3, s4⟩ ⟨u0, u1, u2, u3⟩ HK.out.1 zeroP zeroW)
      have HOn := Lib.hid (nine_only wr K1 K2 zeroP zeroW)
      clear hb o1 o2
      go_wp2_with fail
      refine bodyPost_ret (results_wait2 rfl rfl rfl rfl (p := zeroP) (x := zeroW) (b := false) HRs.out.1 HRs.out.2) rfl ⟨by rw [HE.out]; rfl, HX.out.trans ((HB1.out.mono HX.out.size).trans (HOn.out.below (fun q hq => by have := HK.out; omega) (Nat.le_trans HX.out.size HB1.out.size)))⟩
end
end Go.Proofs.YtikienhlgmcfkaaGreatDoor.Rt
