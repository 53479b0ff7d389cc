/- The chapter's example: three ask for one node. -/
import Derived.Test.YtjhkejkdnjogiaaGreatDoorGg
namespace Go.Proofs.YtjhkejkdnjogiaaGreatDoor
open Go Go.RowKit Go.Shelf
set_option maxRecDepth 100000

/-- a node's box beside a table -/
def PBox (M : Nat) (p : Pa.Pt) (T : Nat → Prop) (W : World) : Prop := Pbx W M p ∧ ¬ T M
theorem pbox_stays (M : Nat) (p : Pa.Pt) : Stays (PBox M p) := by
  rintro T T' W W' ⟨h1, h2⟩ hT ho hT'
  refine ⟨h1.only ho h2, fun hk => ?_⟩
  rcases hT' M hk with q | q
  · exact h2 q
  · have : M < W.heap.size := cell_lt h1.c0; omega
section
variable {w W W' : World} {b m c u t : Nat} {mr : Int} {C : Pa.Pt → Cx} {K : (Nat → Prop) → World → Prop}
theorem Ot.pbox (h : Ot w W b m mr c C u t K) (hK : Stays K) (p : Pa.Pt) : Ot w (W.alloc (.cells (pcs p) 25)) b m mr c C u t (fun T W' => K T W' ∧ PBox W.heap.size p T W') := by
  have hb := h.below hK (box_below W (.cells (pcs p) 25))
  obtain ⟨T, B0, h1, h2, h3⟩ := h.is
  exact ⟨⟨T, B0, h1.below (box_below W _), h2, hK T T W _ h3 (fun _ hk => (h1.lt hk).2) (OnlyS.of_below (box_below W _)) fun _ hk => .inl hk, Pbx.new W p 25, fun hk => by have := (h1.lt hk).2; omega⟩, hb.bel⟩
theorem Ot.pboxed {p : Pa.Pt} {M : Nat} (h : Ot w W b m mr c C u t (fun T W' => K T W' ∧ PBox M p T W')) : Pbx W M p := by
  obtain ⟨T, B0, h1, h2, h3⟩ := h.is
  exact h3.2.1
theorem Ot.all (h : Ot w W b m mr c C u t K) (ht : TabG w) (hm : m ≤ 1000) (hc : c ≤ 300) {ps : List Pa.Pt} (hs : ps.Pairwise (fun p q => Pa.lessB p q = true)) (hps : ∀ p, p ∈ ps ↔ 0 < szC (C p)) : Calls Tryz.prog 13 #[tp b] W (Es.Rows W (edgesP C ps)) := by
  obtain ⟨T, B0, h1, h2, h3⟩ := h.is
  exact h1.all (ht.later h.bel) hm hc hs hps
theorem Ot.counts (h : Ot w W b m mr c C u t K) {ps : List Pa.Pt} (hnd : ps.Nodup) (hm : ∀ p, p ∈ ps ↔ 0 < szC (C p)) : u = ps.length ∧ t = (ps.map fun p => szC (C p)).sum := by
  obtain ⟨T, B0, h1, -⟩ := h.is
  exact h1.count hnd hm
end
abbrev p1 : Pa.Pt := ⟨1, 0, 0, 0, 1⟩
abbrev C0 : Pa.Pt → Cx := fun _ => ([], [])
theorem up_only {x : Cx} (hx : 0 < szC x) {C : Pa.Pt → Cx} (hC : ∀ p, p ≠ p1 → C p = ([], [])) (h1 : C p1 = x) : ∀ p, p ∈ [p1] ↔ 0 < szC (C p) := by
  intro p
  rw [List.mem_singleton]
  constructor
  · rintro rfl
    rw [h1]
    exact hx
  · intro h
    by_cases e : p = p1
    · exact e
    · rw [hC p e] at h
      exact absurd h (by decide)
theorem up_other {x : Cx} {C : Pa.Pt → Cx} (hC : ∀ p, p ≠ p1 → C p = ([], [])) : ∀ p, p ≠ p1 → upC C p1 x p = ([], []) := fun p e => (upC_ne _ _ e).trans (hC p e)
theorem ax1 : askT 9 9 0 0 C0 1 p1 6 0 = (1, 0, [(1, 6)], []) := by kernel_rfl
theorem ax2 {C : Pa.Pt → Cx} (h : C p1 = ([(1, 6)], [])) : askT 9 9 1 1 C 2 p1 3 0 = (2, 0, [(1, 6)], [(2, 3, false, false)]) := (askT_of h).trans (by kernel_rfl)
theorem ax3 {C : Pa.Pt → Cx} (h : C p1 = ([(1, 6)], [(2, 3, false, false)])) : askT 9 9 1 2 C 3 p1 3 0 = (2, 0, [(1, 6)], [(2, 3, false, false), (3, 3, false, false)]) := (askT_of h).trans (by kernel_rfl)
theorem ax4 {C : Pa.Pt → Cx} (h : C p1 = ([(1, 6)], [(2, 3, false, false), (3, 3, false, false)])) : edgesP C [p1] = [(2, 1), (3, 1), (3, 2)] := by
  unfold edgesP
  rw [List.flatMap_cons, h]
  kernel_rfl
theorem three_ls (W : World) (a b c d e f : Int) : Es.Ls (W.alloc (.cells #[.int .i64 a, .int .i64 b, .int .i64 c, .int .i64 d, .int .i64 e, .int .i64 f] 47)) (some ⟨W.heap.size, 0, none⟩) 3 [(a, b), (c, d), (e, f)] := by
  refine ⟨Nat.le_refl _, by decide, by simp, fun a' ha j u hj => ?_⟩
  obtain rfl : (⟨W.heap.size, 0, none⟩ : Addr) = a' := by simpa using ha
  rw [add_at]
  match j, hj with
  | 0, hj => simp [Es.flat, Es.cellsW] at hj; subst hj; simp [go_sem]
  | 1, hj => simp [Es.flat, Es.cellsW] at hj; subst hj; simp [go_sem]
  | 2, hj => simp [Es.flat, Es.cellsW] at hj; subst hj; simp [go_sem]
  | 3, hj => simp [Es.flat, Es.cellsW] at hj; subst hj; simp [go_sem]
  | 4, hj => simp [Es.flat, Es.cellsW] at hj; subst hj; simp [go_sem]
  | 5, hj => simp [Es.flat, Es.cellsW] at hj; subst hj; simp [go_sem]
  | j + 6, hj => simp [Es.flat, Es.cellsW] at hj
set_option maxHeartbeats 4000000 in
theorem awake_any (w : World) (ht : TabG w) : Calls Tryz.prog 6 #[] w fun e w' => e = .returned (.bool true) ∧ Below w.heap.size w w' := by
  have HT := Lib.hid ht
  have HN := Lib.hid (ot_new 9 9 (Below.refl w.heap.size w) ht.size)
  clear ht
  go_enter Tryz.func6, Tryz.ntmps6
  go_wp2_with fail
  refine HN.out.mono ?_
  rintro e w1 ⟨b, rfl, h1⟩
  have H1 := Lib.hid (h1.pbox nil_stays p1)
  have HSt := Lib.hid (and_stays nil_stays (pbox_stays w1.heap.size p1))
  have hpb := H1.out.pboxed
  have q0 := hpb.c0
  have q1 := hpb.c1
  have q2 := hpb.c2
  have q3 := hpb.c3
  have q4 := hpb.c4
  simp only at q0 q1 q2 q3 q4
  clear h1 HN hpb
  go_wp2_with fail
  generalize hM : w1.heap.size = M at *
  refine (H1.out.ask HSt.out HT.out (by omega) 1 6 0 p1 ax1).mono ?_
  rintro e w2 ⟨rfl, u, t, h2, -⟩
  have hC1 := up_other (x := (([(1, 6)], []) : Cx)) (C := C0) (fun _ _ => rfl)
  have hc := h2.counts (ps := [p1]) (by simp) (up_only (x := (([(1, 6)], []) : Cx)) (by decide) hC1 (upC_same _ _ _))
  have hp1 := upC_same C0 p1 (([(1, 6)], []) : Cx)
  generalize upC C0 p1 (([(1, 6)], []) : Cx) = C1 at *
  simp only [List.length_singleton, List.map_cons, List.map_nil, hp1] at hc
  obtain ⟨rfl, rfl⟩ := hc
  have H2 := Lib.hid h2
  have HC1 := Lib.hid (And.intro hC1 hp1)
  have hpb := h2.pboxed
  have r0 := hpb.c0
  have r1 := hpb.c1
  have r2 := hpb.c2
  have r3 := hpb.c3
  have r4 := hpb.c4
  simp only at r0 r1 r2 r3 r4
  clear h2 H1 hC1 hp1 hpb q0 q1 q2 q3 q4
  go_wp2_with fail
  refine (H2.out.ask HSt.out HT.out (by omega) 2 3 0 p1 (ax2 HC1.out.2)).mono ?_
  rintro e w3 ⟨rfl, u, t, h3, -⟩
  have hC2 := up_other (x := (([(1, 6)], [(2, 3, false, false)]) : Cx)) HC1.out.1
  have hc := h3.counts (ps := [p1]) (by simp) (up_only (x := (([(1, 6)], [(2, 3, false, false)]) : Cx)) (by decide) hC2 (upC_same _ _ _))
  have hp2 := upC_same C1 p1 (([(1, 6)], [(2, 3, false, false)]) : Cx)
  generalize upC C1 p1 (([(1, 6)], [(2, 3, false, false)]) : Cx) = C2 at *
  simp only [List.length_singleton, List.map_cons, List.map_nil, hp2] at hc
  obtain ⟨rfl, rfl⟩ := hc
  have H3 := Lib.hid h3
  have HC2 := Lib.hid (And.intro hC2 hp2)
  have hpb := h3.pboxed
  have q0 := hpb.c0
  have q1 := hpb.c1
  have q2 := hpb.c2
  have q3 := hpb.c3
  have q4 := hpb.c4
  simp only at q0 q1 q2 q3 q4
  clear h3 H2 hC2 hp2 hpb HC1 r0 r1 r2 r3 r4
  go_wp2_with fail
  refine (H3.out.ask HSt.out HT.out (by omega) 3 3 0 p1 (ax3 HC2.out.2)).mono ?_
  rintro e w4 ⟨rfl, u, t, h4, -⟩
  have hC3 := up_other (x := (([(1, 6)], [(2, 3, false, false), (3, 3, false, false)]) : Cx)) HC2.out.1
  have hp3 := upC_same C2 p1 (([(1, 6)], [(2, 3, false, false), (3, 3, false, false)]) : Cx)
  generalize upC C2 p1 (([(1, 6)], [(2, 3, false, false), (3, 3, false, false)]) : Cx) = C3 at *
  have HA := Lib.hid (h4.all HT.out (by decide) (by omega) (ps := [p1]) (List.pairwise_singleton _ _) (up_only (x := (([(1, 6)], [(2, 3, false, false), (3, 3, false, false)]) : Cx)) (by decide) hC3 hp3))
  rw [ax4 hp3] at HA
  have HB4 := Lib.hid h4.bel
  clear h4 H3 hC3 hp3 HC2 q0 q1 q2 q3 q4
  go_wp2_with fail
  refine HA.out.mono ?_
  rintro e w5 ⟨v, rfl, hrow, hb5⟩
  obtain ⟨A5, c5, rfl, hls5⟩ := hrow.ls
  have hx := box_below w5 (.cells #[.int .i64 2, .int .i64 1, .int .i64 3, .int .i64 1, .int .i64 3, .int .i64 2] 47)
  have HS := Lib.hid (Es.same_any (hls5.below hx) (three_ls w5 2 1 3 1 3 2) (by simp))
  have HB5 := Lib.hid (HB4.out.trans ((hb5.trans (hx.mono hb5.size)).mono HB4.out.size))
  simp only [List.length_cons, List.length_nil, Nat.zero_add, Nat.reduceAdd] at HS ⊢
  clear hrow hb5 hls5 hx HA HB4
  go_wp2_with fail
  refine HS.out.mono ?_
  rintro e w6 ⟨rfl, hb6⟩
  have HB6 := Lib.hid (HB5.out.trans (hb6.mono HB5.out.size))
  clear hb6 HS
  go_wp2_with fail
  go_ret
  exact ⟨rfl, HB6.out⟩
end Go.Proofs.YtjhkejkdnjogiaaGreatDoor
