/- How much what is below each node lets one do: the program's answer. -/
import Derived.Test.YthjlapcccmbhbaaWf
namespace Go.Proofs.Ythjlapcccmbhbaa.Lk
open Go Go.RowKit Go.Shelf Pa
set_option maxRecDepth 100000

section
variable {W W' : World} {A : Option Addr} {c : Nat} {xs : List Hd}
/-- a round's head -/
structure Dn (W : World) (xs : List Hd) (x : Hd) (b B5 k t : Nat) (p i : Value) (wr : World) : Prop where
  ex : ∃ (B m : Nat) (h : Pt → Bool), p = .pointer (some ⟨B, 0, none⟩) ∧ PtAt wr B (nextP x.1 t) ∧ W.heap.size ≤ B ∧ B ≠ b ∧ B ≠ B5 ∧ m ≤ 4 * k + t ∧ MapF wr b m h (fun q => (ancF xs x t q : Nat))
  is : i = .bool (decide ((t : Int) < x.1.e - 1))
  at5 : LkAt wr B5 x
  below : Below W.heap.size W wr
theorem LkAt.but {W W' : World} {B b : Nat} {x : Hd} (h : LkAt W B x) (hg : W.grownBy W' (some b)) (hne : B ≠ b) : LkAt W' B x := by
  obtain ⟨c0, c1, c2, c3, c4, c5, hl⟩ := h
  have e : W'.heap[B]? = W.heap[B]? := hg.block B hl (fun e => hne (by injection e))
  exact ⟨(World.cell?_of_block (w := W) e).trans c0, (World.cell?_of_block (w := W) e).trans c1, (World.cell?_of_block (w := W) e).trans c2, (World.cell?_of_block (w := W) e).trans c3, (World.cell?_of_block (w := W) e).trans c4, (World.cell?_of_block (w := W) e).trans c5, Nat.lt_of_lt_of_le hl hg.size⟩
theorem box_frozen (w : World) (cs : Array Value) (t : TypeId) (j : Nat) : (w.alloc (.cells cs t)).frozen? ⟨w.heap.size, j, none⟩ = false := by
  simp [go_sem]
/-- a node stored in a box -/
abbrev put5 (w : World) (B : Nat) (q : Pt) : World := ((((w.setCell ⟨B, 0, none⟩ (.int .i64 q.a)).setCell ⟨B, 1, none⟩ (.int .i64 q.b)).setCell ⟨B, 2, none⟩ (.int .i64 q.c)).setCell ⟨B, 3, none⟩ (.int .i64 q.d)).setCell ⟨B, 4, none⟩ (.int .i64 q.e)
theorem put5_only (w : World) (B : Nat) (q : Pt) : OnlyS (· = B) w (put5 w B q) :=
  ((((OnlyS.set B 0 w _).trans (OnlyS.set B _ _ _)).trans (OnlyS.set B _ _ _)).trans (OnlyS.set B _ _ _)).trans (OnlyS.set B _ _ _)
theorem cell_put (w : World) (B i j : Nat) (v u : Value) (h : w.cell? ⟨B, j, none⟩ = some u) : (w.setCell ⟨B, i, none⟩ v).cell? ⟨B, j, none⟩ = some (if i = j then v else u) := by
  by_cases e : i = j
  · subst e
    rw [if_pos rfl]
    exact World.cell?_setCell_same _ _ _ h
  · rw [if_neg e]
    exact (World.cell?_setCell_other _ _ _ _ (by intro h; injection h; contradiction)).trans h
theorem PtAt.put5 {w : World} {B : Nat} {p : Pt} (h : PtAt w B p) (q : Pt) : PtAt (Lk.put5 w B q) B q := by
  obtain ⟨c0, c1, c2, c3, c4, hl⟩ := h
  refine ⟨?_, ?_, ?_, ?_, ?_, Nat.lt_of_lt_of_le hl (put5_only w B q).size⟩
  · exact cell_put _ _ _ _ _ _ (cell_put _ _ _ _ _ _ (cell_put _ _ _ _ _ _ (cell_put _ _ _ _ _ _ (cell_put _ _ _ _ _ _ c0))))
  · exact cell_put _ _ _ _ _ _ (cell_put _ _ _ _ _ _ (cell_put _ _ _ _ _ _ (cell_put _ _ _ _ _ _ (cell_put _ _ _ _ _ _ c1))))
  · exact cell_put _ _ _ _ _ _ (cell_put _ _ _ _ _ _ (cell_put _ _ _ _ _ _ (cell_put _ _ _ _ _ _ (cell_put _ _ _ _ _ _ c2))))
  · exact cell_put _ _ _ _ _ _ (cell_put _ _ _ _ _ _ (cell_put _ _ _ _ _ _ (cell_put _ _ _ _ _ _ (cell_put _ _ _ _ _ _ c3))))
  · exact cell_put _ _ _ _ _ _ (cell_put _ _ _ _ _ _ (cell_put _ _ _ _ _ _ (cell_put _ _ _ _ _ _ (cell_put _ _ _ _ _ _ c4))))
theorem anc_step (xs : List Hd) (x : Hd) (t : Nat) (q : Pt) :
    (if eqP (cutP x.1 (x.1.e - 1 - t)) q then max (ancF xs x t (cutP x.1 (x.1.e - 1 - t))) (reN (kn x.2)) else ancF xs x t q) = ancF xs x (t + 1) q := by
  by_cases e : eqP (cutP x.1 (x.1.e - 1 - t)) q = true
  · have e1 := (eqP_iff _ _).1 e
    have e2 : ancB x.1 (t + 1) q = true := by rw [ancB, e, Bool.true_or]
    rw [if_pos e, e1]
    unfold ancF
    rw [e2, if_pos rfl]
    split <;> omega
  · rw [if_neg e]
    unfold ancF
    have e' : eqP (cutP x.1 (x.1.e - 1 - t)) q = false := by simpa using e
    rw [ancB, e', Bool.false_or]
/-- a new box that may be written -/
structure Fz5 (w : World) (B : Nat) (p : Pt) : Prop where
  pt : PtAt w B p
  f0 : w.frozen? ⟨B, 0, none⟩ = false
  f1 : w.frozen? ⟨B, 1, none⟩ = false
  f2 : w.frozen? ⟨B, 2, none⟩ = false
  f3 : w.frozen? ⟨B, 3, none⟩ = false
  f4 : w.frozen? ⟨B, 4, none⟩ = false
theorem fz_new {w w' : World} {p : Pt} (hb : Below (w.alloc (.cells #[.int .i64 p.a, .int .i64 p.b, .int .i64 p.c, .int .i64 p.d, .int .i64 p.e] 25)).heap.size (w.alloc (.cells #[.int .i64 p.a, .int .i64 p.b, .int .i64 p.c, .int .i64 p.d, .int .i64 p.e] 25)) w') : Fz5 w' w.heap.size p := by
  have h := (PtAt.new w p.a p.b p.c p.d p.e).later hb
  have hk := hb.block w.heap.size (by simp)
  have hf : ∀ j, w'.frozen? ⟨w.heap.size, j, none⟩ = false := fun j => (World.frozen?_of_block (w := w.alloc _) hk).trans (box_frozen w _ _ j)
  exact ⟨h, hf 0, hf 1, hf 2, hf 3, hf 4⟩
/-- what a round's store reads -/
def Rd (B B5 : Nat) (y : Pt) (xm : Int) (w : World) : Prop := w.cell? ⟨B, 0, none⟩ = some (.int .i64 y.a) ∧ w.cell? ⟨B, 1, none⟩ = some (.int .i64 y.b) ∧ w.cell? ⟨B, 2, none⟩ = some (.int .i64 y.c) ∧ w.cell? ⟨B, 3, none⟩ = some (.int .i64 y.d) ∧ w.cell? ⟨B, 4, none⟩ = some (.int .i64 y.e) ∧ w.cell? ⟨B5, 5, none⟩ = some (.int .i64 xm)
/-- what a round's store leaves -/
structure Dw (W : World) (b B B5 m : Nat) (y : Pt) (x : Hd) (f : Pt → Int) (v : Int) (w : World) : Prop where
  map : ∃ h, MapF w b (m + 1) h (fun q => if eqP y q then v else f q)
  pt : PtAt w B y
  lk : LkAt w B5 x
  below : Below W.heap.size W w
theorem done_step {W w w3 : World} {b m B B5 : Nat} {h : Pt → Bool} {f : Pt → Int} {y : Pt} {x : Hd} {v : Int} (hM : MapF w b m h f) (hp : PtAt w B y) (h5 : LkAt w B5 x) (hb : Below W.heap.size W w)
    (hF : FitP y) (hv : wf64 v) (hm : m ≤ 10000) (h1 : B ≠ b) (h2 : B5 ≠ b) (hbW : W.heap.size ≤ b) (hb3 : Below w.heap.size w w3) :
    (Instr.lookup 44 (.map (some b)) y.v false).run Try.prog w3 = .ok (.int .i64 (f y)) w3 ∧ Rd B B5 y x.2 w3 ∧
    ∃ W4, (Instr.mapUpdate 44 (.map (some b)) y.v (.int .i64 v)).run Try.prog w3 = .ok () W4 ∧ Rd B B5 y x.2 W4 ∧ Dw W b B B5 m y x f v W4 := by
  have hM3 := hM.grow hb3
  have hp3 := hp.later hb3
  have h53 := h5.later hb3
  obtain ⟨W4, hrun, hM4, hg⟩ := hM3.put hF hv hm
  have hp4 := PtAt.but hp3 hg h1
  have h54 := LkAt.but h53 hg h2
  exact ⟨hM3.look hF, ⟨hp3.c0, hp3.c1, hp3.c2, hp3.c3, hp3.c4, h53.c5⟩, W4, hrun, ⟨hp4.c0, hp4.c1, hp4.c2, hp4.c3, hp4.c4, h54.c5⟩, ⟨_, hM4⟩, hp4, h54, below_grew (thenCall hb hb3) hg hbW (Nat.le_refl _)⟩
set_option maxHeartbeats 8000000 in
theorem done_any (hr : Ls W A c xs) (hl : xs.length ≤ 100) :
    Calls Try.prog 26 #[.slice A xs.length c] W fun e w' => ∃ h, Maps1 W (4 * xs.length) h (fun p => (mxL xs p : Nat)) e w' := by
  have HR := Lib.hid hr
  obtain ⟨n, hn⟩ : ∃ n, xs.length = n := ⟨_, rfl⟩
  have HN := Lib.hid hn
  rw [hn] at hl ⊢
  clear hr hn
  have HM0 := Lib.hid (MapF.made W)
  have hx := Go.Proofs.Ythjlapcccmbhbaa.box_below W (.map #[] 0)
  have HX := Lib.hid hx
  clear hx
  go_enter Try.func26, Try.ntmps26
  go_wp2_with fail
  go_loopw [11] (fun i wr => ∃ (k m : Nat) (h : Pt → Bool), k ≤ n ∧ m ≤ 4 * k ∧ i = .int .i64 (k : Nat) ∧ MapF wr W.heap.size m h (fun p => (mxL (xs.take k) p : Nat)) ∧ Below W.heap.size W wr) (fun i _ => n - (intOf i).toNat)
  case atStart => exact ⟨0, 0, _, by omega, by omega, rfl, HM0.out.congr (fun p _ => rfl) (fun p _ => by simp [mxL, fitL, topL]), HX.out⟩
  case round =>
    obtain ⟨k, m, h, hk, hmk, rfl, hmap, hb⟩ := hrel
    obtain ⟨wo, rfl⟩ : ∃ wo, wo = wr := ⟨_, rfl⟩
    have HMap := Lib.hid hmap
    have HB := Lib.hid hb
    clear hmap hb HM0 HX
    by_cases hlt : k < n
    · have i1 : (0 : Int) ≤ (k : Int) := by omega
      have i2 : (k : Int) < (n : Int) := by omega
      have hkl : k < xs.length := by rw [HN.out]; exact hlt
      obtain ⟨a, rfl, hh⟩ := (HR.out.below HB.out).here hkl
      obtain ⟨x, hx⟩ : ∃ x, xs[k] = x := ⟨_, rfl⟩
      rw [hx] at hh
      have HT : Hid (∀ p, mxL (xs.take (k + 1)) p = if belB x.1 p then max (mxL (xs.take k) p) (reN (kn x.2)) else mxL (xs.take k) p) := fun p => by rw [List.take_succ_eq_append_getElem hkl, hx, mx_snoc]
      clear hx
      obtain ⟨c0, c1, c2, c3, c4, c5⟩ := hh
      have HBx := Lib.hid (Go.Proofs.Ythjlapcccmbhbaa.box_below wo (.cells #[.int .i64 x.1.a, .int .i64 x.1.b, .int .i64 x.1.c, .int .i64 x.1.d, .int .i64 x.1.e, .int .i64 x.2] 27))
      have HXx := Lib.hid (LkAt.new wo x)
      have hu := fun w => up_any x.1 w
      by_cases hup : rightB x.1 = true ∧ x.1.e ≠ 1
      · have hd := right_depth hup.1
        have hV : upV x.1 = .tuple #[(nextP x.1 0).v, .bool true] := by
          unfold upV nextP
          rw [if_pos hup, if_pos (by have := hup.2; omega), show x.1.e - 1 - ((0 : Nat) : Int) = x.1.e - 1 by omega]
        have H0 : Hid (true = decide (((0 : Nat) : Int) < x.1.e - 1)) := by unfold Hid; rw [decide_eq_true (by have := hup.2; omega)]
        simp only [hV] at hu
        obtain ⟨y, hy⟩ : ∃ y, nextP x.1 0 = y := ⟨_, rfl⟩
        rw [hy] at hu
        have HU := Lib.hid hu
        have HY := Lib.hid hy
        have HR1 := Lib.hid hup.1
        have HDp : Hid (1 < x.1.e ∧ x.1.e ≤ 4) := ⟨by have := hup.2; omega, hd.2⟩
        clear hu hV hup hd hy
        obtain ⟨⟨xa, xb, xc, xd, xe⟩, xm⟩ := x
        obtain ⟨ya, yb, yc, yd, ye⟩ := y
        simp only at c0 c1 c2 c3 c4 c5 HBx HU HXx
        go_wp2_with fail
        refine (HU.out _).mono ?_
        rintro e1 w1 ⟨rfl, hb1⟩
        have HB1 := Lib.hid (thenCall (thenCall HB.out HBx.out) hb1)
        have HM1 := Lib.hid ((HMap.out.grow HBx.out).grow hb1)
        have HP1 := Lib.hid (PtAt.new w1 ya yb yc yd ye)
        have HX1 := Lib.hid (Go.Proofs.Ythjlapcccmbhbaa.box_below w1 (.cells #[.int .i64 ya, .int .i64 yb, .int .i64 yc, .int .i64 yd, .int .i64 ye] 25))
        have HL1 := Lib.hid ((HXx.out.later hb1).later HX1.out)
        have H5 : Hid (W.heap.size < wo.heap.size ∧ wo.heap.size < w1.heap.size) := ⟨HMap.out.lt, Nat.lt_of_lt_of_le HXx.out.lt hb1.size⟩
        clear hb1 c0 c1 c2 c3 c4 c5 HBx HMap HXx
        go_wp2_with fail
        go_loopw [6, 7] (fun p i wr => ∃ t : Nat, (t : Int) ≤ xe - 1 ∧ Dn W (xs.take k) (⟨xa, xb, xc, xd, xe⟩, xm) W.heap.size wo.heap.size k t p i wr) (fun p i wr => goesOn i (depthAt wr p))
        case atStart =>
          refine ⟨0, by have := HDp.out; omega, ⟨w1.heap.size, m, h, rfl, by rw [HY.out]; exact HP1.out, by have := H5.out; omega, by have := H5.out; omega, by have := H5.out; omega, by omega, (HM1.out.grow HX1.out).congr (fun _ _ => rfl) (fun _ _ => rfl)⟩, by rw [H0.out], HL1.out, thenCall HB1.out HX1.out⟩
        case round =>
          obtain ⟨t, ht, hD⟩ := hrel
          clear HB1 HM1 HP1 HX1 HL1
          by_cases hlt2 : (t : Int) < xe - 1
          · obtain ⟨⟨B, m2, h2, rfl, hp, hBW, hBb, hB5, hm2, hmap⟩, rfl, h5, hbl⟩ := hD
            have hdec : decide ((t : Int) < xe - 1) = true := decide_eq_true hlt2
            simp only [hdec]
            have hny : nextP ⟨xa, xb, xc, xd, xe⟩ t = cutP ⟨xa, xb, xc, xd, xe⟩ (xe - 1 - t) := by unfold nextP; exact if_pos hlt2
            have hnu := next_up HR1.out t hlt2
            have hcr := cut_right (j := xe - 1 - t) HR1.out (by omega) (by show _ ≤ xe; omega)
            have hst := anc_step (xs.take k) (⟨xa, xb, xc, xd, xe⟩, xm) t
            have hye : (cutP ⟨xa, xb, xc, xd, xe⟩ (xe - 1 - t)).e = xe - 1 - t := rfl
            simp only at hst
            rw [hny] at hp
            clear hny
            obtain ⟨y2, hy2⟩ : ∃ y, cutP ⟨xa, xb, xc, xd, xe⟩ (xe - 1 - t) = y := ⟨_, rfl⟩
            rw [hy2] at hp hcr hnu hye
            simp only [hy2] at hst
            obtain ⟨cn, hcn⟩ : ∃ cn : Nat, ancF (xs.take k) (⟨xa, xb, xc, xd, xe⟩, xm) t y2 = cn := ⟨_, rfl⟩
            obtain ⟨r, hr⟩ : ∃ r, reN (kn xm) = r := ⟨_, rfl⟩
            simp only [hcn, hr] at hst
            have hr3 : r ≤ 3 := by rw [← hr]; exact reN_le _
            have hc3 : cn ≤ 3 := by
              rw [← hcn]
              unfold ancF
              split
              · exact Nat.max_le.2 ⟨mx_le _ _, reN_le _⟩
              · exact mx_le _ _
            have HCn := Lib.hid hcn
            have HRr := Lib.hid hr
            have HSt := Lib.hid hst
            have HF := Lib.hid (fit_right hcr)
            obtain ⟨z, hz⟩ : ∃ z, nextP ⟨xa, xb, xc, xd, xe⟩ (t + 1) = z := ⟨_, rfl⟩
            rw [hz] at hnu
            have HZ := Lib.hid hz
            have HNu := Lib.hid hnu
            have HYe := Lib.hid hye
            have HU2 := Lib.hid (fun w => up_any y2 w)
            have HBl := Lib.hid hbl
            have hwf : wf64 ((max cn r : Nat) : Int) := wf_small (by omega) (by omega)
            have HWf := Lib.hid hwf
            clear hcr hst hcn hr hnu hz hye hy2 hbl hdec hwf
            simp only [HNu.out] at HU2
            obtain ⟨ya2, yb2, yc2, yd2, ye2⟩ := y2
            obtain ⟨za, zb, zc, zd, ze⟩ := z
            go_wp2_with fail
            have hM2 : MapF wr.drew W.heap.size m2 h2 (fun q => (ancF (xs.take k) (⟨xa, xb, xc, xd, xe⟩, xm) t q : Nat)) := hmap.keep rfl
            have hp2 : PtAt wr.drew B ⟨ya2, yb2, yc2, yd2, ye2⟩ := hp.later ⟨rfl, rfl, rfl, Nat.le_refl _, fun _ _ => rfl⟩
            have h52 : LkAt wr.drew wo.heap.size (⟨xa, xb, xc, xd, xe⟩, xm) := h5.later ⟨rfl, rfl, rfl, Nat.le_refl _, fun _ _ => rfl⟩
            have hb2 : Below W.heap.size W wr.drew := HBl.out.trans ⟨rfl, rfl, rfl, Nat.le_refl _, fun _ _ => rfl⟩
            have hl2 := hM2.look HF.out
            rw [HCn.out] at hl2
            have hmx := fun ts ty => run_max_int Try.prog ts ty cn r
            have HM2 := Lib.hid hM2
            have HP2 := Lib.hid hp2
            have H52 := Lib.hid h52
            have HB2 := Lib.hid hb2
            have hq : Rd B wo.heap.size ⟨ya2, yb2, yc2, yd2, ye2⟩ xm wr.drew := ⟨hp2.c0, hp2.c1, hp2.c2, hp2.c3, hp2.c4, h52.c5⟩
            have HSt3 := Lib.hid (fun (w3 : World) (hb3 : Below wr.drew.heap.size wr.drew w3) => done_step HM2.out HP2.out H52.out HB2.out HF.out HWf.out (by have : xe ≤ 4 := HDp.out.2; omega) hBb (Nat.ne_of_gt H5.out.1) (Nat.le_refl _) hb3)
            simp only [HCn.out] at HSt3
            unfold Rd at hq HSt3
            simp only at hq HSt3
            clear hM2 hmap hp h5 h52 hb2 hp2
            go_region_held3 (fun w' => w'.cell? ⟨B, 0, none⟩ = some (.int .i64 ya2) ∧ w'.cell? ⟨B, 1, none⟩ = some (.int .i64 yb2) ∧ w'.cell? ⟨B, 2, none⟩ = some (.int .i64 yc2) ∧ w'.cell? ⟨B, 3, none⟩ = some (.int .i64 yd2) ∧ w'.cell? ⟨B, 4, none⟩ = some (.int .i64 ye2) ∧ w'.cell? ⟨wo.heap.size, 5, none⟩ = some (.int .i64 xm)) (first | exact hq | exact hs3 | exact ht4)
              (first
                | (go_at_call 28; (with_reducible refine (gdoes_any xm _).mono ?_); rintro e3 w3 ⟨rfl, hb3⟩; rw [HRr.out]; obtain ⟨hl3, hs3, W4, hrun4, ht4, hdw⟩ := HSt3.out w3 hb3))
            all_goals
              go_wp2_with fail
              refine (HU2.out _).mono ?_
              rintro e5 w5 ⟨rfl, hb5⟩
              obtain ⟨⟨h4, hM4⟩, hp4, h54, hb4⟩ := hdw
              have hz := fz_new (p := ⟨ya2, yb2, yc2, yd2, ye2⟩) hb5
              have hx4 := Go.Proofs.Ythjlapcccmbhbaa.box_below W4 (.cells #[.int .i64 ya2, .int .i64 yb2, .int .i64 yc2, .int .i64 yd2, .int .i64 ye2] 25)
              have hn : W.heap.size < W4.heap.size := hM4.lt
              have hn5 : wo.heap.size < W4.heap.size := h54.lt
              have HN4 : Hid (W.heap.size < W4.heap.size ∧ wo.heap.size < W4.heap.size) := ⟨hn, hn5⟩
              have HM5 := Lib.hid ((hM4.grow hx4).grow hb5)
              have H55 := Lib.hid ((h54.later hx4).later hb5)
              have HB5 := Lib.hid (thenCall (thenCall hb4 hx4) hb5)
              have HZ5 := Lib.hid hz
              obtain ⟨⟨z0, z1, z2, z3, z4, zl⟩, f0, f1, f2, f3, f4⟩ := hz
              simp only at z0 z1 z2 z3 z4
              clear hb5 hM4 hp4 h54 hb4 hx4 hn hn5 hq hs3 ht4 hl2 hl3 hrun4 hb3
              go_wp2_with fail
              go_roundw
              case rel =>
                have hone := put5_only w5 W4.heap.size ⟨za, zb, zc, zd, ze⟩
                have hbl : ∀ k, k ≠ W4.heap.size → k < w5.heap.size → (put5 w5 W4.heap.size ⟨za, zb, zc, zd, ze⟩).heap[k]? = w5.heap[k]? := fun k h1 h2 => hone.block k h2 h1
                refine ⟨t + 1, by omega, ⟨W4.heap.size, m2 + 1, h4, rfl, by rw [HZ.out]; exact PtAt.put5 HZ5.out.pt ⟨za, zb, zc, zd, ze⟩, by have := HN4.out; omega, by have := HN4.out; omega, by have := HN4.out; omega, by omega, ?_⟩, rfl, ?_, ?_⟩
                · exact (HM5.out.keep (hbl _ (by have := HN4.out; omega) HM5.out.lt)).congr (fun _ _ => rfl) (fun q _ => by
                    have := HSt.out q
                    show _ = ((ancF (xs.take k) (⟨xa, xb, xc, xd, xe⟩, xm) (t + 1) q : Nat) : Int)
                    rw [← this]
                    by_cases e : eqP ⟨ya2, yb2, yc2, yd2, ye2⟩ q = true
                    · rw [if_pos e, if_pos e]
                    · rw [if_neg e, if_neg e])
                · have h5 := H55.out
                  have hn : ¬ (wo.heap.size = W4.heap.size) := Nat.ne_of_lt HN4.out.2
                  exact ⟨hone.cell h5.c0 hn, hone.cell h5.c1 hn, hone.cell h5.c2 hn, hone.cell h5.c3 hn, hone.cell h5.c4 hn, hone.cell h5.c5 hn, Nat.lt_of_lt_of_le h5.lt hone.size⟩
                · exact HB5.out.trans (hone.below (fun k e => by rw [e]; exact Nat.le_of_lt HN4.out.1) HB5.out.size)
              case measure =>
                have d1 := depth_is (PtAt.put5 HZ5.out.pt ⟨za, zb, zc, zd, ze⟩)
                have d2 : depthAt wr (.pointer (some ⟨B, 0, none⟩)) = ye2.toNat := depth_is HP2.out
                have hz := HZ.out
                have hye := HYe.out
                simp only at d1 hye
                rw [d2]
                show goesOn _ (depthAt (put5 w5 W4.heap.size ⟨za, zb, zc, zd, ze⟩) _) < ye2.toNat
                rw [d1]
                by_cases hl3 : (t : Int) + 1 < xe - 1
                · rw [decide_eq_true hl3]
                  show ze.toNat < ye2.toNat
                  have hze : ze = xe - 1 - ((t + 1 : Nat) : Int) := by
                    have := congrArg Pt.e hz
                    unfold nextP at this
                    rw [if_pos (show ((t + 1 : Nat) : Int) < xe - 1 by omega)] at this
                    exact this.symm
                  omega
                · rw [decide_eq_false hl3]
                  show 0 < ye2.toNat
                  omega
          · obtain ⟨⟨B, m2, h2, rfl, hp, hBW, hBb, hB5, hm2, hmap⟩, rfl, h5, hbl⟩ := hD
            have hdec : decide ((t : Int) < xe - 1) = false := decide_eq_false hlt2
            have hxe : xe ≤ 4 := HDp.out.2
            have ht' : (t : Int) = xe - 1 := by omega
            have HM1 := Lib.hid (hmap.congr (h' := h2) (f' := fun p => (mxL (xs.take (k + 1)) p : Nat)) (fun _ _ => rfl) (fun p _ => by
              rw [HT.out p]
              unfold ancF
              rw [anc_all HR1.out ht' p]))
            have HB1 := Lib.hid hbl
            have hm4 : m2 ≤ 4 * (k + 1) := by omega
            simp only [hdec]
            clear hp hmap h5 hbl hdec
            go_wp2_with fail
            go_roundw
            case rel => exact ⟨k + 1, m2, h2, by omega, hm4, by go_num, HM1.out, HB1.out⟩
            case measure => simp [intOf]; omega
      · have hV : upV x.1 = .tuple #[Pt.v ⟨0, 0, 0, 0, 0⟩, .bool false] := by unfold upV; rw [if_neg hup]
        have hT2 : ∀ p, mxL (xs.take (k + 1)) p = mxL (xs.take k) p := fun p => by
          rw [HT.out p, anc_none hup]
          rfl
        simp only [hV] at hu
        have HU := Lib.hid hu
        have HT2 := Lib.hid hT2
        clear hu hV hT2 hup HT
        obtain ⟨⟨xa, xb, xc, xd, xe⟩, xm⟩ := x
        simp only at c0 c1 c2 c3 c4 c5 HBx HU
        go_wp2_with fail
        refine (HU.out _).mono ?_
        rintro e1 w1 ⟨rfl, hb1⟩
        have hx1 := Go.Proofs.Ythjlapcccmbhbaa.box_below w1 (.cells #[.int .i64 0, .int .i64 0, .int .i64 0, .int .i64 0, .int .i64 0] 25)
        have HB1 := Lib.hid (thenCall (thenCall (thenCall HB.out HBx.out) hb1) hx1)
        have HM1 := Lib.hid ((((HMap.out.grow HBx.out).grow hb1).grow hx1).congr (h' := h) (f' := fun p => (mxL (xs.take (k + 1)) p : Nat)) (fun p _ => rfl) (fun p _ => by rw [HT2.out]))
        clear hb1 c0 c1 c2 c3 c4 c5 HBx HMap hx1
        go_wp2_with fail
        refine wp_loop_rounds 1 ?_
        rw [rounds_succ]
        go_wp2_with fail
        go_roundw
        case rel => exact ⟨k + 1, m, h, by omega, by omega, by go_num, HM1.out, HB1.out⟩
        case measure => simp [intOf]; omega
    · obtain rfl : k = n := by omega
      have HTk : Hid (xs.take k = xs) := List.take_of_length_le (Nat.le_of_eq HN.out)
      go_wp2_with fail
      go_ret
      rw [HTk.out] at HMap
      exact ⟨h, W.heap.size, m, rfl, hmk, HMap.out, HB.out, Nat.le_refl _⟩
end
end Go.Proofs.Ythjlapcccmbhbaa.Lk
