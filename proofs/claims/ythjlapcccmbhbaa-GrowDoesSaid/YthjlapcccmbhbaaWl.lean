/- Which lock may come in the place of many: the program's answer. -/
import Derived.Test.YthjlapcccmbhbaaWk
namespace Go.Proofs.Ythjlapcccmbhbaa.Lk
open Go Go.RowKit Go.Shelf Go.Maps Pa
set_option maxRecDepth 100000

section
variable {W W' : World} {A : Option Addr} {c : Nat} {xs : List Hd}
theorem only_map {S : Nat → Prop} {b n : Nat} {h : Pt → Bool} {f : Pt → Int} (ho : OnlyS S W W') (hM : MapF W b n h f) (hn : ¬ S b) : MapF W' b n h f := hM.keep (ho.block _ hM.lt hn)
theorem doN_le (x : Nat) : doN x ≤ 6 := by
  unfold doN ofN
  repeat' split
  all_goals omega
/-- the cells of a node in its box -/
abbrev Cl (B : Nat) (x : Pt) (w : World) : Prop := w.cell? ⟨B, 0, none⟩ = some (.int .i64 x.a) ∧ w.cell? ⟨B, 1, none⟩ = some (.int .i64 x.b) ∧ w.cell? ⟨B, 2, none⟩ = some (.int .i64 x.c) ∧ w.cell? ⟨B, 3, none⟩ = some (.int .i64 x.d) ∧ w.cell? ⟨B, 4, none⟩ = some (.int .i64 x.e)
theorem pt_cl {w : World} {B : Nat} {x : Pt} (h : PtAt w B x) : Cl B x w := ⟨h.c0, h.c1, h.c2, h.c3, h.c4⟩
theorem PtAt.grown {w w' : World} {B : Nat} {x : Pt} {row : Option Nat} (h : PtAt w B x) (hg : w.grownBy w' row) (hne : row ≠ some B) : PtAt w' B x := by
  obtain ⟨c0, c1, c2, c3, c4, hl⟩ := h
  have e : w'.heap[B]? = w.heap[B]? := hg.block B hl (fun e => hne e.symm)
  exact ⟨(World.cell?_of_block (w := w) e).trans c0, (World.cell?_of_block (w := w) e).trans c1, (World.cell?_of_block (w := w) e).trans c2, (World.cell?_of_block (w := w) e).trans c3, (World.cell?_of_block (w := w) e).trans c4, Nat.lt_of_lt_of_le hl hg.size⟩
/-- the answer's box as it was made -/
def Zb (w : World) (B : Nat) : Prop := w.heap[B]? = some (.cells #[.int .i64 0, .int .i64 0, .int .i64 0, .int .i64 0, .int .i64 0, .int .i64 0] 27)
theorem Zb.at {w : World} {B : Nat} (h : Zb w B) : Pl6 w B 0 (⟨0, 0, 0, 0, 0⟩, 0) := by
  have h' : w.heap[B]? = _ := h
  refine ⟨?_, ?_, ?_, ?_, ?_, ?_, ?_, ?_, ?_, ?_, ?_, ?_, (Array.getElem?_eq_some_iff.1 h').1⟩ <;> simp [World.cell?, World.frozen?, h']
/-- a world ahead of an append -/
structure Pe (w4 : World) (b3 r n3 cnt : Nat) (D : DataW Unit) (left : Lit → Bool) (B : Nat) (x : Pt) (L : List Hd) (v : Value) (w : World) : Prop where
  cl : Cl B x w
  row : Row w w4.heap.size v L
  size : w4.heap.size ≤ w.heap.size
  next : ∀ wA, w.grownBy wA v.ownBlock → Cl B x wA ∧ wA.ranges Try.prog 25 (plainElem Try.prog 3) b3 r n3 D left cnt ∧ OnlyS (· = r) w4 wA
theorem pe_of {w4 w : World} {b3 r n3 cnt : Nat} {D : DataW Unit} {left : Lit → Bool} {B : Nat} {x : Pt} {L : List Hd} {v : Value} (hp : PtAt w B x) (hr : Row w w4.heap.size v L)
    (hg : w.ranges Try.prog 25 (plainElem Try.prog 3) b3 r n3 D left cnt) (ho : OnlyS (· = r) w4 w) (h1 : r < w4.heap.size) (h2 : b3 < w4.heap.size) (h3 : v.ownBlock ≠ some B) : Pe w4 b3 r n3 cnt D left B x L v w := by
  have hge : ∀ k, v.ownBlock = some k → w4.heap.size ≤ k := fun k e => (hr.lt k e).1
  refine ⟨pt_cl hp, hr, ho.size, fun wA hA => ⟨pt_cl (PtAt.grown hp hA h3), hg.kept hA (fun e => ?_) (fun e => ?_), ho.grown hA fun k e => .inr (hge k e)⟩⟩
  · have := hge b3 e.symm; omega
  · have := hge r e.symm; omega
/-- what is told -/
def Told (W : World) (xs : List Hd) (n : Int) (e : Ending) (w' : World) : Prop := ∃ x b, e = .returned (.tuple #[wv x, .bool b]) ∧ PickIs xs n x b ∧ Below W.heap.size W w'
theorem told_below {w : World} {B K : Nat} (x : Hd) (hK : K ≤ B) (hw : K ≤ w.heap.size) : Below K w ((((((w.setCell ⟨B, 0, none⟩ (.int .i64 x.1.a)).setCell ⟨B, 1, none⟩ (.int .i64 x.1.b)).setCell ⟨B, 2, none⟩ (.int .i64 x.1.c)).setCell ⟨B, 3, none⟩ (.int .i64 x.1.d)).setCell ⟨B, 4, none⟩ (.int .i64 x.1.e)).setCell ⟨B, 5, none⟩ (.int .i64 x.2)) :=
  OnlyS.below (S := (· = B)) ((((((OnlyS.set _ _ _ _).trans (OnlyS.set _ _ _ _)).trans (OnlyS.set _ _ _ _)).trans (OnlyS.set _ _ _ _)).trans (OnlyS.set _ _ _ _)).trans (OnlyS.set _ _ _ _)) (fun k e => by rw [e]; exact hK) hw
set_option maxHeartbeats 16000000 in
theorem pick_any (hr : Ls W A c xs) (hl : xs.length ≤ 30) (hf : ∀ x ∈ xs, FitP x.1 ∧ wf64 x.2) (n : Int) :
    Calls Try.prog 8 #[.slice A xs.length c, .int .i64 n] W (Told W xs n) := by
  have HR := Lib.hid hr
  have HF := Lib.hid hf
  have hx := Go.Proofs.Ythjlapcccmbhbaa.box_below W (.cells #[.int .i64 0, .int .i64 0, .int .i64 0, .int .i64 0, .int .i64 0, .int .i64 0] 27)
  have HX := Lib.hid hx
  clear hr hf hx
  by_cases h1 : n < 1
  · have HPk : Hid (PickIs xs n (⟨0, 0, 0, 0, 0⟩, 0) false) := .inl ⟨rfl, rfl, .inl h1⟩
    generalize xs.length = m at *
    go_enter Try.func8, Try.ntmps8
    go_wp2_with fail
    refine bodyPost_ret (v := .tuple #[wv (⟨0, 0, 0, 0, 0⟩, 0), .bool false]) (by simp [results, Try.results8, go_sem]) rfl ⟨_, _, rfl, HPk.out, ?_⟩
    exact HX.out
  · have H1 := Lib.hid h1
    have HFi := Lib.hid (fun (w : World) (hb : Below W.heap.size W w) => firsts_any (HR.out.below hb) (by omega) HF.out)
    have HDo := Lib.hid (fun (w : World) (hb : Below W.heap.size W w) => done_any (HR.out.below hb) (by omega))
    have HCo := Lib.hid (fun (w : World) (hb : Below W.heap.size W w) => counted_any (HR.out.below hb) (by omega))
    obtain ⟨m, hm⟩ : ∃ m, xs.length = m := ⟨_, rfl⟩
    rw [hm] at HFi HDo HCo hl ⊢
    have hn1 : decide (n < 1) = false := decide_eq_false h1
    clear h1 hm
    go_enter Try.func8, Try.ntmps8
    go_wp2_with fail
    refine (HFi.out _ HX.out).mono ?_
    rintro e1 w1 ⟨hf1, b1, n1, rfl, hn1', hM1, hb1, hs1⟩
    have HM1 := Lib.hid hM1
    have HB1 := Lib.hid (thenCall HX.out hb1)
    have HB1' := Lib.hid hb1
    have HS1 := Lib.hid hs1
    clear hb1 hs1 hM1
    go_wp2_with fail
    refine (HDo.out _ HB1.out).mono ?_
    rintro e2 w2 ⟨hf2, b2, n2, rfl, hn2', hM2, hb2, hs2⟩
    have HM2 := Lib.hid hM2
    have HB2 := Lib.hid hb2
    have HS2 := Lib.hid hs2
    clear hb2 hs2 hM2
    go_wp2_with fail
    refine (HCo.out _ (thenCall HB1.out HB2.out)).mono ?_
    rintro e3 w3 ⟨b3, n3, rfl, hn3', hM3, hb3, hs3⟩
    have hB3 := thenCall (thenCall HB1.out HB2.out) hb3
    replace hs3 : W.heap.size ≤ b3 := Nat.le_trans (thenCall HB1.out HB2.out).size hs3
    have hM1 := (HM1.out.below HB2.out).below hb3
    have hM2 := HM2.out.below hb3
    have hz3 : w3.heap[W.heap.size]? = some (.cells #[.int .i64 0, .int .i64 0, .int .i64 0, .int .i64 0, .int .i64 0, .int .i64 0] 27) := by
      exact ((thenCall (thenCall HB1'.out HB2.out) hb3).block W.heap.size (by simp)).trans (heap_alloc_new W _)
    obtain ⟨D, hown, hD⟩ := hM3
    have HB3 := Lib.hid hB3
    clear hb3 hB3 HR HF HFi HDo HCo
    go_wp2_with (first
      | (at_range; refine wpList_range_own _ rfl _ 44 rfl 25 3 law25 Try.underlying44 _ b3 n3 D rfl hown ?_; intro w4 hrg0 hg0 hs0)
      | go_in)
    go_frame
    have hsz := hown.size_le
    have HM14 := Lib.hid (hM1.keep (hg0.block b1 hM1.lt (by simp)))
    have HM24 := Lib.hid (hM2.keep (hg0.block b2 hM2.lt (by simp)))
    have HZ4 := Lib.hid ((hg0.block W.heap.size (Nat.lt_of_le_of_lt hs3 hown.lt) (by simp)).trans hz3)
    have HB4 : Hid (Below W.heap.size W w4) := ⟨hg0.os.trans HB3.out.os, hg0.tape.trans HB3.out.tape, hg0.output.trans HB3.out.output, Nat.le_trans HB3.out.size hg0.size, fun k hk => (hg0.block k (Nat.lt_of_lt_of_le hk HB3.out.size) (by simp)).trans (HB3.out.block k hk)⟩
    have HLt : Hid (b1 < w3.heap.size ∧ b2 < w3.heap.size ∧ W.heap.size < w3.heap.size ∧ b3 < w3.heap.size ∧ w4.heap.size = w3.heap.size + 1) := ⟨hM1.lt, hM2.lt, Nat.lt_of_le_of_lt hs3 hown.lt, hown.lt, hs0⟩
    have HDd := Lib.hid hD
    clear hM1 hM2 hz3 hg0 hs0 hs3 hown hD HM1 HM2 HB1 HB1' HB2 HB3 HS1 HS2 HX
    generalize w3.heap.size = r at *
    go_loopw [8] (fun v wr => ∃ (left : Lit → Bool) (cnt lm c0 : Nat) (L : List Hd) (SA : Option Addr), v = .slice SA lm c0 ∧ wr.ranges Try.prog 25 (plainElem Try.prog 3) b3 r n3 D left cnt ∧ OnlyS (· = r) w4 wr ∧
      Row wr w4.heap.size (.slice SA lm c0) L ∧ L.length = lm ∧ lm + cnt ≤ m ∧ Pk xs n left L) (fun _ wr => wr.rangeLeft b3 r)
    case atStart =>
      refine ⟨_, _, 0, 0, [], none, rfl, hrg0, OnlyS.refl _ _, World.ownsRow_nil _ _ _ _, rfl, by omega, fun p hp hh => ?_, by simp, fun p h1 h2 => .inl ?_⟩
      · rw [(HDd.out p hp).1] at hh
        simpa using hh
      · rw [(HDd.out p (fit_right (cnt_right h1))).1]
        simpa using h1
    case round =>
      obtain ⟨left, cnt, lm, c0, L, SA, rfl, hrg, ho, hrow, hLl, hlm, hpk⟩ := hrel
      clear hrg0
      go_wp2_with (first
        | (at_next; refine wpList_next_ranges _ rfl _ rfl 25 law25 (plainElem Try.prog 3) (fun p : Pt => p.v) (fun k : Int => .int .i64 k) (fun key kl hkey => by obtain ⟨p, hp, -⟩ := key_inv hkey; exact ⟨p, hp⟩) (fun v y hv => by obtain ⟨k, hk, -⟩ := plainElem_int_inv Try.underlying3 hv; exact ⟨k, hk⟩) b3 r n3 D left cnt rfl hrg ?_ ?_)
        | go_in)
      · intro _ hl0
        have hz : Zb wr W.heap.size := (ho.block _ (by have := HLt.out; omega) (by have := HLt.out; omega)).trans HZ4.out
        have HB := Lib.hid (HB4.out.trans (ho.below (B := W.heap.size) (fun k e => by rw [e]; have := HLt.out; omega) HB4.out.size))
        have HZ := Lib.hid hz
        clear hrg ho
        by_cases h0 : lm = 0
        · subst h0
          have hL : L = [] := List.length_eq_zero_iff.1 hLl
          have HPk : Hid (PickIs xs n (⟨0, 0, 0, 0, 0⟩, 0) false) := by
            rw [hL] at hpk
            exact hpk.empty hl0
          obtain ⟨p0, p1, p2, p3, p4, p5, f0, f1, f2, f3, f4, f5, hlt⟩ := hz.at
          clear hrow hLl hpk hz hL
          go_wp2_with fail
          refine bodyPost_ret (v := .tuple #[wv (⟨0, 0, 0, 0, 0⟩, 0), .bool false]) (by simp [results, Try.results8, go_sem, p0, p1, p2, p3, p4, p5]) rfl ⟨_, _, rfl, HPk.out, ?_⟩
          exact HB.out.trans (told_below (⟨0, 0, 0, 0, 0⟩, 0) (Nat.le_refl _) HB.out.size)
        · have hls := hrow.ls
          obtain ⟨A', c', e', hls⟩ := hls
          injection e' with g1 g2 g3
          subst g1 g3
          clear g2
          have HBa := Lib.hid (back_any hls (by omega) (fun x hx => cnt_right (hpk.each x hx).1))
          rw [hLl] at HBa
          have HPk := Lib.hid (fun ys (hb : Bk L ys) y (hy : ys[0]? = some y) => hpk.best hl0 hb (by have := H1.out; omega) hy)
          have HLl := Lib.hid hLl
          have hlm0 : ((lm : Int) == 0) = false := by simp; omega
          clear hrow hLl hpk hls hz
          go_wp2_with fail
          refine HBa.out.mono ?_
          rintro e6 w6 ⟨ys, hbk, A2, c2, rfl, hls2, hb2⟩
          have hy0 : 0 < ys.length := by
            have := hbk.stb.perm.length_eq
            have := HLl.out
            omega
          obtain ⟨a2, rfl, hh⟩ := hls2.here hy0
          obtain ⟨y, hy⟩ : ∃ y, ys[0] = y := ⟨_, rfl⟩
          rw [hy] at hh
          have HP := Lib.hid (HPk.out ys hbk y (by rw [List.getElem?_eq_getElem hy0, hy]))
          have HB6 := Lib.hid (thenCall HB.out hb2)
          have hz6 : Zb w6 W.heap.size := (hb2.block _ HZ.out.at.lt).trans HZ.out
          obtain ⟨p0, p1, p2, p3, p4, p5, f0, f1, f2, f3, f4, f5, hlt⟩ := hz6.at
          obtain ⟨ly, hly⟩ : ∃ l, ys.length = l := ⟨_, rfl⟩
          rw [hly] at hy0 ⊢
          obtain ⟨⟨ya, yb, yc, yd, ye⟩, ym⟩ := y
          obtain ⟨z0, z1, z2, z3, z4, z5⟩ := hh
          simp only [Nat.zero_mul, add_zero'] at z0 z1 z2 z3 z4 z5
          have zl : (0 : Int) < (ly : Int) := by omega
          clear hbk hls2 hb2 hy hly hz6
          go_wp2_with fail
          refine bodyPost_ret (v := .tuple #[wv (⟨ya, yb, yc, yd, ye⟩, ym), .bool true]) (by simp [results, Try.results8, go_sem, p0, p1, p2, p3, p4, p5]) rfl ⟨_, _, rfl, HP.out, ?_⟩
          exact HB6.out.trans (told_below (⟨ya, yb, yc, yd, ye⟩, ym) (Nat.le_refl _) HB6.out.size)
      · intro x k kl y y2 w5 cnt5 hkey hlx hv hat hrg1 hlt hg1 hs1 hen
        obtain ⟨p, hp, hfp, rfl⟩ := key_inv hkey
        obtain rfl : x = p := by
          obtain ⟨xa, xb, xc, xd, xe⟩ := x
          obtain ⟨pa, pb, pc, pd, pe⟩ := p
          simpa using hp
        obtain ⟨k', hk', hy, -⟩ := plainElem_int_inv Try.underlying3 hv
        replace hy := congrArg Prod.fst hy
        simp only at hy
        obtain rfl : k = k' := by injection hk'
        have hk : k = (cntL xs x : Nat) := by
          have e1 := hat (.lit (.int .i64 0))
          rw [(HDd.out x hfp).2, hy] at e1
          simpa using e1.symm
        subst hk
        have HSt := Lib.hid (hpk.step hfp hlx)
        have ho5 : OnlyS (· = r) w4 w5 := ho.grown hg1 (fun j e => by injection e with e; exact .inl e.symm)
        have hrow5 : Row w5 w4.heap.size (.slice SA lm c0) L := row_keep hrow (fun g hg => hg1.block g (hrow.lt g hg).2 (fun e => by injection e with e; have := (hrow.lt g hg).1; have := HLt.out; omega))
        have HO5 := Lib.hid ho5
        have HRow5 := Lib.hid hrow5
        have HRg := Lib.hid hrg1
        have HOld := Lib.hid hrg
        have hx5 := Go.Proofs.Ythjlapcccmbhbaa.box_below w5 (.cells #[.int .i64 x.a, .int .i64 x.b, .int .i64 x.c, .int .i64 x.d, .int .i64 x.e] 25)
        have hM1 := ((only_map HO5.out HM14.out (by have := HLt.out; omega)).grow hx5)
        have hM2 := ((only_map HO5.out HM24.out (by have := HLt.out; omega)).grow hx5)
        have hpt := PtAt.new w5 x.a x.b x.c x.d x.e
        obtain ⟨u, hu⟩ : ∃ u, ofL xs x = u := ⟨_, rfl⟩
        obtain ⟨mm, hmm⟩ : ∃ mm, mxL xs x = mm := ⟨_, rfl⟩
        obtain ⟨kk, hkk⟩ : ∃ kk, cntL xs x = kk := ⟨_, rfl⟩
        obtain ⟨rr, hrr⟩ : ∃ rr, reN (kn u) = rr := ⟨_, rfl⟩
        have hcb : candB xs n x = (decide (n ≤ (kk : Int)) && decide (rr < mm)) := by unfold candB; rw [hu, hmm, hkk, hrr]
        have hit : itemG xs x = (x, ((supN (kn u) (doN mm) : Nat) : Int)) := by unfold itemG; rw [hu, hmm]
        have hmm3 : mm ≤ 3 := by rw [← hmm]; exact mx_le _ _
        rw [hit] at HSt
        have HCb := Lib.hid hcb
        have HLx := Lib.hid (And.intro hu hmm)
        rw [hkk] at hen ⊢
        have HPt := Lib.hid hpt
        have HFp := Lib.hid hfp
        have HRr := Lib.hid hrr
        clear hp hkey hv hy hat hk' hu hmm hkk hrr hcb hit ho5 hrow5 hrg hrg1 hlx ho hrow hpk hg1 hs1
        obtain ⟨xa, xb, xc, xd, xe⟩ := x
        simp only at hx5 HPt hpt
        go_wp2_with fail
        obtain ⟨W1, hW1⟩ : ∃ W1, w5.alloc (.cells #[.int .i64 xa, .int .i64 xb, .int .i64 xc, .int .i64 xd, .int .i64 xe] 25) = W1 := ⟨_, rfl⟩
        unfold boxed at HPt hpt
        rw [hW1] at HPt hpt hx5
        simp only [hW1] at hM1 hM2
        rw [hW1]
        have hb1W : b1 < w5.heap.size := Nat.lt_of_lt_of_le (by have := HLt.out; omega) HO5.out.size
        have hlk1 : ∀ z : Later W1, (Instr.lookup 44 (.map (some b1)) (.agg #[.int .i64 xa, .int .i64 xb, .int .i64 xc, .int .i64 xd, .int .i64 xe]) false).run Try.prog z.w = .ok (.int .i64 u) z.w := fun z => by
          have h := (hM1.below z.h).look HFp.out
          rw [HLx.out.1] at h
          exact h
        have hlk2 : ∀ z : Later W1, (Instr.lookup 44 (.map (some b2)) (.agg #[.int .i64 xa, .int .i64 xb, .int .i64 xc, .int .i64 xd, .int .i64 xe]) false).run Try.prog z.w = .ok (.int .i64 (mm : Nat)) z.w := fun z => by
          have h := (hM2.below z.h).look HFp.out
          rw [HLx.out.2] at h
          exact h
        have gD : Pa.Gives W1 28 #[.int .i64 u] (.int .i64 (rr : Nat)) := wgives fun w _ => by have := gdoes_any u w; rwa [HRr.out] at this
        obtain ⟨p0, p1, p2, p3, p4, plt⟩ := hpt
        simp only at p0 p1 p2 p3 p4
        have HM1 := Lib.hid hM1
        have HM2 := Lib.hid hM2
        have HX5 := Lib.hid hx5
        clear hM1 hM2 hx5 hW1
        have HBk := Lib.hid (fun (w7 : World) (hb : Below w5.heap.size w5 w7) => (⟨HRg.out.kept (Pa.below_grown hb) (by simp) (by simp), HO5.out.trans (OnlyS.of_below hb), row_below HRow5.out hb⟩ : w7.ranges Try.prog 25 (plainElem Try.prog 3) b3 r n3 D (fun z => left z && !z.sameKey (klP ⟨xa, xb, xc, xd, xe⟩)) cnt5 ∧ OnlyS (· = r) w4 w7 ∧ Row w7 w4.heap.size (.slice SA lm c0) L))
        by_cases hc1 : n ≤ (kk : Int)
        · by_cases hc2 : rr < mm
          · have hc2' : (rr : Int) < (mm : Int) := by omega
            have hct : candB xs n ⟨xa, xb, xc, xd, xe⟩ = true := by rw [HCb.out, decide_eq_true hc1, decide_eq_true hc2]; rfl
            rw [hct] at HSt
            refine wp_region_later W1 (by kernel_rfl) (by kernel_rfl) (Below.refl _ _) ?_
            repeat (go_big_quiet_step ((go_at_call 28; exact Gives.later (by with_reducible assumption))))
            refine wpQuiet_nil ?_
            rintro w7 ⟨⟨_, hb7⟩, rfl⟩
            have hbd : Below W1.heap.size W1 w7.drew := hb7.trans ⟨rfl, rfl, rfl, Nat.le_refl _, fun _ _ => rfl⟩
            have hp7 := HPt.out.later hbd
            have hm17 := HM1.out.below hbd
            have hl1 := hm17.look HFp.out
            have hl2 := (HM2.out.below hbd).look HFp.out
            rw [HLx.out.1] at hl1
            rw [HLx.out.2] at hl2
            have HP7 := Lib.hid hp7
            have HM17 := Lib.hid hm17
            have hq : Cl w5.heap.size ⟨xa, xb, xc, xd, xe⟩ w7.drew := pt_cl hp7
            have HA := Lib.hid (fun (w8 : World) (hb : Below w7.drew.heap.size w7.drew w8) => (⟨pt_cl (HP7.out.later hb), by have h := (HM17.out.below hb).look HFp.out; rw [HLx.out.1] at h; exact h⟩ : Cl w5.heap.size ⟨xa, xb, xc, xd, xe⟩ w8 ∧ (Instr.lookup 44 (.map (some b1)) (Pt.v ⟨xa, xb, xc, xd, xe⟩) false).run Try.prog w8 = .ok (.int .i64 u) w8))
            have HD7 := Lib.hid (thenCall HX5.out hbd)
            have hkd : kn ((doN mm : Nat) : Int) = doN mm := kn_nat (doN_le mm)
            have HKd := Lib.hid hkd
            unfold Cl at hq HA
            simp only at hq HA
            have HE9 := Lib.hid (fun (w9 : World) (hb : Below w7.drew.heap.size w7.drew w9) (it : Hd) => (⟨pt_cl (HP7.out.later hb), by
              have hbx := thenCall hb (Go.Proofs.Ythjlapcccmbhbaa.box_below w9 (.cells #[.int .i64 it.1.a, .int .i64 it.1.b, .int .i64 it.1.c, .int .i64 it.1.d, .int .i64 it.1.e, .int .i64 it.2] 27))
              obtain ⟨k1, k2, k3⟩ := HBk.out _ (thenCall HD7.out hbx)
              exact pe_of (HP7.out.later hbx) k3 k1 k2 (by have := HLt.out; omega) (by have := HLt.out; omega) (fun e => by have := (HRow5.out.lt _ e).2; omega)⟩ : Cl w5.heap.size ⟨xa, xb, xc, xd, xe⟩ w9 ∧ Pe w4 b3 r n3 cnt5 D (fun z => left z && !z.sameKey (klP ⟨xa, xb, xc, xd, xe⟩)) w5.heap.size ⟨xa, xb, xc, xd, xe⟩ L (.slice SA lm c0) (w9.alloc (.cells #[.int .i64 it.1.a, .int .i64 it.1.b, .int .i64 it.1.c, .int .i64 it.1.d, .int .i64 it.1.e, .int .i64 it.2] 27))))
            have HLl := Lib.hid hLl
            clear gD hlk1 hlk2 p0 p1 p2 p3 p4 plt hb7 hbd hp7 hm17 hkd
            go_wp2_with fail
            go_region_held3 (fun w' => w'.cell? ⟨w5.heap.size, 0, none⟩ = some (.int .i64 xa) ∧ w'.cell? ⟨w5.heap.size, 1, none⟩ = some (.int .i64 xb) ∧ w'.cell? ⟨w5.heap.size, 2, none⟩ = some (.int .i64 xc) ∧ w'.cell? ⟨w5.heap.size, 3, none⟩ = some (.int .i64 xd) ∧ w'.cell? ⟨w5.heap.size, 4, none⟩ = some (.int .i64 xe)) (first | exact hq | exact hs8 | exact hs9.1 | exact hs9.2.cl | exact hsA.1)
              (first
                | (go_at_call 30; (with_reducible refine (doing_any mm hmm3 _).mono ?_); rintro e8 w8 ⟨rfl, hb8⟩; obtain ⟨hs8, hl8⟩ := HA.out w8 hb8)
                | (go_at_call 29; (with_reducible refine (sup_any u ((doN mm : Nat) : Int) _ _ (Below.refl _ _)).mono ?_); rintro e9 w9 ⟨rfl, hb9⟩; rw [HKd.out]; have hs9 := HE9.out w9 (thenCall hb8 hb9) (⟨xa, xb, xc, xd, xe⟩, ((supN (kn u) (doN mm) : Nat) : Int)))
                | (refine step_row (base := w4.heap.size) (A := some ⟨w9.heap.size, 0, none⟩) (A0 := SA) (c0 := c0) (c := 1) (n := 1) (m := lm) (q := lm + 1) (xs := L) (ys := [(⟨xa, xb, xc, xd, xe⟩, ((supN (kn u) (doN mm) : Nat) : Int))]) ?h1 (.tmp 39) (.tmp 50) ?h2 ?h3 ?h4 ?h5 ?h6 HLl.out rfl rfl ?h7 ?h8 ?_; rotate_right; (case h1 => rfl); (case h2 => rfl); (case h3 => kernel_rfl); (case h4 => kernel_rfl); (case h5 => exact hs9.2.row); (case h6 => exact box_ls w9 (⟨xa, xb, xc, xd, xe⟩, ((supN (kn u) (doN mm) : Nat) : Int))); (case h7 => omega); (case h8 => exact hs9.2.size); intro A9 c9 wA hrA hgA; have hsA := hs9.2.next wA hgA)
                | fail)
            all_goals
              have HF9 := Lib.hid (And.intro hsA.2 hrA)
              clear hrA hgA hs9 hsA
              go_wp2_with fail
              go_roundw
              case rel => exact ⟨_, cnt5, lm + 1, c9, _, A9, rfl, HF9.out.1.1, HF9.out.1.2, HF9.out.2, by rw [List.length_append, HLl.out]; rfl, by omega, HSt.out⟩
              case measure => rw [HF9.out.1.1.left_eq, HOld.out.left_eq]; exact hlt
          · have hc2' : ¬ (rr : Int) < (mm : Int) := by omega
            have hcf : candB xs n ⟨xa, xb, xc, xd, xe⟩ = false := by rw [HCb.out, decide_eq_false hc2, Bool.and_false]
            rw [hcf] at HSt
            refine wp_region_later W1 (by kernel_rfl) (by kernel_rfl) (Below.refl _ _) ?_
            repeat (go_big_quiet_step ((go_at_call 28; exact Gives.later (by with_reducible assumption))))
            refine wpQuiet_nil ?_
            rintro w7 ⟨⟨_, hb7⟩, rfl⟩
            have HB7 := Lib.hid (HBk.out w7 (thenCall HX5.out hb7))
            clear gD hlk1 hlk2 p0 p1 p2 p3 p4 plt hb7
            go_wp2_with fail
            go_roundw
            case rel => exact ⟨_, cnt5, lm, c0, L, SA, rfl, HB7.out.1, HB7.out.2.1, HB7.out.2.2, hLl, by omega, HSt.out⟩
            case measure => rw [HB7.out.1.left_eq, HOld.out.left_eq]; exact hlt
        · have hcf : candB xs n ⟨xa, xb, xc, xd, xe⟩ = false := by rw [HCb.out, decide_eq_false hc1]; rfl
          rw [hcf] at HSt
          refine wp_region_later W1 (by kernel_rfl) (by kernel_rfl) (Below.refl _ _) ?_
          repeat (go_big_quiet_step ((go_at_call 28; exact Gives.later (by with_reducible assumption))))
          refine wpQuiet_nil ?_
          rintro w7 ⟨⟨_, hb7⟩, rfl⟩
          have HB7 := Lib.hid (HBk.out w7 (thenCall HX5.out hb7))
          clear gD hlk1 hlk2 p0 p1 p2 p3 p4 plt hb7
          go_wp2_with fail
          go_roundw
          case rel => exact ⟨_, cnt5, lm, c0, L, SA, rfl, HB7.out.1, HB7.out.2.1, HB7.out.2.2, hLl, by omega, HSt.out⟩
          case measure => rw [HB7.out.1.left_eq, HOld.out.left_eq]; exact hlt
end
end Go.Proofs.Ythjlapcccmbhbaa.Lk
