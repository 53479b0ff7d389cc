/- How many kids each node has, in a map. -/
import Derived.Test.YthjlapcccmbhbaaWc
import Derived.Deep.RegionHeld3
namespace Go.Proofs.Ythjlapcccmbhbaa.Lk
open Go Go.RowKit Go.Shelf Pa
set_option maxRecDepth 100000

/-- how many kids a node has -/
def cntL (xs : List Hd) (p : Pt) : Nat := (fitL (fun x => kidB x p) xs).length
theorem cnt_snoc (xs : List Hd) (x : Hd) (p : Pt) : cntL (xs ++ [x]) p = cntL xs p + if kidB x.1 p then 1 else 0 := by
  unfold cntL
  rw [fit_snoc, List.length_append]
  split <;> simp
theorem cnt_len (xs : List Hd) (p : Pt) : cntL xs p ≤ xs.length := fit_len _ _
/-- a map in memory of its own -/
def Maps1 (W : World) (m : Nat) (h : Pt → Bool) (f : Pt → Int) (e : Ending) (w' : World) : Prop :=
  ∃ b n, e = .returned (.map (some b)) ∧ n ≤ m ∧ MapF w' b n h f ∧ Below W.heap.size W w' ∧ W.heap.size ≤ b
theorem MapF.grow {W W' : World} {b n : Nat} {h : Pt → Bool} {f : Pt → Int} (hM : MapF W b n h f) (hb : Below W.heap.size W W') : MapF W' b n h f := hM.below hb
theorem PtAt.but {W W' : World} {B b : Nat} {p : Pt} (h : PtAt W B p) (hg : W.grownBy W' (some b)) (hne : B ≠ b) : PtAt W' B p := by
  obtain ⟨c0, c1, c2, c3, c4, hl⟩ := h
  have e : W'.heap[B]? = W.heap[B]? := hg.block B hl (fun e => hne (by injection e))
  exact ⟨(World.cell?_of_block (w := W) e).trans c0, (World.cell?_of_block (w := W) e).trans c1, (World.cell?_of_block (w := W) e).trans c2, (World.cell?_of_block (w := W) e).trans c3, (World.cell?_of_block (w := W) e).trans c4, Nat.lt_of_lt_of_le hl hg.size⟩
theorem below_grew {W w1 w2 : World} {b K : Nat} (h : Below K W w1) (hg : w1.grownBy w2 (some b)) (hb : K ≤ b) (hK : K ≤ W.heap.size) : Below K W w2 :=
  ⟨hg.os.trans h.os, hg.tape.trans h.tape, hg.output.trans h.output, Nat.le_trans h.size hg.size, fun k hk => (hg.block k (Nat.lt_of_lt_of_le hk (Nat.le_trans hK h.size)) (fun e => by injection e with e; omega)).trans (h.block k hk)⟩
section
variable {W W' : World} {A : Option Addr} {c : Nat} {xs : List Hd}
set_option maxHeartbeats 4000000 in
theorem counted_any (hr : Ls W A c xs) (hl : xs.length ≤ 100) :
    Calls Try.prog 27 #[.slice A xs.length c] W (Maps1 W xs.length (fun p => decide (0 < cntL xs p)) (fun p => (cntL xs p : Nat))) := by
  have HR := Lib.hid hr
  obtain ⟨n, hn⟩ : ∃ n, xs.length = n := ⟨_, rfl⟩
  have HN := Lib.hid hn
  rw [hn] at hl ⊢
  clear hr hn
  have HM0 := Lib.hid (MapF.made W)
  have hx := Go.Proofs.Ythjlapcccmbhbaa.box_below W (.map #[] 0)
  have HX := Lib.hid hx
  clear hx
  go_enter Try.func27, Try.ntmps27
  go_wp2_with fail
  go_loopw [11] (fun i wr => ∃ k m : Nat, k ≤ n ∧ m ≤ k ∧ i = .int .i64 (k : Nat) ∧ MapF wr W.heap.size m (fun p => decide (0 < cntL (xs.take k) p)) (fun p => (cntL (xs.take k) p : Nat)) ∧ Below W.heap.size W wr) (fun i _ => n - (intOf i).toNat)
  case atStart => exact ⟨0, 0, by omega, by omega, rfl, HM0.out.congr (fun p _ => by simp [cntL, fitL]) (fun p _ => by simp [cntL, fitL]), HX.out⟩
  case round =>
    obtain ⟨k, m, hk, hmk, rfl, hmap, hb⟩ := hrel
    have HMap := Lib.hid hmap
    have HB := Lib.hid hb
    clear hmap hb
    by_cases hlt : k < n
    · have i1 : (0 : Int) ≤ (k : Int) := by omega
      have i2 : (k : Int) < (n : Int) := by omega
      have hkl : k < xs.length := by rw [HN.out]; exact hlt
      obtain ⟨a, rfl, hh⟩ := (HR.out.below HB.out).here hkl
      obtain ⟨x, hx⟩ : ∃ x, xs[k] = x := ⟨_, rfl⟩
      rw [hx] at hh
      have HT : Hid (∀ p, cntL (xs.take (k + 1)) p = cntL (xs.take k) p + if kidB x.1 p then 1 else 0) := fun p => by rw [List.take_succ_eq_append_getElem hkl, hx, cnt_snoc]
      clear hx
      obtain ⟨c0, c1, c2, c3, c4, c5⟩ := hh
      have HBx := Lib.hid (Go.Proofs.Ythjlapcccmbhbaa.box_below wr (.cells #[.int .i64 x.1.a, .int .i64 x.1.b, .int .i64 x.1.c, .int .i64 x.1.d, .int .i64 x.1.e, .int .i64 x.2] 27))
      by_cases hup : rightB x.1 = true ∧ x.1.e ≠ 1
      · have hu := fun w => up_any x.1 w
        have hV : upV x.1 = .tuple #[(cutP x.1 (x.1.e - 1)).v, .bool true] := by unfold upV; rw [if_pos hup]
        have hd := right_depth hup.1
        have hcr := cut_right (j := x.1.e - 1) hup.1 (by have := hup.2; omega) (by omega)
        have hT2 : ∀ p, cntL (xs.take (k + 1)) p = cntL (xs.take k) p + if eqP (cutP x.1 (x.1.e - 1)) p then 1 else 0 := fun p => by
          rw [HT.out p]
          have : kidB x.1 p = eqP (cutP x.1 (x.1.e - 1)) p := by
            unfold kidB
            rw [hup.1, show (x.1.e == 1) = false by simpa using hup.2]
            rfl
          rw [this]
        obtain ⟨y, hy⟩ : ∃ y, cutP x.1 (x.1.e - 1) = y := ⟨_, rfl⟩
        rw [hy] at hV hcr hT2
        have HT2 := Lib.hid hT2
        have HF := Lib.hid (fit_right hcr)
        simp only [hV] at hu
        have HU := Lib.hid hu
        have hcl := cnt_len (xs.take k) y
        rw [List.length_take] at hcl
        obtain ⟨cn, hcn⟩ : ∃ cn : Nat, cntL (xs.take k) y = cn := ⟨_, rfl⟩
        have HCn := Lib.hid hcn
        rw [hcn] at hcl
        clear hu hV hd hcr hT2 hy hup HT hcn
        obtain ⟨⟨xa, xb, xc, xd, xe⟩, xm⟩ := x
        obtain ⟨ya, yb, yc, yd, ye⟩ := y
        simp only at c0 c1 c2 c3 c4 c5 HBx HU
        go_wp2_with fail
        refine (HU.out _).mono ?_
        rintro e1 w1 ⟨rfl, hb1⟩
        have HB1 := Lib.hid (thenCall (thenCall HB.out HBx.out) hb1)
        have HM1 := Lib.hid ((HMap.out.grow HBx.out).grow hb1)
        have HP1 := Lib.hid (PtAt.new w1 ya yb yc yd ye)
        have HX1 := Lib.hid (Go.Proofs.Ythjlapcccmbhbaa.box_below w1 (.cells #[.int .i64 ya, .int .i64 yb, .int .i64 yc, .int .i64 yd, .int .i64 ye] 25))
        clear hb1 c0 c1 c2 c3 c4 c5 HBx HMap
        go_wp2_with fail
        have hne : w1.heap.size ≠ W.heap.size := Nat.ne_of_gt HM1.out.lt
        obtain ⟨w2, hw2⟩ : ∃ w2, w1.alloc (.cells #[.int .i64 ya, .int .i64 yb, .int .i64 yc, .int .i64 yd, .int .i64 ye] 25) = w2 := ⟨_, rfl⟩
        unfold boxed at HP1
        rw [hw2] at HP1 HX1
        rw [hw2]
        have hM2 : MapF w2.drew W.heap.size m (fun p => decide (0 < cntL (xs.take k) p)) (fun p => (cntL (xs.take k) p : Nat)) := (HM1.out.grow HX1.out).keep rfl
        have hp2 : PtAt w2.drew w1.heap.size ⟨ya, yb, yc, yd, ye⟩ := HP1.out.later ⟨rfl, rfl, rfl, Nat.le_refl _, fun _ _ => rfl⟩
        have hl0 := hM2.look HF.out
        have hwr := Lib.hid (show IntKind.i64.wrap ((cn : Int) + 1) = (cn : Int) + 1 by rw [IntKind.wrap_i64]; omega)
        obtain ⟨v0, st, W2, hE, hg2, hl2, W3, hS, hM3, hg3⟩ := hM2.bump HF.out (v := IntKind.i64.wrap ((cn : Int) + 1)) (by rw [hwr.out]; exact wf_small (by omega) (by omega)) (by omega)
        have hE' : (Instr.mapEntry 44 (.map (some W.heap.size)) (.agg #[.int .i64 ya, .int .i64 yb, .int .i64 yc, .int .i64 yd, .int .i64 ye])).run Try.prog w2.drew = .ok (.tuple #[v0, .int .i64 (st : Nat)]) W2 := hE
        have hS' : (Instr.entryStore 44 (.map (some W.heap.size)) (.int .i64 (st : Nat)) (.int .i64 (IntKind.i64.wrap ((cn : Int) + 1)))).run Try.prog W2 = .ok () W3 := hS
        have hp3 := PtAt.but hp2 hg2 hne
        have hp4 := PtAt.but hp2 hg3 hne
        rw [HCn.out] at hl0 hl2
        have e2 : eqP ⟨ya, yb, yc, yd, ye⟩ ⟨ya, yb, yc, yd, ye⟩ = true := eqP_self _
        have HE3 : Hid (MapF W3 W.heap.size (m + 1) (fun p => decide (0 < cntL (xs.take (k + 1)) p)) (fun p => (cntL (xs.take (k + 1)) p : Nat)) ∧ Below W.heap.size W W3) := by
          refine ⟨hM3.congr (fun p _ => ?_) (fun p _ => ?_), below_grew (b := W.heap.size) (w1 := w2.drew) ((thenCall HB1.out HX1.out).trans ⟨rfl, rfl, rfl, Nat.le_refl _, fun _ _ => rfl⟩) hg3 (Nat.le_refl _) (Nat.le_refl _)⟩
          · show _ = decide _
            rw [HT2.out p]
            by_cases e : eqP ⟨ya, yb, yc, yd, ye⟩ p = true
            · simp [e]
            · have e' : eqP ⟨ya, yb, yc, yd, ye⟩ p = false := by simpa using e
              simp [e']
          · show _ = ((_ : Nat) : Int)
            rw [HT2.out p]
            by_cases e : eqP ⟨ya, yb, yc, yd, ye⟩ p = true
            · have := (eqP_iff _ _).1 e
              rw [if_pos e, if_pos e, ← this, HCn.out, hwr.out]
              omega
            · rw [if_neg e, if_neg e]
              omega
        obtain ⟨q0, q1, q2, q3, q4, -⟩ := hp2
        obtain ⟨s0, s1, s2, s3, s4, -⟩ := hp3
        obtain ⟨t0, t1, t2, t3, t4, -⟩ := hp4
        simp only at q0 q1 q2 q3 q4 s0 s1 s2 s3 s4 t0 t1 t2 t3 t4
        clear hM2 hg2 hM3 hg3 hw2 e2 hE hS
        go_region_held3 (fun w' => w'.cell? ⟨w1.heap.size, 0, none⟩ = some (.int .i64 ya) ∧ w'.cell? ⟨w1.heap.size, 1, none⟩ = some (.int .i64 yb) ∧ w'.cell? ⟨w1.heap.size, 2, none⟩ = some (.int .i64 yc) ∧ w'.cell? ⟨w1.heap.size, 3, none⟩ = some (.int .i64 yd) ∧ w'.cell? ⟨w1.heap.size, 4, none⟩ = some (.int .i64 ye)) (first | exact ⟨q0, q1, q2, q3, q4⟩ | exact ⟨s0, s1, s2, s3, s4⟩ | exact ⟨t0, t1, t2, t3, t4⟩) (first | fail)
        all_goals
          go_wp2_with fail
          go_roundw
          case rel => exact ⟨k + 1, m + 1, by omega, by omega, by go_num, HE3.out.1, HE3.out.2⟩
          case measure => simp [intOf]; omega
      · have hu := fun w => up_any x.1 w
        have hV : upV x.1 = .tuple #[Pt.v ⟨0, 0, 0, 0, 0⟩, .bool false] := by unfold upV; rw [if_neg hup]
        have hT2 : ∀ p, cntL (xs.take (k + 1)) p = cntL (xs.take k) p := fun p => by
          rw [HT.out p]
          have : kidB x.1 p = false := by
            cases h : kidB x.1 p
            · rfl
            · exfalso
              refine hup ⟨kid_right h, fun e => ?_⟩
              unfold kidB at h
              rw [e] at h
              simp at h
          rw [this]
          simp
        simp only [hV] at hu
        have HU := Lib.hid hu
        have HT2 := Lib.hid hT2
        clear hu hV hT2 hup HT
        obtain ⟨⟨xa, xb, xc, xd, xe⟩, xm⟩ := x
        simp only at c0 c1 c2 c3 c4 c5 HBx HU
        go_wp2_with fail
        refine (HU.out _).mono ?_
        rintro e1 w1 ⟨rfl, hb1⟩
        have hx1 := Go.Proofs.Ythjlapcccmbhbaa.box_below w1 (.cells #[.int .i64 0, .int .i64 0, .int .i64 0, .int .i64 0, .int .i64 0] 25)
        have HB1 := Lib.hid (thenCall (thenCall (thenCall HB.out HBx.out) hb1) hx1)
        have HM1 := Lib.hid ((((HMap.out.grow HBx.out).grow hb1).grow hx1).congr (h' := fun p => decide (0 < cntL (xs.take (k + 1)) p)) (f' := fun p => (cntL (xs.take (k + 1)) p : Nat)) (fun p _ => by rw [HT2.out]) (fun p _ => by rw [HT2.out]))
        clear hb1 c0 c1 c2 c3 c4 c5 HBx HMap hx1
        go_wp2_with fail
        go_roundw
        case rel => exact ⟨k + 1, m, by omega, by omega, by go_num, HM1.out, HB1.out⟩
        case measure => simp [intOf]; omega
    · obtain rfl : k = n := by omega
      have HTk : Hid (xs.take k = xs) := List.take_of_length_le (Nat.le_of_eq HN.out)
      go_wp2_with fail
      go_ret
      rw [HTk.out] at HMap
      exact ⟨W.heap.size, m, rfl, hmk, HMap.out, HB.out, Nat.le_refl _⟩
end
end Go.Proofs.Ythjlapcccmbhbaa.Lk
