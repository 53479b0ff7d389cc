import Derived.Test.YtlhhopanegnliaaGreatDoorZNWa
import Derived.Deep.RegionHeld3
import Derived.StillTailTactics
import Derived.Test.YtlhhopanegnliaaGreatDoorRows
import Derived.Test.YtlhhopanegnliaaGreatDoorR1
import Derived.Test.YtlhhopanegnliaaGreatDoorZRg
import Derived.OwnWalkIn
import Derived.TacticsInMore
import Derived.LoopNIn
import Derived.LoopIn
import Derived.Shelf.RegionOpen
import Derived.OwnWalk
import Derived.Maps.OwnIn
namespace Go.Proofs.YtlhhopanegnliaaGreatDoor.Lk
open Go Go.RowKit Go.Shelf Pa
set_option maxRecDepth 100000
def cntL (xs : List Hd) (p : Pt) : Nat := (fitL (fun x => kidB x p) xs).length
theorem cnt_snoc (xs : List Hd) (x : Hd) (p : Pt) : cntL (xs ++ [x]) p = cntL xs p + if kidB x.1 p then 1 else 0 := by
  unfold cntL
  rw [fit_snoc, List.length_append]
  split <;> simp
theorem cnt_len (xs : List Hd) (p : Pt) : cntL xs p ≤ xs.length := fit_len _ _
def Maps1 (W : World) (m : Nat) (h : Pt → Bool) (f : Pt → Int) (e : Ending) (w' : World) : Prop :=
  ∃ b n, e = .returned (.map (some b)) ∧ n ≤ m ∧ MapF w' b n h f ∧ Below W.heap.size W w' ∧ W.heap.size ≤ b
theorem MapF.grow {W W' : World} {b n : Nat} {h : Pt → Bool} {f : Pt → Int} (hM : MapF W b n h f) (hb : Below W.heap.size W W') : MapF W' b n h f := hM.below hb
theorem PtAt.but {W W' : World} {B b : Nat} {p : Pt} (h : PtAt W B p) (hg : W.grownBy W' (some b)) (hne : B ≠ b) : PtAt W' B p := by
  obtain ⟨c0, c1, c2, c3, c4, hl⟩ := h
  have e : W'.heap[B]? = W.heap[B]? := hg.block B hl (fun e => hne (by injection e))
  exact ⟨(World.cell?_of_block (w := W) e).trans c0, (World.cell?_of_block (w := W) e).trans c1, (World.cell?_of_block (w := W) e).trans c2, (World.cell?_of_block (w := W) e).trans c3, (World.cell?_of_block (w := W) e).trans c4, Nat.lt_of_lt_of_le hl hg.size⟩
theorem below_grew {W w1 w2 : World} {b K : Nat} (h : Below K W w1) (hg : w1.grownBy w2 (some b)) (hb : K ≤ b) (hK : K ≤ W.heap.size) : Below K W w2 :=
  ⟨hg.os.trans h.os, hg.tape.trans h.tape, hg.output.trans h.output, Nat.le_trans h.size hg.size, fun k hk => (hg.block k (Nat.lt_of_lt_of_le hk (Nat.le_trans hK h.size)) (fun e => by injection e with e; omega)).trans (h.block k hk)⟩
section
variable {W W' : World} {A : Option Addr} {c : Nat} {xs : List Hd}
set_option maxHeartbeats 4000000 in
theorem counted_any (hr : Ls W A c xs) (hl : xs.length ≤ 400) :
    Calls Tryz.prog 99 #[.slice A xs.length c] W (Maps1 W xs.length (fun p => decide (0 < cntL xs p)) (fun p => (cntL xs p : Nat))) := by
  have HR := Lib.hid hr
  obtain ⟨n, hn⟩ : ∃ n, xs.length = n := ⟨_, rfl⟩
  have HN := Lib.hid hn
  rw [hn] at hl ⊢
  clear hr hn
  have HM0 := Lib.hid (MapF.made W)
  have hx := Go.Proofs.YtlhhopanegnliaaGreatDoor.box_below W (.map #[] 0)
  have HX := Lib.hid hx
  clear hx
  go_enter Tryz.func99, Tryz.ntmps99
  go_wp2_with fail
  go_loopw [11] (fun i wr => ∃ k m : Nat, k ≤ n ∧ m ≤ k ∧ i = .int .i64 (k : Nat) ∧ MapF wr W.heap.size m (fun p => decide (0 < cntL (xs.take k) p)) (fun p => (cntL (xs.take k) p : Nat)) ∧ Below W.heap.size W wr) (fun i _ => n - (intOf i).toNat)
  case atStart => exact ⟨0, 0, by omega, by omega, rfl, HM0.out.congr (fun p _ => by simp [cntL, fitL]) (fun p _ => by simp [cntL, fitL]), HX.out⟩
  case round =>
    obtain ⟨k, m, hk, hmk, rfl, hmap, hb⟩ := hrel
    have HMap := Lib.hid hmap
    have HB := Lib.hid hb
    clear hmap hb
    by_cases hlt : k < n
    · have i1 : (0 : Int) ≤ (k : Int) := by omega
      have i2 : (k : Int) < (n : Int) := by omega
      have hkl : k < xs.length := by rw [HN.out]; exact hlt
      obtain ⟨a, rfl, hh⟩ := (HR.out.below HB.out).here hkl
      obtain ⟨x, hx⟩ : ∃ x, xs[k] = x := ⟨_, rfl⟩
      rw [hx] at hh
      have HT : Hid (∀ p, cntL (xs.take (k + 1)) p = cntL (xs.take k) p + if kidB x.1 p then 1 else 0) := fun p => by rw [List.take_succ_eq_append_getElem hkl, hx, cnt_snoc]
      clear hx
      obtain ⟨c0, c1, c2, c3, c4, c5⟩ := hh
      have HBx := Lib.hid (Go.Proofs.YtlhhopanegnliaaGreatDoor.box_below wr (.cells #[.int .i64 x.1.a, .int .i64 x.1.b, .int .i64 x.1.c, .int .i64 x.1.d, .int .i64 x.1.e, .int .i64 x.2] 39))
      by_cases hup : rightB x.1 = true ∧ x.1.e ≠ 1
      · have hu := fun w => up_any x.1 w
        have hV : upV x.1 = .tuple #[(cutP x.1 (x.1.e - 1)).v, .bool true] := by unfold upV; rw [if_pos hup]
        have hd := right_depth hup.1
        have hcr := cut_right (j := x.1.e - 1) hup.1 (by have := hup.2; omega) (by omega)
        have hT2 : ∀ p, cntL (xs.take (k + 1)) p = cntL (xs.take k) p + if eqP (cutP x.1 (x.1.e - 1)) p then 1 else 0 := fun p => by
          rw [HT.out p]
          have : kidB x.1 p = eqP (cutP x.1 (x.1.e - 1)) p := by
            unfold kidB
            rw [hup.1, show (x.1.e == 1) = false by simpa using hup.2]
            rfl
          rw [this]
        obtain ⟨y, hy⟩ : ∃ y, cutP x.1 (x.1.e - 1) = y := ⟨_, rfl⟩
        rw [hy] at hV hcr hT2
        have HT2 := Lib.hid hT2
        have HF := Lib.hid (fit_right hcr)
        simp only [hV] at hu
        have HU := Lib.hid hu
        have hcl := cnt_len (xs.take k) y
        rw [List.length_take] at hcl
        obtain ⟨cn, hcn⟩ : ∃ cn : Nat, cntL (xs.take k) y = cn := ⟨_, rfl⟩
        have HCn := Lib.hid hcn
        rw [hcn] at hcl
        clear hu hV hd hcr hT2 hy hup HT hcn
        obtain ⟨⟨xa, xb, xc, xd, xe⟩, xm⟩ := x
        obtain ⟨ya, yb, yc, yd, ye⟩ := y
        simp only at c0 c1 c2 c3 c4 c5 HBx HU
        go_wp2_with fail
        refine (HU.out _).mono ?_
        rintro e1 w1 ⟨rfl, hb1⟩
        have HB1 := Lib.hid (thenCall (thenCall HB.out HBx.out) hb1)
        have HM1 := Lib.hid ((HMap.out.grow HBx.out).grow hb1)
        have HP1 := Lib.hid (PtAt.new w1 ya yb yc yd ye)
        have HX1 := Lib.hid (Go.Proofs.YtlhhopanegnliaaGreatDoor.box_below w1 (.cells #[.int .i64 ya, .int .i64 yb, .int .i64 yc, .int .i64 yd, .int .i64 ye] 30))
        clear hb1 c0 c1 c2 c3 c4 c5 HBx HMap
        go_wp2_with fail
        have hne : w1.heap.size ≠ W.heap.size := Nat.ne_of_gt HM1.out.lt
        obtain ⟨w2, hw2⟩ : ∃ w2, w1.alloc (.cells #[.int .i64 ya, .int .i64 yb, .int .i64 yc, .int .i64 yd, .int .i64 ye] 30) = w2 := ⟨_, rfl⟩
        unfold boxed at HP1
        rw [hw2] at HP1 HX1
        rw [hw2]
        have hM2 : MapF w2.drew W.heap.size m (fun p => decide (0 < cntL (xs.take k) p)) (fun p => (cntL (xs.take k) p : Nat)) := (HM1.out.grow HX1.out).keep rfl
        have hp2 : PtAt w2.drew w1.heap.size ⟨ya, yb, yc, yd, ye⟩ := HP1.out.later ⟨rfl, rfl, rfl, Nat.le_refl _, fun _ _ => rfl⟩
        have hl0 := hM2.look HF.out
        have hwr := Lib.hid (show IntKind.i64.wrap ((cn : Int) + 1) = (cn : Int) + 1 by rw [IntKind.wrap_i64]; omega)
        obtain ⟨v0, st, W2, hE, hg2, hl2, W3, hS, hM3, hg3⟩ := hM2.bump HF.out (v := IntKind.i64.wrap ((cn : Int) + 1)) (by rw [hwr.out]; exact wf_small (by omega) (by omega)) (by omega)
        have hE' : (Instr.mapEntry 126 (.map (some W.heap.size)) (.agg #[.int .i64 ya, .int .i64 yb, .int .i64 yc, .int .i64 yd, .int .i64 ye])).run Tryz.prog w2.drew = .ok (.tuple #[v0, .int .i64 (st : Nat)]) W2 := hE
        have hS' : (Instr.entryStore 126 (.map (some W.heap.size)) (.int .i64 (st : Nat)) (.int .i64 (IntKind.i64.wrap ((cn : Int) + 1)))).run Tryz.prog W2 = .ok () W3 := hS
        have hp3 := PtAt.but hp2 hg2 hne
        have hp4 := PtAt.but hp2 hg3 hne
        rw [HCn.out] at hl0 hl2
        have e2 : eqP ⟨ya, yb, yc, yd, ye⟩ ⟨ya, yb, yc, yd, ye⟩ = true := eqP_self _
        have HE3 : Hid (MapF W3 W.heap.size (m + 1) (fun p => decide (0 < cntL (xs.take (k + 1)) p)) (fun p => (cntL (xs.take (k + 1)) p : Nat)) ∧ Below W.heap.size W W3) := by
          refine ⟨hM3.congr (fun p _ => ?_) (fun p _ => ?_), below_grew (b := W.heap.size) (w1 := w2.drew) ((thenCall HB1.out HX1.out).trans ⟨rfl, rfl, rfl, Nat.le_refl _, fun _ _ => rfl⟩) hg3 (Nat.le_refl _) (Nat.le_refl _)⟩
          · show _ = decide _
            rw [HT2.out p]
            by_cases e : eqP ⟨ya, yb, yc, yd, ye⟩ p = true
            · simp [e]
            · have e' : eqP ⟨ya, yb, yc, yd, ye⟩ p = false := by simpa using e
              simp [e']
          · show _ = ((_ : Nat) : Int)
            rw [HT2.out p]
            by_cases e : eqP ⟨ya, yb, yc, yd, ye⟩ p = true
            · have := (eqP_iff _ _).1 e
              rw [if_pos e, if_pos e, ← this, HCn.out, hwr.out]
              omega
            · rw [if_neg e, if_neg e]
              omega
        obtain ⟨q0, q1, q2, q3, q4, -⟩ := hp2
        obtain ⟨s0, s1, s2, s3, s4, -⟩ := hp3
        obtain ⟨t0, t1, t2, t3, t4, -⟩ := hp4
        simp only at q0 q1 q2 q3 q4 s0 s1 s2 s3 s4 t0 t1 t2 t3 t4
        clear hM2 hg2 hM3 hg3 hw2 e2 hE hS
        go_region_held3 (fun w' => w'.cell? ⟨w1.heap.size, 0, none⟩ = some (.int .i64 ya) ∧ w'.cell? ⟨w1.heap.size, 1, none⟩ = some (.int .i64 yb) ∧ w'.cell? ⟨w1.heap.size, 2, none⟩ = some (.int .i64 yc) ∧ w'.cell? ⟨w1.heap.size, 3, none⟩ = some (.int .i64 yd) ∧ w'.cell? ⟨w1.heap.size, 4, none⟩ = some (.int .i64 ye)) (first | exact ⟨q0, q1, q2, q3, q4⟩ | exact ⟨s0, s1, s2, s3, s4⟩ | exact ⟨t0, t1, t2, t3, t4⟩) (first | fail)
        all_goals
          go_wp2_with fail
          go_roundw
          case rel => exact ⟨k + 1, m + 1, by omega, by omega, by go_num, HE3.out.1, HE3.out.2⟩
          case measure => simp [intOf]; omega
      · have hu := fun w => up_any x.1 w
        have hV : upV x.1 = .tuple #[Pt.v ⟨0, 0, 0, 0, 0⟩, .bool false] := by unfold upV; rw [if_neg hup]
        have hT2 : ∀ p, cntL (xs.take (k + 1)) p = cntL (xs.take k) p := fun p => by
          rw [HT.out p]
          have : kidB x.1 p = false := by
            cases h : kidB x.1 p
            · rfl
            · exfalso
              refine hup ⟨kid_right h, fun e => ?_⟩
              unfold kidB at h
              rw [e] at h
              simp at h
          rw [this]
          simp
        simp only [hV] at hu
        have HU := Lib.hid hu
        have HT2 := Lib.hid hT2
        clear hu hV hT2 hup HT
        obtain ⟨⟨xa, xb, xc, xd, xe⟩, xm⟩ := x
        simp only at c0 c1 c2 c3 c4 c5 HBx HU
        go_wp2_with fail
        refine (HU.out _).mono ?_
        rintro e1 w1 ⟨rfl, hb1⟩
        have hx1 := Go.Proofs.YtlhhopanegnliaaGreatDoor.box_below w1 (.cells #[.int .i64 0, .int .i64 0, .int .i64 0, .int .i64 0, .int .i64 0] 30)
        have HB1 := Lib.hid (thenCall (thenCall (thenCall HB.out HBx.out) hb1) hx1)
        have HM1 := Lib.hid ((((HMap.out.grow HBx.out).grow hb1).grow hx1).congr (h' := fun p => decide (0 < cntL (xs.take (k + 1)) p)) (f' := fun p => (cntL (xs.take (k + 1)) p : Nat)) (fun p _ => by rw [HT2.out]) (fun p _ => by rw [HT2.out]))
        clear hb1 c0 c1 c2 c3 c4 c5 HBx HMap hx1
        go_wp2_with fail
        go_roundw
        case rel => exact ⟨k + 1, m, by omega, by omega, by go_num, HM1.out, HB1.out⟩
        case measure => simp [intOf]; omega
    · obtain rfl : k = n := by omega
      have HTk : Hid (xs.take k = xs) := List.take_of_length_le (Nat.le_of_eq HN.out)
      go_wp2_with fail
      go_ret
      rw [HTk.out] at HMap
      exact ⟨W.heap.size, m, rfl, hmk, HMap.out, HB.out, Nat.le_refl _⟩
end
end Go.Proofs.YtlhhopanegnliaaGreatDoor.Lk
namespace Go.Proofs.YtlhhopanegnliaaGreatDoor.Lk
open Go Go.RowKit Go.Shelf Pa
set_option maxRecDepth 100000
def topL (xs : List Hd) : Nat := xs.foldl (fun m x => max m (reN (kn x.2))) 0
theorem top_snoc (xs : List Hd) (x : Hd) : topL (xs ++ [x]) = max (topL xs) (reN (kn x.2)) := by unfold topL; rw [List.foldl_append]; rfl
def mxL (xs : List Hd) (p : Pt) : Nat := topL (fitL (fun x => belB x p) xs)
theorem mx_snoc (xs : List Hd) (x : Hd) (p : Pt) : mxL (xs ++ [x]) p = if belB x.1 p then max (mxL xs p) (reN (kn x.2)) else mxL xs p := by
  unfold mxL
  rw [fit_snoc]
  split
  · rw [top_snoc]
  · rw [List.append_nil]
theorem top_le (xs : List Hd) : topL xs ≤ 3 := by
  have : ∀ (xs : List Hd) (m : Nat), m ≤ 3 → xs.foldl (fun m x => max m (reN (kn x.2))) m ≤ 3 := by
    intro xs
    induction xs with
    | nil => intro m h; exact h
    | cons x xs ih =>
      intro m h
      have := reN_le (kn x.2)
      exact ih _ (Nat.max_le.2 ⟨h, this⟩)
  exact this xs 0 (by omega)
theorem mx_le (xs : List Hd) (p : Pt) : mxL xs p ≤ 3 := top_le _
def ancB (q : Pt) : Nat → Pt → Bool
  | 0, _ => false
  | t + 1, p => eqP (cutP q (q.e - 1 - t)) p || ancB q t p
theorem anc_iff (q p : Pt) : ∀ t, ancB q t p = true ↔ ∃ j : Nat, j < t ∧ cutP q (q.e - 1 - j) = p
  | 0 => by simp [ancB]
  | t + 1 => by
    unfold ancB
    rw [Bool.or_eq_true, anc_iff q p t, eqP_iff]
    constructor
    · rintro (h | ⟨j, hj, h⟩)
      · exact ⟨t, by omega, h⟩
      · exact ⟨j, by omega, h⟩
    · rintro ⟨j, hj, h⟩
      by_cases e : j = t
      · subst e; exact .inl h
      · exact .inr ⟨j, by omega, h⟩
theorem anc_all {q : Pt} (hq : rightB q = true) {t : Nat} (ht : (t : Int) = q.e - 1) (p : Pt) : ancB q t p = belB q p := by
  have hd := right_depth hq
  rw [Bool.eq_iff_iff, anc_iff]
  unfold belB wiB
  simp only [Bool.and_eq_true, Bool.not_eq_true', decide_eq_true_eq]
  constructor
  · rintro ⟨j, hj, rfl⟩
    have hr := cut_right (j := q.e - 1 - j) hq (by omega) (by omega)
    refine ⟨?_, ⟨⟨hq, hr⟩, ?_⟩, ?_⟩
    · apply eqP_ne
      intro e
      have := congrArg Pt.e e
      simp only [cutP] at this
      omega
    · show q.e - 1 - j ≤ q.e
      omega
    · exact eqP_self _
  · rintro ⟨h1, ⟨⟨-, hr⟩, hle⟩, h2⟩
    have h3 := (eqP_iff _ _).1 h2
    have hd2 := right_depth hr
    have hne : p.e ≠ q.e := by
      intro e
      rw [e, cut_self hq] at h3
      rw [h3, eqP_self] at h1
      cases h1
    refine ⟨(q.e - 1 - p.e).toNat, by omega, ?_⟩
    rw [show q.e - 1 - ((q.e - 1 - p.e).toNat : Int) = p.e by omega]
    exact h3
theorem anc_none {q : Pt} (hq : ¬ (rightB q = true ∧ q.e ≠ 1)) (p : Pt) : belB q p = false := by
  cases h : belB q p
  · rfl
  · exfalso
    have hr := bel_right h
    have he : q.e = 1 := by
      by_cases e : q.e = 1
      · exact e
      · exact absurd ⟨hr, e⟩ hq
    rw [← anc_all hr (t := 0) (by omega)] at h
    cases h
def depthAt (w : World) (p : Value) : Nat :=
  match p with
  | .pointer (some a) => match w.cell? ⟨a.block, 4, none⟩ with
    | some (.int _ n) => n.toNat
    | _ => 0
  | _ => 0
def goesOn (i : Value) (k : Nat) : Nat := match i with
  | .bool true => k
  | _ => 0
theorem depth_is {w : World} {B : Nat} {p : Pt} (h : PtAt w B p) : depthAt w (.pointer (some ⟨B, 0, none⟩)) = p.e.toNat := by
  unfold depthAt
  simp only
  rw [h.c4]
def ancF (xs : List Hd) (x : Hd) (t : Nat) (p : Pt) : Nat := if ancB x.1 t p then max (mxL xs p) (reN (kn x.2)) else mxL xs p
def nextP (q : Pt) (t : Nat) : Pt := if (t : Int) < q.e - 1 then cutP q (q.e - 1 - t) else ⟨0, 0, 0, 0, 0⟩
theorem next_up {q : Pt} (hq : rightB q = true) (t : Nat) (ht : (t : Int) < q.e - 1) : upV (cutP q (q.e - 1 - t)) = .tuple #[(nextP q (t + 1)).v, .bool (decide (((t + 1 : Nat) : Int) < q.e - 1))] := by
  have hd := right_depth hq
  have hr := cut_right (j := q.e - 1 - t) hq (by omega) (by omega)
  unfold upV nextP
  have he : (cutP q (q.e - 1 - t)).e = q.e - 1 - t := rfl
  rw [he]
  by_cases h : q.e - 1 - (t : Int) = 1
  · rw [if_neg (fun k => k.2 h), if_neg (by omega), decide_eq_false (by omega)]
  · rw [if_pos ⟨hr, h⟩, if_pos (by omega), decide_eq_true (by omega), cut_cut q (by omega)]
    rw [show q.e - 1 - ((t + 1 : Nat) : Int) = q.e - 1 - t - 1 by omega]
end Go.Proofs.YtlhhopanegnliaaGreatDoor.Lk
namespace Go.Proofs.YtlhhopanegnliaaGreatDoor.Lk
open Go Go.RowKit Go.Shelf Pa
set_option maxRecDepth 100000

section
variable {W W' : World} {A : Option Addr} {c : Nat} {xs : List Hd}
structure Dn (W : World) (xs : List Hd) (x : Hd) (b B5 k t : Nat) (p i : Value) (wr : World) : Prop where
  ex : ∃ (B m : Nat) (h : Pt → Bool), p = .pointer (some ⟨B, 0, none⟩) ∧ PtAt wr B (nextP x.1 t) ∧ W.heap.size ≤ B ∧ B ≠ b ∧ B ≠ B5 ∧ m ≤ 4 * k + t ∧ MapF wr b m h (fun q => (ancF xs x t q : Nat))
  is : i = .bool (decide ((t : Int) < x.1.e - 1))
  at5 : LkAt wr B5 x
  below : Below W.heap.size W wr
theorem LkAt.but {W W' : World} {B b : Nat} {x : Hd} (h : LkAt W B x) (hg : W.grownBy W' (some b)) (hne : B ≠ b) : LkAt W' B x := by
  obtain ⟨c0, c1, c2, c3, c4, c5, hl⟩ := h
  have e : W'.heap[B]? = W.heap[B]? := hg.block B hl (fun e => hne (by injection e))
  exact ⟨(World.cell?_of_block (w := W) e).trans c0, (World.cell?_of_block (w := W) e).trans c1, (World.cell?_of_block (w := W) e).trans c2, (World.cell?_of_block (w := W) e).trans c3, (World.cell?_of_block (w := W) e).trans c4, (World.cell?_of_block (w := W) e).trans c5, Nat.lt_of_lt_of_le hl hg.size⟩
theorem box_frozen (w : World) (cs : Array Value) (t : TypeId) (j : Nat) : (w.alloc (.cells cs t)).frozen? ⟨w.heap.size, j, none⟩ = false := by
  simp [go_sem]
abbrev put5 (w : World) (B : Nat) (q : Pt) : World := ((((w.setCell ⟨B, 0, none⟩ (.int .i64 q.a)).setCell ⟨B, 1, none⟩ (.int .i64 q.b)).setCell ⟨B, 2, none⟩ (.int .i64 q.c)).setCell ⟨B, 3, none⟩ (.int .i64 q.d)).setCell ⟨B, 4, none⟩ (.int .i64 q.e)
theorem put5_only (w : World) (B : Nat) (q : Pt) : OnlyS (· = B) w (put5 w B q) :=
  ((((OnlyS.set B 0 w _).trans (OnlyS.set B _ _ _)).trans (OnlyS.set B _ _ _)).trans (OnlyS.set B _ _ _)).trans (OnlyS.set B _ _ _)
theorem cell_put (w : World) (B i j : Nat) (v u : Value) (h : w.cell? ⟨B, j, none⟩ = some u) : (w.setCell ⟨B, i, none⟩ v).cell? ⟨B, j, none⟩ = some (if i = j then v else u) := by
  by_cases e : i = j
  · subst e
    rw [if_pos rfl]
    exact World.cell?_setCell_same _ _ _ h
  · rw [if_neg e]
    exact (World.cell?_setCell_other _ _ _ _ (by intro h; injection h; contradiction)).trans h
theorem PtAt.put5 {w : World} {B : Nat} {p : Pt} (h : PtAt w B p) (q : Pt) : PtAt (Lk.put5 w B q) B q := by
  obtain ⟨c0, c1, c2, c3, c4, hl⟩ := h
  refine ⟨?_, ?_, ?_, ?_, ?_, Nat.lt_of_lt_of_le hl (put5_only w B q).size⟩
  · exact cell_put _ _ _ _ _ _ (cell_put _ _ _ _ _ _ (cell_put _ _ _ _ _ _ (cell_put _ _ _ _ _ _ (cell_put _ _ _ _ _ _ c0))))
  · exact cell_put _ _ _ _ _ _ (cell_put _ _ _ _ _ _ (cell_put _ _ _ _ _ _ (cell_put _ _ _ _ _ _ (cell_put _ _ _ _ _ _ c1))))
  · exact cell_put _ _ _ _ _ _ (cell_put _ _ _ _ _ _ (cell_put _ _ _ _ _ _ (cell_put _ _ _ _ _ _ (cell_put _ _ _ _ _ _ c2))))
  · exact cell_put _ _ _ _ _ _ (cell_put _ _ _ _ _ _ (cell_put _ _ _ _ _ _ (cell_put _ _ _ _ _ _ (cell_put _ _ _ _ _ _ c3))))
  · exact cell_put _ _ _ _ _ _ (cell_put _ _ _ _ _ _ (cell_put _ _ _ _ _ _ (cell_put _ _ _ _ _ _ (cell_put _ _ _ _ _ _ c4))))
theorem anc_step (xs : List Hd) (x : Hd) (t : Nat) (q : Pt) :
    (if eqP (cutP x.1 (x.1.e - 1 - t)) q then max (ancF xs x t (cutP x.1 (x.1.e - 1 - t))) (reN (kn x.2)) else ancF xs x t q) = ancF xs x (t + 1) q := by
  by_cases e : eqP (cutP x.1 (x.1.e - 1 - t)) q = true
  · have e1 := (eqP_iff _ _).1 e
    have e2 : ancB x.1 (t + 1) q = true := by rw [ancB, e, Bool.true_or]
    rw [if_pos e, e1]
    unfold ancF
    rw [e2, if_pos rfl]
    split <;> omega
  · rw [if_neg e]
    unfold ancF
    have e' : eqP (cutP x.1 (x.1.e - 1 - t)) q = false := by simpa using e
    rw [ancB, e', Bool.false_or]
structure Fz5 (w : World) (B : Nat) (p : Pt) : Prop where
  pt : PtAt w B p
  f0 : w.frozen? ⟨B, 0, none⟩ = false
  f1 : w.frozen? ⟨B, 1, none⟩ = false
  f2 : w.frozen? ⟨B, 2, none⟩ = false
  f3 : w.frozen? ⟨B, 3, none⟩ = false
  f4 : w.frozen? ⟨B, 4, none⟩ = false
theorem fz_new {w w' : World} {p : Pt} (hb : Below (w.alloc (.cells #[.int .i64 p.a, .int .i64 p.b, .int .i64 p.c, .int .i64 p.d, .int .i64 p.e] 30)).heap.size (w.alloc (.cells #[.int .i64 p.a, .int .i64 p.b, .int .i64 p.c, .int .i64 p.d, .int .i64 p.e] 30)) w') : Fz5 w' w.heap.size p := by
  have h := (PtAt.new w p.a p.b p.c p.d p.e).later hb
  have hk := hb.block w.heap.size (by simp)
  have hf : ∀ j, w'.frozen? ⟨w.heap.size, j, none⟩ = false := fun j => (World.frozen?_of_block (w := w.alloc _) hk).trans (box_frozen w _ _ j)
  exact ⟨h, hf 0, hf 1, hf 2, hf 3, hf 4⟩
def Rd (B B5 : Nat) (y : Pt) (xm : Int) (w : World) : Prop := w.cell? ⟨B, 0, none⟩ = some (.int .i64 y.a) ∧ w.cell? ⟨B, 1, none⟩ = some (.int .i64 y.b) ∧ w.cell? ⟨B, 2, none⟩ = some (.int .i64 y.c) ∧ w.cell? ⟨B, 3, none⟩ = some (.int .i64 y.d) ∧ w.cell? ⟨B, 4, none⟩ = some (.int .i64 y.e) ∧ w.cell? ⟨B5, 5, none⟩ = some (.int .i64 xm)
structure Dw (W : World) (b B B5 m : Nat) (y : Pt) (x : Hd) (f : Pt → Int) (v : Int) (w : World) : Prop where
  map : ∃ h, MapF w b (m + 1) h (fun q => if eqP y q then v else f q)
  pt : PtAt w B y
  lk : LkAt w B5 x
  below : Below W.heap.size W w
theorem done_step {W w w3 : World} {b m B B5 : Nat} {h : Pt → Bool} {f : Pt → Int} {y : Pt} {x : Hd} {v : Int} (hM : MapF w b m h f) (hp : PtAt w B y) (h5 : LkAt w B5 x) (hb : Below W.heap.size W w)
    (hF : FitP y) (hv : wf64 v) (hm : m ≤ 10000) (h1 : B ≠ b) (h2 : B5 ≠ b) (hbW : W.heap.size ≤ b) (hb3 : Below w.heap.size w w3) :
    (Instr.lookup 126 (.map (some b)) y.v false).run Tryz.prog w3 = .ok (.int .i64 (f y)) w3 ∧ Rd B B5 y x.2 w3 ∧
    ∃ W4, (Instr.mapUpdate 126 (.map (some b)) y.v (.int .i64 v)).run Tryz.prog w3 = .ok () W4 ∧ Rd B B5 y x.2 W4 ∧ Dw W b B B5 m y x f v W4 := by
  have hM3 := hM.grow hb3
  have hp3 := hp.later hb3
  have h53 := h5.later hb3
  obtain ⟨W4, hrun, hM4, hg⟩ := hM3.put hF hv hm
  have hp4 := PtAt.but hp3 hg h1
  have h54 := LkAt.but h53 hg h2
  exact ⟨hM3.look hF, ⟨hp3.c0, hp3.c1, hp3.c2, hp3.c3, hp3.c4, h53.c5⟩, W4, hrun, ⟨hp4.c0, hp4.c1, hp4.c2, hp4.c3, hp4.c4, h54.c5⟩, ⟨_, hM4⟩, hp4, h54, below_grew (thenCall hb hb3) hg hbW (Nat.le_refl _)⟩
set_option maxHeartbeats 8000000 in
theorem done_any (hr : Ls W A c xs) (hl : xs.length ≤ 400) :
    Calls Tryz.prog 98 #[.slice A xs.length c] W fun e w' => ∃ h, Maps1 W (4 * xs.length) h (fun p => (mxL xs p : Nat)) e w' := by
  have HR := Lib.hid hr
  obtain ⟨n, hn⟩ : ∃ n, xs.length = n := ⟨_, rfl⟩
  have HN := Lib.hid hn
  rw [hn] at hl ⊢
  clear hr hn
  have HM0 := Lib.hid (MapF.made W)
  have hx := Go.Proofs.YtlhhopanegnliaaGreatDoor.box_below W (.map #[] 0)
  have HX := Lib.hid hx
  clear hx
  go_enter Tryz.func98, Tryz.ntmps98
  go_wp2_with fail
  go_loopw [11] (fun i wr => ∃ (k m : Nat) (h : Pt → Bool), k ≤ n ∧ m ≤ 4 * k ∧ i = .int .i64 (k : Nat) ∧ MapF wr W.heap.size m h (fun p => (mxL (xs.take k) p : Nat)) ∧ Below W.heap.size W wr) (fun i _ => n - (intOf i).toNat)
  case atStart => exact ⟨0, 0, _, by omega, by omega, rfl, HM0.out.congr (fun p _ => rfl) (fun p _ => by simp [mxL, fitL, topL]), HX.out⟩
  case round =>
    obtain ⟨k, m, h, hk, hmk, rfl, hmap, hb⟩ := hrel
    obtain ⟨wo, rfl⟩ : ∃ wo, wo = wr := ⟨_, rfl⟩
    have HMap := Lib.hid hmap
    have HB := Lib.hid hb
    clear hmap hb HM0 HX
    by_cases hlt : k < n
    · have i1 : (0 : Int) ≤ (k : Int) := by omega
      have i2 : (k : Int) < (n : Int) := by omega
      have hkl : k < xs.length := by rw [HN.out]; exact hlt
      obtain ⟨a, rfl, hh⟩ := (HR.out.below HB.out).here hkl
      obtain ⟨x, hx⟩ : ∃ x, xs[k] = x := ⟨_, rfl⟩
      rw [hx] at hh
      have HT : Hid (∀ p, mxL (xs.take (k + 1)) p = if belB x.1 p then max (mxL (xs.take k) p) (reN (kn x.2)) else mxL (xs.take k) p) := fun p => by rw [List.take_succ_eq_append_getElem hkl, hx, mx_snoc]
      clear hx
      obtain ⟨c0, c1, c2, c3, c4, c5⟩ := hh
      have HBx := Lib.hid (Go.Proofs.YtlhhopanegnliaaGreatDoor.box_below wo (.cells #[.int .i64 x.1.a, .int .i64 x.1.b, .int .i64 x.1.c, .int .i64 x.1.d, .int .i64 x.1.e, .int .i64 x.2] 39))
      have HXx := Lib.hid (LkAt.new wo x)
      have hu := fun w => up_any x.1 w
      by_cases hup : rightB x.1 = true ∧ x.1.e ≠ 1
      · have hd := right_depth hup.1
        have hV : upV x.1 = .tuple #[(nextP x.1 0).v, .bool true] := by
          unfold upV nextP
          rw [if_pos hup, if_pos (by have := hup.2; omega), show x.1.e - 1 - ((0 : Nat) : Int) = x.1.e - 1 by omega]
        have H0 : Hid (true = decide (((0 : Nat) : Int) < x.1.e - 1)) := by unfold Hid; rw [decide_eq_true (by have := hup.2; omega)]
        simp only [hV] at hu
        obtain ⟨y, hy⟩ : ∃ y, nextP x.1 0 = y := ⟨_, rfl⟩
        rw [hy] at hu
        have HU := Lib.hid hu
        have HY := Lib.hid hy
        have HR1 := Lib.hid hup.1
        have HDp : Hid (1 < x.1.e ∧ x.1.e ≤ 4) := ⟨by have := hup.2; omega, hd.2⟩
        clear hu hV hup hd hy
        obtain ⟨⟨xa, xb, xc, xd, xe⟩, xm⟩ := x
        obtain ⟨ya, yb, yc, yd, ye⟩ := y
        simp only at c0 c1 c2 c3 c4 c5 HBx HU HXx
        go_wp2_with fail
        refine (HU.out _).mono ?_
        rintro e1 w1 ⟨rfl, hb1⟩
        have HB1 := Lib.hid (thenCall (thenCall HB.out HBx.out) hb1)
        have HM1 := Lib.hid ((HMap.out.grow HBx.out).grow hb1)
        have HP1 := Lib.hid (PtAt.new w1 ya yb yc yd ye)
        have HX1 := Lib.hid (Go.Proofs.YtlhhopanegnliaaGreatDoor.box_below w1 (.cells #[.int .i64 ya, .int .i64 yb, .int .i64 yc, .int .i64 yd, .int .i64 ye] 30))
        have HL1 := Lib.hid ((HXx.out.later hb1).later HX1.out)
        have H5 : Hid (W.heap.size < wo.heap.size ∧ wo.heap.size < w1.heap.size) := ⟨HMap.out.lt, Nat.lt_of_lt_of_le HXx.out.lt hb1.size⟩
        clear hb1 c0 c1 c2 c3 c4 c5 HBx HMap HXx
        go_wp2_with fail
        go_loopw [6, 7] (fun p i wr => ∃ t : Nat, (t : Int) ≤ xe - 1 ∧ Dn W (xs.take k) (⟨xa, xb, xc, xd, xe⟩, xm) W.heap.size wo.heap.size k t p i wr) (fun p i wr => goesOn i (depthAt wr p))
        case atStart =>
          refine ⟨0, by have := HDp.out; omega, ⟨w1.heap.size, m, h, rfl, by rw [HY.out]; exact HP1.out, by have := H5.out; omega, by have := H5.out; omega, by have := H5.out; omega, by omega, (HM1.out.grow HX1.out).congr (fun _ _ => rfl) (fun _ _ => rfl)⟩, by rw [H0.out], HL1.out, thenCall HB1.out HX1.out⟩
        case round =>
          obtain ⟨t, ht, hD⟩ := hrel
          clear HB1 HM1 HP1 HX1 HL1
          by_cases hlt2 : (t : Int) < xe - 1
          · obtain ⟨⟨B, m2, h2, rfl, hp, hBW, hBb, hB5, hm2, hmap⟩, rfl, h5, hbl⟩ := hD
            have hdec : decide ((t : Int) < xe - 1) = true := decide_eq_true hlt2
            simp only [hdec]
            have hny : nextP ⟨xa, xb, xc, xd, xe⟩ t = cutP ⟨xa, xb, xc, xd, xe⟩ (xe - 1 - t) := by unfold nextP; exact if_pos hlt2
            have hnu := next_up HR1.out t hlt2
            have hcr := cut_right (j := xe - 1 - t) HR1.out (by omega) (by show _ ≤ xe; omega)
            have hst := anc_step (xs.take k) (⟨xa, xb, xc, xd, xe⟩, xm) t
            have hye : (cutP ⟨xa, xb, xc, xd, xe⟩ (xe - 1 - t)).e = xe - 1 - t := rfl
            simp only at hst
            rw [hny] at hp
            clear hny
            obtain ⟨y2, hy2⟩ : ∃ y, cutP ⟨xa, xb, xc, xd, xe⟩ (xe - 1 - t) = y := ⟨_, rfl⟩
            rw [hy2] at hp hcr hnu hye
            simp only [hy2] at hst
            obtain ⟨cn, hcn⟩ : ∃ cn : Nat, ancF (xs.take k) (⟨xa, xb, xc, xd, xe⟩, xm) t y2 = cn := ⟨_, rfl⟩
            obtain ⟨r, hr⟩ : ∃ r, reN (kn xm) = r := ⟨_, rfl⟩
            simp only [hcn, hr] at hst
            have hr3 : r ≤ 3 := by rw [← hr]; exact reN_le _
            have hc3 : cn ≤ 3 := by
              rw [← hcn]
              unfold ancF
              split
              · exact Nat.max_le.2 ⟨mx_le _ _, reN_le _⟩
              · exact mx_le _ _
            have HCn := Lib.hid hcn
            have HRr := Lib.hid hr
            have HSt := Lib.hid hst
            have HF := Lib.hid (fit_right hcr)
            obtain ⟨z, hz⟩ : ∃ z, nextP ⟨xa, xb, xc, xd, xe⟩ (t + 1) = z := ⟨_, rfl⟩
            rw [hz] at hnu
            have HZ := Lib.hid hz
            have HNu := Lib.hid hnu
            have HYe := Lib.hid hye
            have HU2 := Lib.hid (fun w => up_any y2 w)
            have HBl := Lib.hid hbl
            have hwf : wf64 ((max cn r : Nat) : Int) := wf_small (by omega) (by omega)
            have HWf := Lib.hid hwf
            clear hcr hst hcn hr hnu hz hye hy2 hbl hdec hwf
            simp only [HNu.out] at HU2
            obtain ⟨ya2, yb2, yc2, yd2, ye2⟩ := y2
            obtain ⟨za, zb, zc, zd, ze⟩ := z
            go_wp2_with fail
            have hM2 : MapF wr.drew W.heap.size m2 h2 (fun q => (ancF (xs.take k) (⟨xa, xb, xc, xd, xe⟩, xm) t q : Nat)) := hmap.keep rfl
            have hp2 : PtAt wr.drew B ⟨ya2, yb2, yc2, yd2, ye2⟩ := hp.later ⟨rfl, rfl, rfl, Nat.le_refl _, fun _ _ => rfl⟩
            have h52 : LkAt wr.drew wo.heap.size (⟨xa, xb, xc, xd, xe⟩, xm) := h5.later ⟨rfl, rfl, rfl, Nat.le_refl _, fun _ _ => rfl⟩
            have hb2 : Below W.heap.size W wr.drew := HBl.out.trans ⟨rfl, rfl, rfl, Nat.le_refl _, fun _ _ => rfl⟩
            have hl2 := hM2.look HF.out
            rw [HCn.out] at hl2
            have hmx := fun ts ty => run_max_int Tryz.prog ts ty cn r
            have HM2 := Lib.hid hM2
            have HP2 := Lib.hid hp2
            have H52 := Lib.hid h52
            have HB2 := Lib.hid hb2
            have hq : Rd B wo.heap.size ⟨ya2, yb2, yc2, yd2, ye2⟩ xm wr.drew := ⟨hp2.c0, hp2.c1, hp2.c2, hp2.c3, hp2.c4, h52.c5⟩
            have HSt3 := Lib.hid (fun (w3 : World) (hb3 : Below wr.drew.heap.size wr.drew w3) => done_step HM2.out HP2.out H52.out HB2.out HF.out HWf.out (by have : xe ≤ 4 := HDp.out.2; omega) hBb (Nat.ne_of_gt H5.out.1) (Nat.le_refl _) hb3)
            simp only [HCn.out] at HSt3
            unfold Rd at hq HSt3
            simp only at hq HSt3
            clear hM2 hmap hp h5 h52 hb2 hp2
            go_region_held3 (fun w' => w'.cell? ⟨B, 0, none⟩ = some (.int .i64 ya2) ∧ w'.cell? ⟨B, 1, none⟩ = some (.int .i64 yb2) ∧ w'.cell? ⟨B, 2, none⟩ = some (.int .i64 yc2) ∧ w'.cell? ⟨B, 3, none⟩ = some (.int .i64 yd2) ∧ w'.cell? ⟨B, 4, none⟩ = some (.int .i64 ye2) ∧ w'.cell? ⟨wo.heap.size, 5, none⟩ = some (.int .i64 xm)) (first | exact hq | exact hs3 | exact ht4)
              (first
                | (go_at_call 100; (with_reducible refine (gdoes_any xm _).mono ?_); rintro e3 w3 ⟨rfl, hb3⟩; rw [HRr.out]; obtain ⟨hl3, hs3, W4, hrun4, ht4, hdw⟩ := HSt3.out w3 hb3))
            all_goals
              go_wp2_with fail
              refine (HU2.out _).mono ?_
              rintro e5 w5 ⟨rfl, hb5⟩
              obtain ⟨⟨h4, hM4⟩, hp4, h54, hb4⟩ := hdw
              have hz := fz_new (p := ⟨ya2, yb2, yc2, yd2, ye2⟩) hb5
              have hx4 := Go.Proofs.YtlhhopanegnliaaGreatDoor.box_below W4 (.cells #[.int .i64 ya2, .int .i64 yb2, .int .i64 yc2, .int .i64 yd2, .int .i64 ye2] 30)
              have hn : W.heap.size < W4.heap.size := hM4.lt
              have hn5 : wo.heap.size < W4.heap.size := h54.lt
              have HN4 : Hid (W.heap.size < W4.heap.size ∧ wo.heap.size < W4.heap.size) := ⟨hn, hn5⟩
              have HM5 := Lib.hid ((hM4.grow hx4).grow hb5)
              have H55 := Lib.hid ((h54.later hx4).later hb5)
              have HB5 := Lib.hid (thenCall (thenCall hb4 hx4) hb5)
              have HZ5 := Lib.hid hz
              obtain ⟨⟨z0, z1, z2, z3, z4, zl⟩, f0, f1, f2, f3, f4⟩ := hz
              simp only at z0 z1 z2 z3 z4
              clear hb5 hM4 hp4 h54 hb4 hx4 hn hn5 hq hs3 ht4 hl2 hl3 hrun4 hb3
              go_wp2_with fail
              go_roundw
              case rel =>
                have hone := put5_only w5 W4.heap.size ⟨za, zb, zc, zd, ze⟩
                have hbl : ∀ k, k ≠ W4.heap.size → k < w5.heap.size → (put5 w5 W4.heap.size ⟨za, zb, zc, zd, ze⟩).heap[k]? = w5.heap[k]? := fun k h1 h2 => hone.block k h2 h1
                refine ⟨t + 1, by omega, ⟨W4.heap.size, m2 + 1, h4, rfl, by rw [HZ.out]; exact PtAt.put5 HZ5.out.pt ⟨za, zb, zc, zd, ze⟩, by have := HN4.out; omega, by have := HN4.out; omega, by have := HN4.out; omega, by omega, ?_⟩, rfl, ?_, ?_⟩
                · exact (HM5.out.keep (hbl _ (by have := HN4.out; omega) HM5.out.lt)).congr (fun _ _ => rfl) (fun q _ => by
                    have := HSt.out q
                    show _ = ((ancF (xs.take k) (⟨xa, xb, xc, xd, xe⟩, xm) (t + 1) q : Nat) : Int)
                    rw [← this]
                    by_cases e : eqP ⟨ya2, yb2, yc2, yd2, ye2⟩ q = true
                    · rw [if_pos e, if_pos e]
                    · rw [if_neg e, if_neg e])
                · have h5 := H55.out
                  have hn : ¬ (wo.heap.size = W4.heap.size) := Nat.ne_of_lt HN4.out.2
                  exact ⟨hone.cell h5.c0 hn, hone.cell h5.c1 hn, hone.cell h5.c2 hn, hone.cell h5.c3 hn, hone.cell h5.c4 hn, hone.cell h5.c5 hn, Nat.lt_of_lt_of_le h5.lt hone.size⟩
                · exact HB5.out.trans (hone.below (fun k e => by rw [e]; exact Nat.le_of_lt HN4.out.1) HB5.out.size)
              case measure =>
                have d1 := depth_is (PtAt.put5 HZ5.out.pt ⟨za, zb, zc, zd, ze⟩)
                have d2 : depthAt wr (.pointer (some ⟨B, 0, none⟩)) = ye2.toNat := depth_is HP2.out
                have hz := HZ.out
                have hye := HYe.out
                simp only at d1 hye
                rw [d2]
                show goesOn _ (depthAt (put5 w5 W4.heap.size ⟨za, zb, zc, zd, ze⟩) _) < ye2.toNat
                rw [d1]
                by_cases hl3 : (t : Int) + 1 < xe - 1
                · rw [decide_eq_true hl3]
                  show ze.toNat < ye2.toNat
                  have hze : ze = xe - 1 - ((t + 1 : Nat) : Int) := by
                    have := congrArg Pt.e hz
                    unfold nextP at this
                    rw [if_pos (show ((t + 1 : Nat) : Int) < xe - 1 by omega)] at this
                    exact this.symm
                  omega
                · rw [decide_eq_false hl3]
                  show 0 < ye2.toNat
                  omega
          · obtain ⟨⟨B, m2, h2, rfl, hp, hBW, hBb, hB5, hm2, hmap⟩, rfl, h5, hbl⟩ := hD
            have hdec : decide ((t : Int) < xe - 1) = false := decide_eq_false hlt2
            have hxe : xe ≤ 4 := HDp.out.2
            have ht' : (t : Int) = xe - 1 := by omega
            have HM1 := Lib.hid (hmap.congr (h' := h2) (f' := fun p => (mxL (xs.take (k + 1)) p : Nat)) (fun _ _ => rfl) (fun p _ => by
              rw [HT.out p]
              unfold ancF
              rw [anc_all HR1.out ht' p]))
            have HB1 := Lib.hid hbl
            have hm4 : m2 ≤ 4 * (k + 1) := by omega
            simp only [hdec]
            clear hp hmap h5 hbl hdec
            go_wp2_with fail
            go_roundw
            case rel => exact ⟨k + 1, m2, h2, by omega, hm4, by go_num, HM1.out, HB1.out⟩
            case measure => simp [intOf]; omega
      · have hV : upV x.1 = .tuple #[Pt.v ⟨0, 0, 0, 0, 0⟩, .bool false] := by unfold upV; rw [if_neg hup]
        have hT2 : ∀ p, mxL (xs.take (k + 1)) p = mxL (xs.take k) p := fun p => by
          rw [HT.out p, anc_none hup]
          rfl
        simp only [hV] at hu
        have HU := Lib.hid hu
        have HT2 := Lib.hid hT2
        clear hu hV hT2 hup HT
        obtain ⟨⟨xa, xb, xc, xd, xe⟩, xm⟩ := x
        simp only at c0 c1 c2 c3 c4 c5 HBx HU
        go_wp2_with fail
        refine (HU.out _).mono ?_
        rintro e1 w1 ⟨rfl, hb1⟩
        have hx1 := Go.Proofs.YtlhhopanegnliaaGreatDoor.box_below w1 (.cells #[.int .i64 0, .int .i64 0, .int .i64 0, .int .i64 0, .int .i64 0] 30)
        have HB1 := Lib.hid (thenCall (thenCall (thenCall HB.out HBx.out) hb1) hx1)
        have HM1 := Lib.hid ((((HMap.out.grow HBx.out).grow hb1).grow hx1).congr (h' := h) (f' := fun p => (mxL (xs.take (k + 1)) p : Nat)) (fun p _ => rfl) (fun p _ => by rw [HT2.out]))
        clear hb1 c0 c1 c2 c3 c4 c5 HBx HMap hx1
        go_wp2_with fail
        refine wp_loop_rounds 1 ?_
        rw [rounds_succ]
        go_wp2_with fail
        go_roundw
        case rel => exact ⟨k + 1, m, h, by omega, by omega, by go_num, HM1.out, HB1.out⟩
        case measure => simp [intOf]; omega
    · obtain rfl : k = n := by omega
      have HTk : Hid (xs.take k = xs) := List.take_of_length_le (Nat.le_of_eq HN.out)
      go_wp2_with fail
      go_ret
      rw [HTk.out] at HMap
      exact ⟨h, W.heap.size, m, rfl, hmk, HMap.out, HB.out, Nat.le_refl _⟩
end
end Go.Proofs.YtlhhopanegnliaaGreatDoor.Lk
namespace Go.Proofs.YtlhhopanegnliaaGreatDoor.Lk
open Go Go.RowKit Go.Shelf Pa
attribute [local go_sem] Oper.semAt_some
set_option maxRecDepth 100000
abbrev encH (x : Nat × Hd) : Array Value := #[.int .i64 (x.1 : Int), wv x.2]
def bwd (xs : List Hd) (j : Nat) : List (Nat × Hd) := (List.range j).map fun m => (xs.length - 1 - m, xs.getD (xs.length - 1 - m) (⟨0, 0, 0, 0, 0⟩, 0))
theorem bwd_succ (xs : List Hd) (j : Nat) : bwd xs (j + 1) = bwd xs j ++ [(xs.length - 1 - j, xs.getD (xs.length - 1 - j) (⟨0, 0, 0, 0, 0⟩, 0))] := by simp [bwd, List.range_succ]
theorem bwd_length (xs : List Hd) (j : Nat) : (bwd xs j).length = j := by simp [bwd]
theorem bwd_split (xs : List Hd) {i n : Nat} (h : i ≤ n) : ∃ r, bwd xs n = bwd xs i ++ r := by
  induction n with
  | zero => obtain rfl : i = 0 := by omega
            exact ⟨[], by simp⟩
  | succ n ih =>
    by_cases e : i = n + 1
    · subst e; exact ⟨[], by simp⟩
    · obtain ⟨r, hr⟩ := ih (by omega)
      exact ⟨r ++ [_], by rw [bwd_succ, hr, List.append_assoc]⟩
theorem bwd_told {xs : List Hd} {n : Nat} (hn : xs.length = n) {pre post : List (Nat × Hd)} {x : Nat × Hd} (h : bwd xs n = pre ++ x :: post) :
    ∃ k, n - pre.length = k + 1 ∧ n = k + 1 + pre.length ∧ ∃ hk : k < xs.length, x = (k, xs[k]) := by
  have hl := congrArg List.length h
  rw [bwd_length, List.length_append, List.length_cons] at hl
  have hg : (bwd xs n)[pre.length]? = some x := by rw [h]; simp
  unfold bwd at hg
  rw [List.getElem?_map, List.getElem?_range (by omega)] at hg
  have hk : xs.length - 1 - pre.length < xs.length := by omega
  refine ⟨xs.length - 1 - pre.length, by omega, by omega, hk, ?_⟩
  simp only [Option.map_some, Option.some.injEq] at hg
  rw [← hg]
  simp [hk]
set_option maxHeartbeats 4000000 in
theorem bwd_tells {w : World} {bx K c : Nat} {A : Option Addr} {xs : List Hd} (hb : w.cell? ⟨bx, 0, none⟩ = some (.slice A xs.length c)) (hls : Ls w A c xs) (hA : 0 < xs.length → ∀ a, A = some a → a.block < K) (hl : xs.length ≤ 100000) :
    Go.Proofs.YtlhhopanegnliaaGreatDoor.Tells Tryz.prog 185 #[] #[.pointer (some ⟨bx, 0, none⟩)] encH (fun k => k = bx ∨ k < K) (bwd xs xs.length) w := by
  intro l J Jx W hW hJ hY h0
  have q1 := (hW.cell (p := ⟨bx, 0, none⟩) (cell_lt hb)).trans hb
  have HLs := Lib.hid hls
  have HA := Lib.hid hA
  have HJ := Lib.hid hJ
  have HY := Lib.hid hY
  have HW := Lib.hid hW
  have HBx := Lib.hid (cell_lt hb)
  have HQ1 := Lib.hid hb
  obtain ⟨n, hn⟩ : ∃ n, xs.length = n := ⟨_, rfl⟩
  have HN := Lib.hid hn
  rw [hn] at q1 hl HY HQ1 ⊢
  clear hls hA hJ hY hn hW hb
  refine callsIn_of_wp Tryz.func185 rfl trivial ?_ rfl
  simp only [Tryz.ntmps185, List.size_toArray, List.length_cons, List.length_nil, Nat.reduceAdd, Nat.reduceSub, Array.replicate_succ, Array.replicate_zero, List.push_toArray, List.append_toArray, List.nil_append, List.cons_append]
  gi_wp2
  gi_loopw [3] (fun t wr => ∃ j : Nat, j ≤ n ∧ t = .int .i64 ((n : Int) - 1 - (j : Int)) ∧ J (bwd xs j) wr ∧ Keeps (fun k => k = bx ∨ k < K) W wr) (fun t _ => (intOf t + 1).toNat)
  case atStart => exact ⟨0, by omega, by simp, h0, Keeps.refl _ _⟩
  case round =>
    obtain ⟨j, hj, rfl, hjj, hbj⟩ := hrel
    have HO := Lib.hid hbj
    clear h0
    by_cases hjn : j < n
    · obtain ⟨i, hi⟩ : ∃ i : Nat, n - 1 - j = i := ⟨_, rfl⟩
      have hi' : (n : Int) - 1 - (j : Int) = (i : Int) := by omega
      have hin : i < n := by omega
      have hil : i < xs.length := by rw [HN.out]; exact hin
      have hsz := HW.out.size
      have hbxl := HBx.out
      have c0 := (World.cell?_of_block (w := W) (a := ⟨bx, 0, none⟩) (HO.out.block bx (.inl rfl))).trans q1
      have hls2 : Ls wr A c xs := (HLs.out.below HW.out).keep (fun a ha => HO.out.block _ (.inr (HA.out (by rw [HN.out]; omega) a ha)))
      obtain ⟨a, ha, hh⟩ := hls2.here hil
      subst ha
      obtain ⟨x, hx⟩ : ∃ x, xs[i] = x := ⟨_, rfl⟩
      rw [hx] at hh
      obtain ⟨z0, z1, z2, z3, z4, z5⟩ := hh
      have hU : bwd xs (j + 1) = bwd xs j ++ [(i, x)] := by
        rw [bwd_succ, HN.out, hi]
        simp [hil, hx]
      obtain ⟨r, hr⟩ := bwd_split xs (show j + 1 ≤ n from hjn)
      have hpre : bwd xs n = bwd xs j ++ (i, x) :: r := by rw [hr, hU]; simp
      obtain ⟨fn, tmps, assign, body, hy, hR⟩ := HY.out _ (i, x) _ _ hpre hjj
      have HU := Lib.hid hU
      have HP := Lib.hid (show bwd xs n = (bwd xs j ++ [(i, x)]) ++ r by rw [hpre]; simp)
      rw [hi']
      have hi0 : decide ((0 : Int) ≤ (i : Int)) = true := by simp
      have hilt : (i : Int) < (n : Int) := by omega
      have HI := Lib.hid hi
      obtain ⟨⟨xa, xb, xc, xd, xe⟩, xm⟩ := x
      simp only at z0 z1 z2 z3 z4 z5 hy hR
      clear hi hi' hil hx hU hr hpre hjj hbj hls2
      gi_wp2
      refine hR.mono ?_
      rintro e W3 (⟨rfl, hJ3, hk3⟩ | ⟨rfl, hJx3⟩)
      · have HO3 := Lib.hid (HO.out.trans hk3)
        clear hy hR c0 z0 z1 z2 z3 z4 z5 hk3
        gi_wp2
        go_roundw
        case rel => exact ⟨j + 1, by omega, by have := HI.out; first | (congr 1; omega) | congr 1, by rw [HU.out]; exact hJ3, HO3.out⟩
        case measure => first | (simp [intOf]; have := HI.out; omega) | simp [intOf]
      · gi_wp2
        refine bodyPost_ret (results_none rfl _ _ _) rfl ?_
        exact ⟨⟨_, rfl⟩, .inr ⟨_, _, HP.out, hJx3⟩⟩
    · obtain rfl : j = n := by omega
      rw [show (j : Int) - 1 - (j : Int) = -1 by omega]
      gi_wp2
      go_end0
      refine ⟨⟨_, rfl⟩, .inl ?_⟩
      exact hjj
theorem backward_any {W : World} {A : Option Addr} {n c : Nat} : Calls Tryz.prog 144 #[.slice A n c] W fun e w' => e = .returned (.func (.func 185) #[] #[.pointer (some ⟨W.heap.size, 0, none⟩)]) ∧ w' = W.alloc (.cells #[.slice A n c] 35) := by
  go_enter Tryz.func144, Tryz.ntmps144
  go_wp2
  go_ret
  exact ⟨rfl, rfl⟩
end Go.Proofs.YtlhhopanegnliaaGreatDoor.Lk
namespace Go.Proofs.YtlhhopanegnliaaGreatDoor.Lk
open Go Go.RowKit Go.Shelf Pa
attribute [local go_sem] Oper.semAt_some
set_option maxRecDepth 100000
structure Fst (W : World) (xs : List Hd) (k m : Nat) (X : World) : Prop where
  map : ∃ h, MapF X W.heap.size m h (fun p => ofL (xs.drop k) p)
  box : X.cell? ⟨W.heap.size + 1, 0, none⟩ = some (.map (some W.heap.size))
  below : Below W.heap.size W X
  size : W.heap.size + 3 ≤ X.heap.size
theorem Fst.turn {W : World} {xs : List Hd} {k m B : Nat} {X Y : World} (h : Fst W xs k m X) (ht : Turn B X Y) (hB : W.heap.size < B) : Fst W xs k m Y := by
  obtain ⟨⟨h0, h1⟩, h2, h3, h4⟩ := h
  exact ⟨⟨h0, h1.keep (ht.low _ hB h1.lt)⟩, ht.cell h2, ht.below h3 (Nat.le_of_lt hB) (Nat.le_refl _), Nat.le_trans h4 ht.size⟩
theorem LkAt.turn {B B' : Nat} {X Y : World} {x : Hd} (h : LkAt X B x) (ht : Turn B' X Y) : LkAt Y B x :=
  ⟨ht.cell h.c0, ht.cell h.c1, ht.cell h.c2, ht.cell h.c3, ht.cell h.c4, ht.cell h.c5, Nat.lt_of_lt_of_le h.lt ht.size⟩
section
variable {W W' : World} {A : Option Addr} {c : Nat} {xs : List Hd}
set_option maxHeartbeats 8000000 in
theorem firsts_any (hr : Ls W A c xs) (hl : xs.length ≤ 400) (hf : ∀ x ∈ xs, FitP x.1 ∧ wf64 x.2) :
    Calls Tryz.prog 97 #[.slice A xs.length c] W fun e w' => ∃ h, Maps1 W xs.length h (fun p => ofL xs p) e w' := by
  refine (callsIn_wide (n := 9)).1 ?_
  refine callsIn_of_wp_marks Tryz.func97 rfl trivial ?_ rfl
  simp only [Tryz.ntmps97, List.size_toArray, List.length_cons, List.length_nil, Nat.reduceAdd, Nat.reduceSub, Array.replicate_succ, Array.replicate_zero, List.push_toArray, List.append_toArray, List.nil_append, List.cons_append]
  refine wpIn_wide.2 ?_
  have HR := Lib.hid hr
  have HF := Lib.hid hf
  obtain ⟨n, hn⟩ : ∃ n, xs.length = n := ⟨_, rfl⟩
  have HN := Lib.hid hn
  rw [hn] at hl ⊢
  clear hr hf hn
  have HM0 := Lib.hid (MapF.made W)
  have hx := Go.Proofs.YtlhhopanegnliaaGreatDoor.box_below W (.map #[] 0)
  have HX := Lib.hid hx
  clear hx
  go_wp2_with fail
  refine backward_any.mono ?_
  rintro e w8 ⟨rfl, rfl⟩
  go_wp2_with fail
  have hb3 : Below W.heap.size W (((W.alloc (.map #[] 0)).alloc (.cells #[.map (some W.heap.size)] 126)).alloc (.cells #[.slice A n c] 35)) := ((HX.out.alloc HX.out.size _).alloc (by simp; omega) _)
  have hm3 := (HM0.out.grow (Go.Proofs.YtlhhopanegnliaaGreatDoor.box_below _ (.cells #[.map (some W.heap.size)] 126))).grow (Go.Proofs.YtlhhopanegnliaaGreatDoor.box_below _ (.cells #[.slice A n c] 35))
  have c3 : (((W.alloc (.map #[] 0)).alloc (.cells #[.map (some W.heap.size)] 126)).alloc (.cells #[.slice A n c] 35)).cell? ⟨W.heap.size + 1, 0, none⟩ = some (.map (some W.heap.size)) := by simp [go_sem]
  have d3 : (((W.alloc (.map #[] 0)).alloc (.cells #[.map (some W.heap.size)] 126)).alloc (.cells #[.slice A n c] 35)).cell? ⟨W.heap.size + 1 + 1, 0, none⟩ = some (.slice A n c) := by simp [go_sem]
  have hz3 : (((W.alloc (.map #[] 0)).alloc (.cells #[.map (some W.heap.size)] 126)).alloc (.cells #[.slice A n c] 35)).heap.size = W.heap.size + 3 := by simp
  generalize ((W.alloc (.map #[] 0)).alloc (.cells #[.map (some W.heap.size)] 126)).alloc (.cells #[.slice A n c] 35) = w9 at *
  have hA : 0 < xs.length → ∀ a, A = some a → a.block < W.heap.size := fun h0 a ha => by
    obtain ⟨a', ha', hh⟩ := HR.out.here h0
    have h2 := cell_lt hh.c0
    rw [block_add'] at h2
    rw [ha] at ha'
    injection ha' with e
    rw [e]
    exact h2
  have HTells := Lib.hid (bwd_tells (K := W.heap.size) (xs := xs) (by rw [HN.out]; exact d3) (HR.out.below hb3) hA (by rw [HN.out]; omega))
  rw [HN.out] at HTells
  have HF9 : Hid (Fst W xs n 0 w9) := ⟨⟨_, hm3.congr (fun _ _ => rfl) (fun p _ => by rw [List.drop_of_length_le (Nat.le_of_eq HN.out)]; rfl)⟩, c3, hb3, by omega⟩
  clear hb3 hm3 c3 d3 HM0 HX hA
  refine (wpIn_wide (n := 9)).1 ?_
  refine wp_range (α := Nat × Hd) (encs := encH) (xs := bwd xs n) (S := fun k => k = W.heap.size + 1 + 1 ∨ k < W.heap.size) rfl (enters_of Tryz.func185 (by kernel_rfl) rfl) HTells.out (fun k hk => by rcases hk with hk | hk <;> omega) (fun _ => rfl)
    (fun pre X => ∃ m, m ≤ pre.length ∧ Fst W xs (n - pre.length) m X) (fun _ _ _ => False)
    (fun pre x a' X => ∃ m B, m ≤ pre.length ∧ Fst W xs (n - pre.length) m X ∧ LkAt X B x.2 ∧ W.heap.size < B ∧
      a' = { tmps := #[.slice A n c, undef, .map none, .pointer (some ⟨W.heap.size + 1, 0, none⟩), undef, .pointer (some ⟨B, 0, none⟩), .map (some W.heap.size), .slice A n c, .func (.func 185) #[] #[.pointer (some ⟨W.heap.size + 1 + 1, 0, none⟩)], .int .i64 (x.1 : Int), wv x.2, undef, undef, undef, undef, undef, undef], defers := [] })
    ?hI ?hIx ?hA ?h0 ?assign ?body ?done ?stop
  case hI =>
    rintro s X Y ⟨m, hm, h⟩ ht
    exact ⟨m, hm, h.turn ht (by omega)⟩
  case hIx => exact fun _ _ _ _ h _ => h
  case hA =>
    rintro s x a' X Y ⟨m, B, hm, h, hl, hB, e⟩ ht
    exact ⟨m, B, hm, h.turn ht (by omega), hl.turn ht, hB, e⟩
  case h0 => exact ⟨0, Nat.le_refl _, HF9.out⟩
  case assign =>
    rintro l1 pre x X ⟨m, hm, hi⟩
    have HI := Lib.hid hi
    obtain ⟨xi, ⟨⟨xa, xb, xc, xd, xe⟩, xm⟩⟩ := x
    clear hi
    gi_wp2
    have hx1 := Go.Proofs.YtlhhopanegnliaaGreatDoor.box_below X (.cells #[.int .i64 xa, .int .i64 xb, .int .i64 xc, .int .i64 xd, .int .i64 xe, .int .i64 xm] 39)
    refine ⟨KeepsFrom.of_grownBy (World.grownBy_alloc X _ none) (by simp), ⟨hx1.size, fun k hk => hx1.block k (by have := HI.out.size; omega)⟩, m, X.heap.size, hm, HI.out.turn (B := X.heap.size) (Turn.later hx1) (by obtain ⟨_, h1⟩ := HI.out.map; exact h1.lt), LkAt.new X (⟨xa, xb, xc, xd, xe⟩, xm), by obtain ⟨_, h1⟩ := HI.out.map; exact h1.lt, by simp⟩
  case body =>
    rintro l1 pre x post a' X hx ⟨m, B, hm, ⟨⟨h0, hmap⟩, hbox, hbl, hsz⟩, hlk, hB, rfl⟩
    obtain ⟨k, hk1, hk2, hkl, rfl⟩ := bwd_told HN.out hx
    rw [hk1] at hmap
    obtain ⟨hfx, hwx⟩ := HF.out _ (List.getElem_mem hkl)
    have hdr : ∀ p, ofL (xs.drop k) p = if eqP xs[k].1 p then xs[k].2 else ofL (xs.drop (k + 1)) p := fun p => by
      rw [List.drop_eq_getElem_cons hkl]
      rfl
    have HDr := Lib.hid hdr
    obtain ⟨W4, hrun, hM4, hg4⟩ := hmap.put hfx hwx (by omega)
    have HE4 : Hid (Fst W xs k (m + 1) W4) := by
      refine ⟨⟨_, hM4.congr (fun _ _ => rfl) (fun p _ => (HDr.out p).symm)⟩, ?_, below_grew hbl hg4 (Nat.le_refl _) (Nat.le_refl _), Nat.le_trans hsz hg4.size⟩
      have e : W4.heap[W.heap.size + 1]? = X.heap[W.heap.size + 1]? := hg4.block _ (cell_lt hbox) (fun e => by injection e with e; omega)
      exact (World.cell?_of_block (w := X) (a := ⟨W.heap.size + 1, 0, none⟩) e).trans hbox
    have HG4 := Lib.hid hg4
    have HLt := Lib.hid hmap.lt
    obtain ⟨x, hx'⟩ : ∃ x, xs[k] = x := ⟨_, rfl⟩
    rw [hx'] at hrun hlk
    simp only [hx']
    clear hmap hfx hwx hdr hM4 hg4 hbl hx HDr
    obtain ⟨⟨xa, xb, xc, xd, xe⟩, xm⟩ := x
    obtain ⟨c0, c1, c2, c3, c4, c5, hlt⟩ := hlk
    simp only at c0 c1 c2 c3 c4 c5 hrun
    clear hx'
    gi_wp2
    refine ⟨KeepsFrom.of_grownBy HG4.out (fun j e => by injection e with e; omega), ⟨HG4.out.size, fun k' hk' => HG4.out.block k' (by omega) (fun e => by injection e with e; omega)⟩, m + 1, by simp; omega, ?_⟩
    rw [show n - (pre ++ [(k, ((⟨xa, xb, xc, xd, xe⟩, xm) : Hd))]).length = k by rw [List.length_append, List.length_singleton]; omega]
    exact HE4.out
  case done =>
    rintro D X hD ⟨m, hm, h⟩ hd
    have HD := Lib.hid hd
    have HH := Lib.hid h
    rw [bwd_length] at HH hm
    have c3 := h.box
    clear h hd
    dsimp only [Exit.inBlock, Exit.then]
    rename_i hK0
    refine hK0 _ _ ?_
    clear hK0
    go_wp2_with fail
    refine ⟨by simp, .inl ⟨_, _, rfl, run_takeDeferred HD.out, ?_⟩⟩
    obtain ⟨⟨h0, h1⟩, -, h3, h4⟩ := HH.out
    rw [Nat.sub_self] at h1
    refine ⟨_, results_tmp rfl _ _ _, h0, W.heap.size, m, rfl, hm, h1.keep (World.putObj_heap_other (by omega)), h3.trans (below_put _ _ (by omega)), Nat.le_refl _⟩
  case stop =>
    rintro D cd pre post X _ _ h _
    exact h.elim
end
end Go.Proofs.YtlhhopanegnliaaGreatDoor.Lk
namespace Go.Proofs.YtlhhopanegnliaaGreatDoor.Lk
open Go Go.RowKit Go.Shelf Go.Maps Go.ChangeShapes Pa
set_option maxRecDepth 100000
def candB (xs : List Hd) (n : Int) (p : Pt) : Bool := decide (n ≤ (cntL xs p : Int)) && decide (reN (kn (ofL xs p)) < mxL xs p)
def itemG (xs : List Hd) (p : Pt) : Hd := (p, (supN (kn (ofL xs p)) (doN (mxL xs p)) : Nat))
theorem cnt_right {xs : List Hd} {p : Pt} (h : 0 < cntL xs p) : rightB p = true := by
  unfold cntL at h
  obtain ⟨x, hx⟩ := List.exists_mem_of_length_pos h
  have h2 : kidB x.1 p = true := (List.mem_filter.1 hx).2
  have h1 := kid_right h2
  have hd := right_depth h1
  unfold kidB at h2
  rw [h1] at h2
  simp only [Bool.true_and, Bool.and_eq_true, Bool.not_eq_true', beq_eq_false_iff_ne] at h2
  rw [← (eqP_iff _ _).1 h2.2]
  exact cut_right h1 (by have := h2.1; omega) (by omega)
structure Pk (xs : List Hd) (n : Int) (left : Lit → Bool) (L : List Hd) : Prop where
  has : ∀ p, FitP p → left (klP p) = true → 0 < cntL xs p
  each : ∀ x ∈ L, 0 < cntL xs x.1 ∧ candB xs n x.1 = true ∧ x = itemG xs x.1
  all : ∀ p, 0 < cntL xs p → candB xs n p = true → left (klP p) = true ∨ itemG xs p ∈ L
theorem Pk.step {xs L : List Hd} {n : Int} {left : Lit → Bool} {x : Pt} (h : Pk xs n left L) (hx : FitP x) (hl : left (klP x) = true) :
    Pk xs n (fun z => left z && !z.sameKey (klP x)) (if candB xs n x then L ++ [itemG xs x] else L) := by
  refine ⟨fun p hp hh => h.has p hp ?_, fun y hy => ?_, fun p h1 h2 => ?_⟩
  · rw [Bool.and_eq_true] at hh
    exact hh.1
  · split at hy
    · rename_i hc
      rcases List.mem_append.1 hy with hy | hy
      · exact h.each y hy
      · obtain rfl : y = itemG xs x := by simpa using hy
        exact ⟨h.has x hx hl, hc, rfl⟩
    · exact h.each y hy
  · by_cases e : p = x
    · subst e
      right
      rw [if_pos h2]
      simp
    · rcases h.all p h1 h2 with h3 | h3
      · left
        rw [h3, Bool.true_and, Bool.not_eq_true']
        cases hs : (klP p).sameKey (klP x)
        · rfl
        · exact absurd (kl_inj (fit_right (cnt_right h1)) hx (WideAt.sameKey_eq hs)) e
      · right
        split
        · exact List.mem_append_left _ h3
        · exact h3
def PickIs (xs : List Hd) (n : Int) (x : Hd) (b : Bool) : Prop :=
  (b = false ∧ x = (⟨0, 0, 0, 0, 0⟩, 0) ∧ (n < 1 ∨ ∀ p, 0 < cntL xs p → candB xs n p = false)) ∨
  (b = true ∧ 1 ≤ n ∧ 0 < cntL xs x.1 ∧ candB xs n x.1 = true ∧ x = itemG xs x.1 ∧ ∀ p, 0 < cntL xs p → candB xs n p = true → ltU (itemG xs p) x = false)
theorem Pk.empty {xs : List Hd} {n : Int} {left : Lit → Bool} (h : Pk xs n left []) (hl : ∀ k, left k = false) : PickIs xs n (⟨0, 0, 0, 0, 0⟩, 0) false :=
  .inl ⟨rfl, rfl, .inr fun p h1 => by
    cases h2 : candB xs n p
    · rfl
    · rcases h.all p h1 h2 with h3 | h3
      · rw [hl] at h3; cases h3
      · cases h3⟩
theorem Pk.best {xs L ys : List Hd} {n : Int} {left : Lit → Bool} (h : Pk xs n left L) (hl : ∀ k, left k = false) (hb : Bk L ys) (h1 : 1 ≤ n) {y : Hd} (hy : ys[0]? = some y) : PickIs xs n y true := by
  have hp := hb.stb.perm
  have hm : y ∈ ys := List.mem_of_getElem? hy
  obtain ⟨g1, g2, g3⟩ := h.each y (hp.mem_iff.1 hm)
  refine .inr ⟨rfl, h1, g1, g2, g3, fun p k1 k2 => ?_⟩
  rcases h.all p k1 k2 with k3 | k3
  · rw [hl] at k3; cases k3
  · have k4 := hp.mem_iff.2 k3
    cases ys with
    | nil => cases k4
    | cons z zs =>
      obtain rfl : z = y := by simpa using hy
      rcases List.mem_cons.1 k4 with e | hz
      · rw [e]; exact ltU_irr (cnt_right g1)
      · exact (List.pairwise_cons.1 hb.sorted).1 _ hz
section
variable {ops : Array Oper} {o : Oper} {a : Act} {w : World} {K : Act → World → Prop} {Q : Exit → Act → World → Prop} {E : Prop}
theorem step_row {base c c0 n m q : Nat} {A A0 : Option Addr} {xs ys : List Hd} (hg : o.guard = none) (s x : Operand) (hop : o.op = Op.call { callee := Callee.builtin Builtin.append, args := #[s, x], argTypes := #[35, 35] })
    (hs : a.eval s = .slice A0 m c0) (hx : a.eval x = .slice A n c) (hr : Row w base (.slice A0 m c0) xs) (hl : Ls w A c ys) (hm : xs.length = m) (hn : ys.length = n) (hq : m + n = q) (hle : q ≤ 1000) (hb : base ≤ w.heap.size)
    (hK : ∀ A' c' w', Row w' base (.slice A' q c') (xs ++ ys) → w.grownBy w' (Value.slice A0 m c0).ownBlock → K (a.put o.dst (.slice A' q c')) w') :
    if Region.wanted o (yielded ops a.tmps) = true then Oper.wp Tryz.prog o a w K Q else E := by
  subst hn
  subst hm
  subst hq
  obtain ⟨v', w', hrun, hrow, hgr, -⟩ := hr.app hl hle hb o.type
  obtain ⟨A', c', rfl, -⟩ := hrow.ls
  have hw : Region.wanted o (yielded ops a.tmps) = true := by simp [Region.wanted, hg]
  rw [if_pos hw]
  unfold Oper.wp
  simp [execOp, hop, resolve, invoke, builtin, hs, hx, hrun, Result.andThen]
  have := hK A' c' w' (by rw [← List.length_append]; exact hrow) hgr
  exact this
end
end Go.Proofs.YtlhhopanegnliaaGreatDoor.Lk
namespace Go.Proofs.YtlhhopanegnliaaGreatDoor.Lk
open Go Go.RowKit Go.Shelf Go.Maps Pa
set_option maxRecDepth 100000

section
variable {W W' : World} {A : Option Addr} {c : Nat} {xs : List Hd}
theorem only_map {S : Nat → Prop} {b n : Nat} {h : Pt → Bool} {f : Pt → Int} (ho : OnlyS S W W') (hM : MapF W b n h f) (hn : ¬ S b) : MapF W' b n h f := hM.keep (ho.block _ hM.lt hn)
theorem doN_le (x : Nat) : doN x ≤ 6 := by
  unfold doN ofN
  repeat' split
  all_goals omega
abbrev Cl (B : Nat) (x : Pt) (w : World) : Prop := w.cell? ⟨B, 0, none⟩ = some (.int .i64 x.a) ∧ w.cell? ⟨B, 1, none⟩ = some (.int .i64 x.b) ∧ w.cell? ⟨B, 2, none⟩ = some (.int .i64 x.c) ∧ w.cell? ⟨B, 3, none⟩ = some (.int .i64 x.d) ∧ w.cell? ⟨B, 4, none⟩ = some (.int .i64 x.e)
theorem pt_cl {w : World} {B : Nat} {x : Pt} (h : PtAt w B x) : Cl B x w := ⟨h.c0, h.c1, h.c2, h.c3, h.c4⟩
theorem PtAt.grown {w w' : World} {B : Nat} {x : Pt} {row : Option Nat} (h : PtAt w B x) (hg : w.grownBy w' row) (hne : row ≠ some B) : PtAt w' B x := by
  obtain ⟨c0, c1, c2, c3, c4, hl⟩ := h
  have e : w'.heap[B]? = w.heap[B]? := hg.block B hl (fun e => hne e.symm)
  exact ⟨(World.cell?_of_block (w := w) e).trans c0, (World.cell?_of_block (w := w) e).trans c1, (World.cell?_of_block (w := w) e).trans c2, (World.cell?_of_block (w := w) e).trans c3, (World.cell?_of_block (w := w) e).trans c4, Nat.lt_of_lt_of_le hl hg.size⟩
def Zb (w : World) (B : Nat) : Prop := w.heap[B]? = some (.cells #[.int .i64 0, .int .i64 0, .int .i64 0, .int .i64 0, .int .i64 0, .int .i64 0] 39)
theorem Zb.at {w : World} {B : Nat} (h : Zb w B) : Pl6 w B 0 (⟨0, 0, 0, 0, 0⟩, 0) := by
  have h' : w.heap[B]? = _ := h
  refine ⟨?_, ?_, ?_, ?_, ?_, ?_, ?_, ?_, ?_, ?_, ?_, ?_, (Array.getElem?_eq_some_iff.1 h').1⟩ <;> simp [World.cell?, World.frozen?, h']
structure Pe (w4 : World) (b3 r n3 cnt : Nat) (D : DataW Unit) (left : Lit → Bool) (B : Nat) (x : Pt) (L : List Hd) (v : Value) (w : World) : Prop where
  cl : Cl B x w
  row : Row w w4.heap.size v L
  size : w4.heap.size ≤ w.heap.size
  next : ∀ wA, w.grownBy wA v.ownBlock → Cl B x wA ∧ wA.ranges Tryz.prog 30 (plainElem Tryz.prog 3) b3 r n3 D left cnt ∧ OnlyS (· = r) w4 wA
theorem pe_of {w4 w : World} {b3 r n3 cnt : Nat} {D : DataW Unit} {left : Lit → Bool} {B : Nat} {x : Pt} {L : List Hd} {v : Value} (hp : PtAt w B x) (hr : Row w w4.heap.size v L)
    (hg : w.ranges Tryz.prog 30 (plainElem Tryz.prog 3) b3 r n3 D left cnt) (ho : OnlyS (· = r) w4 w) (h1 : r < w4.heap.size) (h2 : b3 < w4.heap.size) (h3 : v.ownBlock ≠ some B) : Pe w4 b3 r n3 cnt D left B x L v w := by
  have hge : ∀ k, v.ownBlock = some k → w4.heap.size ≤ k := fun k e => (hr.lt k e).1
  refine ⟨pt_cl hp, hr, ho.size, fun wA hA => ⟨pt_cl (PtAt.grown hp hA h3), hg.kept hA (fun e => ?_) (fun e => ?_), ho.grown hA fun k e => .inr (hge k e)⟩⟩
  · have := hge b3 e.symm; omega
  · have := hge r e.symm; omega
def Told (W : World) (xs : List Hd) (n : Int) (e : Ending) (w' : World) : Prop := ∃ x b, e = .returned (.tuple #[wv x, .bool b]) ∧ PickIs xs n x b ∧ Below W.heap.size W w'
theorem told_below {w : World} {B K : Nat} (x : Hd) (hK : K ≤ B) (hw : K ≤ w.heap.size) : Below K w ((((((w.setCell ⟨B, 0, none⟩ (.int .i64 x.1.a)).setCell ⟨B, 1, none⟩ (.int .i64 x.1.b)).setCell ⟨B, 2, none⟩ (.int .i64 x.1.c)).setCell ⟨B, 3, none⟩ (.int .i64 x.1.d)).setCell ⟨B, 4, none⟩ (.int .i64 x.1.e)).setCell ⟨B, 5, none⟩ (.int .i64 x.2)) :=
  OnlyS.below (S := (· = B)) ((((((OnlyS.set _ _ _ _).trans (OnlyS.set _ _ _ _)).trans (OnlyS.set _ _ _ _)).trans (OnlyS.set _ _ _ _)).trans (OnlyS.set _ _ _ _)).trans (OnlyS.set _ _ _ _)) (fun k e => by rw [e]; exact hK) hw
set_option maxHeartbeats 16000000 in
theorem pick_any (hr : Ls W A c xs) (hl : xs.length ≤ 400) (hf : ∀ x ∈ xs, FitP x.1 ∧ wf64 x.2) (n : Int) :
    Calls Tryz.prog 58 #[.slice A xs.length c, .int .i64 n] W (Told W xs n) := by
  have HR := Lib.hid hr
  have HF := Lib.hid hf
  have hx := Go.Proofs.YtlhhopanegnliaaGreatDoor.box_below W (.cells #[.int .i64 0, .int .i64 0, .int .i64 0, .int .i64 0, .int .i64 0, .int .i64 0] 39)
  have HX := Lib.hid hx
  clear hr hf hx
  by_cases h1 : n < 1
  · have HPk : Hid (PickIs xs n (⟨0, 0, 0, 0, 0⟩, 0) false) := .inl ⟨rfl, rfl, .inl h1⟩
    generalize xs.length = m at *
    go_enter Tryz.func58, Tryz.ntmps58
    go_wp2_with fail
    refine bodyPost_ret (v := .tuple #[wv (⟨0, 0, 0, 0, 0⟩, 0), .bool false]) (by simp [results, Tryz.results58, go_sem]) rfl ⟨_, _, rfl, HPk.out, ?_⟩
    exact HX.out
  · have H1 := Lib.hid h1
    have HFi := Lib.hid (fun (w : World) (hb : Below W.heap.size W w) => firsts_any (HR.out.below hb) (by omega) HF.out)
    have HDo := Lib.hid (fun (w : World) (hb : Below W.heap.size W w) => done_any (HR.out.below hb) (by omega))
    have HCo := Lib.hid (fun (w : World) (hb : Below W.heap.size W w) => counted_any (HR.out.below hb) (by omega))
    obtain ⟨m, hm⟩ : ∃ m, xs.length = m := ⟨_, rfl⟩
    rw [hm] at HFi HDo HCo hl ⊢
    have hn1 : decide (n < 1) = false := decide_eq_false h1
    clear h1 hm
    go_enter Tryz.func58, Tryz.ntmps58
    go_wp2_with fail
    refine (HFi.out _ HX.out).mono ?_
    rintro e1 w1 ⟨hf1, b1, n1, rfl, hn1', hM1, hb1, hs1⟩
    have HM1 := Lib.hid hM1
    have HB1 := Lib.hid (thenCall HX.out hb1)
    have HB1' := Lib.hid hb1
    have HS1 := Lib.hid hs1
    clear hb1 hs1 hM1
    go_wp2_with fail
    refine (HDo.out _ HB1.out).mono ?_
    rintro e2 w2 ⟨hf2, b2, n2, rfl, hn2', hM2, hb2, hs2⟩
    have HM2 := Lib.hid hM2
    have HB2 := Lib.hid hb2
    have HS2 := Lib.hid hs2
    clear hb2 hs2 hM2
    go_wp2_with fail
    refine (HCo.out _ (thenCall HB1.out HB2.out)).mono ?_
    rintro e3 w3 ⟨b3, n3, rfl, hn3', hM3, hb3, hs3⟩
    have hB3 := thenCall (thenCall HB1.out HB2.out) hb3
    replace hs3 : W.heap.size ≤ b3 := Nat.le_trans (thenCall HB1.out HB2.out).size hs3
    have hM1 := (HM1.out.below HB2.out).below hb3
    have hM2 := HM2.out.below hb3
    have hz3 : w3.heap[W.heap.size]? = some (.cells #[.int .i64 0, .int .i64 0, .int .i64 0, .int .i64 0, .int .i64 0, .int .i64 0] 39) := by
      exact ((thenCall (thenCall HB1'.out HB2.out) hb3).block W.heap.size (by simp)).trans (heap_alloc_new W _)
    obtain ⟨D, hown, hD⟩ := hM3
    have HB3 := Lib.hid hB3
    clear hb3 hB3 HR HF HFi HDo HCo
    go_wp2_with (first
      | (at_range; refine wpList_range_own _ rfl _ 126 rfl 30 3 law25 Tryz.underlying126 _ b3 n3 D rfl hown ?_; intro w4 hrg0 hg0 hs0)
      | go_in)
    go_frame
    have hsz := hown.size_le
    have HM14 := Lib.hid (hM1.keep (hg0.block b1 hM1.lt (by simp)))
    have HM24 := Lib.hid (hM2.keep (hg0.block b2 hM2.lt (by simp)))
    have HZ4 := Lib.hid ((hg0.block W.heap.size (Nat.lt_of_le_of_lt hs3 hown.lt) (by simp)).trans hz3)
    have HB4 : Hid (Below W.heap.size W w4) := ⟨hg0.os.trans HB3.out.os, hg0.tape.trans HB3.out.tape, hg0.output.trans HB3.out.output, Nat.le_trans HB3.out.size hg0.size, fun k hk => (hg0.block k (Nat.lt_of_lt_of_le hk HB3.out.size) (by simp)).trans (HB3.out.block k hk)⟩
    have HLt : Hid (b1 < w3.heap.size ∧ b2 < w3.heap.size ∧ W.heap.size < w3.heap.size ∧ b3 < w3.heap.size ∧ w4.heap.size = w3.heap.size + 1) := ⟨hM1.lt, hM2.lt, Nat.lt_of_le_of_lt hs3 hown.lt, hown.lt, hs0⟩
    have HDd := Lib.hid hD
    clear hM1 hM2 hz3 hg0 hs0 hs3 hown hD HM1 HM2 HB1 HB1' HB2 HB3 HS1 HS2 HX
    generalize w3.heap.size = r at *
    go_loopw [8] (fun v wr => ∃ (left : Lit → Bool) (cnt lm c0 : Nat) (L : List Hd) (SA : Option Addr), v = .slice SA lm c0 ∧ wr.ranges Tryz.prog 30 (plainElem Tryz.prog 3) b3 r n3 D left cnt ∧ OnlyS (· = r) w4 wr ∧
      Row wr w4.heap.size (.slice SA lm c0) L ∧ L.length = lm ∧ lm + cnt ≤ m ∧ Pk xs n left L) (fun _ wr => wr.rangeLeft b3 r)
    case atStart =>
      refine ⟨_, _, 0, 0, [], none, rfl, hrg0, OnlyS.refl _ _, World.ownsRow_nil _ _ _ _, rfl, by omega, fun p hp hh => ?_, by simp, fun p h1 h2 => .inl ?_⟩
      · rw [(HDd.out p hp).1] at hh
        simpa using hh
      · rw [(HDd.out p (fit_right (cnt_right h1))).1]
        simpa using h1
    case round =>
      obtain ⟨left, cnt, lm, c0, L, SA, rfl, hrg, ho, hrow, hLl, hlm, hpk⟩ := hrel
      clear hrg0
      go_wp2_with (first
        | (at_next; refine wpList_next_ranges _ rfl _ rfl 30 law25 (plainElem Tryz.prog 3) (fun p : Pt => p.v) (fun k : Int => .int .i64 k) (fun key kl hkey => by obtain ⟨p, hp, -⟩ := key_inv hkey; exact ⟨p, hp⟩) (fun v y hv => by obtain ⟨k, hk, -⟩ := plainElem_int_inv Tryz.underlying3 hv; exact ⟨k, hk⟩) b3 r n3 D left cnt rfl hrg ?_ ?_)
        | go_in)
      · intro _ hl0
        have hz : Zb wr W.heap.size := (ho.block _ (by have := HLt.out; omega) (by have := HLt.out; omega)).trans HZ4.out
        have HB := Lib.hid (HB4.out.trans (ho.below (B := W.heap.size) (fun k e => by rw [e]; have := HLt.out; omega) HB4.out.size))
        have HZ := Lib.hid hz
        clear hrg ho
        by_cases h0 : lm = 0
        · subst h0
          have hL : L = [] := List.length_eq_zero_iff.1 hLl
          have HPk : Hid (PickIs xs n (⟨0, 0, 0, 0, 0⟩, 0) false) := by
            rw [hL] at hpk
            exact hpk.empty hl0
          obtain ⟨p0, p1, p2, p3, p4, p5, f0, f1, f2, f3, f4, f5, hlt⟩ := hz.at
          clear hrow hLl hpk hz hL
          go_wp2_with fail
          refine bodyPost_ret (v := .tuple #[wv (⟨0, 0, 0, 0, 0⟩, 0), .bool false]) (by simp [results, Tryz.results58, go_sem, p0, p1, p2, p3, p4, p5]) rfl ⟨_, _, rfl, HPk.out, ?_⟩
          exact HB.out.trans (told_below (⟨0, 0, 0, 0, 0⟩, 0) (Nat.le_refl _) HB.out.size)
        · have hls := hrow.ls
          obtain ⟨A', c', e', hls⟩ := hls
          injection e' with g1 g2 g3
          subst g1 g3
          clear g2
          have HBa := Lib.hid (back_any hls (by omega) (fun x hx => cnt_right (hpk.each x hx).1))
          rw [hLl] at HBa
          have HPk := Lib.hid (fun ys (hb : Bk L ys) y (hy : ys[0]? = some y) => hpk.best hl0 hb (by have := H1.out; omega) hy)
          have HLl := Lib.hid hLl
          have hlm0 : ((lm : Int) == 0) = false := by simp; omega
          clear hrow hLl hpk hls hz
          go_wp2_with fail
          refine HBa.out.mono ?_
          rintro e6 w6 ⟨ys, hbk, A2, c2, rfl, hls2, hb2, -⟩
          have hy0 : 0 < ys.length := by
            have := hbk.stb.perm.length_eq
            have := HLl.out
            omega
          obtain ⟨a2, rfl, hh⟩ := hls2.here hy0
          obtain ⟨y, hy⟩ : ∃ y, ys[0] = y := ⟨_, rfl⟩
          rw [hy] at hh
          have HP := Lib.hid (HPk.out ys hbk y (by rw [List.getElem?_eq_getElem hy0, hy]))
          have HB6 := Lib.hid (thenCall HB.out hb2)
          have hz6 : Zb w6 W.heap.size := (hb2.block _ HZ.out.at.lt).trans HZ.out
          obtain ⟨p0, p1, p2, p3, p4, p5, f0, f1, f2, f3, f4, f5, hlt⟩ := hz6.at
          obtain ⟨ly, hly⟩ : ∃ l, ys.length = l := ⟨_, rfl⟩
          rw [hly] at hy0 ⊢
          obtain ⟨⟨ya, yb, yc, yd, ye⟩, ym⟩ := y
          obtain ⟨z0, z1, z2, z3, z4, z5⟩ := hh
          simp only [Nat.zero_mul, add_zero'] at z0 z1 z2 z3 z4 z5
          have zl : (0 : Int) < (ly : Int) := by omega
          clear hbk hls2 hb2 hy hly hz6
          go_wp2_with fail
          refine bodyPost_ret (v := .tuple #[wv (⟨ya, yb, yc, yd, ye⟩, ym), .bool true]) (by simp [results, Tryz.results58, go_sem, p0, p1, p2, p3, p4, p5]) rfl ⟨_, _, rfl, HP.out, ?_⟩
          exact HB6.out.trans (told_below (⟨ya, yb, yc, yd, ye⟩, ym) (Nat.le_refl _) HB6.out.size)
      · intro x k kl y y2 w5 cnt5 hkey hlx hv hat hrg1 hlt hg1 hs1 hen
        obtain ⟨p, hp, hfp, rfl⟩ := key_inv hkey
        obtain rfl : x = p := by
          obtain ⟨xa, xb, xc, xd, xe⟩ := x
          obtain ⟨pa, pb, pc, pd, pe⟩ := p
          simpa using hp
        obtain ⟨k', hk', hy, -⟩ := plainElem_int_inv Tryz.underlying3 hv
        replace hy := congrArg Prod.fst hy
        simp only at hy
        obtain rfl : k = k' := by injection hk'
        have hk : k = (cntL xs x : Nat) := by
          have e1 := hat (.lit (.int .i64 0))
          rw [(HDd.out x hfp).2, hy] at e1
          simpa using e1.symm
        subst hk
        have HSt := Lib.hid (hpk.step hfp hlx)
        have ho5 : OnlyS (· = r) w4 w5 := ho.grown hg1 (fun j e => by injection e with e; exact .inl e.symm)
        have hrow5 : Row w5 w4.heap.size (.slice SA lm c0) L := row_keep hrow (fun g hg => hg1.block g (hrow.lt g hg).2 (fun e => by injection e with e; have := (hrow.lt g hg).1; have := HLt.out; omega))
        have HO5 := Lib.hid ho5
        have HRow5 := Lib.hid hrow5
        have HRg := Lib.hid hrg1
        have HOld := Lib.hid hrg
        have hx5 := Go.Proofs.YtlhhopanegnliaaGreatDoor.box_below w5 (.cells #[.int .i64 x.a, .int .i64 x.b, .int .i64 x.c, .int .i64 x.d, .int .i64 x.e] 30)
        have hM1 := ((only_map HO5.out HM14.out (by have := HLt.out; omega)).grow hx5)
        have hM2 := ((only_map HO5.out HM24.out (by have := HLt.out; omega)).grow hx5)
        have hpt := PtAt.new w5 x.a x.b x.c x.d x.e
        obtain ⟨u, hu⟩ : ∃ u, ofL xs x = u := ⟨_, rfl⟩
        obtain ⟨mm, hmm⟩ : ∃ mm, mxL xs x = mm := ⟨_, rfl⟩
        obtain ⟨kk, hkk⟩ : ∃ kk, cntL xs x = kk := ⟨_, rfl⟩
        obtain ⟨rr, hrr⟩ : ∃ rr, reN (kn u) = rr := ⟨_, rfl⟩
        have hcb : candB xs n x = (decide (n ≤ (kk : Int)) && decide (rr < mm)) := by unfold candB; rw [hu, hmm, hkk, hrr]
        have hit : itemG xs x = (x, ((supN (kn u) (doN mm) : Nat) : Int)) := by unfold itemG; rw [hu, hmm]
        have hmm3 : mm ≤ 3 := by rw [← hmm]; exact mx_le _ _
        rw [hit] at HSt
        have HCb := Lib.hid hcb
        have HLx := Lib.hid (And.intro hu hmm)
        rw [hkk] at hen ⊢
        have HPt := Lib.hid hpt
        have HFp := Lib.hid hfp
        have HRr := Lib.hid hrr
        clear hp hkey hv hy hat hk' hu hmm hkk hrr hcb hit ho5 hrow5 hrg hrg1 hlx ho hrow hpk hg1 hs1
        obtain ⟨xa, xb, xc, xd, xe⟩ := x
        simp only at hx5 HPt hpt
        go_wp2_with fail
        obtain ⟨W1, hW1⟩ : ∃ W1, w5.alloc (.cells #[.int .i64 xa, .int .i64 xb, .int .i64 xc, .int .i64 xd, .int .i64 xe] 30) = W1 := ⟨_, rfl⟩
        unfold boxed at HPt hpt
        rw [hW1] at HPt hpt hx5
        simp only [hW1] at hM1 hM2
        rw [hW1]
        have hb1W : b1 < w5.heap.size := Nat.lt_of_lt_of_le (by have := HLt.out; omega) HO5.out.size
        have hlk1 : ∀ z : Pa.Later W1, (Instr.lookup 126 (.map (some b1)) (.agg #[.int .i64 xa, .int .i64 xb, .int .i64 xc, .int .i64 xd, .int .i64 xe]) false).run Tryz.prog z.w = .ok (.int .i64 u) z.w := fun z => by
          have h := (hM1.below z.h).look HFp.out
          rw [HLx.out.1] at h
          exact h
        have hlk2 : ∀ z : Pa.Later W1, (Instr.lookup 126 (.map (some b2)) (.agg #[.int .i64 xa, .int .i64 xb, .int .i64 xc, .int .i64 xd, .int .i64 xe]) false).run Tryz.prog z.w = .ok (.int .i64 (mm : Nat)) z.w := fun z => by
          have h := (hM2.below z.h).look HFp.out
          rw [HLx.out.2] at h
          exact h
        have gD : Pa.Gives W1 100 #[.int .i64 u] (.int .i64 (rr : Nat)) := wgives fun w _ => by have := gdoes_any u w; rwa [HRr.out] at this
        obtain ⟨p0, p1, p2, p3, p4, plt⟩ := hpt
        simp only at p0 p1 p2 p3 p4
        have HM1 := Lib.hid hM1
        have HM2 := Lib.hid hM2
        have HX5 := Lib.hid hx5
        clear hM1 hM2 hx5 hW1
        have HBk := Lib.hid (fun (w7 : World) (hb : Below w5.heap.size w5 w7) => (⟨HRg.out.kept (Pa.below_grown hb) (by simp) (by simp), HO5.out.trans (OnlyS.of_below hb), row_below HRow5.out hb⟩ : w7.ranges Tryz.prog 30 (plainElem Tryz.prog 3) b3 r n3 D (fun z => left z && !z.sameKey (klP ⟨xa, xb, xc, xd, xe⟩)) cnt5 ∧ OnlyS (· = r) w4 w7 ∧ Row w7 w4.heap.size (.slice SA lm c0) L))
        by_cases hc1 : n ≤ (kk : Int)
        · by_cases hc2 : rr < mm
          · have hc2' : (rr : Int) < (mm : Int) := by omega
            have hct : candB xs n ⟨xa, xb, xc, xd, xe⟩ = true := by rw [HCb.out, decide_eq_true hc1, decide_eq_true hc2]; rfl
            rw [hct] at HSt
            refine Pa.wp_region_later W1 (by kernel_rfl) (by kernel_rfl) (Below.refl _ _) ?_
            repeat (go_big_quiet_step ((go_at_call 100; exact Pa.Gives.later (by with_reducible assumption))))
            refine wpQuiet_nil ?_
            rintro w7 ⟨⟨_, hb7⟩, rfl⟩
            have hbd : Below W1.heap.size W1 w7.drew := hb7.trans ⟨rfl, rfl, rfl, Nat.le_refl _, fun _ _ => rfl⟩
            have hp7 := HPt.out.later hbd
            have hm17 := HM1.out.below hbd
            have hl1 := hm17.look HFp.out
            have hl2 := (HM2.out.below hbd).look HFp.out
            rw [HLx.out.1] at hl1
            rw [HLx.out.2] at hl2
            have HP7 := Lib.hid hp7
            have HM17 := Lib.hid hm17
            have hq : Cl w5.heap.size ⟨xa, xb, xc, xd, xe⟩ w7.drew := pt_cl hp7
            have HA := Lib.hid (fun (w8 : World) (hb : Below w7.drew.heap.size w7.drew w8) => (⟨pt_cl (HP7.out.later hb), by have h := (HM17.out.below hb).look HFp.out; rw [HLx.out.1] at h; exact h⟩ : Cl w5.heap.size ⟨xa, xb, xc, xd, xe⟩ w8 ∧ (Instr.lookup 126 (.map (some b1)) (Pt.v ⟨xa, xb, xc, xd, xe⟩) false).run Tryz.prog w8 = .ok (.int .i64 u) w8))
            have HD7 := Lib.hid (thenCall HX5.out hbd)
            have hkd : kn ((doN mm : Nat) : Int) = doN mm := kn_nat (doN_le mm)
            have HKd := Lib.hid hkd
            unfold Cl at hq HA
            simp only at hq HA
            have HE9 := Lib.hid (fun (w9 : World) (hb : Below w7.drew.heap.size w7.drew w9) (it : Hd) => (⟨pt_cl (HP7.out.later hb), by
              have hbx := thenCall hb (Go.Proofs.YtlhhopanegnliaaGreatDoor.box_below w9 (.cells #[.int .i64 it.1.a, .int .i64 it.1.b, .int .i64 it.1.c, .int .i64 it.1.d, .int .i64 it.1.e, .int .i64 it.2] 39))
              obtain ⟨k1, k2, k3⟩ := HBk.out _ (thenCall HD7.out hbx)
              exact pe_of (HP7.out.later hbx) k3 k1 k2 (by have := HLt.out; omega) (by have := HLt.out; omega) (fun e => by have := (HRow5.out.lt _ e).2; omega)⟩ : Cl w5.heap.size ⟨xa, xb, xc, xd, xe⟩ w9 ∧ Pe w4 b3 r n3 cnt5 D (fun z => left z && !z.sameKey (klP ⟨xa, xb, xc, xd, xe⟩)) w5.heap.size ⟨xa, xb, xc, xd, xe⟩ L (.slice SA lm c0) (w9.alloc (.cells #[.int .i64 it.1.a, .int .i64 it.1.b, .int .i64 it.1.c, .int .i64 it.1.d, .int .i64 it.1.e, .int .i64 it.2] 39))))
            have HLl := Lib.hid hLl
            clear gD hlk1 hlk2 p0 p1 p2 p3 p4 plt hb7 hbd hp7 hm17 hkd
            go_wp2_with fail
            go_region_held3 (fun w' => w'.cell? ⟨w5.heap.size, 0, none⟩ = some (.int .i64 xa) ∧ w'.cell? ⟨w5.heap.size, 1, none⟩ = some (.int .i64 xb) ∧ w'.cell? ⟨w5.heap.size, 2, none⟩ = some (.int .i64 xc) ∧ w'.cell? ⟨w5.heap.size, 3, none⟩ = some (.int .i64 xd) ∧ w'.cell? ⟨w5.heap.size, 4, none⟩ = some (.int .i64 xe)) (first | exact hq | exact hs8 | exact hs9.1 | exact hs9.2.cl | exact hsA.1)
              (first
                | (go_at_call 101; (with_reducible refine (doing_any mm hmm3 _).mono ?_); rintro e8 w8 ⟨rfl, hb8⟩; obtain ⟨hs8, hl8⟩ := HA.out w8 hb8)
                | (go_at_call 73; (with_reducible refine (sup_any u ((doN mm : Nat) : Int) _ _ (Below.refl _ _)).mono ?_); rintro e9 w9 ⟨rfl, hb9⟩; rw [HKd.out]; have hs9 := HE9.out w9 (thenCall hb8 hb9) (⟨xa, xb, xc, xd, xe⟩, ((supN (kn u) (doN mm) : Nat) : Int)))
                | (refine step_row (base := w4.heap.size) (A := some ⟨w9.heap.size, 0, none⟩) (A0 := SA) (c0 := c0) (c := 1) (n := 1) (m := lm) (q := lm + 1) (xs := L) (ys := [(⟨xa, xb, xc, xd, xe⟩, ((supN (kn u) (doN mm) : Nat) : Int))]) ?h1 (.tmp 39) (.tmp 50) ?h2 ?h3 ?h4 ?h5 ?h6 HLl.out rfl rfl ?h7 ?h8 ?_; rotate_right; (case h1 => rfl); (case h2 => rfl); (case h3 => kernel_rfl); (case h4 => kernel_rfl); (case h5 => exact hs9.2.row); (case h6 => exact box_ls w9 (⟨xa, xb, xc, xd, xe⟩, ((supN (kn u) (doN mm) : Nat) : Int))); (case h7 => omega); (case h8 => exact hs9.2.size); intro A9 c9 wA hrA hgA; have hsA := hs9.2.next wA hgA)
                | fail)
            all_goals
              have HF9 := Lib.hid (And.intro hsA.2 hrA)
              clear hrA hgA hs9 hsA
              go_wp2_with fail
              go_roundw
              case rel => exact ⟨_, cnt5, lm + 1, c9, _, A9, rfl, HF9.out.1.1, HF9.out.1.2, HF9.out.2, by rw [List.length_append, HLl.out]; rfl, by omega, HSt.out⟩
              case measure => rw [HF9.out.1.1.left_eq, HOld.out.left_eq]; exact hlt
          · have hc2' : ¬ (rr : Int) < (mm : Int) := by omega
            have hcf : candB xs n ⟨xa, xb, xc, xd, xe⟩ = false := by rw [HCb.out, decide_eq_false hc2, Bool.and_false]
            rw [hcf] at HSt
            refine Pa.wp_region_later W1 (by kernel_rfl) (by kernel_rfl) (Below.refl _ _) ?_
            repeat (go_big_quiet_step ((go_at_call 100; exact Pa.Gives.later (by with_reducible assumption))))
            refine wpQuiet_nil ?_
            rintro w7 ⟨⟨_, hb7⟩, rfl⟩
            have HB7 := Lib.hid (HBk.out w7 (thenCall HX5.out hb7))
            clear gD hlk1 hlk2 p0 p1 p2 p3 p4 plt hb7
            go_wp2_with fail
            go_roundw
            case rel => exact ⟨_, cnt5, lm, c0, L, SA, rfl, HB7.out.1, HB7.out.2.1, HB7.out.2.2, hLl, by omega, HSt.out⟩
            case measure => rw [HB7.out.1.left_eq, HOld.out.left_eq]; exact hlt
        · have hcf : candB xs n ⟨xa, xb, xc, xd, xe⟩ = false := by rw [HCb.out, decide_eq_false hc1]; rfl
          rw [hcf] at HSt
          refine Pa.wp_region_later W1 (by kernel_rfl) (by kernel_rfl) (Below.refl _ _) ?_
          repeat (go_big_quiet_step ((go_at_call 100; exact Pa.Gives.later (by with_reducible assumption))))
          refine wpQuiet_nil ?_
          rintro w7 ⟨⟨_, hb7⟩, rfl⟩
          have HB7 := Lib.hid (HBk.out w7 (thenCall HX5.out hb7))
          clear gD hlk1 hlk2 p0 p1 p2 p3 p4 plt hb7
          go_wp2_with fail
          go_roundw
          case rel => exact ⟨_, cnt5, lm, c0, L, SA, rfl, HB7.out.1, HB7.out.2.1, HB7.out.2.2, hLl, by omega, HSt.out⟩
          case measure => rw [HB7.out.1.left_eq, HOld.out.left_eq]; exact hlt
end
end Go.Proofs.YtlhhopanegnliaaGreatDoor.Lk
