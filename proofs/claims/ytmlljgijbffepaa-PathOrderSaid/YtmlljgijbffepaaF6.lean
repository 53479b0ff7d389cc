/- The contract of the function that gives what two nodes have in common. -/
import Derived.Test.YtmlljgijbffepaaF4
import Derived.Test.YtmlljgijbffepaaK2
namespace Go.Proofs.Ytmlljgijbffepaa
open Go Go.RowKit

/-- the deepest of the first k cuts in which two nodes are alike -/
def comL (p q : Pt) : Nat → Option Pt
  | 0 => none
  | k + 1 => if eqP (cutP p ((k : Nat) + 1)) (cutP q ((k : Nat) + 1)) = true then some (cutP p ((k : Nat) + 1)) else comL p q k
def optV : Option Pt → Value
  | some t => .tuple #[t.v, .bool true]
  | none => .tuple #[Pt.v ⟨0, 0, 0, 0, 0⟩, .bool false]
def comV (p q : Pt) : Value := optV (if rightB p = true ∧ rightB q = true then comL p q (min p.e.toNat q.e.toNat) else none)

theorem three_kept {w w1 : World} {a b c d e a' b' c' d' e' : Int} (hb : Below (boxed (boxed (boxed w a b c d e) a' b' c' d' e') 0 0 0 0 0).heap.size (boxed (boxed (boxed w a b c d e) a' b' c' d' e') 0 0 0 0 0) w1) :
    PtAt w1 w.heap.size ⟨a, b, c, d, e⟩ ∧ PtAt w1 (w.heap.size + 1) ⟨a', b', c', d', e'⟩ ∧ PtAt w1 (w.heap.size + 1 + 1) ⟨0, 0, 0, 0, 0⟩ ∧ (w1.frozen? ⟨w.heap.size + 1 + 1, 0, none⟩ = false ∧ w1.frozen? ⟨w.heap.size + 1 + 1, 1, none⟩ = false ∧ w1.frozen? ⟨w.heap.size + 1 + 1, 2, none⟩ = false ∧ w1.frozen? ⟨w.heap.size + 1 + 1, 3, none⟩ = false ∧ w1.frozen? ⟨w.heap.size + 1 + 1, 4, none⟩ = false) ∧ Below w.heap.size w w1 := by
  have h0 := (((PtAt.new w a b c d e).alloc (.cells #[.int .i64 a', .int .i64 b', .int .i64 c', .int .i64 d', .int .i64 e'] 24)).alloc (.cells #[.int .i64 0, .int .i64 0, .int .i64 0, .int .i64 0, .int .i64 0] 24)).later hb
  have h1 := ((PtAt.new (boxed w a b c d e) a' b' c' d' e').alloc (.cells #[.int .i64 0, .int .i64 0, .int .i64 0, .int .i64 0, .int .i64 0] 24)).later hb
  have h2 := (PtAt.new (boxed (boxed w a b c d e) a' b' c' d' e') 0 0 0 0 0).later hb
  obtain ⟨_, hf⟩ := kept hb
  refine ⟨h0, by simpa using h1, by simpa using h2, ⟨?_, ?_, ?_, ?_, ?_⟩, ?_⟩
  · rw [hf _ _ (by simp)]; simp [go_sem]
  · rw [hf _ _ (by simp)]; simp [go_sem]
  · rw [hf _ _ (by simp)]; simp [go_sem]
  · rw [hf _ _ (by simp)]; simp [go_sem]
  · rw [hf _ _ (by simp)]; simp [go_sem]
  · exact (endBox (endBox (box_below w _) _) _).trans (hb.mono (by simp; omega))

set_option maxHeartbeats 2000000 in
theorem common_no (a b c d e a' b' c' d' e' : Int) (w : World) (rp rq : Bool) (hp : rightB ⟨a, b, c, d, e⟩ = rp) (hq : rightB ⟨a', b', c', d', e'⟩ = rq) (h : rp = false ∨ rq = false) :
    Calls Try.prog 9 #[Pt.v ⟨a, b, c, d, e⟩, Pt.v ⟨a', b', c', d', e'⟩] w fun e w' => e = .returned (optV none) ∧ Below w.heap.size w w' := by
  have gp : Gives (boxed (boxed (boxed w a b c d e) a' b' c' d' e') 0 0 0 0 0) 22 #[Pt.v ⟨a, b, c, d, e⟩] (.bool rp) := may_g hp
  have gq : Gives (boxed (boxed (boxed w a b c d e) a' b' c' d' e') 0 0 0 0 0) 22 #[Pt.v ⟨a', b', c', d', e'⟩] (.bool rq) := may_g hq
  have H := Lib.hid h
  clear h hp hq
  cases rp
  · go_enter Try.func9, Try.ntmps9
    go_wp2_with fail
    refine Gives.useK gp (Below.refl _ _) ?_
    intro w2 hb2
    obtain ⟨⟨c0, c1, c2, c3, c4, l1⟩, ⟨d0, d1, d2, d3, d4, l2⟩, ⟨e0, e1, e2, e3, e4, l3⟩, ⟨f0, f1, f2, f3, f4⟩, hbe⟩ := three_kept hb2
    go_wp2_with fail
    exact bodyPost_ret (v := .tuple #[Pt.v ⟨0, 0, 0, 0, 0⟩, .bool false]) (by simp [results, Try.results9, go_sem, e0, e1, e2, e3, e4]) rfl ⟨rfl, below_set5 hbe (by omega) _ _ _ _ _⟩
  · cases rq
    · go_enter Try.func9, Try.ntmps9
      go_wp2_with fail
      refine Gives.useK gp (Below.refl _ _) ?_
      intro w2 hb2
      obtain ⟨⟨c0, c1, c2, c3, c4, l1⟩, ⟨d0, d1, d2, d3, d4, l2⟩, ⟨e0, e1, e2, e3, e4, l3⟩, ⟨f0, f1, f2, f3, f4⟩, hbe⟩ := three_kept hb2
      go_wp2_with fail
      refine Gives.useK gq hb2 ?_
      intro w3 hb3
      clear c0 c1 c2 c3 c4 d0 d1 d2 d3 d4 e0 e1 e2 e3 e4 f0 f1 f2 f3 f4 hbe l1 l2 l3
      obtain ⟨⟨c0, c1, c2, c3, c4, l1⟩, ⟨d0, d1, d2, d3, d4, l2⟩, ⟨e0, e1, e2, e3, e4, l3⟩, ⟨f0, f1, f2, f3, f4⟩, hbe⟩ := three_kept hb3
      go_wp2_with fail
      exact bodyPost_ret (v := .tuple #[Pt.v ⟨0, 0, 0, 0, 0⟩, .bool false]) (by simp [results, Try.results9, go_sem, e0, e1, e2, e3, e4]) rfl ⟨rfl, below_set5 hbe (by omega) _ _ _ _ _⟩
    · have := H.out; simp at this

theorem comL_hit {p q : Pt} {j : Nat} (h : eqP (cutP p ((j : Nat) + 1)) (cutP q ((j : Nat) + 1)) = true) : comL p q (j + 1) = some (cutP p ((j : Nat) + 1)) := by rw [comL, if_pos h]
theorem comL_miss {p q : Pt} {j : Nat} (h : eqP (cutP p ((j : Nat) + 1)) (cutP q ((j : Nat) + 1)) = false) : comL p q (j + 1) = comL p q j := by rw [comL, if_neg (by rw [h]; exact Bool.false_ne_true)]
def CmRel (p q : Pt) (m : Nat) (i : Value) : Prop := ∃ j : Nat, j ≤ m ∧ i = .int .i64 (j : Nat) ∧ comL p q j = comL p q m
theorem ret_opt {o o' : Option Pt} (h : o = o') : Ending.returned (optV o) = .returned (optV o') := by rw [h]

set_option maxHeartbeats 4000000 in
theorem common_yes (a b c d a' b' c' d' : Int) (k k' : Nat) (w : World) (hp : rightB ⟨a, b, c, d, k⟩ = true) (hq : rightB ⟨a', b', c', d', k'⟩ = true) (k1 : 1 ≤ k) (k4 : k ≤ 4) (k1' : 1 ≤ k') (k4' : k' ≤ 4) :
    Calls Try.prog 9 #[Pt.v ⟨a, b, c, d, k⟩, Pt.v ⟨a', b', c', d', k'⟩] w fun e w' => e = .returned (optV (comL ⟨a, b, c, d, k⟩ ⟨a', b', c', d', k'⟩ (min k k'))) ∧ Below w.heap.size w w' := by
  have gp : Gives (boxed (boxed (boxed w a b c d k) a' b' c' d' k') 0 0 0 0 0) 22 #[Pt.v ⟨a, b, c, d, k⟩] (.bool true) := may_g hp
  have gq : Gives (boxed (boxed (boxed w a b c d k) a' b' c' d' k') 0 0 0 0 0) 22 #[Pt.v ⟨a', b', c', d', k'⟩] (.bool true) := may_g hq
  by_cases hlt : k' < k
  · rw [show min k k' = k' by omega]
    have hi : (k' : Int) < (k : Int) := by omega
    clear hp hq
    go_enter Try.func9, Try.ntmps9
    go_wp2_with fail
    refine Gives.useK gp (Below.refl _ _) ?_
    intro w2 hb2
    obtain ⟨⟨c0, c1, c2, c3, c4, l1⟩, ⟨d0, d1, d2, d3, d4, l2⟩, ⟨e0, e1, e2, e3, e4, l3⟩, ⟨f0, f1, f2, f3, f4⟩, hbe⟩ := three_kept hb2
    go_wp2_with fail
    refine Gives.useK gq hb2 ?_
    intro w3 hb3
    clear c0 c1 c2 c3 c4 d0 d1 d2 d3 d4 e0 e1 e2 e3 e4 f0 f1 f2 f3 f4 hbe l1 l2 l3
    obtain ⟨⟨c0, c1, c2, c3, c4, l1⟩, ⟨d0, d1, d2, d3, d4, l2⟩, ⟨e0, e1, e2, e3, e4, l3⟩, ⟨f0, f1, f2, f3, f4⟩, hbe⟩ := three_kept hb3
    go_wp2_with fail
    clear c0 c1 c2 c3 c4 d0 d1 d2 d3 d4 e0 e1 e2 e3 e4 f0 f1 f2 f3 f4 hbe l1 l2 l3
    go_loopw [6] (fun i wr => CmRel ⟨a, b, c, d, k⟩ ⟨a', b', c', d', k'⟩ k' i ∧ Below (boxed (boxed (boxed w a b c d k) a' b' c' d' k') 0 0 0 0 0).heap.size (boxed (boxed (boxed w a b c d k) a' b' c' d' k') 0 0 0 0 0) wr) (fun i _ => (intOf i).toNat)
    case atStart => exact ⟨⟨k', by omega, rfl, rfl⟩, hb3⟩
    case round =>
      obtain ⟨⟨j, hj, rfl, hE⟩, hb⟩ := hrel
      have HE := Lib.hid hE
      clear hE
      obtain ⟨hp1, hq1, hr1, ⟨f0, f1, f2, f3, f4⟩, hbe⟩ := three_kept hb
      obtain ⟨c0, c1, c2, c3, c4, l1⟩ := id hp1
      obtain ⟨e0, e1, e2, e3, e4, l3⟩ := id hr1
      cases j with
      | zero =>
        have hz : ¬ (0 : Int) < ((0 : Nat) : Int) := by omega
        go_wp2_with fail
        exact bodyPost_ret (v := .tuple #[Pt.v ⟨0, 0, 0, 0, 0⟩, .bool false]) (by simp [results, Try.results9, go_sem, e0, e1, e2, e3, e4]) rfl ⟨ret_opt (show none = _ from HE.out), below_set5 hbe (by omega) _ _ _ _ _⟩
      | succ j =>
        have i1 : (0 : Int) < ((j + 1 : Nat) : Int) := by omega
        rw [show ((j + 1 : Nat) : Int) = (j : Int) + 1 by omega] at i1 ⊢
        obtain ⟨⟨x0, x1, x2, x3, x4⟩, hx⟩ : ∃ x, cutP ⟨a, b, c, d, k⟩ ((j : Nat) + 1) = x := ⟨_, rfl⟩
        obtain ⟨⟨y0, y1, y2, y3, y4⟩, hy⟩ : ∃ y, cutP ⟨a', b', c', d', k'⟩ ((j : Nat) + 1) = y := ⟨_, rfl⟩
        go_wp2_with fail
        refine (top_any ⟨a, b, c, d, k⟩ ((j : Int) + 1) _ (by omega) (by omega)).mono ?_
        rintro e5 w4 ⟨rfl, hb4⟩
        rw [hx]
        clear c0 c1 c2 c3 c4 e0 e1 e2 e3 e4 f0 f1 f2 f3 f4
        have hb4' := hb.trans (hb4.mono hb.size)
        have hbo := hb4'.alloc hb4'.size (.cells #[.int .i64 x0, .int .i64 x1, .int .i64 x2, .int .i64 x3, .int .i64 x4] 24)
        have ht5 : PtAt (w4.alloc (.cells #[.int .i64 x0, .int .i64 x1, .int .i64 x2, .int .i64 x3, .int .i64 x4] 24)) w4.heap.size ⟨x0, x1, x2, x3, x4⟩ := PtAt.new w4 x0 x1 x2 x3 x4
        go_wp2_with fail
        generalize w4.alloc (.cells #[.int .i64 x0, .int .i64 x1, .int .i64 x2, .int .i64 x3, .int .i64 x4] 24) = w5 at hbo ht5 ⊢
        obtain ⟨t0, t1, t2, t3, t4, tl⟩ := id ht5
        obtain ⟨⟨c0, c1, c2, c3, c4, m1⟩, ⟨d0, d1, d2, d3, d4, m2⟩, _, _, _⟩ := three_kept hbo
        have gt : Gives w5 24 #[Pt.v ⟨a', b', c', d', k'⟩, .int .i64 ((j : Int) + 1)] (Pt.v ⟨y0, y1, y2, y3, y4⟩) := by rw [← hy]; exact top_g (by omega) (by omega)
        cases he : eqP ⟨x0, x1, x2, x3, x4⟩ ⟨y0, y1, y2, y3, y4⟩
        · have HM : Hid (comL ⟨a, b, c, d, k⟩ ⟨a', b', c', d', k'⟩ (j + 1) = comL ⟨a, b, c, d, k⟩ ⟨a', b', c', d', k'⟩ j) := Lib.hid (comL_miss (by rw [hx, hy]; exact he))
          clear hx hy
          refine wp_region_later w5 (by kernel_rfl) (by kernel_rfl) (Below.refl _ _) ?_
          repeat (go_big_quiet_step ((go_at_call 24; exact Gives.later (by with_reducible assumption))))
          refine wpQuiet_nil ?_
          rintro _ ⟨⟨w6, hb6⟩, rfl⟩
          clear c0 c1 c2 c3 c4 d0 d1 d2 d3 d4 t0 t1 t2 t3 t4
          go_wp2_with fail
          go_roundw
          case rel => exact ⟨⟨j, by omega, by go_num, HM.out.symm.trans HE.out⟩, hbo.trans (hb6.mono hbo.size)⟩
          case measure => first | (simp [intOf]; done) | (simp [intOf]; omega)
        · have HM : Hid (comL ⟨a, b, c, d, k⟩ ⟨a', b', c', d', k'⟩ (j + 1) = some ⟨x0, x1, x2, x3, x4⟩) := Lib.hid (by rw [comL_hit (by rw [hx, hy]; exact he), hx])
          clear hx hy
          refine wp_region_later w5 (by kernel_rfl) (by kernel_rfl) (Below.refl _ _) ?_
          repeat (go_big_quiet_step ((go_at_call 24; exact Gives.later (by with_reducible assumption))))
          refine wpQuiet_nil ?_
          rintro _ ⟨⟨w6, hb6⟩, rfl⟩
          clear c0 c1 c2 c3 c4 d0 d1 d2 d3 d4 t0 t1 t2 t3 t4
          obtain ⟨t0, t1, t2, t3, t4, tl6⟩ := ht5.later hb6
          have hb7 := hbo.trans (hb6.mono hbo.size)
          obtain ⟨_, _, ⟨e0, e1, e2, e3, e4, l3'⟩, ⟨f0, f1, f2, f3, f4⟩, hbe7⟩ := three_kept hb7
          go_wp2_with fail
          exact bodyPost_ret (v := .tuple #[Pt.v ⟨x0, x1, x2, x3, x4⟩, .bool true]) (by simp [results, Try.results9, go_sem, e0, e1, e2, e3, e4]) rfl ⟨ret_opt (show some _ = _ from HM.out.symm.trans HE.out), below_set5 hbe7 (by omega) _ _ _ _ _⟩

  · rw [show min k k' = k by omega]
    have hi : ¬ (k' : Int) < (k : Int) := by omega
    clear hp hq
    go_enter Try.func9, Try.ntmps9
    go_wp2_with fail
    refine Gives.useK gp (Below.refl _ _) ?_
    intro w2 hb2
    obtain ⟨⟨c0, c1, c2, c3, c4, l1⟩, ⟨d0, d1, d2, d3, d4, l2⟩, ⟨e0, e1, e2, e3, e4, l3⟩, ⟨f0, f1, f2, f3, f4⟩, hbe⟩ := three_kept hb2
    go_wp2_with fail
    refine Gives.useK gq hb2 ?_
    intro w3 hb3
    clear c0 c1 c2 c3 c4 d0 d1 d2 d3 d4 e0 e1 e2 e3 e4 f0 f1 f2 f3 f4 hbe l1 l2 l3
    obtain ⟨⟨c0, c1, c2, c3, c4, l1⟩, ⟨d0, d1, d2, d3, d4, l2⟩, ⟨e0, e1, e2, e3, e4, l3⟩, ⟨f0, f1, f2, f3, f4⟩, hbe⟩ := three_kept hb3
    go_wp2_with fail
    clear c0 c1 c2 c3 c4 d0 d1 d2 d3 d4 e0 e1 e2 e3 e4 f0 f1 f2 f3 f4 hbe l1 l2 l3
    go_loopw [6] (fun i wr => CmRel ⟨a, b, c, d, k⟩ ⟨a', b', c', d', k'⟩ k i ∧ Below (boxed (boxed (boxed w a b c d k) a' b' c' d' k') 0 0 0 0 0).heap.size (boxed (boxed (boxed w a b c d k) a' b' c' d' k') 0 0 0 0 0) wr) (fun i _ => (intOf i).toNat)
    case atStart => exact ⟨⟨k, by omega, rfl, rfl⟩, hb3⟩
    case round =>
      obtain ⟨⟨j, hj, rfl, hE⟩, hb⟩ := hrel
      have HE := Lib.hid hE
      clear hE
      obtain ⟨hp1, hq1, hr1, ⟨f0, f1, f2, f3, f4⟩, hbe⟩ := three_kept hb
      obtain ⟨c0, c1, c2, c3, c4, l1⟩ := id hp1
      obtain ⟨e0, e1, e2, e3, e4, l3⟩ := id hr1
      cases j with
      | zero =>
        have hz : ¬ (0 : Int) < ((0 : Nat) : Int) := by omega
        go_wp2_with fail
        exact bodyPost_ret (v := .tuple #[Pt.v ⟨0, 0, 0, 0, 0⟩, .bool false]) (by simp [results, Try.results9, go_sem, e0, e1, e2, e3, e4]) rfl ⟨ret_opt (show none = _ from HE.out), below_set5 hbe (by omega) _ _ _ _ _⟩
      | succ j =>
        have i1 : (0 : Int) < ((j + 1 : Nat) : Int) := by omega
        rw [show ((j + 1 : Nat) : Int) = (j : Int) + 1 by omega] at i1 ⊢
        obtain ⟨⟨x0, x1, x2, x3, x4⟩, hx⟩ : ∃ x, cutP ⟨a, b, c, d, k⟩ ((j : Nat) + 1) = x := ⟨_, rfl⟩
        obtain ⟨⟨y0, y1, y2, y3, y4⟩, hy⟩ : ∃ y, cutP ⟨a', b', c', d', k'⟩ ((j : Nat) + 1) = y := ⟨_, rfl⟩
        go_wp2_with fail
        refine (top_any ⟨a, b, c, d, k⟩ ((j : Int) + 1) _ (by omega) (by omega)).mono ?_
        rintro e5 w4 ⟨rfl, hb4⟩
        rw [hx]
        clear c0 c1 c2 c3 c4 e0 e1 e2 e3 e4 f0 f1 f2 f3 f4
        have hb4' := hb.trans (hb4.mono hb.size)
        have hbo := hb4'.alloc hb4'.size (.cells #[.int .i64 x0, .int .i64 x1, .int .i64 x2, .int .i64 x3, .int .i64 x4] 24)
        have ht5 : PtAt (w4.alloc (.cells #[.int .i64 x0, .int .i64 x1, .int .i64 x2, .int .i64 x3, .int .i64 x4] 24)) w4.heap.size ⟨x0, x1, x2, x3, x4⟩ := PtAt.new w4 x0 x1 x2 x3 x4
        go_wp2_with fail
        generalize w4.alloc (.cells #[.int .i64 x0, .int .i64 x1, .int .i64 x2, .int .i64 x3, .int .i64 x4] 24) = w5 at hbo ht5 ⊢
        obtain ⟨t0, t1, t2, t3, t4, tl⟩ := id ht5
        obtain ⟨⟨c0, c1, c2, c3, c4, m1⟩, ⟨d0, d1, d2, d3, d4, m2⟩, _, _, _⟩ := three_kept hbo
        have gt : Gives w5 24 #[Pt.v ⟨a', b', c', d', k'⟩, .int .i64 ((j : Int) + 1)] (Pt.v ⟨y0, y1, y2, y3, y4⟩) := by rw [← hy]; exact top_g (by omega) (by omega)
        cases he : eqP ⟨x0, x1, x2, x3, x4⟩ ⟨y0, y1, y2, y3, y4⟩
        · have HM : Hid (comL ⟨a, b, c, d, k⟩ ⟨a', b', c', d', k'⟩ (j + 1) = comL ⟨a, b, c, d, k⟩ ⟨a', b', c', d', k'⟩ j) := Lib.hid (comL_miss (by rw [hx, hy]; exact he))
          clear hx hy
          refine wp_region_later w5 (by kernel_rfl) (by kernel_rfl) (Below.refl _ _) ?_
          repeat (go_big_quiet_step ((go_at_call 24; exact Gives.later (by with_reducible assumption))))
          refine wpQuiet_nil ?_
          rintro _ ⟨⟨w6, hb6⟩, rfl⟩
          clear c0 c1 c2 c3 c4 d0 d1 d2 d3 d4 t0 t1 t2 t3 t4
          go_wp2_with fail
          go_roundw
          case rel => exact ⟨⟨j, by omega, by go_num, HM.out.symm.trans HE.out⟩, hbo.trans (hb6.mono hbo.size)⟩
          case measure => first | (simp [intOf]; done) | (simp [intOf]; omega)
        · have HM : Hid (comL ⟨a, b, c, d, k⟩ ⟨a', b', c', d', k'⟩ (j + 1) = some ⟨x0, x1, x2, x3, x4⟩) := Lib.hid (by rw [comL_hit (by rw [hx, hy]; exact he), hx])
          clear hx hy
          refine wp_region_later w5 (by kernel_rfl) (by kernel_rfl) (Below.refl _ _) ?_
          repeat (go_big_quiet_step ((go_at_call 24; exact Gives.later (by with_reducible assumption))))
          refine wpQuiet_nil ?_
          rintro _ ⟨⟨w6, hb6⟩, rfl⟩
          clear c0 c1 c2 c3 c4 d0 d1 d2 d3 d4 t0 t1 t2 t3 t4
          obtain ⟨t0, t1, t2, t3, t4, tl6⟩ := ht5.later hb6
          have hb7 := hbo.trans (hb6.mono hbo.size)
          obtain ⟨_, _, ⟨e0, e1, e2, e3, e4, l3'⟩, ⟨f0, f1, f2, f3, f4⟩, hbe7⟩ := three_kept hb7
          go_wp2_with fail
          exact bodyPost_ret (v := .tuple #[Pt.v ⟨x0, x1, x2, x3, x4⟩, .bool true]) (by simp [results, Try.results9, go_sem, e0, e1, e2, e3, e4]) rfl ⟨ret_opt (show some _ = _ from HM.out.symm.trans HE.out), below_set5 hbe7 (by omega) _ _ _ _ _⟩

theorem common_any (p q : Pt) (w : World) : Calls Try.prog 9 #[p.v, q.v] w fun e w' => e = .returned (comV p q) ∧ Below w.heap.size w w' := by
  obtain ⟨a, b, c, d, e⟩ := p
  obtain ⟨a', b', c', d', e'⟩ := q
  cases hp : rightB ⟨a, b, c, d, e⟩
  · rw [show comV ⟨a, b, c, d, e⟩ ⟨a', b', c', d', e'⟩ = optV none by simp [comV, hp]]
    exact common_no a b c d e a' b' c' d' e' w _ _ hp rfl (.inl rfl)
  · cases hq : rightB ⟨a', b', c', d', e'⟩
    · rw [show comV ⟨a, b, c, d, e⟩ ⟨a', b', c', d', e'⟩ = optV none by simp [comV, hq]]
      exact common_no a b c d e a' b' c' d' e' w _ _ hp hq (.inr rfl)
    · have hd := right_depth hp
      have hd' := right_depth hq
      simp only at hd hd'
      obtain ⟨k, rfl⟩ : ∃ k : Nat, e = k := ⟨e.toNat, by omega⟩
      obtain ⟨k', rfl⟩ : ∃ k' : Nat, e' = k' := ⟨e'.toNat, by omega⟩
      rw [show comV ⟨a, b, c, d, k⟩ ⟨a', b', c', d', k'⟩ = optV (comL ⟨a, b, c, d, k⟩ ⟨a', b', c', d', k'⟩ (min k k')) by simp [comV, hp, hq]]
      exact common_yes a b c d a' b' c' d' k k' w hp hq (by omega) (by omega) (by omega) (by omega)
end Go.Proofs.Ytmlljgijbffepaa
