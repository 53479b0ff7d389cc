/- The contract of the document's answer on what two nodes have in common. -/
import Derived.Test.YtmlljgijbffepaaF5
import Derived.Test.YtmlljgijbffepaaF6
namespace Go.Proofs.Ytmlljgijbffepaa
open Go Go.RowKit

/-- the last of a row within which q is -/
def lastL (q : Pt) : List Pt → Pt → Pt
  | [], best => best
  | t :: ts, best => lastL q ts (if anyL t (waysP q) = true then t else best)
/-- the variable 'best' lies in block B, and a row of nodes in another, g -/
structure Best (W3 wr : World) (B g : Nat) (ps : List Pt) (best : Pt) : Prop where
  keep : Below W3.heap.size W3 wr
  at_ : PtAt wr B best
  fro : ∀ o, wr.frozen? ⟨B, o, none⟩ = false
  row : RowCells wr g ps
  lt : g < wr.heap.size
  ne : g ≠ B
theorem Best.later {W3 wr w' : World} {B g : Nat} {ps : List Pt} {best : Pt} (h : Best W3 wr B g ps best) (hb : Below wr.heap.size wr w') : Best W3 w' B g ps best := by
  obtain ⟨kc, kf⟩ := kept hb
  exact ⟨h.keep.trans (hb.mono h.keep.size), h.at_.later hb, fun o => (kf _ _ h.at_.lt).trans (h.fro o), fun i hi => by rw [kc _ _ h.lt, kc _ _ h.lt, kc _ _ h.lt, kc _ _ h.lt, kc _ _ h.lt]; exact h.row i hi, Nat.lt_of_lt_of_le h.lt hb.size, h.ne⟩
theorem Best.put {W3 wr : World} {B g : Nat} {ps : List Pt} {best : Pt} (h : Best W3 wr B g ps best) (hB : W3.heap.size ≤ B) (x0 x1 x2 x3 x4 : Int) :
    Best W3 (((((wr.setCell ⟨B, 0, none⟩ (.int .i64 x0)).setCell ⟨B, 1, none⟩ (.int .i64 x1)).setCell ⟨B, 2, none⟩ (.int .i64 x2)).setCell ⟨B, 3, none⟩ (.int .i64 x3)).setCell ⟨B, 4, none⟩ (.int .i64 x4)) B g ps ⟨x0, x1, x2, x3, x4⟩ := by
  obtain ⟨c0, c1, c2, c3, c4, hl⟩ := h.at_
  have hn := h.ne
  refine ⟨below_set5 h.keep hB _ _ _ _ _, ⟨?_, ?_, ?_, ?_, ?_, ?_⟩, fun o => ?_, fun i hi => ?_, ?_, hn⟩
  · simp [go_sem, c0]
  · simp [go_sem, c1]
  · simp [go_sem, c2]
  · simp [go_sem, c3]
  · simp [go_sem, c4]
  · simpa [World.setCell] using hl
  · have := h.fro o
    simpa [go_sem] using this
  · have far : ∀ o, (((((wr.setCell ⟨B, 0, none⟩ (.int .i64 x0)).setCell ⟨B, 1, none⟩ (.int .i64 x1)).setCell ⟨B, 2, none⟩ (.int .i64 x2)).setCell ⟨B, 3, none⟩ (.int .i64 x3)).setCell ⟨B, 4, none⟩ (.int .i64 x4)).cell? ⟨g, o, none⟩ = wr.cell? ⟨g, o, none⟩ := fun o => by
      rw [World.cell?_setCell_far _ _ _ _ (fun q => hn q.symm), World.cell?_setCell_far _ _ _ _ (fun q => hn q.symm), World.cell?_setCell_far _ _ _ _ (fun q => hn q.symm), World.cell?_setCell_far _ _ _ _ (fun q => hn q.symm), World.cell?_setCell_far _ _ _ _ (fun q => hn q.symm)]
    rw [far, far, far, far, far]
    exact h.row i hi
  · simpa [World.setCell] using h.lt

theorem lastL_snoc (q : Pt) : ∀ (ts : List Pt) (t best : Pt), lastL q (ts ++ [t]) best = if anyL t (waysP q) = true then t else lastL q ts best
  | [], t, best => rfl
  | s :: ts, t, best => by simp only [List.cons_append, lastL]; exact lastL_snoc q ts t _
theorem take_last {q : Pt} {ps : List Pt} {k : Nat} (h : k < ps.length) (best : Pt) : lastL q (ps.take (k + 1)) best = if anyL ps[k] (waysP q) = true then ps[k] else lastL q (ps.take k) best := by
  rw [List.take_succ_eq_append_getElem h, lastL_snoc]
theorem within_is {p q : Pt} {b : Bool} (h : anyL q (waysP p) = b) (w : World) : Calls Try.prog 17 #[p.v, q.v] w fun e w' => e = .returned (.bool b) ∧ Below w.heap.size w w' := by
  subst h; exact rwithin_list p q w
def lastV (t : Pt) : Value := .tuple #[t.v, .bool (decide (0 < t.e))]

set_option maxHeartbeats 4000000 in
theorem rcommon_list (p q : Pt) (w : World) (hfirst : ∀ h : 0 < (waysP p).length, (waysP p)[0].e = 1) :
    Calls Try.prog 10 #[p.v, q.v] w fun e w' => e = .returned (lastV (lastL q (waysP p) ⟨0, 0, 0, 0, 0⟩)) ∧ Below w.heap.size w w' := by
  obtain ⟨ps, hps⟩ : ∃ ps, waysP p = ps := ⟨_, rfl⟩
  have h4 : ps.length ≤ 4 := by rw [← hps]; exact waysP_len p
  have HW := Lib.hid hps
  have hF : ∀ h : 0 < ps.length, ps[0].e = 1 := by subst hps; exact hfirst
  clear hfirst
  have HF := Lib.hid hF
  rw [hps]
  clear hps hF
  obtain ⟨a, b, c, d, e⟩ := p
  obtain ⟨a', b', c', d', e'⟩ := q
  go_enter Try.func10, Try.ntmps10
  go_wp2_with fail
  refine (rways_any ⟨a, b, c, d, e⟩ _).mono ?_
  rintro r1 w1 ⟨v, rfl, hrow, hb1⟩
  rw [HW.out] at hrow
  have hk3 : Below (boxed (boxed (boxed w a b c d e) a' b' c' d' e') 0 0 0 0 0).heap.size (boxed (boxed (boxed w a b c d e) a' b' c' d' e') 0 0 0 0 0) w1 := (box_below (boxed (boxed (boxed w a b c d e) a' b' c' d' e') 0 0 0 0 0) _).trans (hb1.mono (by simp))
  have hbest : PtAt w1 (w.heap.size + 1 + 1 + 1) ⟨0, 0, 0, 0, 0⟩ := by simpa using (PtAt.new (boxed (boxed (boxed w a b c d e) a' b' c' d' e') 0 0 0 0 0) 0 0 0 0 0).later hb1
  have hfr : ∀ o, w1.frozen? ⟨w.heap.size + 1 + 1 + 1, o, none⟩ = false := fun o => by
    rw [(kept hb1).2 _ _ (by simp)]; simp [go_sem]
  clear hb1
  rcases hrow.row with ⟨rfl, rfl⟩ | ⟨g, cap, rfl, hg, hc⟩
  · clear hrow
    go_wp2_with fail
    refine wp_loop_rounds 1 ?_
    rw [rounds_succ]
    obtain ⟨b0, b1, b2, b3, b4, bl⟩ := hbest
    obtain ⟨_, _, ⟨e0, e1, e2, e3, e4, l3⟩, ⟨f0, f1, f2, f3, f4⟩, hbe⟩ := three_kept hk3
    go_wp2_with fail
    go_region
    all_goals go_wp2
    all_goals exact bodyPost_ret (v := .tuple #[Pt.v ⟨0, 0, 0, 0, 0⟩, .bool false]) (by simp [results, Try.results10, go_sem, e0, e1, e2, e3, e4]) rfl ⟨rfl, below_set5 hbe.drew (by omega) _ _ _ _ _⟩
  · by_cases hz : ps.length = 0
    · obtain rfl : ps = [] := List.length_eq_zero_iff.1 hz
      clear hrow hc hz
      simp only [List.length_nil]
      go_wp2_with fail
      refine wp_loop_rounds 1 ?_
      rw [rounds_succ]
      obtain ⟨b0, b1, b2, b3, b4, bl⟩ := hbest
      obtain ⟨_, _, ⟨e0, e1, e2, e3, e4, l3⟩, ⟨f0, f1, f2, f3, f4⟩, hbe⟩ := three_kept hk3
      go_wp2_with fail
      go_region
      all_goals go_wp2
      all_goals exact bodyPost_ret (v := .tuple #[Pt.v ⟨0, 0, 0, 0, 0⟩, .bool false]) (by simp [results, Try.results10, go_sem, e0, e1, e2, e3, e4]) rfl ⟨rfl, below_set5 hbe.drew (by omega) _ _ _ _ _⟩
    have hne : g ≠ w.heap.size + 1 + 1 + 1 := fun hE => by
      have h0 : 0 < ps.length := by omega
      have h1 := (hc 0 h0).2.2.2.2
      rw [HF.out h0, hE] at h1
      have h2 := hbest.c4
      simp at h1 h2
      rw [h2] at h1
      simp at h1
    have hst : Best (boxed (boxed (boxed w a b c d e) a' b' c' d' e') 0 0 0 0 0) w1 (w.heap.size + 1 + 1 + 1) g ps ⟨0, 0, 0, 0, 0⟩ := ⟨hk3, hbest, hfr, hc, hg, hne⟩
    obtain ⟨n, hn⟩ : ∃ n, ps.length = n := ⟨_, rfl⟩
    have HN := Lib.hid hn
    rw [hn] at h4
    rw [hn]
    clear hc hrow hn hk3 hbest hfr hg
    go_wp2_with fail
    go_loopw [12] (fun i wr => ∃ k : Nat, k ≤ n ∧ i = .int .i64 (k : Nat) ∧ Best (boxed (boxed (boxed w a b c d e) a' b' c' d' e') 0 0 0 0 0) wr (w.heap.size + 1 + 1 + 1) g ps (lastL ⟨a', b', c', d', e'⟩ (ps.take k) ⟨0, 0, 0, 0, 0⟩)) (fun i _ => n - (intOf i).toNat)
    case atStart => exact ⟨0, by omega, rfl, hst⟩
    case round =>
      obtain ⟨k, hk, rfl, hs⟩ := hrel
      by_cases hlt : k < n
      · have i1 : (0 : Int) ≤ (k : Int) := by omega
        have i2 : (k : Int) < (n : Int) := by omega
        have hkl : k < ps.length := by rw [HN.out]; exact hlt
        obtain ⟨q0, q1, q2, q3, q4⟩ := hs.row k hkl
        obtain ⟨⟨x0, x1, x2, x3, x4⟩, hx⟩ : ∃ x, ps[k]'hkl = x := ⟨_, rfl⟩
        rw [hx] at q0 q1 q2 q3 q4
        simp only at q0 q1 q2 q3 q4
        obtain ⟨h1, hq1, _, _, _⟩ := three_kept hs.keep
        obtain ⟨c0, c1, c2, c3, c4, l2⟩ := id hq1
        have n2 : ¬ w.heap.size + 1 = wr.heap.size := Nat.ne_of_lt l2
        go_wp2_with fail
        cases hw : anyL ⟨x0, x1, x2, x3, x4⟩ (waysP ⟨a', b', c', d', e'⟩)
        · have HL : Hid (lastL ⟨a', b', c', d', e'⟩ (ps.take (k + 1)) ⟨0, 0, 0, 0, 0⟩ = lastL ⟨a', b', c', d', e'⟩ (ps.take k) ⟨0, 0, 0, 0, 0⟩) := Lib.hid (by rw [take_last hkl, hx, if_neg (by rw [hw]; exact Bool.false_ne_true)])
          refine (within_is hw _).mono ?_
          rintro r3 w3 ⟨rfl, hb3⟩
          clear q0 q1 q2 q3 q4 c0 c1 c2 c3 c4 hx hw
          have hs3 := (hs.later (box_below wr _)).later hb3
          go_wp2_with fail
          go_roundw
          case rel => exact ⟨k + 1, by omega, by go_num, by rw [HL.out]; exact hs3⟩
          case measure => simp [intOf]; omega
        · have HL : Hid (lastL ⟨a', b', c', d', e'⟩ (ps.take (k + 1)) ⟨0, 0, 0, 0, 0⟩ = ⟨x0, x1, x2, x3, x4⟩) := Lib.hid (by rw [take_last hkl, hx, if_pos hw])
          refine (within_is hw _).mono ?_
          rintro r3 w3 ⟨rfl, hb3⟩
          clear q0 q1 q2 q3 q4 c0 c1 c2 c3 c4 hx hw
          have hs3 := (hs.later (box_below wr _)).later hb3
          obtain ⟨t0, t1, t2, t3, t4, tl⟩ := (PtAt.new wr x0 x1 x2 x3 x4).later hb3
          obtain ⟨b0, b1, b2, b3, b4, bl⟩ := id hs3.at_
          have f0 := hs3.fro 0; have f1 := hs3.fro 1; have f2 := hs3.fro 2; have f3 := hs3.fro 3; have f4 := hs3.fro 4
          have hs4 := hs3.put (by simp) x0 x1 x2 x3 x4
          go_wp2_with fail
          go_roundw
          case rel => exact ⟨k + 1, by omega, by go_num, by rw [HL.out]; exact hs4⟩
          case measure => simp [intOf]; omega
      · obtain rfl : k = n := by omega
        rw [List.take_of_length_le (by rw [HN.out]; exact Nat.le_refl _)] at hs
        obtain ⟨⟨t0, t1, t2, t3, t4⟩, ht⟩ : ∃ t, lastL ⟨a', b', c', d', e'⟩ ps ⟨0, 0, 0, 0, 0⟩ = t := ⟨_, rfl⟩
        rw [ht] at hs
        have HT := Lib.hid ht
        clear ht
        obtain ⟨b0, b1, b2, b3, b4, bl⟩ := id hs.at_
        obtain ⟨_, _, ⟨e0, e1, e2, e3, e4, l3⟩, ⟨f0, f1, f2, f3, f4⟩, hbe⟩ := three_kept hs.keep
        go_wp2_with fail
        go_region
        all_goals go_wp2
        all_goals exact bodyPost_ret (v := lastV ⟨t0, t1, t2, t3, t4⟩) (by simp [lastV, results, Try.results10, go_sem, e0, e1, e2, e3, e4]) rfl ⟨by rw [HT.out], below_set5 hbe.drew (by omega) _ _ _ _ _⟩
end Go.Proofs.Ytmlljgijbffepaa
