/- The contracts of the functions that go through the nodes above a node: two rows held against each other, and whether a node is within another. -/
import Derived.Test.YtmlljgijbffepaaF4
import Derived.Test.YtmlljgijbffepaaK2
namespace Go.Proofs.Ytmlljgijbffepaa
open Go Go.RowKit

theorem waysP_len (p : Pt) : (waysP p).length ≤ 4 := by
  unfold waysP
  split
  · rename_i h
    have := right_depth h
    rw [waysL_len]; omega
  · simp
theorem same_none (A B : Option Addr) (c c' : Nat) (w : World) :
    Calls Try.prog 13 #[.slice A 0 c, .slice B 0 c'] w fun e w' => e = .returned (.bool true) ∧ Below w.heap.size w w' := by
  go_enter Try.func13, Try.ntmps13
  go_wp2
  refine wp_loop_rounds 1 ?_
  rw [rounds_succ]
  go_wp2
  go_ret
  exact ⟨rfl, Below.refl _ _⟩

def RowCells (w : World) (g : Nat) (ps : List Pt) : Prop := ∀ i (h : i < ps.length), w.cell? ⟨g, i * 5, none⟩ = some (.int .i64 ps[i].a) ∧ w.cell? ⟨g, i * 5 + 1, none⟩ = some (.int .i64 ps[i].b) ∧ w.cell? ⟨g, i * 5 + 2, none⟩ = some (.int .i64 ps[i].c) ∧ w.cell? ⟨g, i * 5 + 3, none⟩ = some (.int .i64 ps[i].d) ∧ w.cell? ⟨g, i * 5 + 4, none⟩ = some (.int .i64 ps[i].e)

set_option maxHeartbeats 2000000 in
theorem same_some (g g' cap cap' n : Nat) (ps : List Pt) (w : World) (hn : ps.length = n) (hn4 : n ≤ 4) (hg : g < w.heap.size) (hg' : g' < w.heap.size) (h : RowCells w g ps) (h' : RowCells w g' ps) :
    Calls Try.prog 13 #[.slice (some ⟨g, 0, none⟩) n cap, .slice (some ⟨g', 0, none⟩) n cap'] w fun e w' => e = .returned (.bool true) ∧ Below w.heap.size w w' := by
  have H := Lib.hid h; have H' := Lib.hid h'; have HN := Lib.hid hn
  clear h h' hn
  go_enter Try.func13, Try.ntmps13
  go_wp2
  go_loopw [13] (fun i wr => ∃ k : Nat, k ≤ n ∧ i = .int .i64 (k : Nat) ∧ Below w.heap.size w wr) (fun i _ => n - (intOf i).toNat)
  case atStart => exact ⟨0, by omega, rfl, Below.refl _ _⟩
  case round =>
    obtain ⟨k, hk, rfl, hb⟩ := hrel
    by_cases hlt : k < n
    · have i1 : (0 : Int) ≤ (k : Int) := by omega
      have i2 : (k : Int) < (n : Int) := by omega
      obtain ⟨q0, q1, q2, q3, q4⟩ := H.out k (by rw [HN.out]; exact hlt)
      obtain ⟨r0, r1, r2, r3, r4⟩ := H'.out k (by rw [HN.out]; exact hlt)
      obtain ⟨⟨x0, x1, x2, x3, x4⟩, hx⟩ : ∃ x, ps[k]'(by rw [HN.out]; exact hlt) = x := ⟨_, rfl⟩
      rw [hx] at q0 q1 q2 q3 q4 r0 r1 r2 r3 r4
      simp only at q0 q1 q2 q3 q4 r0 r1 r2 r3 r4
      have hpp : eqP ⟨x0, x1, x2, x3, x4⟩ ⟨x0, x1, x2, x3, x4⟩ = true := eqP_self _
      clear hx
      go_wp2_with fail
      refine wp_region_later w (by kernel_rfl) (by kernel_rfl) hb ?_
      repeat (go_big_quiet_step (fail))
      refine wpQuiet_nil ?_
      rintro _ ⟨⟨w4, hb4⟩, rfl⟩
      go_wp2_with fail
      go_roundw
      case rel => exact ⟨k + 1, by omega, by go_num, hb4⟩
      case measure => simp [intOf]; omega
    · obtain rfl : k = n := by omega
      go_wp2_with fail
      go_ret
      exact ⟨rfl, hb⟩

theorem same_rows {v v' : Value} {ps : List Pt} {w : World} (h4 : ps.length ≤ 4) (h : RowAt w v ps) (h' : RowAt w v' ps) :
    Calls Try.prog 13 #[v, v'] w fun e w' => e = .returned (.bool true) ∧ Below w.heap.size w w' := by
  rcases h.row with ⟨rfl, rfl⟩ | ⟨g, cap, rfl, hg, hc⟩
  · rcases h'.row with ⟨rfl, _⟩ | ⟨g', cap', rfl, _, _⟩
    · exact same_none _ _ _ _ w
    · exact same_none _ _ _ _ w
  · rcases h'.row with ⟨rfl, rfl⟩ | ⟨g', cap', rfl, hg', hc'⟩
    · exact same_none _ _ _ _ w
    · exact same_some g g' cap cap' _ ps w rfl h4 hg hg' hc hc'

/-- is one of the first k of a row the node q -/
def anyL (q : Pt) (ps : List Pt) : Bool := ps.any fun t => eqP t q
theorem anyL_hit {q : Pt} {ps : List Pt} {k : Nat} (h : k < ps.length) (hk : eqP ps[k] q = true) : anyL q ps = true :=
  List.any_eq_true.2 ⟨ps[k], List.getElem_mem h, hk⟩
theorem anyL_miss {q : Pt} {ps : List Pt} (h : ∀ k (h : k < ps.length), eqP ps[k] q = false) : anyL q ps = false := by
  cases hh : anyL q ps
  · rfl
  · obtain ⟨t, ht, he⟩ := List.any_eq_true.1 hh
    obtain ⟨k, hk, rfl⟩ := List.getElem_of_mem ht
    rw [h k hk] at he; cases he
def Missed (q : Pt) (ps : List Pt) (k : Nat) : Prop := ∀ j (h : j < ps.length), j < k → eqP ps[j] q = false

set_option maxHeartbeats 2000000 in
theorem rwithin_list (p q : Pt) (w : World) :
    Calls Try.prog 17 #[p.v, q.v] w fun e w' => e = .returned (.bool (anyL q (waysP p))) ∧ Below w.heap.size w w' := by
  obtain ⟨ps, hps⟩ : ∃ ps, waysP p = ps := ⟨_, rfl⟩
  have h4 : ps.length ≤ 4 := by rw [← hps]; exact waysP_len p
  have HW := Lib.hid hps
  rw [hps]
  clear hps
  obtain ⟨a, b, c, d, e⟩ := p
  obtain ⟨a', b', c', d', e'⟩ := q
  go_enter Try.func17, Try.ntmps17
  go_wp2_with fail
  have hp0 : PtAt (boxed (boxed w a b c d e) a' b' c' d' e') (w.heap.size + 1) ⟨a', b', c', d', e'⟩ := by simpa using PtAt.new (boxed w a b c d e) a' b' c' d' e'
  refine (rways_any ⟨a, b, c, d, e⟩ _).mono ?_
  rintro r1 w1 ⟨v, rfl, hrow, hb1⟩
  rw [HW.out] at hrow
  have hbe := below_past hb1
  have hp1 := hp0.later hb1
  clear hb1 hp0
  have hrow' := hrow.row
  rcases hrow' with ⟨rfl, rfl⟩ | ⟨g, cap, rfl, hg, hc⟩
  · go_wp2_with fail
    refine wp_loop_rounds 1 ?_
    rw [rounds_succ]
    go_wp2_with fail
    go_ret
    exact ⟨rfl, hbe⟩
  · have HC := Lib.hid hc
    obtain ⟨n, hn⟩ : ∃ n, ps.length = n := ⟨_, rfl⟩
    have HN := Lib.hid hn
    rw [hn] at h4
    rw [hn]
    clear hc hrow hn
    go_wp2_with fail
    go_loopw [10] (fun i wr => ∃ k : Nat, k ≤ n ∧ i = .int .i64 (k : Nat) ∧ Missed ⟨a', b', c', d', e'⟩ ps k ∧ Below w1.heap.size w1 wr) (fun i _ => n - (intOf i).toNat)
    case atStart => exact ⟨0, by omega, rfl, fun j _ h => by omega, Below.refl _ _⟩
    case round =>
      obtain ⟨k, hk, rfl, hm, hb⟩ := hrel
      obtain ⟨c0, c1, c2, c3, c4, hl⟩ := hp1.later hb
      have HM := Lib.hid hm
      clear hm
      by_cases hlt : k < n
      · have i1 : (0 : Int) ≤ (k : Int) := by omega
        have i2 : (k : Int) < (n : Int) := by omega
        have hkl : k < ps.length := by rw [HN.out]; exact hlt
        obtain ⟨q0, q1, q2, q3, q4⟩ := HC.out k hkl
        obtain ⟨⟨x0, x1, x2, x3, x4⟩, hx⟩ : ∃ x, ps[k]'hkl = x := ⟨_, rfl⟩
        rw [hx] at q0 q1 q2 q3 q4
        simp only at q0 q1 q2 q3 q4
        obtain ⟨kc, _⟩ := kept hb
        have t0 := (kc g (k * 5) hg).trans q0
        have t1 := (kc g (k * 5 + 1) hg).trans q1
        have t2 := (kc g (k * 5 + 2) hg).trans q2
        have t3 := (kc g (k * 5 + 3) hg).trans q3
        have t4 := (kc g (k * 5 + 4) hg).trans q4
        have hne : ¬ w.heap.size + 1 = wr.heap.size := Nat.ne_of_lt hl
        clear q0 q1 q2 q3 q4 kc
        cases he : eqP ⟨x0, x1, x2, x3, x4⟩ ⟨a', b', c', d', e'⟩
        · have HE : Hid (eqP (ps[k]'hkl) ⟨a', b', c', d', e'⟩ = false) := Lib.hid (by rw [hx]; exact he)
          clear hx
          go_wp2_with fail
          go_roundw
          case rel =>
            refine ⟨k + 1, by omega, by go_num, fun j hj hj' => ?_, (hb.alloc hb.size _)⟩
            rcases Nat.lt_or_ge j k with z | z
            · exact HM.out j hj z
            · obtain rfl : j = k := by omega
              exact HE.out
          case measure => simp [intOf]; omega
        · have HE : Hid (eqP (ps[k]'hkl) ⟨a', b', c', d', e'⟩ = true) := Lib.hid (by rw [hx]; exact he)
          clear hx
          go_wp2_with fail
          go_ret
          exact ⟨ret_bool (anyL_hit hkl HE.out).symm, thenCall hbe (hb.alloc hb.size _)⟩
      · obtain rfl : k = n := by omega
        go_wp2_with fail
        go_ret
        exact ⟨ret_bool (anyL_miss fun j hj => HM.out j hj (by rw [HN.out] at hj; exact hj)).symm, thenCall hbe hb⟩
end Go.Proofs.Ytmlljgijbffepaa
