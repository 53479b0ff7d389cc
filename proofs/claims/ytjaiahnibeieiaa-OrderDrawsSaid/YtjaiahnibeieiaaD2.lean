/- slices.Repeat of one -1. -/
import Derived.Test.YtjaiahnibeieiaaA3
import Derived.Laws.Bits64b
import Derived.Laws.CopyOwn
import Derived.Deep.RegionLaw
namespace Go.Proofs.Ytjaiahnibeieiaa
open Go Go.RowKit

theorem and_one : bits .and .u64 1 4294967295 = 1 := by
  have := bits_and_u64_nat 1 4294967295 (by omega) (by omega)
  exact this
theorem and_zero : bits .and .u64 0 4294967295 = 0 := by
  have := bits_and_u64_nat 0 4294967295 (by omega) (by omega)
  exact this
theorem and_nat {N : Nat} (h : N ≤ 65536) : bits .and .u64 (N : Int) 4294967295 = (N : Int) := by
  have := bits_and_u64_nat N 4294967295 (by omega) (by omega)
  rw [show N &&& 4294967295 = N by
    have e : (4294967295 : Nat) = 2 ^ 32 - 1 := rfl
    rw [e, Nat.and_two_pow_sub_one_eq_mod]
    exact Nat.mod_eq_of_lt (by omega)] at this
  exact this
theorem mul64_one {N : Nat} (h : N ≤ 65536) (W : World) : Calls Try.prog 30 #[.int .u64 1, .int .u64 (N : Int)] W fun e w' => e = .returned (.tuple #[.int .u64 0, .int .u64 (N : Int)]) ∧ W = w' := by
  have a1 := and_one
  have a0 := and_zero
  have aN := and_nat h
  have d1 : (N : Int) / 4294967296 = 0 := by omega
  go_enter Try.func30, Try.ntmps30
  go_wp2
  go_ret2
  exact ⟨rfl, rfl⟩
theorem mul_one' {N : Nat} (h : N ≤ 65536) (W : World) : Calls Try.prog 28 #[.int .u64 1, .int .u64 (N : Int)] W fun e w' => e = .returned (.tuple #[.int .u64 0, .int .u64 (N : Int)]) ∧ W = w' := by
  go_enter Try.func28, Try.ntmps28
  go_wp2_with (go_at_call 30; ((with_reducible refine (mul64_one h W).mono ?_); rintro e w' ⟨rfl, rfl⟩))
  go_ret2
  exact ⟨rfl, rfl⟩
/-- a row of which the first k are -1 -/
structure Ones (W : World) (g N k : Nat) (cur : List Value) : Prop where
  blk : W.heap[g]? = some (.cells cur.toArray 3 (0, 0))
  len : cur.length = N
  one : ∀ i, i < k → cur[i]? = some (.int .i64 (-1))
theorem Ones.arr {W : World} {g N : Nat} {cur : List Value} (h : Ones W g N N cur) : Arr W g N (fun _ => -1) := by
  refine ⟨fun i hi => ?_, fun o => frozen_of_row _ _ _ _ _ h.blk, (Array.getElem?_eq_some_iff.1 h.blk).1⟩
  rw [cell_of_row _ _ _ _ _ _ h.blk]
  simpa using h.one i hi
theorem ones_one {cur : List Value} {k : Nat} (h : ∀ i, i < k → cur[i]? = some (.int .i64 (-1))) (m : Nat) (hm : m ≤ k) : ∀ v ∈ cur.take m, v = .int .i64 (-1) := by
  intro v hv
  obtain ⟨i, hi, rfl⟩ := List.mem_iff_getElem.1 hv
  have hl : i < m := by simp at hi; omega
  have := h i (by omega)
  rw [List.getElem_take]
  have hc : i < cur.length := by simp at hi; omega
  rw [List.getElem?_eq_getElem hc] at this
  exact Option.some.inj this
/-- k are copied behind the first k -/
theorem ones_splice {W' : World} {g N k m : Nat} {cur : List Value} (hl : cur.length = N) (h1 : ∀ i, i < k → cur[i]? = some (.int .i64 (-1))) (hm : m ≤ k) (hk : k + m ≤ N) (hb : W'.heap[g]? = some (.cells (splice cur k (cur.take m)).toArray 3 (0, 0))) : Ones W' g N (k + m) (splice cur k (cur.take m)) := by
  refine ⟨hb, ?_, fun i hi => ?_⟩
  · simp [splice]; omega
  · unfold splice
    by_cases e : i < k
    · rw [List.getElem?_append_left (by simp; omega), List.getElem?_take_of_lt e]
      exact h1 i e
    · rw [List.getElem?_append_right (by simp; omega), show (cur.take k).length = k by simp; omega, List.getElem?_append_left (by simp; omega), List.getElem?_take_of_lt (by omega)]
      exact h1 (i - k) (by omega)
theorem size3 : (Try.prog.info? 3).map (·.size) = some 1 := by kernel_rfl
theorem made_block (W : World) (N : Nat) : (W.alloc (.cells (madeCells #[.int .i64 0] N) 3)).heap[W.heap.size]? = some (.cells (List.replicate N (.int .i64 0)).toArray 3 (0, 0)) := by
  rw [heap_new']
  congr 2
  apply Array.ext'
  apply List.ext_getElem?
  intro i
  by_cases hi : i < N <;> simp [madeCells, hi, Nat.mod_one]
def Repeats (W : World) (N : Nat) (e : Ending) (w' : World) : Prop := ∃ g, e = .returned (.slice (some ⟨g, 0, none⟩) N N) ∧ Arr w' g N (fun _ => -1) ∧ Below W.heap.size W w' ∧ W.heap.size ≤ g
/-- what a copy leaves -/
theorem copy_run {w w0 : World} {g off dLen dCap sLen sCap B : Nat} {cur cs : List Value} {ad : Addr} (hg : w.heap[g]? = some (.cells cur.toArray 3 (0, 0))) (hn : cs.length = Nat.min sLen dLen) (hs : ∀ j v, cs[j]? = some v → w.cell? (ad.add j) = some v)
    (hf : off + cs.length ≤ cur.length) (h1 : ∀ v ∈ cs, v = .int .i64 (-1)) (hb : Below B w0 w) (hB : B ≤ g) :
    ∃ w', (Builtin.copy_ #[23, 23] 3 #[.slice (some ⟨g, off, none⟩) dLen dCap, .slice (some ad) sLen sCap]).run Try.prog w = .ok (.int .i64 (cs.length : Int)) w' ∧ w'.heap[g]? = some (.cells (splice cur off cs).toArray 3 (0, 0)) ∧ Below B w0 w' := by
  have hrun := run_copy_row (P := Try.prog) w 23 23 3 3 g off dLen dCap ad sLen sCap cur.toArray 3 cs Try.underlying23 size3 hg hn hs (by simpa using hf) (fun v hv => by rw [h1 v hv]; rfl)
  exact ⟨_, hrun, by simpa [splice] using setRow_heap w g _ _ 3 _ hg, below_setRow hb hB _⟩
set_option maxHeartbeats 2000000 in
theorem repeat_any {W : World} {b N : Nat} (hc : W.cell? ⟨b, 0, none⟩ = some (.int .i64 (-1))) (h1 : 1 ≤ N) (hN : N ≤ 65536) : Calls Try.prog 25 #[.slice (some ⟨b, 0, none⟩) 1 1, .int .i64 (N : Int)] W (Repeats W N) := by
  have hmk := mk_ints W N hN
  have hu : IntKind.u64.wrap (N : Int) = (N : Int) := by rw [IntKind.wrap_u64]; omega
  have HM := Lib.hid (mul_one' hN W)
  have B0 := box_below W (.cells (madeCells #[.int .i64 0] N) 3)
  obtain ⟨w2, hr2, hg2, hb2⟩ := copy_run (dLen := N) (dCap := N) (sLen := 1) (sCap := 1) (off := 0) (cs := [.int .i64 (-1)]) (ad := ⟨b, 0, none⟩) (made_block W N) (by show 1 = Nat.min 1 N; exact (Nat.min_eq_left h1).symm)
    (by
      intro j v hj
      match j, hj with
      | 0, hj =>
        simp at hj
        subst hj
        rw [add_at]
        exact (B0.cell (p := ⟨b, 0, none⟩) (cell_lt hc)).trans hc) (by simp; omega) (by simp) B0 (Nat.le_refl _)
  have H2 := Lib.hid (show Ones w2 W.heap.size N 1 (splice (List.replicate N (.int .i64 0)) 0 [.int .i64 (-1)]) from ⟨hg2, by simp [splice]; omega, fun i hi => by
    obtain rfl : i = 0 := by omega
    simp [splice]⟩)
  generalize splice (List.replicate N (Value.int .i64 0)) 0 [Value.int .i64 (-1)] = cur0 at H2
  have HB2 := Lib.hid hb2
  have hr2' : (Builtin.copy_ #[23, 23] 3 #[.slice (some ⟨W.heap.size, 0, none⟩) N N, .slice (some ⟨b, 0, none⟩) 1 1]).run Try.prog (W.alloc (.cells (madeCells #[.int .i64 0] N) 3)) = .ok (.int .i64 1) w2 := hr2
  have hn0 : ¬ (N : Int) < 0 := by omega
  clear hc hg2 hb2 hr2 B0
  go_enter Try.func25, Try.ntmps25
  go_wp2_with (go_at_call 28; ((with_reducible refine HM.out.mono ?_); rintro e w' ⟨rfl, rfl⟩))
  clear HM hmk hr2'
  obtain ⟨g, hg⟩ : ∃ g, W.heap.size = g := ⟨_, rfl⟩
  have HGG := Lib.hid hg
  rw [hg] at H2
  rw [hg]
  clear hg
  go_loopw [8] (fun t wr => ∃ (k : Nat) (cur : List Value), 1 ≤ k ∧ k ≤ N ∧ t = .int .i64 k ∧ Ones wr g N k cur ∧ Below W.heap.size W wr) (fun t _ => N - (intOf t).toNat)
  case atStart => exact ⟨1, cur0, by omega, h1, rfl, H2.out, HB2.out⟩
  case round =>
    obtain ⟨k, cur, hk1, hk, rfl, ho, hb⟩ := hrel
    clear H2 HB2
    by_cases hlt : k < N
    · have hgl : W.heap.size ≤ g := by rw [HGG.out]; exact Nat.le_refl _
      obtain ⟨m, hm⟩ : ∃ m, Nat.min k (N - k) = m := ⟨_, rfl⟩
      have hm1 : m ≤ k := by rw [← hm]; exact Nat.min_le_left _ _
      have hm2 : k + m ≤ N := by have : m ≤ N - k := (by rw [← hm]; exact Nat.min_le_right _ _); omega
      have hm3 : 1 ≤ m := by rw [← hm]; exact Nat.le_min.2 ⟨hk1, by omega⟩
      have hlen : (cur.take m).length = m := by simp [ho.len]; omega
      obtain ⟨w3, hr3, hg3, hb3⟩ := copy_run (w := wr.drew) (w0 := W) (B := W.heap.size) (off := k) (dLen := N - k) (dCap := N - k) (sLen := k) (sCap := N) (cs := cur.take m) (ad := ⟨g, 0, none⟩) (g := g) (cur := cur) ho.blk (by rw [hlen, hm])
        (by
          intro j v hj
          have hjm : j < m := by have := (List.getElem?_eq_some_iff.1 hj).1; omega
          rw [add_at]
          rw [List.getElem?_take_of_lt hjm] at hj
          rw [← hj]
          have := cell_of_row wr g j _ _ _ ho.blk
          rw [show wr.drew.cell? ⟨g, j, none⟩ = wr.cell? ⟨g, j, none⟩ from rfl, this]
          simp) (by rw [hlen, ho.len]; exact hm2) (ones_one ho.one m hm1) hb.drew hgl
      rw [hlen] at hr3
      have HO := Lib.hid (ones_splice ho.len ho.one hm1 hm2 hg3)
      have HB := Lib.hid hb3
      generalize splice cur k (cur.take m) = cur' at HO
      clear ho hb hgl hg3 hb3 hlen hm
      go_wp2_with fail
      go_region
      all_goals
        go_wp2
        go_roundw
        case rel => exact ⟨k + m, cur', by omega, by omega, by go_num, HO.out, HB.out⟩
        case measure => simp [intOf]; omega
    · obtain rfl : k = N := by omega
      go_wp2_with fail
      go_ret
      exact ⟨g, rfl, ho.arr, hb, by rw [HGG.out]; exact Nat.le_refl _⟩
end Go.Proofs.Ytjaiahnibeieiaa
