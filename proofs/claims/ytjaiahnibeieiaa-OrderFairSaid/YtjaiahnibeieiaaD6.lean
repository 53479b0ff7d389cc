/- Gap. -/
import Derived.Test.YtjaiahnibeieiaaD5
namespace Go.Proofs.Ytjaiahnibeieiaa
open Go Go.RowKit Go.Shelf
attribute [local go_sem] Oper.semAt_some

/-- what Gap answers -/
def GapSays (W : World) (x : Int) (e : Ending) (w' : World) : Prop := e = .returned (.int .i64 x) ∧ Below W.heap.size W w'
/-- while Gap goes through the gaps -/
structure Gg (W : World) (a : Int) (pre : List Int) (X : World) : Prop where
  bw : Boxed X W.heap.size 3 (.int .i64 (pre.foldl max a))
  bel : Below W.heap.size W X
theorem Gg.below {W X Y : World} {a : Int} {pre : List Int} {B : Nat} (h : Gg W a pre X) (hB : W.heap.size + 1 ≤ B) (hb : Below B X Y) : Gg W a pre Y :=
  ⟨(hb.block _ (by omega)).trans h.bw, h.bel.trans (hb.mono (by omega))⟩
set_option maxRecDepth 100000 in
set_option maxHeartbeats 4000000 in
theorem gap_in_any {A : Option Addr} {L c N : Nat} {z : Nat → Int} (W : World) (hz : Rf W A L z) (h1 : 1 ≤ N) (h3 : N ≤ L) (hL : L ≤ 1000) :
    Calls Try.prog 16 #[.slice A L c, .int .i64 (N : Int)] W (GapSays W ((gapsL z L N).foldl max (N : Int))) := by
  refine (callsIn_wide (n := 9)).1 ?_
  refine callsIn_of_wp_marks Try.func16 rfl trivial ?_ rfl
  simp only [Try.ntmps16, List.size_toArray, List.length_cons, List.length_nil, Nat.reduceAdd, Nat.reduceSub, Array.replicate_succ, Array.replicate_zero, List.push_toArray, List.append_toArray, List.nil_append, List.cons_append]
  refine wpIn_wide.2 ?_
  have d1 : ¬ (N : Int) < 1 := by omega
  have d3 : ¬ (L : Int) < (N : Int) := by omega
  have HZ := Lib.hid hz
  clear hz
  go_wp2_with fail
  refine (gaps_any A L c (N : Int) _).mono ?_
  rintro e w5 ⟨rfl, rfl⟩
  rw [World.size_alloc]
  have hs5 : (((W.alloc (.cells #[.int .i64 (N : Int)] 3)).alloc (.cells #[.slice A L c] 23)).alloc (.cells #[.int .i64 (N : Int)] 3)).heap.size = W.heap.size + 3 := by simp
  have hb5 : Below W.heap.size W (((W.alloc (.cells #[.int .i64 (N : Int)] 3)).alloc (.cells #[.slice A L c] 23)).alloc (.cells #[.int .i64 (N : Int)] 3)) := (two_below W _ _).alloc (by simp; omega) _
  have hbw := ((Boxed.new W 3 (.int .i64 (N : Int))).alloc (.cells #[.slice A L c] 23)).alloc (.cells #[.int .i64 (N : Int)] 3)
  have hc1 : (((W.alloc (.cells #[.int .i64 (N : Int)] 3)).alloc (.cells #[.slice A L c] 23)).alloc (.cells #[.int .i64 (N : Int)] 3)).cell? ⟨W.heap.size + 1, 0, none⟩ = some (.slice A L c) := by simp [go_sem]
  have hc2 : (((W.alloc (.cells #[.int .i64 (N : Int)] 3)).alloc (.cells #[.slice A L c] 23)).alloc (.cells #[.int .i64 (N : Int)] 3)).cell? ⟨W.heap.size + 1 + 1, 0, none⟩ = some (.int .i64 (N : Int)) := by simp [go_sem]
  go_wp2_with fail
  generalize ((W.alloc (.cells #[.int .i64 (N : Int)] 3)).alloc (.cells #[.slice A L c] 23)).alloc (.cells #[.int .i64 (N : Int)] 3) = w5 at hs5 hb5 hbw hc1 hc2 ⊢
  have hz5 := HZ.out.below hb5
  have hR5 : ∀ k, Reads (W.heap.size + 1) (W.heap.size + 1 + 1) A L k → k < w5.heap.size ∧ ¬ k = W.heap.size := by
    intro k hk
    refine ⟨reads_lt hc1 hc2 hz5 k hk, ?_⟩
    rcases hk with rfl | rfl | ⟨ad, ha, h0, rfl⟩
    · omega
    · omega
    · obtain ⟨ad', e, hl, -⟩ := HZ.out 0 h0
      rw [ha] at e
      cases e
      omega
  have HTE := Lib.hid (gaps_tells (T := fun k => k = W.heap.size) hc1 hc2 hz5 hL h1 (by omega) hR5 (fun k hk => by omega))
  have HF := Lib.hid (show Gg W (N : Int) [] w5 from ⟨hbw, hb5⟩)
  clear hb5 hbw hc1 hc2 hz5 hR5
  refine (wpIn_wide (n := 9)).1 ?_
  refine wp_range2 (α := Int) (encs := encG) (xs := gapsL z L N) (T := fun k => k = W.heap.size) rfl (enters_of Try.func27 (by kernel_rfl) rfl) HTE.out (fun k hk => by omega) (fun _ => rfl)
    (Gg W (N : Int))
    (fun _ _ _ => False)
    (fun pre x a' X => Gg W (N : Int) pre X ∧ a' = { tmps := #[.slice A L c, .int .i64 (N : Int), undef, undef, .int .i64 0, wp W.heap.size, .int .i64 x, .int .i64 (N : Int), .bool false, .int .i64 (N : Int), .slice A L c, .int .i64 (L : Int), .bool false, undef, .int .i64 (N : Int), .slice A L c, .int .i64 (N : Int), .func (.func 27) #[] #[wp (W.heap.size + 1 + 1), wp (W.heap.size + 1)], .int .i64 x, undef, undef, undef, undef], defers := [] }) ?hI ?hIx ?hA HF.out ?assign ?body ?done ?stop
  case hI => exact fun s X Y h hb => h.below (by omega) hb
  case hIx => exact fun _ _ _ _ h _ => h
  case hA =>
    rintro s x a' X Y ⟨h, h'⟩ hb
    exact ⟨h.below (by omega) hb, h'⟩
  case assign =>
    rintro l1 pre x X hi
    have HI := Lib.hid hi
    clear hi
    gi_wp2
    exact ⟨OnlyS.refl _ _, HI.out, by simp⟩
  case body =>
    rintro l1 pre x post a' X hx ⟨hf, rfl⟩
    have HF1 := Lib.hid hf
    have c0 := hf.bw.cell
    have f0 := hf.bw.frozen
    have HM := Lib.hid (show (pre ++ [x]).foldl max (N : Int) = max (pre.foldl max (N : Int)) x by rw [List.foldl_append]; rfl)
    clear hf
    generalize pre.foldl max (N : Int) = y at c0 HM
    by_cases hlt : y < x
    · have hm : max y x = x := Int.max_eq_right (by omega)
      rw [hm] at HM
      have HO := Lib.hid (OnlyS.set W.heap.size 0 X (.int .i64 x))
      have HS := Lib.hid (show Boxed (X.setCell ⟨W.heap.size, 0, none⟩ (.int .i64 x)) W.heap.size 3 (.int .i64 x) from HF1.out.bw.set _)
      have HB := Lib.hid (HF1.out.bel.trans (below_set (B := W.heap.size) (b := W.heap.size) (o := 0) X (.int .i64 x) (Nat.le_refl _)))
      gi_wp2
      exact ⟨HO.out, by rw [HM.out]; exact HS.out, HB.out⟩
    · have hm : max y x = y := Int.max_eq_left (by omega)
      rw [hm] at HM
      have HO := Lib.hid (OnlyS.set W.heap.size 0 X (.int .i64 y))
      have HS := Lib.hid (show Boxed (X.setCell ⟨W.heap.size, 0, none⟩ (.int .i64 y)) W.heap.size 3 (.int .i64 y) from HF1.out.bw.set _)
      have HB := Lib.hid (HF1.out.bel.trans (below_set (B := W.heap.size) (b := W.heap.size) (o := 0) X (.int .i64 y) (Nat.le_refl _)))
      gi_wp2
      exact ⟨HO.out, by rw [HM.out]; exact HS.out, HB.out⟩
  case done =>
    rintro D X hD hf hd
    have HD := Lib.hid hd
    have HF1 := Lib.hid hf
    have c0 := hf.bw.cell
    clear hf hd
    dsimp only [Exit.inBlock, Exit.then]
    rename_i hK0
    refine hK0 _ _ ?_
    clear hK0
    generalize (gapsL z L N).foldl max (N : Int) = y at c0 ⊢
    go_wp2_with fail
    refine ⟨by simp, .inl ⟨_, _, rfl, run_takeDeferred HD.out, ?_⟩⟩
    exact ⟨_, results_tmp rfl _ _ _, rfl, HF1.out.bel.trans (below_put _ _ (by omega))⟩
  case stop =>
    rintro D c pre post W _ _ h _
    exact h.elim
theorem gap_any {A : Option Addr} {L c : Nat} {z : Nat → Int} (n : Int) (W : World) (hz : Rf W A L z) (hL : L ≤ 1000) : Calls Try.prog 16 #[.slice A L c, .int .i64 n] W (GapSays W (gapI z L n)) := by
  unfold gapI
  by_cases h : n < 1
  · rw [if_pos h]
    go_enter Try.func16, Try.ntmps16
    go_wp2
    go_ret
    exact ⟨rfl, Below.refl _ _⟩
  · rw [if_neg h]
    by_cases h2 : (L : Int) < n
    · rw [if_pos h2]
      go_enter Try.func16, Try.ntmps16
      go_wp2
      go_ret
      exact ⟨rfl, Below.refl _ _⟩
    · rw [if_neg h2]
      obtain ⟨N, rfl⟩ : ∃ N : Nat, n = N := ⟨n.toNat, by omega⟩
      rw [Int.toNat_natCast]
      exact gap_in_any W hz (by omega) (by omega) hL
end Go.Proofs.Ytjaiahnibeieiaa
