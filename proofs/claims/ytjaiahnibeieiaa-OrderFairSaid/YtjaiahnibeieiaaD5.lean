/- Fair. -/
import Derived.Test.YtjaiahnibeieiaaD4
namespace Go.Proofs.Ytjaiahnibeieiaa
open Go Go.RowKit Go.Shelf
attribute [local go_sem] Oper.semAt_some

theorem results_bool {fn : Func} {p : Tmp} (h : fn.results = #[.cell p 4]) {tmps : Array Value} {w : World} {b : Nat} {x : Bool} (hp : tmps.getD p undef = wp b) (hc : w.cell? ⟨b, 0, none⟩ = some (.bool x)) :
    (results fn tmps).run Try.prog w = .ok (.bool x) w := by
  have hp' : tmps[p]?.getD undef = .pointer (some ⟨b, 0, none⟩) := by simpa using hp
  simp [results, h, hp', go_sem, hc]
/-- what Fair answers -/
def FairSays (W : World) (x : Bool) (e : Ending) (w' : World) : Prop := e = .returned (.bool x) ∧ Below W.heap.size W w'
theorem two_below (W : World) (o o' : Obj) : Below W.heap.size W ((W.alloc o).alloc o') := ((Below.refl _ W).alloc (Nat.le_refl _) _).alloc (by simp) _
theorem fair_less_any {A : Option Addr} {L c : Nat} (n w : Int) (W : World) (h : n < 1 ∨ w < n) : Calls Try.prog 14 #[.slice A L c, .int .i64 n, .int .i64 w] W (FairSays W false) := by
  have HB := Lib.hid (two_below W (.cells #[.int .i64 w] 3) (.cells #[.bool false] 4))
  by_cases h1 : n < 1
  · go_enter Try.func14, Try.ntmps14
    go_wp2
    exact bodyPost_ret (results_bool rfl rfl (by simp [go_sem])) rfl ⟨rfl, HB.out⟩
  · have h2 : w < n := by omega
    go_enter Try.func14, Try.ntmps14
    go_wp2
    exact bodyPost_ret (results_bool rfl rfl (by simp [go_sem])) rfl ⟨rfl, HB.out⟩
theorem fair_great_any {A : Option Addr} {L c : Nat} (n w : Int) (W : World) (h : ¬ (n < 1 ∨ w < n)) (h2 : (L : Int) < w) : Calls Try.prog 14 #[.slice A L c, .int .i64 n, .int .i64 w] W (FairSays W true) := by
  have HB := Lib.hid (two_below W (.cells #[.int .i64 w] 3) (.cells #[.bool true] 4))
  have h3 : ¬ n < 1 := by omega
  have h4 : ¬ w < n := by omega
  go_enter Try.func14, Try.ntmps14
  go_wp2
  exact bodyPost_ret (results_bool rfl rfl (by simp [go_sem])) rfl ⟨rfl, HB.out⟩
/-- while Fair goes through the gaps -/
structure Fi (W : World) (w : Int) (pre : List Int) (X : World) : Prop where
  le : ∀ g ∈ pre, g ≤ w
  bw : Boxed X W.heap.size 3 (.int .i64 w)
  br : Boxed X (W.heap.size + 1) 4 (.bool false)
  bel : Below W.heap.size W X
theorem Fi.below {W X Y : World} {w : Int} {pre : List Int} {B : Nat} (h : Fi W w pre X) (hB : W.heap.size + 2 ≤ B) (hb : Below B X Y) : Fi W w pre Y :=
  ⟨h.le, (hb.block _ (by omega)).trans h.bw, (hb.block _ (by omega)).trans h.br, h.bel.trans (hb.mono (by omega))⟩
set_option maxRecDepth 100000 in
set_option maxHeartbeats 4000000 in
theorem fair_in_any {A : Option Addr} {L c N : Nat} {z : Nat → Int} (w : Int) (W : World) (hz : Rf W A L z) (h1 : 1 ≤ N) (h2 : (N : Int) ≤ w) (h3 : w ≤ (L : Int)) (hL : L ≤ 1000) :
    Calls Try.prog 14 #[.slice A L c, .int .i64 (N : Int), .int .i64 w] W (FairSays W (decide (∀ g ∈ gapsL z L N, g ≤ w))) := by
  refine (callsIn_wide (n := 9)).1 ?_
  refine callsIn_of_wp_marks Try.func14 rfl trivial ?_ rfl
  simp only [Try.ntmps14, List.size_toArray, List.length_cons, List.length_nil, Nat.reduceAdd, Nat.reduceSub, Array.replicate_succ, Array.replicate_zero, List.push_toArray, List.append_toArray, List.nil_append, List.cons_append]
  refine wpIn_wide.2 ?_
  have d1 : ¬ (N : Int) < 1 := by omega
  have d2 : ¬ w < (N : Int) := by omega
  have d3 : ¬ (L : Int) < w := by omega
  have HZ := Lib.hid hz
  clear hz
  go_wp2_with fail
  refine (gaps_any A L c (N : Int) _).mono ?_
  rintro e w5 ⟨rfl, rfl⟩
  rw [World.size_alloc, World.size_alloc]
  have hs5 : ((((W.alloc (.cells #[.int .i64 w] 3)).alloc (.cells #[.bool false] 4)).alloc (.cells #[.slice A L c] 23)).alloc (.cells #[.int .i64 (N : Int)] 3)).heap.size = W.heap.size + 4 := by simp
  have hb5 : Below W.heap.size W ((((W.alloc (.cells #[.int .i64 w] 3)).alloc (.cells #[.bool false] 4)).alloc (.cells #[.slice A L c] 23)).alloc (.cells #[.int .i64 (N : Int)] 3)) := (((two_below W _ _).alloc (by simp; omega) _).alloc (by simp; omega) _)
  have hbw := (((Boxed.new W 3 (.int .i64 w)).alloc (.cells #[.bool false] 4)).alloc (.cells #[.slice A L c] 23)).alloc (.cells #[.int .i64 (N : Int)] 3)
  have hbr := ((Boxed.new (W.alloc (.cells #[.int .i64 w] 3)) 4 (.bool false)).alloc (.cells #[.slice A L c] 23)).alloc (.cells #[.int .i64 (N : Int)] 3)
  rw [World.size_alloc] at hbr
  have hc1 : ((((W.alloc (.cells #[.int .i64 w] 3)).alloc (.cells #[.bool false] 4)).alloc (.cells #[.slice A L c] 23)).alloc (.cells #[.int .i64 (N : Int)] 3)).cell? ⟨W.heap.size + 1 + 1, 0, none⟩ = some (.slice A L c) := by simp [go_sem]
  have hc2 : ((((W.alloc (.cells #[.int .i64 w] 3)).alloc (.cells #[.bool false] 4)).alloc (.cells #[.slice A L c] 23)).alloc (.cells #[.int .i64 (N : Int)] 3)).cell? ⟨W.heap.size + 1 + 1 + 1, 0, none⟩ = some (.int .i64 (N : Int)) := by simp [go_sem]
  go_wp2_with fail
  generalize (((W.alloc (.cells #[.int .i64 w] 3)).alloc (.cells #[.bool false] 4)).alloc (.cells #[.slice A L c] 23)).alloc (.cells #[.int .i64 (N : Int)] 3) = w5 at hs5 hb5 hbw hbr hc1 hc2 ⊢
  have hz5 := HZ.out.below hb5
  have hR5 : ∀ k, Reads (W.heap.size + 1 + 1) (W.heap.size + 1 + 1 + 1) A L k → k < w5.heap.size ∧ ¬ k = W.heap.size + 1 := by
    intro k hk
    refine ⟨reads_lt hc1 hc2 hz5 k hk, ?_⟩
    rcases hk with rfl | rfl | ⟨ad, ha, h0, rfl⟩
    · omega
    · omega
    · obtain ⟨ad', e, hl, -⟩ := HZ.out 0 h0
      rw [ha] at e
      cases e
      omega
  have HTE := Lib.hid (gaps_tells (T := fun k => k = W.heap.size + 1) hc1 hc2 hz5 hL h1 (by omega) hR5 (fun k hk => by omega))
  have HF := Lib.hid (show Fi W w [] w5 from ⟨(fun _ h => by cases h), hbw, hbr, hb5⟩)
  clear hb5 hbw hbr hc1 hc2 hz5 hR5
  refine (wpIn_wide (n := 9)).1 ?_
  refine wp_range2 (α := Int) (encs := encG) (xs := gapsL z L N) (T := fun k => k = W.heap.size + 1) rfl (enters_of Try.func27 (by kernel_rfl) rfl) HTE.out (fun k hk => by omega) (fun _ => rfl)
    (Fi W w)
    (fun cd pre X => cd = .ret ∧ (∃ g ∈ pre, w < g) ∧ Boxed X (W.heap.size + 1) 4 (.bool false) ∧ Below W.heap.size W X)
    (fun pre x a' X => Fi W w pre X ∧ a' = { tmps := #[.slice A L c, .int .i64 (N : Int), .int .i64 w, undef, undef, wp W.heap.size, wp (W.heap.size + 1), .int .i64 x, .int .i64 (N : Int), .bool false, .bool false, .int .i64 w, .int .i64 (N : Int), .bool false, .bool false, .int .i64 w, .slice A L c, .int .i64 (L : Int), .bool false, .slice A L c, .int .i64 (N : Int), .func (.func 27) #[] #[wp (W.heap.size + 1 + 1 + 1), wp (W.heap.size + 1 + 1)], .int .i64 x, undef, undef, undef], defers := [] }) ?hI ?hIx ?hA HF.out ?assign ?body ?done ?stop
  case hI => exact fun s X Y h hb => h.below (by omega) hb
  case hIx =>
    rintro cd s X Y ⟨rfl, h, hb, hl⟩ ht
    exact ⟨rfl, h, (ht.block _ (by omega)).trans hb, hl.trans (ht.mono (by omega))⟩
  case hA =>
    rintro s x a' X Y ⟨h, h'⟩ hb
    exact ⟨h.below (by omega) hb, h'⟩
  case assign =>
    rintro l1 pre x X hi
    have HI := Lib.hid hi
    clear hi
    gi_wp2
    exact ⟨OnlyS.refl _ _, HI.out, by simp⟩
  case body =>
    rintro l1 pre x post a' X hx ⟨hf, rfl⟩
    have HF1 := Lib.hid hf
    have c0 := hf.bw.cell
    have c1 := hf.br.cell
    have f1 := hf.br.frozen
    clear hf
    by_cases hgt : w < x
    · have HO := Lib.hid (OnlyS.set (W.heap.size + 1) 0 X (.bool false))
      have HS := Lib.hid (show Boxed (X.setCell ⟨W.heap.size + 1, 0, none⟩ (.bool false)) (W.heap.size + 1) 4 (.bool false) from HF1.out.br.set _)
      have HB := Lib.hid (HF1.out.bel.trans (below_set (B := W.heap.size) (b := W.heap.size + 1) (o := 0) X (.bool false) (by omega)))
      gi_wp2
      exact ⟨HO.out, rfl, ⟨x, by simp, hgt⟩, HS.out, HB.out⟩
    · gi_wp2
      refine ⟨OnlyS.refl _ _, ?_, HF1.out.bw, HF1.out.br, HF1.out.bel⟩
      intro g hg
      rcases List.mem_append.1 hg with h | h
      · exact HF1.out.le g h
      · simp at h; omega
  case done =>
    rintro D X hD hf hd
    have HD := Lib.hid hd
    have HF1 := Lib.hid hf
    have c1 := hf.br.cell
    have f1 := hf.br.frozen
    clear hf hd
    dsimp only [Exit.inBlock, Exit.then]
    rename_i hK0
    refine hK0 _ _ ?_
    clear hK0
    have HS := Lib.hid (show Boxed (X.setCell ⟨W.heap.size + 1, 0, none⟩ (.bool true)) (W.heap.size + 1) 4 (.bool true) from HF1.out.br.set _)
    have HD2 := Lib.hid (show (X.setCell ⟨W.heap.size + 1, 0, none⟩ (.bool true)).heap[D]? = some (.deferred (some [])) from (set_other (by omega)).trans HD.out)
    have HB := Lib.hid (HF1.out.bel.trans (below_set (B := W.heap.size) (b := W.heap.size + 1) (o := 0) X (.bool true) (by omega)))
    go_wp2_with fail
    refine ⟨by simp, .inl ⟨_, _, rfl, run_takeDeferred HD2.out, ?_⟩⟩
    have hr : Boxed ((X.setCell ⟨W.heap.size + 1, 0, none⟩ (.bool true)).putObj D (.deferred none)) (W.heap.size + 1) 4 (.bool true) := (World.putObj_heap_other (by omega)).trans HS.out
    refine ⟨_, results_bool rfl rfl hr.cell, ?_, HB.out.trans (below_put _ _ (by omega))⟩
    rw [decide_eq_true HF1.out.le]
  case stop =>
    rintro D cd pre post X hD hx ⟨rfl, ⟨g, hg, hgw⟩, hb, hl⟩ hd
    have HD := Lib.hid hd
    clear hd
    gi_wp2
    refine ⟨by simp, .inl ⟨_, _, rfl, run_takeDeferred HD.out, ?_⟩⟩
    have hr : Boxed (X.putObj D (.deferred none)) (W.heap.size + 1) 4 (.bool false) := (World.putObj_heap_other (by omega)).trans hb
    refine ⟨_, results_bool rfl rfl hr.cell, ?_, hl.trans (below_put _ _ (by omega))⟩
    rw [decide_eq_false fun hall => ?_]
    have := hall g (by rw [hx]; exact List.mem_append_left _ hg)
    omega
theorem fair_any {A : Option Addr} {L c : Nat} {z : Nat → Int} (n w : Int) (W : World) (hz : Rf W A L z) (hL : L ≤ 1000) : Calls Try.prog 14 #[.slice A L c, .int .i64 n, .int .i64 w] W (FairSays W (fairI z L n w)) := by
  by_cases h : n < 1 ∨ w < n
  · rw [fair_less h]; exact fair_less_any n w W h
  · by_cases h2 : (L : Int) < w
    · rw [fair_great h h2]; exact fair_great_any n w W h h2
    · rw [fair_in h h2]
      obtain ⟨N, rfl⟩ : ∃ N : Nat, n = N := ⟨n.toNat, by omega⟩
      rw [Int.toNat_natCast]
      exact fair_in_any w W hz (by omega) (by omega) (by omega) hL
end Go.Proofs.Ytjaiahnibeieiaa
