/- What a request comes to; the chapter's example; few; plain facts on modes and on right requests. -/
import Derived.Test.YtpoibgiajaeegaaG3
import Derived.Deep.AppendLies
namespace Go.Proofs.Ytpoibgiajaeegaa
open Go Go.RowKit Go.Shelf

theorem lat_left : ∀ i, i ≤ 6 → ∀ j, j ≤ 6 → covB (supN i j) i = true := by decide +kernel
theorem lat_right : ∀ i, i ≤ 6 → ∀ j, j ≤ 6 → covB (supN i j) j = true := by decide +kernel
theorem lat_other : ∀ i, i ≤ 6 → ∀ j, j ≤ 6 → covB i (supN i j) = covB i j := by decide +kernel
def tgtV (had asked : Int) : Value := .tuple #[.int .i64 (supN (kn had) (kn asked) : Nat), .bool (!covB (kn had) (kn asked))]
theorem target_any (had asked : Int) (w0 w : World) (hb : Below w0.heap.size w0 w) : Calls Try.prog 8 #[.int .i64 had, .int .i64 asked] w fun e w' => e = .returned (tgtV had asked) ∧ Below w0.heap.size w0 w' := by
  have H1 := Lib.hid (fun (w1 : World) (h : Below w0.heap.size w0 w1) => sup_any had asked w0 w1 h)
  have H2 := Lib.hid (fun (w1 : World) (h : Below w0.heap.size w0 w1) => covers_any had asked w0 w1 h)
  have HV := Lib.hid (show tgtV had asked = .tuple #[.int .i64 (supN (kn had) (kn asked) : Nat), .bool (!covB (kn had) (kn asked))] from rfl)
  generalize supN (kn had) (kn asked) = s at *
  generalize covB (kn had) (kn asked) = q at *
  have H1' := Lib.hid (H1.out _ hb)
  go_enter Try.func8, Try.ntmps8
  go_wp2_with fail
  refine H1'.out.mono ?_
  rintro e w1 ⟨rfl, hb1⟩
  have H2' := Lib.hid (H2.out _ hb1)
  go_wp2_with fail
  refine H2'.out.mono ?_
  rintro e w2 ⟨rfl, hb2⟩
  go_wp2_with fail
  go_ret2
  exact ⟨by rw [HV.out]; rfl, hb2⟩
theorem few_any (A : Option Addr) (n c : Nat) (W : World) : Calls Try.prog 7 #[.slice A n c] W fun e w' => e = .returned (.bool (decide (n ≤ 30))) ∧ W = w' := by
  have HE := Lib.hid (show decide (n ≤ 30) = decide ((n : Int) ≤ 30) by rw [decide_eq_decide]; omega)
  go_enter Try.func7, Try.ntmps7
  go_wp2
  go_ret
  exact ⟨by rw [HE.out]; rfl, rfl⟩
theorem ls_block {W : World} {g : Nat} {cs : Array Value} {t : TypeId} {fr : Nat × Nat} {xs : List Wt} (h : W.heap[g]? = some (.cells cs t fr)) (he : cs.toList = flat xs) (hl : xs.length ≤ 1000) : Ls W (some ⟨g, 0, none⟩) xs.length xs := by
  refine ⟨Nat.le_refl _, by unfold maxLen; omega, by simp, fun a ha j u hj => ?_⟩
  obtain rfl : (⟨g, 0, none⟩ : Addr) = a := by simpa using ha
  exact World.news_of_block h j u (by rw [he]; exact hj)
set_option maxHeartbeats 1000000 in
theorem awake_any (w0 w : World) (hb : Below w0.heap.size w0 w) : Calls Try.prog 6 #[] w fun e w' => e = .returned (.bool true) ∧ Below w0.heap.size w0 w' := by
  have hx := box_below w (.cells #[.int .i64 1, .int .i64 3, .bool false, .bool false, .int .i64 2, .int .i64 3, .bool false, .bool false] 24)
  have hls : Ls (w.alloc (.cells #[.int .i64 1, .int .i64 3, .bool false, .bool false, .int .i64 2, .int .i64 3, .bool false, .bool false] 24)) (some ⟨w.heap.size, 0, none⟩) 2 [(1, 3, false, false), (2, 3, false, false)] :=
    ls_block (xs := [(1, 3, false, false), (2, 3, false, false)]) (heap_alloc_new w (.cells #[.int .i64 1, .int .i64 3, .bool false, .bool false, .int .i64 2, .int .i64 3, .bool false, .bool false] 24)) rfl (by decide)
  have HB := Lib.hid (hb.trans (hx.mono hb.size))
  have H1 := Lib.hid (place_any hls (by decide) true)
  have H2 := Lib.hid (fun (w1 : World) (h : Below (w.alloc (.cells #[.int .i64 1, .int .i64 3, .bool false, .bool false, .int .i64 2, .int .i64 3, .bool false, .bool false] 24)).heap.size (w.alloc (.cells #[.int .i64 1, .int .i64 3, .bool false, .bool false, .int .i64 2, .int .i64 3, .bool false, .bool false] 24)) w1) => place_any (hls.below h) (by decide) false)
  rw [show plc true [(1, 3, false, false), (2, 3, false, false)] = 0 by decide] at H1
  have HC := fun W => Lib.hid (check_any 0 1 0 W)
  have H2' := H2
  rw [show plc false [(1, 3, false, false), (2, 3, false, false)] = 2 by decide] at H2'
  clear hls hx
  go_enter Try.func6, Try.ntmps6
  go_wp2_with fail
  refine H1.out.mono ?_
  rintro e w1 ⟨rfl, hb1⟩
  have H3 := Lib.hid (H2'.out _ hb1)
  go_wp2_with fail
  refine H3.out.mono ?_
  rintro e w2 ⟨rfl, hb2⟩
  have hb3 := HB.out.trans ((hb1.trans (hb2.mono hb1.size)).mono HB.out.size)
  go_wp2_with fail
  refine (HC _).out.mono ?_
  rintro e w3 ⟨rfl, rfl⟩
  rw [show errV (okB3 0 1 0) = 1 by decide]
  go_wp2_with fail
  go_ret
  exact ⟨rfl, hb3⟩
/-- those of others, of right ones -/
theorem rg_wout {xs : List Wt} (h : Rg xs) (tx : Int) : Rg (wout tx xs) :=
  ⟨fun x hx => h.1 x (List.mem_filter.1 hx).1, h.2.1.filter _, h.2.2.filter _⟩
theorem fnd_wout (tx : Int) (xs : List Wt) : fndI tx (wout tx xs) = -1 := by
  refine idx_none fun i hi => ?_
  have := (List.mem_filter.1 (List.getElem_mem hi)).2
  simpa using this
theorem wout_of {tx : Int} {ys : List Wt} (h : ∀ y ∈ ys, y.1 ≠ tx) : wout tx ys = ys := List.filter_eq_self.2 fun y hy => by simpa using h y hy
theorem ne_wout (tx : Int) (xs : List Wt) : ∀ y ∈ wout tx xs, y.1 ≠ tx := fun y hy => by
  have := (List.mem_filter.1 hy).2
  simpa using this
theorem wout_ins {x : Wt} {ys : List Wt} (h : ∀ y ∈ ys, y.1 ≠ x.1) : wout x.1 (ins x ys) = ys := by
  unfold ins
  have e1 : wout x.1 (ys.take (plc x.2.2.1 ys)) = ys.take (plc x.2.2.1 ys) := wout_of fun y hy => h y (List.mem_of_mem_take hy)
  have e2 : wout x.1 (ys.drop (plc x.2.2.1 ys)) = ys.drop (plc x.2.2.1 ys) := wout_of fun y hy => h y (List.mem_of_mem_drop hy)
  have e3 : wout x.1 [x] = [] := by simp [wout]
  have e4 : ∀ a b : List Wt, wout x.1 (a ++ b) = wout x.1 a ++ wout x.1 b := fun a b => by simp [wout]
  rw [e4, e4, e1, e2, e3, List.append_nil, List.take_append_drop]
theorem ins_len (x : Wt) (ys : List Wt) : (ins x ys).length = ys.length + 1 := by
  have := plc_le x.2.2.1 ys
  unfold ins
  rw [List.length_append, List.length_append, List.length_take, List.length_drop]
  simp
  omega
theorem rg_ins {x : Wt} {ys : List Wt} (h : Rg ys) (hx : okW x = true) (hn : ∀ y ∈ ys, y.1 ≠ x.1) : Rg (ins x ys) := by
  have hle := plc_le x.2.2.1 ys
  obtain ⟨h1, h2, h3⟩ := h
  have d2 := h2
  have d3 := h3
  rw [← List.take_append_drop (plc x.2.2.1 ys) ys] at h2 h3
  rw [List.pairwise_append] at h2 h3
  unfold ins
  refine ⟨fun y hy => ?_, ?_, ?_⟩
  · rw [List.mem_append, List.mem_append, List.mem_singleton] at hy
    rcases hy with (hy | rfl) | hy
    · exact h1 y (List.mem_of_mem_take hy)
    · exact hx
    · exact h1 y (List.mem_of_mem_drop hy)
  · rw [List.append_assoc, List.pairwise_append]
    refine ⟨h2.1, ?_, ?_⟩
    · rw [List.singleton_append, List.pairwise_cons]
      exact ⟨fun y hy => (hn y (List.mem_of_mem_drop hy)).symm, h2.2.1⟩
    · intro a ha b hb
      rw [List.singleton_append, List.mem_cons] at hb
      rcases hb with rfl | hb
      · exact hn a (List.mem_of_mem_take ha)
      · exact h2.2.2 a ha b hb
  · rw [List.append_assoc, List.pairwise_append]
    have hdrop : x.2.2.1 = true → ∀ y ∈ ys.drop (plc x.2.2.1 ys), y.2.2.1 = false := by
      intro hc y hy
      obtain ⟨i, hi, rfl⟩ := List.getElem_of_mem hy
      have hpl : plc x.2.2.1 ys = plc true ys := by rw [hc]
      rw [List.getElem_drop]
      rw [List.length_drop] at hi
      exact plc_true_false ys (by omega) (by omega)
    have hnil : x.2.2.1 = false → ys.drop (plc x.2.2.1 ys) = [] := by
      intro hc
      rw [hc, plc_false, List.drop_length]
    refine ⟨h3.1, ?_, ?_⟩
    · rw [List.singleton_append, List.pairwise_cons]
      refine ⟨fun y hy hyc => ?_, h3.2.1⟩
      cases hc : x.2.2.1
      · rw [hnil hc] at hy; simp at hy
      · exact absurd hyc (by rw [hdrop hc y hy]; simp)
    · intro a ha b hb hbc
      rw [List.singleton_append, List.mem_cons] at hb
      rcases hb with rfl | hb
      · obtain ⟨i, hi, rfl⟩ := List.mem_take_iff_getElem.1 ha
        rw [hbc] at hi
        rw [List.pairwise_iff_getElem] at d3
        obtain ⟨m, hm⟩ : ∃ m, plc true ys = m + 1 := ⟨plc true ys - 1, by omega⟩
        rw [hbc] at hle
        have hmt := plc_true_true ys hm (by omega)
        rcases Nat.lt_or_ge i m with him | him
        · exact d3 i m (by omega) (by omega) him hmt
        · obtain rfl : i = m := by omega
          exact hmt
      · exact h3.2.2 a ha b hb hbc
end Go.Proofs.Ytpoibgiajaeegaa
