/- The contracts of the two functions that make a node of some numbers. -/
import Derived.Test.YtmlljgijbffepaaDoorA9
import Derived.Test.YtmlljgijbffepaaDoorB0
import Derived.Laws.IdiomCopy
import Derived.Laws.CopyRow
namespace Go.Proofs.YtmlljgijbffepaaDoor
open Go Go.RowKit

theorem may_is'' {p : Pt} {b : Bool} (h : rightB p = b) (w : World) : Calls Tryd.prog 10 #[p.v] w fun e w' => e = .returned (.bool b) ∧ Below w.heap.size w w' := by
  subst h; exact may_any p w
theorem rright_is {p : Pt} {b : Bool} (h : rightB p = b) (w : World) : Calls Tryd.prog 11 #[p.v] w fun e w' => e = .returned (.bool b) ∧ Below w.heap.size w w' := by
  subst h; exact rright_any p w

def makeP (zs : List Int) : Pt := ⟨zs.getD 0 0, zs.getD 1 0, zs.getD 2 0, zs.getD 3 0, (zs.length : Nat)⟩
def makeV (zs : List Int) : Value := if rightB (makeP zs) = true then .tuple #[(makeP zs).v, .int .i64 0] else .tuple #[Pt.v ⟨0, 0, 0, 0, 0⟩, .int .i64 1]

/-- numbers that lie behind an address, in blocks that were there -/
def Cells (w : World) (ad : Addr) (zs : List Int) : Prop := ∀ i (h : i < zs.length), ad.block < w.heap.size ∧ w.cell? (ad.add i) = some (.int .i64 zs[i])
theorem block_add (a : Addr) (n : Nat) : (a.add n).block = a.block := by unfold Addr.add; split <;> rfl
theorem Cells.later {w w' : World} {ad : Addr} {zs : List Int} (h : Cells w ad zs) (hb : Below w.heap.size w w') : Cells w' ad zs := fun i hi =>
  ⟨Nat.lt_of_lt_of_le (h i hi).1 hb.size, by rw [hb.cell (p := ad.add i) (by rw [block_add]; exact (h i hi).1)]; exact (h i hi).2⟩
theorem copy_nums (W : World) (g n c : Nat) (ad : Addr) (zs : List Int) (hn : zs.length = n) (hz : Cells W ad zs) (hc : ∀ j, j < 4 → (W.cell? ⟨g, j, none⟩).isSome = true) (hf : ∀ j, j < 4 → W.frozen? ⟨g, j, none⟩ = false) :
    (Builtin.copy_ #[25, 25] 3 #[.slice (some ⟨g, 0, none⟩) 4 4, .slice (some ad) n c]).run Tryd.prog W = .ok (.int .i64 ((min n 4 : Nat) : Int)) (W.setCells g 0 ((zs.take 4).map fun z => .int .i64 z)) := by
  have hl : ((zs.take 4).map fun z => (Value.int .i64 z)).length = Nat.min n 4 := by rw [List.length_map, List.length_take, hn]; exact Nat.min_comm 4 n
  have h := run_copy_cells (P := Tryd.prog) W 25 25 3 3 g 0 4 4 ad n c ((zs.take 4).map fun z => .int .i64 z) Tryd.underlying25 (by kernel_rfl) hl
    (fun j v hj => by
      rw [List.getElem?_map, List.getElem?_take] at hj
      split at hj
      · have hj' : j < zs.length := by
          rcases Nat.lt_or_ge j zs.length with z | z
          · exact z
          · rw [List.getElem?_eq_none z] at hj; simp at hj
        rw [List.getElem?_eq_getElem hj'] at hj
        simp at hj
        rw [← hj]
        exact (hz j hj').2
      · simp at hj)
    (fun j hj => by simpa using hc j (Nat.lt_of_lt_of_le (m := Nat.min n 4) (by rw [hl] at hj; exact hj) (Nat.min_le_right n 4))) (fun j hj => by simpa using hf j (Nat.lt_of_lt_of_le (m := Nat.min n 4) (by rw [hl] at hj; exact hj) (Nat.min_le_right n 4)))
    (fun v hv => by obtain ⟨z, _, rfl⟩ := List.mem_map.1 hv; rfl)
  rw [h, hl]; rfl

set_option maxHeartbeats 2000000 in
theorem make_0  (ad : Addr) (c : Nat) (w : World) (hz : Cells w ad ([])) :
    Calls Tryd.prog 8 #[.slice (some ad) 0 c] w fun e w' => e = .returned (makeV ([])) ∧ Below w.heap.size w w' := by
  have hr := copy_nums (boxed (boxed w 0 0 0 0 0) 0 0 0 0 0) (w.heap.size + 1) 0 c ad ([]) (by simp) (hz.later (below_pair w _ _))
    (fun j hj => by rcases (by omega : j = 0 ∨ j = 1 ∨ j = 2 ∨ j = 3) with rfl | rfl | rfl | rfl <;> simp [go_sem])
    (fun j hj => by rcases (by omega : j = 0 ∨ j = 1 ∨ j = 2 ∨ j = 3) with rfl | rfl | rfl | rfl <;> simp [go_sem])
  simp only [List.take, List.map, World.setCells, boxed] at hr
  cases hp : rightB ⟨0, 0, 0, 0, 0⟩
  · have HV := Lib.hid (show makeV ([]) = .tuple #[Pt.v ⟨0, 0, 0, 0, 0⟩, .int .i64 1] by unfold makeV makeP; simp [hp])
    go_enter Tryd.func8, Tryd.ntmps8
    go_wp2_with fail
    refine (may_is'' hp _).mono ?_
    rintro e1 w1 ⟨rfl, hb1⟩
    obtain ⟨hc1, hf1⟩ := kept hb1
    obtain ⟨e0, e1', e2, e3, e4, _⟩ := ((PtAt.new w 0 0 0 0 0).alloc _).later hb1
    go_wp2_with fail
    exact bodyPost_ret (v := .tuple #[Pt.v ⟨0, 0, 0, 0, 0⟩, .int .i64 1]) (by simp [results, Tryd.results8, go_sem, e0, e1', e2, e3, e4]) rfl ⟨by rw [HV.out], below_set5 (below_past hb1) (by omega) _ _ _ _ _⟩
  · have HV := Lib.hid (show makeV ([]) = .tuple #[Pt.v ⟨0, 0, 0, 0, 0⟩, .int .i64 0] by unfold makeV makeP; simp [hp])
    go_enter Tryd.func8, Tryd.ntmps8
    go_wp2_with fail
    refine (may_is'' hp _).mono ?_
    rintro e1 w1 ⟨rfl, hb1⟩
    obtain ⟨hc1, hf1⟩ := kept hb1
    obtain ⟨e0, e1', e2, e3, e4, _⟩ := ((PtAt.new w 0 0 0 0 0).alloc _).later hb1
    go_wp2_with fail
    exact bodyPost_ret (v := .tuple #[Pt.v ⟨0, 0, 0, 0, 0⟩, .int .i64 0]) (by simp [results, Tryd.results8, go_sem, e0, e1', e2, e3, e4]) rfl ⟨by rw [HV.out], below_set5 (below_past hb1) (by omega) _ _ _ _ _⟩

set_option maxHeartbeats 2000000 in
theorem make_1 (x0 : Int) (ad : Addr) (c : Nat) (w : World) (hz : Cells w ad ([x0])) :
    Calls Tryd.prog 8 #[.slice (some ad) 1 c] w fun e w' => e = .returned (makeV ([x0])) ∧ Below w.heap.size w w' := by
  have hr := copy_nums (boxed (boxed w 0 0 0 0 0) 0 0 0 0 1) (w.heap.size + 1) 1 c ad ([x0]) (by simp) (hz.later (below_pair w _ _))
    (fun j hj => by rcases (by omega : j = 0 ∨ j = 1 ∨ j = 2 ∨ j = 3) with rfl | rfl | rfl | rfl <;> simp [go_sem])
    (fun j hj => by rcases (by omega : j = 0 ∨ j = 1 ∨ j = 2 ∨ j = 3) with rfl | rfl | rfl | rfl <;> simp [go_sem])
  simp only [List.take, List.map, World.setCells, boxed] at hr
  cases hp : rightB ⟨x0, 0, 0, 0, 1⟩
  · have HV := Lib.hid (show makeV ([x0]) = .tuple #[Pt.v ⟨0, 0, 0, 0, 0⟩, .int .i64 1] by unfold makeV makeP; simp [hp])
    go_enter Tryd.func8, Tryd.ntmps8
    go_wp2_with fail
    refine (may_is'' hp _).mono ?_
    rintro e1 w1 ⟨rfl, hb1⟩
    obtain ⟨hc1, hf1⟩ := kept hb1
    obtain ⟨e0, e1', e2, e3, e4, _⟩ := ((PtAt.new w 0 0 0 0 0).alloc _).later hb1
    go_wp2_with fail
    exact bodyPost_ret (v := .tuple #[Pt.v ⟨0, 0, 0, 0, 0⟩, .int .i64 1]) (by simp [results, Tryd.results8, go_sem, e0, e1', e2, e3, e4]) rfl ⟨by rw [HV.out], below_set5 (below_past hb1) (by omega) _ _ _ _ _⟩
  · have HV := Lib.hid (show makeV ([x0]) = .tuple #[Pt.v ⟨x0, 0, 0, 0, 1⟩, .int .i64 0] by unfold makeV makeP; simp [hp])
    go_enter Tryd.func8, Tryd.ntmps8
    go_wp2_with fail
    refine (may_is'' hp _).mono ?_
    rintro e1 w1 ⟨rfl, hb1⟩
    obtain ⟨hc1, hf1⟩ := kept hb1
    obtain ⟨e0, e1', e2, e3, e4, _⟩ := ((PtAt.new w 0 0 0 0 0).alloc _).later hb1
    go_wp2_with fail
    exact bodyPost_ret (v := .tuple #[Pt.v ⟨x0, 0, 0, 0, 1⟩, .int .i64 0]) (by simp [results, Tryd.results8, go_sem, e0, e1', e2, e3, e4]) rfl ⟨by rw [HV.out], below_set5 (below_past hb1) (by omega) _ _ _ _ _⟩

set_option maxHeartbeats 2000000 in
theorem make_2 (x0 x1 : Int) (ad : Addr) (c : Nat) (w : World) (hz : Cells w ad ([x0, x1])) :
    Calls Tryd.prog 8 #[.slice (some ad) 2 c] w fun e w' => e = .returned (makeV ([x0, x1])) ∧ Below w.heap.size w w' := by
  have hr := copy_nums (boxed (boxed w 0 0 0 0 0) 0 0 0 0 2) (w.heap.size + 1) 2 c ad ([x0, x1]) (by simp) (hz.later (below_pair w _ _))
    (fun j hj => by rcases (by omega : j = 0 ∨ j = 1 ∨ j = 2 ∨ j = 3) with rfl | rfl | rfl | rfl <;> simp [go_sem])
    (fun j hj => by rcases (by omega : j = 0 ∨ j = 1 ∨ j = 2 ∨ j = 3) with rfl | rfl | rfl | rfl <;> simp [go_sem])
  simp only [List.take, List.map, World.setCells, boxed] at hr
  cases hp : rightB ⟨x0, x1, 0, 0, 2⟩
  · have HV := Lib.hid (show makeV ([x0, x1]) = .tuple #[Pt.v ⟨0, 0, 0, 0, 0⟩, .int .i64 1] by unfold makeV makeP; simp [hp])
    go_enter Tryd.func8, Tryd.ntmps8
    go_wp2_with fail
    refine (may_is'' hp _).mono ?_
    rintro e1 w1 ⟨rfl, hb1⟩
    obtain ⟨hc1, hf1⟩ := kept hb1
    obtain ⟨e0, e1', e2, e3, e4, _⟩ := ((PtAt.new w 0 0 0 0 0).alloc _).later hb1
    go_wp2_with fail
    exact bodyPost_ret (v := .tuple #[Pt.v ⟨0, 0, 0, 0, 0⟩, .int .i64 1]) (by simp [results, Tryd.results8, go_sem, e0, e1', e2, e3, e4]) rfl ⟨by rw [HV.out], below_set5 (below_past hb1) (by omega) _ _ _ _ _⟩
  · have HV := Lib.hid (show makeV ([x0, x1]) = .tuple #[Pt.v ⟨x0, x1, 0, 0, 2⟩, .int .i64 0] by unfold makeV makeP; simp [hp])
    go_enter Tryd.func8, Tryd.ntmps8
    go_wp2_with fail
    refine (may_is'' hp _).mono ?_
    rintro e1 w1 ⟨rfl, hb1⟩
    obtain ⟨hc1, hf1⟩ := kept hb1
    obtain ⟨e0, e1', e2, e3, e4, _⟩ := ((PtAt.new w 0 0 0 0 0).alloc _).later hb1
    go_wp2_with fail
    exact bodyPost_ret (v := .tuple #[Pt.v ⟨x0, x1, 0, 0, 2⟩, .int .i64 0]) (by simp [results, Tryd.results8, go_sem, e0, e1', e2, e3, e4]) rfl ⟨by rw [HV.out], below_set5 (below_past hb1) (by omega) _ _ _ _ _⟩

set_option maxHeartbeats 2000000 in
theorem make_3 (x0 x1 x2 : Int) (ad : Addr) (c : Nat) (w : World) (hz : Cells w ad ([x0, x1, x2])) :
    Calls Tryd.prog 8 #[.slice (some ad) 3 c] w fun e w' => e = .returned (makeV ([x0, x1, x2])) ∧ Below w.heap.size w w' := by
  have hr := copy_nums (boxed (boxed w 0 0 0 0 0) 0 0 0 0 3) (w.heap.size + 1) 3 c ad ([x0, x1, x2]) (by simp) (hz.later (below_pair w _ _))
    (fun j hj => by rcases (by omega : j = 0 ∨ j = 1 ∨ j = 2 ∨ j = 3) with rfl | rfl | rfl | rfl <;> simp [go_sem])
    (fun j hj => by rcases (by omega : j = 0 ∨ j = 1 ∨ j = 2 ∨ j = 3) with rfl | rfl | rfl | rfl <;> simp [go_sem])
  simp only [List.take, List.map, World.setCells, boxed] at hr
  cases hp : rightB ⟨x0, x1, x2, 0, 3⟩
  · have HV := Lib.hid (show makeV ([x0, x1, x2]) = .tuple #[Pt.v ⟨0, 0, 0, 0, 0⟩, .int .i64 1] by unfold makeV makeP; simp [hp])
    go_enter Tryd.func8, Tryd.ntmps8
    go_wp2_with fail
    refine (may_is'' hp _).mono ?_
    rintro e1 w1 ⟨rfl, hb1⟩
    obtain ⟨hc1, hf1⟩ := kept hb1
    obtain ⟨e0, e1', e2, e3, e4, _⟩ := ((PtAt.new w 0 0 0 0 0).alloc _).later hb1
    go_wp2_with fail
    exact bodyPost_ret (v := .tuple #[Pt.v ⟨0, 0, 0, 0, 0⟩, .int .i64 1]) (by simp [results, Tryd.results8, go_sem, e0, e1', e2, e3, e4]) rfl ⟨by rw [HV.out], below_set5 (below_past hb1) (by omega) _ _ _ _ _⟩
  · have HV := Lib.hid (show makeV ([x0, x1, x2]) = .tuple #[Pt.v ⟨x0, x1, x2, 0, 3⟩, .int .i64 0] by unfold makeV makeP; simp [hp])
    go_enter Tryd.func8, Tryd.ntmps8
    go_wp2_with fail
    refine (may_is'' hp _).mono ?_
    rintro e1 w1 ⟨rfl, hb1⟩
    obtain ⟨hc1, hf1⟩ := kept hb1
    obtain ⟨e0, e1', e2, e3, e4, _⟩ := ((PtAt.new w 0 0 0 0 0).alloc _).later hb1
    go_wp2_with fail
    exact bodyPost_ret (v := .tuple #[Pt.v ⟨x0, x1, x2, 0, 3⟩, .int .i64 0]) (by simp [results, Tryd.results8, go_sem, e0, e1', e2, e3, e4]) rfl ⟨by rw [HV.out], below_set5 (below_past hb1) (by omega) _ _ _ _ _⟩

set_option maxHeartbeats 2000000 in
theorem make_4 (x0 x1 x2 x3 : Int) (ad : Addr) (c : Nat) (w : World) (hz : Cells w ad ([x0, x1, x2, x3])) :
    Calls Tryd.prog 8 #[.slice (some ad) 4 c] w fun e w' => e = .returned (makeV ([x0, x1, x2, x3])) ∧ Below w.heap.size w w' := by
  have hr := copy_nums (boxed (boxed w 0 0 0 0 0) 0 0 0 0 4) (w.heap.size + 1) 4 c ad ([x0, x1, x2, x3]) (by simp) (hz.later (below_pair w _ _))
    (fun j hj => by rcases (by omega : j = 0 ∨ j = 1 ∨ j = 2 ∨ j = 3) with rfl | rfl | rfl | rfl <;> simp [go_sem])
    (fun j hj => by rcases (by omega : j = 0 ∨ j = 1 ∨ j = 2 ∨ j = 3) with rfl | rfl | rfl | rfl <;> simp [go_sem])
  simp only [List.take, List.map, World.setCells, boxed] at hr
  cases hp : rightB ⟨x0, x1, x2, x3, 4⟩
  · have HV := Lib.hid (show makeV ([x0, x1, x2, x3]) = .tuple #[Pt.v ⟨0, 0, 0, 0, 0⟩, .int .i64 1] by unfold makeV makeP; simp [hp])
    go_enter Tryd.func8, Tryd.ntmps8
    go_wp2_with fail
    refine (may_is'' hp _).mono ?_
    rintro e1 w1 ⟨rfl, hb1⟩
    obtain ⟨hc1, hf1⟩ := kept hb1
    obtain ⟨e0, e1', e2, e3, e4, _⟩ := ((PtAt.new w 0 0 0 0 0).alloc _).later hb1
    go_wp2_with fail
    exact bodyPost_ret (v := .tuple #[Pt.v ⟨0, 0, 0, 0, 0⟩, .int .i64 1]) (by simp [results, Tryd.results8, go_sem, e0, e1', e2, e3, e4]) rfl ⟨by rw [HV.out], below_set5 (below_past hb1) (by omega) _ _ _ _ _⟩
  · have HV := Lib.hid (show makeV ([x0, x1, x2, x3]) = .tuple #[Pt.v ⟨x0, x1, x2, x3, 4⟩, .int .i64 0] by unfold makeV makeP; simp [hp])
    go_enter Tryd.func8, Tryd.ntmps8
    go_wp2_with fail
    refine (may_is'' hp _).mono ?_
    rintro e1 w1 ⟨rfl, hb1⟩
    obtain ⟨hc1, hf1⟩ := kept hb1
    obtain ⟨e0, e1', e2, e3, e4, _⟩ := ((PtAt.new w 0 0 0 0 0).alloc _).later hb1
    go_wp2_with fail
    exact bodyPost_ret (v := .tuple #[Pt.v ⟨x0, x1, x2, x3, 4⟩, .int .i64 0]) (by simp [results, Tryd.results8, go_sem, e0, e1', e2, e3, e4]) rfl ⟨by rw [HV.out], below_set5 (below_past hb1) (by omega) _ _ _ _ _⟩

theorem makeV_long (l : List Int) (h : 5 ≤ l.length) : makeV l = .tuple #[Pt.v ⟨0, 0, 0, 0, 0⟩, .int .i64 1] := by
  unfold makeV
  rw [rightB_out (p := makeP l) (by unfold makeP; simp only; omega)]; rfl
set_option maxHeartbeats 2000000 in
theorem make_5 (l : List Int) (n : Nat) (hn : l.length = n) (h5 : 5 ≤ n) (hm : n ≤ 20) (ad : Addr) (c : Nat) (w : World) (hz : Cells w ad l) :
    Calls Tryd.prog 8 #[.slice (some ad) n c] w fun e w' => e = .returned (makeV l) ∧ Below w.heap.size w w' := by
  have hr := copy_nums (boxed (boxed w 0 0 0 0 0) 0 0 0 0 (n : Nat)) (w.heap.size + 1) n c ad l hn (hz.later (below_pair w _ _))
    (fun j hj => by rcases (by omega : j = 0 ∨ j = 1 ∨ j = 2 ∨ j = 3) with rfl | rfl | rfl | rfl <;> simp [go_sem])
    (fun j hj => by rcases (by omega : j = 0 ∨ j = 1 ∨ j = 2 ∨ j = 3) with rfl | rfl | rfl | rfl <;> simp [go_sem])
  have HV := Lib.hid (makeV_long l (by omega))
  obtain ⟨x0, x1, x2, x3, hx⟩ : ∃ x0 x1 x2 x3, l.take 4 = [x0, x1, x2, x3] := by
    match l, hn with
    | x0 :: x1 :: x2 :: x3 :: _ :: _, _ => exact ⟨x0, x1, x2, x3, rfl⟩
    | [], hn => simp at hn; omega
    | [_], hn => simp at hn; omega
    | [_, _], hn => simp at hn; omega
    | [_, _, _], hn => simp at hn; omega
    | [_, _, _, _], hn => simp at hn; omega
  rw [hx, show min n 4 = 4 by omega] at hr
  simp only [List.map, World.setCells, boxed] at hr
  have hp : rightB ⟨x0, x1, x2, x3, (n : Nat)⟩ = false := rightB_out (by simp only; omega)
  clear hx hn
  go_enter Tryd.func8, Tryd.ntmps8
  go_wp2_with fail
  refine (may_is'' hp _).mono ?_
  rintro e1 w1 ⟨rfl, hb1⟩
  obtain ⟨hc1, hf1⟩ := kept hb1
  obtain ⟨e0, e1', e2, e3, e4, _⟩ := ((PtAt.new w 0 0 0 0 0).alloc _).later hb1
  go_wp2_with fail
  exact bodyPost_ret (v := .tuple #[Pt.v ⟨0, 0, 0, 0, 0⟩, .int .i64 1]) (by simp [results, Tryd.results8, go_sem, e0, e1', e2, e3, e4]) rfl ⟨by rw [HV.out], below_set5 (below_past hb1) (by omega) _ _ _ _ _⟩

set_option maxHeartbeats 2000000 in
theorem make_nil (w : World) :
    Calls Tryd.prog 8 #[.slice none 0 0] w fun e w' => e = .returned (makeV []) ∧ Below w.heap.size w w' := by
  have hr := run_copy_nil (P := Tryd.prog) (boxed (boxed w 0 0 0 0 0) 0 0 0 0 0) 25 25 3 3 ⟨w.heap.size + 1, 0, none⟩ 4 4 Tryd.underlying25 (by kernel_rfl)
  simp only [boxed] at hr
  have hp : rightB ⟨0, 0, 0, 0, 0⟩ = false := by decide
  have HV := Lib.hid (show makeV [] = .tuple #[Pt.v ⟨0, 0, 0, 0, 0⟩, .int .i64 1] by unfold makeV makeP; simp [hp])
  go_enter Tryd.func8, Tryd.ntmps8
  go_wp2_with fail
  refine (may_is'' hp _).mono ?_
  rintro e1 w1 ⟨rfl, hb1⟩
  obtain ⟨hc1, hf1⟩ := kept hb1
  obtain ⟨e0, e1', e2, e3, e4, _⟩ := ((PtAt.new w 0 0 0 0 0).alloc _).later hb1
  go_wp2_with fail
  exact bodyPost_ret (v := .tuple #[Pt.v ⟨0, 0, 0, 0, 0⟩, .int .i64 1]) (by simp [results, Tryd.results8, go_sem, e0, e1', e2, e3, e4]) rfl ⟨by rw [HV.out], below_set5 (below_past hb1) (by omega) _ _ _ _ _⟩

/-- a slice that is nil, or whose numbers lie behind its address -/
def Inp (w : World) (A : Option Addr) (n c : Nat) (zs : List Int) : Prop := zs.length = n ∧ ((A = none ∧ n = 0 ∧ c = 0) ∨ ∃ ad, A = some ad ∧ Cells w ad zs)
theorem make_any (A : Option Addr) (n c : Nat) (zs : List Int) (w : World) (h : Inp w A n c zs) (hn : n ≤ 20) :
    Calls Tryd.prog 8 #[.slice A n c] w fun e w' => e = .returned (makeV zs) ∧ Below w.heap.size w w' := by
  obtain ⟨hl, ⟨rfl, rfl, rfl⟩ | ⟨ad, rfl, hz⟩⟩ := h
  · obtain rfl : zs = [] := List.length_eq_zero_iff.1 hl
    exact make_nil w
  · match zs, hl, hz with
    | [], rfl, hz => exact make_0 ad c w hz
    | [x0], rfl, hz => exact make_1 x0 ad c w hz
    | [x0, x1], rfl, hz => exact make_2 x0 x1 ad c w hz
    | [x0, x1, x2], rfl, hz => exact make_3 x0 x1 x2 ad c w hz
    | [x0, x1, x2, x3], rfl, hz => exact make_4 x0 x1 x2 x3 ad c w hz
    | x0 :: x1 :: x2 :: x3 :: x4 :: r, hl, hz => exact make_5 _ n hl (by rw [← hl]; simp) hn ad c w hz
end Go.Proofs.YtmlljgijbffepaaDoor
