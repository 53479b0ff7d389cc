/- The contracts of the functions that give the node above and a kid. -/
import Derived.Test.YtmlljgijbffepaaA2
import Derived.Deep.RegionHeld3
namespace Go.Proofs.Ytmlljgijbffepaa
open Go Go.RowKit

/-- a call gives a value, from whatever later world, and changes nothing that was there at first -/
def Gives (w0 : World) (f : Nat) (args : Array Value) (v : Value) : Prop :=
  ∀ w', Below w0.heap.size w0 w' → Calls Try.prog f args w' fun e w'' => e = .returned v ∧ Below w0.heap.size w0 w''
theorem Gives.use {w0 w' : World} {f : Nat} {args : Array Value} {v : Value} {Q : Ending → World → Prop} (h : Gives w0 f args v) (hb : Below w0.heap.size w0 w')
    (hq : ∀ w'', Below w0.heap.size w0 w'' → Q (.returned v) w'') : Calls Try.prog f args w' Q :=
  (h w' hb).mono fun _ w'' ⟨he, hb'⟩ => he ▸ hq w'' hb'
theorem Gives.of {w0 : World} {f : Nat} {args : Array Value} {v : Value} (h : ∀ w, Calls Try.prog f args w fun e w' => e = .returned v ∧ Below w.heap.size w w') : Gives w0 f args v :=
  fun w' hb => (h w').mono fun _ _ ⟨he, hb'⟩ => ⟨he, hb.trans (hb'.mono hb.size)⟩

def upV (p : Pt) : Value := if rightB p = true ∧ p.e ≠ 1 then .tuple #[(cutP p (p.e - 1)).v, .bool true] else .tuple #[Pt.v ⟨0, 0, 0, 0, 0⟩, .bool false]

theorem below_box {w w1 : World} {o : Obj} (h : Below (w.alloc o).heap.size (w.alloc o) w1) : Below w.heap.size w w1 := (box_below w o).trans (h.mono (by simp))

theorem kept {W w1 : World} (hb : Below W.heap.size W w1) :
    (∀ b o, b < W.heap.size → w1.cell? ⟨b, o, none⟩ = W.cell? ⟨b, o, none⟩) ∧ (∀ b o, b < W.heap.size → w1.frozen? ⟨b, o, none⟩ = W.frozen? ⟨b, o, none⟩) :=
  ⟨fun b o h => hb.cell (p := ⟨b, o, none⟩) h, fun b o h => hb.frozen (p := ⟨b, o, none⟩) h⟩

theorem below_set5 {B g : Nat} {w0 w : World} (h : Below B w0 w) (hg : B ≤ g) (x0 x1 x2 x3 x4 : Value) :
    Below B w0 (((((w.setCell ⟨g, 0, none⟩ x0).setCell ⟨g, 1, none⟩ x1).setCell ⟨g, 2, none⟩ x2).setCell ⟨g, 3, none⟩ x3).setCell ⟨g, 4, none⟩ x4) :=
  ((((h.setCell hg _).setCell hg _).setCell hg _).setCell hg _).setCell hg _
theorem below_2 (w : World) (o o' : Obj) : Below w.heap.size w ((w.alloc o).alloc o') := ((Below.refl _ _).alloc (Nat.le_refl _) _).alloc (by simp) _
theorem below_past {w w1 : World} {o o' : Obj} (h : Below ((w.alloc o).alloc o').heap.size ((w.alloc o).alloc o') w1) : Below w.heap.size w w1 := (below_2 w o o').trans (h.mono (by simp; omega))
theorem lt_two {w w1 : World} {o o' : Obj} (h : Below ((w.alloc o).alloc o').heap.size ((w.alloc o).alloc o') w1) : w.heap.size + 1 < w1.heap.size := by have := h.size; simp at this; omega
theorem right_depth {p : Pt} (h : rightB p = true) : 1 ≤ p.e ∧ p.e ≤ 4 := by
  by_cases q : 1 ≤ p.e ∧ p.e ≤ 4
  · exact q
  · rw [rightB_out q] at h; cases h

set_option maxHeartbeats 1000000 in
theorem up_any (p : Pt) (w : World) :
    Calls Try.prog 7 #[p.v] w fun e w' => e = .returned (upV p) ∧ Below w.heap.size w w' := by
  obtain ⟨a, b, c, d, e⟩ := p
  cases hr : rightB ⟨a, b, c, d, e⟩
  · have HV := Lib.hid (show upV ⟨a, b, c, d, e⟩ = .tuple #[Pt.v ⟨0, 0, 0, 0, 0⟩, .bool false] by simp [upV, hr])
    go_enter Try.func7, Try.ntmps7
    go_wp2_with (go_at_call 22; ((with_reducible refine (may_any ⟨a, b, c, d, e⟩ _).mono ?_); rintro e1 w1 ⟨rfl, hb1⟩; rw [hr]; obtain ⟨hc1, hf1⟩ := kept hb1))
    exact bodyPost_ret (v := .tuple #[Pt.v ⟨0, 0, 0, 0, 0⟩, .bool false]) (by simp [results, Try.results7, go_sem, hc1]) rfl ⟨by rw [HV.out], below_set5 (below_past hb1) (by omega) _ _ _ _ _⟩
  · have hd := right_depth hr
    simp only at hd
    by_cases h1 : e = 1
    · have HV := Lib.hid (show upV ⟨a, b, c, d, e⟩ = .tuple #[Pt.v ⟨0, 0, 0, 0, 0⟩, .bool false] by simp [upV, h1])
      have h1' : (e == 1) = true := by simp [h1]
      clear h1
      go_enter Try.func7, Try.ntmps7
      go_wp2_with (go_at_call 22; ((with_reducible refine (may_any ⟨a, b, c, d, e⟩ _).mono ?_); rintro e1 w1 ⟨rfl, hb1⟩; rw [hr]; obtain ⟨hc1, hf1⟩ := kept hb1))
      exact bodyPost_ret (v := .tuple #[Pt.v ⟨0, 0, 0, 0, 0⟩, .bool false]) (by simp [results, Try.results7, go_sem, hc1]) rfl ⟨by rw [HV.out], below_set5 (below_past hb1) (by omega) _ _ _ _ _⟩
    · have HV := Lib.hid (show upV ⟨a, b, c, d, e⟩ = .tuple #[(cutP ⟨a, b, c, d, e⟩ (e - 1)).v, .bool true] by simp [upV, h1, hr])
      have h1' : (e == 1) = false := by simp [h1]
      have h2 : 2 ≤ e := by omega
      have h4 : e ≤ 4 := hd.2
      clear h1 hd
      go_enter Try.func7, Try.ntmps7
      go_wp2_with (first | (go_at_call 22; ((with_reducible refine (may_any ⟨a, b, c, d, e⟩ _).mono ?_); rintro e1 w1 ⟨rfl, hb1⟩; rw [hr]; obtain ⟨hc1, hf1⟩ := kept hb1; have hz1 : w.heap.size + 1 < w1.heap.size := lt_two hb1)) | (go_at_call 24; ((with_reducible refine (top_any ⟨a, b, c, d, e⟩ (e - 1) _ (by omega) (by omega)).mono ?_); rintro e2 w2 ⟨rfl, hb2⟩; obtain ⟨hc2, hf2⟩ := kept hb2)))
      exact bodyPost_ret (v := .tuple #[(cutP ⟨a, b, c, d, e⟩ (e - 1)).v, .bool true]) (by simp [results, Try.results7, go_sem, hc2, hc1, hz1]) rfl ⟨by rw [HV.out], below_set5 ((below_past hb1).trans (hb2.mono (by omega))) (by omega) _ _ _ _ _⟩

/-- the two blocks that a call has laid are as they were, behind a call that keeps what was there -/
theorem kept_two {w w1 : World} {a b c d e : Int} (hb : Below (boxed (boxed w a b c d e) 0 0 0 0 0).heap.size (boxed (boxed w a b c d e) 0 0 0 0 0) w1) :
    (w1.cell? ⟨w.heap.size, 0, none⟩ = some (.int .i64 a) ∧ w1.cell? ⟨w.heap.size, 1, none⟩ = some (.int .i64 b) ∧ w1.cell? ⟨w.heap.size, 2, none⟩ = some (.int .i64 c) ∧ w1.cell? ⟨w.heap.size, 3, none⟩ = some (.int .i64 d) ∧ w1.cell? ⟨w.heap.size, 4, none⟩ = some (.int .i64 e)) ∧ (w1.frozen? ⟨w.heap.size, 0, none⟩ = false ∧ w1.frozen? ⟨w.heap.size, 1, none⟩ = false ∧ w1.frozen? ⟨w.heap.size, 2, none⟩ = false ∧ w1.frozen? ⟨w.heap.size, 3, none⟩ = false ∧ w1.frozen? ⟨w.heap.size, 4, none⟩ = false) ∧ (w1.cell? ⟨w.heap.size + 1, 0, none⟩ = some (.int .i64 0) ∧ w1.cell? ⟨w.heap.size + 1, 1, none⟩ = some (.int .i64 0) ∧ w1.cell? ⟨w.heap.size + 1, 2, none⟩ = some (.int .i64 0) ∧ w1.cell? ⟨w.heap.size + 1, 3, none⟩ = some (.int .i64 0) ∧ w1.cell? ⟨w.heap.size + 1, 4, none⟩ = some (.int .i64 0)) ∧ (w1.frozen? ⟨w.heap.size + 1, 0, none⟩ = false ∧ w1.frozen? ⟨w.heap.size + 1, 1, none⟩ = false ∧ w1.frozen? ⟨w.heap.size + 1, 2, none⟩ = false ∧ w1.frozen? ⟨w.heap.size + 1, 3, none⟩ = false ∧ w1.frozen? ⟨w.heap.size + 1, 4, none⟩ = false) := by
  obtain ⟨h1, h2⟩ := kept hb
  refine ⟨⟨?_, ?_, ?_, ?_, ?_⟩, ⟨?_, ?_, ?_, ?_, ?_⟩, ⟨?_, ?_, ?_, ?_, ?_⟩, ⟨?_, ?_, ?_, ?_, ?_⟩⟩
  all_goals first | rw [h1 _ _ (by simp; omega)] | rw [h2 _ _ (by simp; omega)] | rw [h1 _ _ (by simp)] | rw [h2 _ _ (by simp)]
  all_goals simp [go_sem]

/-- a node with a number behind its -/
def kidP (p : Pt) (n : Int) : Pt := ⟨p.a, if p.e = 1 then n else p.b, if p.e = 2 then n else p.c, if p.e = 3 then n else p.d, p.e + 1⟩
def kidB (p : Pt) (n : Int) : Bool := rightB p && (p.e != 4) && numB n
def kidV (p : Pt) (n : Int) : Value := if kidB p n = true then .tuple #[(kidP p n).v, .bool true] else .tuple #[Pt.v ⟨0, 0, 0, 0, 0⟩, .bool false]

set_option maxHeartbeats 1000000 in
theorem kid_any (p : Pt) (n : Int) (w : World) :
    Calls Try.prog 11 #[p.v, .int .i64 n] w fun e w' => e = .returned (kidV p n) ∧ Below w.heap.size w w' := by
  obtain ⟨a, b, c, d, e⟩ := p
  cases hr : rightB ⟨a, b, c, d, e⟩
  · have HV := Lib.hid (show kidV ⟨a, b, c, d, e⟩ n = .tuple #[Pt.v ⟨0, 0, 0, 0, 0⟩, .bool false] by simp [kidV, kidB, hr])
    go_enter Try.func11, Try.ntmps11
    go_wp2_with (go_at_call 22; ((with_reducible refine (may_any ⟨a, b, c, d, e⟩ _).mono ?_); rintro e1 w1 ⟨rfl, hb1⟩; rw [hr]; obtain ⟨hc1, hf1⟩ := kept hb1))
    exact bodyPost_ret (v := .tuple #[Pt.v ⟨0, 0, 0, 0, 0⟩, .bool false]) (by simp [results, Try.results11, go_sem, hc1]) rfl ⟨by rw [HV.out], below_set5 (below_past hb1) (by omega) _ _ _ _ _⟩
  · have hd := right_depth hr
    simp only at hd
    by_cases h1 : e = 4
    · have HV := Lib.hid (show kidV ⟨a, b, c, d, e⟩ n = .tuple #[Pt.v ⟨0, 0, 0, 0, 0⟩, .bool false] by simp [kidV, kidB, h1])
      have h1' : (e == 4) = true := by simp [h1]
      clear h1
      go_enter Try.func11, Try.ntmps11
      go_wp2_with (go_at_call 22; ((with_reducible refine (may_any ⟨a, b, c, d, e⟩ _).mono ?_); rintro e1 w1 ⟨rfl, hb1⟩; rw [hr]; obtain ⟨hc1, hf1⟩ := kept hb1))
      exact bodyPost_ret (v := .tuple #[Pt.v ⟨0, 0, 0, 0, 0⟩, .bool false]) (by simp [results, Try.results11, go_sem, hc1]) rfl ⟨by rw [HV.out], below_set5 (below_past hb1) (by omega) _ _ _ _ _⟩
    · have h1' : (e == 4) = false := by simp [h1]
      cases hn : numB n
      · have HV := Lib.hid (show kidV ⟨a, b, c, d, e⟩ n = .tuple #[Pt.v ⟨0, 0, 0, 0, 0⟩, .bool false] by simp [kidV, kidB, hn])
        clear h1
        go_enter Try.func11, Try.ntmps11
        go_wp2_with (first | (go_at_call 22; ((with_reducible refine (may_any ⟨a, b, c, d, e⟩ _).mono ?_); rintro e1 w1 ⟨rfl, hb1⟩; rw [hr]; obtain ⟨hc1, hf1⟩ := kept hb1)) | (go_at_call 27; ((with_reducible refine (num_no _ _ (by assumption)).mono ?_); rintro e2 w2 ⟨rfl, rfl⟩)))
        exact bodyPost_ret (v := .tuple #[Pt.v ⟨0, 0, 0, 0, 0⟩, .bool false]) (by simp [results, Try.results11, go_sem, hc1]) rfl ⟨by rw [HV.out], below_set5 (below_past hb1) (by omega) _ _ _ _ _⟩
      · have HV := Lib.hid (show kidV ⟨a, b, c, d, e⟩ n = .tuple #[(kidP ⟨a, b, c, d, e⟩ n).v, .bool true] by simp [kidV, kidB, hn, hr, h1])
        clear h1'
        rcases (by omega : e = 1 ∨ e = 2 ∨ e = 3) with rfl | rfl | rfl
        · clear h1 hd
          go_enter Try.func11, Try.ntmps11
          go_wp2_with (first | (go_at_call 22; ((with_reducible refine (may_any ⟨a, b, c, d, 1⟩ _).mono ?_); rintro e1 w1 ⟨rfl, hb1⟩; rw [hr]; obtain ⟨⟨c0, c1, c2, c3, c4⟩, ⟨f0, f1, f2, f3, f4⟩, ⟨d0, d1, d2, d3, d4⟩, ⟨g0, g1, g2, g3, g4⟩⟩ := kept_two hb1)) | (go_at_call 27; ((with_reducible refine (num_yes _ _ (by assumption)).mono ?_); rintro e2 w2 ⟨rfl, rfl⟩)))
          exact bodyPost_ret (v := .tuple #[(kidP ⟨a, b, c, d, 1⟩ n).v, .bool true]) (by simp [results, Try.results11, go_sem, kidP, d0, d1, d2, d3, d4]) rfl ⟨by rw [HV.out], below_set5 (((below_past hb1).setCell (Nat.le_refl _) _).setCell (Nat.le_refl _) _) (by omega) _ _ _ _ _⟩
        · clear h1 hd
          go_enter Try.func11, Try.ntmps11
          go_wp2_with (first | (go_at_call 22; ((with_reducible refine (may_any ⟨a, b, c, d, 2⟩ _).mono ?_); rintro e1 w1 ⟨rfl, hb1⟩; rw [hr]; obtain ⟨⟨c0, c1, c2, c3, c4⟩, ⟨f0, f1, f2, f3, f4⟩, ⟨d0, d1, d2, d3, d4⟩, ⟨g0, g1, g2, g3, g4⟩⟩ := kept_two hb1)) | (go_at_call 27; ((with_reducible refine (num_yes _ _ (by assumption)).mono ?_); rintro e2 w2 ⟨rfl, rfl⟩)))
          exact bodyPost_ret (v := .tuple #[(kidP ⟨a, b, c, d, 2⟩ n).v, .bool true]) (by simp [results, Try.results11, go_sem, kidP, d0, d1, d2, d3, d4]) rfl ⟨by rw [HV.out], below_set5 (((below_past hb1).setCell (Nat.le_refl _) _).setCell (Nat.le_refl _) _) (by omega) _ _ _ _ _⟩
        · clear h1 hd
          go_enter Try.func11, Try.ntmps11
          go_wp2_with (first | (go_at_call 22; ((with_reducible refine (may_any ⟨a, b, c, d, 3⟩ _).mono ?_); rintro e1 w1 ⟨rfl, hb1⟩; rw [hr]; obtain ⟨⟨c0, c1, c2, c3, c4⟩, ⟨f0, f1, f2, f3, f4⟩, ⟨d0, d1, d2, d3, d4⟩, ⟨g0, g1, g2, g3, g4⟩⟩ := kept_two hb1)) | (go_at_call 27; ((with_reducible refine (num_yes _ _ (by assumption)).mono ?_); rintro e2 w2 ⟨rfl, rfl⟩)))
          exact bodyPost_ret (v := .tuple #[(kidP ⟨a, b, c, d, 3⟩ n).v, .bool true]) (by simp [results, Try.results11, go_sem, kidP, d0, d1, d2, d3, d4]) rfl ⟨by rw [HV.out], below_set5 (((below_past hb1).setCell (Nat.le_refl _) _).setCell (Nat.le_refl _) _) (by omega) _ _ _ _ _⟩
end Go.Proofs.Ytmlljgijbffepaa
