/- What the laws ask first: the chapter's example, and whether holds are few; a region that draws its order, whose calls keep what was there: one walk in the order of the text. -/
import Derived.Test.YtfapgecpndlibaaDoorM1
import Derived.Test.YtfapgecpndlibaaDoorP3
namespace Go.Proofs.YtfapgecpndlibaaDoor
open Go Go.RowKit Go.Shelf

/-- the worlds in which all that was in W is as it was -/
structure Later (W : World) where
  w : World
  h : Below W.heap.size W w
instance {W : World} : Inhabited (Later W) := ⟨⟨W, Below.refl _ _⟩⟩
@[go_sem] theorem Later.cell {W : World} (x : Later W) (b o : Nat) (h : b < W.heap.size) : x.w.cell? ⟨b, o, none⟩ = W.cell? ⟨b, o, none⟩ := x.h.cell (p := ⟨b, o, none⟩) h
theorem wp_region_later {P : Program} (W : World) {id : Nat} {Q : Exit → Act → World → Prop} {a : Act} {w : World} {l : List Oper} (hm : P.follows .mixedOrders = true) (hB : Region.lexB .any l.toArray = true)
    (hw : Below W.heap.size W w)
    (h : wpQuiet P l.toArray (fun w' => ∃ x : Later W, w' = x.w) (fun a' => ∀ w', (∃ x : Later W, w' = x.w) → Q .normal a' w') l a) : (Code.region id l.toArray true).wp P Q a w :=
  wp_region_quiet (C := fun w' => ∃ x : Later W, w' = x.w) hm hB ⟨⟨w.drew, hw.drew⟩, rfl⟩ (by simpa using h)
theorem Gives.later {W : World} {f : Nat} {args : Array Value} {v : Value} {x : Later W} (h : Gives W f args v) :
    Calls Tryd.prog f args x.w fun e w'' => e = .returned v ∧ ∃ y : Later W, w'' = y.w :=
  (h x.w x.h).mono fun _ w'' ⟨he, hb⟩ => ⟨he, ⟨w'', hb⟩, rfl⟩
theorem in_later {W w : World} (h : ∃ x : Later W, w = x.w) : Below W.heap.size W w := by
  obtain ⟨x, rfl⟩ := h
  exact x.h

theorem box_two (W : World) (x y : Hd) : Ls (W.alloc (.cells #[.int .i64 x.1, .int .i64 x.2, .int .i64 y.1, .int .i64 y.2] 28)) (some ⟨W.heap.size, 0, none⟩) 2 [x, y] := by
  refine ⟨Nat.le_refl _, by decide, by simp, fun a ha j u hj => ?_⟩
  obtain rfl : (⟨W.heap.size, 0, none⟩ : Addr) = a := by simpa using ha
  rw [add_at]
  match j, hj with
  | 0, hj => simp [flat, cellsW] at hj; subst hj; simp [go_sem]
  | 1, hj => simp [flat, cellsW] at hj; subst hj; simp [go_sem]
  | 2, hj => simp [flat, cellsW] at hj; subst hj; simp [go_sem]
  | 3, hj => simp [flat, cellsW] at hj; subst hj; simp [go_sem]
  | j + 4, hj => simp [flat, cellsW] at hj
theorem few_any (A : Option Addr) (n c : Nat) (W : World) : Calls Tryd.prog 7 #[.slice A n c] W fun e w' => e = .returned (.bool (decide (n ≤ 30))) ∧ W = w' := by
  go_enter Tryd.func7, Tryd.ntmps7
  go_wp2
  go_ret
  exact ⟨congrArg (fun b => Ending.returned (Value.bool b)) (decide_eq_decide.2 (by omega)), rfl⟩
theorem awake_any (W : World) (ht : TabG W) : Calls Tryd.prog 6 #[] W fun e w' => e = .returned (.bool true) ∧ Below W.heap.size W w' := by
  have hb0 := box_below W (.cells #[.int .i64 1, .int .i64 3, .int .i64 2, .int .i64 2] 28)
  have H1 := Lib.hid (mode_any (box_two W (1, 3) (2, 2)) (by simp))
  rw [show grpN (mods [(1, 3), (2, 2)]) = 4 by decide +kernel] at H1
  have H2 := Lib.hid (fun (w1 : World) (hb : Below W.heap.size W w1) => goes_any (ht.later (hb.trans ((box_below w1 (.cells #[.int .i64 1, .int .i64 6] 28)).mono hb.size))) (box_ls w1 (1, 6)) (by simp) 2 1)
  rw [show goesB 2 1 [(1, 6)] = false by decide +kernel] at H2
  have HB0 := Lib.hid hb0
  clear ht hb0
  go_enter Tryd.func6, Tryd.ntmps6
  go_wp2_with fail
  refine H1.out.mono ?_
  rintro e w1 ⟨rfl, hb1⟩
  have hb2 := HB0.out.trans (hb1.mono HB0.out.size)
  have H3 := Lib.hid (H2.out _ hb2)
  have HB2 := Lib.hid (hb2.trans ((box_below w1 (.cells #[.int .i64 1, .int .i64 6] 28)).mono hb2.size))
  clear hb1 hb2 H2 H1
  go_wp2_with fail
  refine H3.out.mono ?_
  rintro e w2 ⟨rfl, hb3⟩
  have HB3 := Lib.hid (HB2.out.trans (hb3.mono HB2.out.size))
  clear hb3
  go_wp2_with fail
  go_ret
  exact ⟨rfl, HB3.out⟩
theorem awake_g {W : World} (ht : TabG W) : Gives W 6 #[] (.bool true) := fun w' hb => acc hb (awake_any w' (ht.later hb))
end Go.Proofs.YtfapgecpndlibaaDoor
