/- What a call that keeps what was there gives. -/
import Derived.Test.YtmlljgijbffepaaDoorA1
namespace Go.Proofs.YtmlljgijbffepaaDoor
open Go Go.RowKit

/-- a call gives a value, from whatever later world, and changes nothing that was there at first -/
def Gives (w0 : World) (f : Nat) (args : Array Value) (v : Value) : Prop :=
  ∀ w', Below w0.heap.size w0 w' → Calls Tryd.prog f args w' fun e w'' => e = .returned v ∧ Below w0.heap.size w0 w''
theorem Gives.use {w0 w' : World} {f : Nat} {args : Array Value} {v : Value} {Q : Ending → World → Prop} (h : Gives w0 f args v) (hb : Below w0.heap.size w0 w')
    (hq : ∀ w'', Below w0.heap.size w0 w'' → Q (.returned v) w'') : Calls Tryd.prog f args w' Q :=
  (h w' hb).mono fun _ w'' ⟨he, hb'⟩ => he ▸ hq w'' hb'
theorem Gives.of {w0 : World} {f : Nat} {args : Array Value} {v : Value} (h : ∀ w, Calls Tryd.prog f args w fun e w' => e = .returned v ∧ Below w.heap.size w w') : Gives w0 f args v :=
  fun w' hb => (h w').mono fun _ _ ⟨he, hb'⟩ => ⟨he, hb.trans (hb'.mono hb.size)⟩

theorem below_box {w w1 : World} {o : Obj} (h : Below (w.alloc o).heap.size (w.alloc o) w1) : Below w.heap.size w w1 := (box_below w o).trans (h.mono (by simp))

theorem kept {W w1 : World} (hb : Below W.heap.size W w1) :
    (∀ b o, b < W.heap.size → w1.cell? ⟨b, o, none⟩ = W.cell? ⟨b, o, none⟩) ∧ (∀ b o, b < W.heap.size → w1.frozen? ⟨b, o, none⟩ = W.frozen? ⟨b, o, none⟩) :=
  ⟨fun b o h => hb.cell (p := ⟨b, o, none⟩) h, fun b o h => hb.frozen (p := ⟨b, o, none⟩) h⟩

theorem below_set5 {B g : Nat} {w0 w : World} (h : Below B w0 w) (hg : B ≤ g) (x0 x1 x2 x3 x4 : Value) :
    Below B w0 (((((w.setCell ⟨g, 0, none⟩ x0).setCell ⟨g, 1, none⟩ x1).setCell ⟨g, 2, none⟩ x2).setCell ⟨g, 3, none⟩ x3).setCell ⟨g, 4, none⟩ x4) :=
  ((((h.setCell hg _).setCell hg _).setCell hg _).setCell hg _).setCell hg _
theorem below_2 (w : World) (o o' : Obj) : Below w.heap.size w ((w.alloc o).alloc o') := ((Below.refl _ _).alloc (Nat.le_refl _) _).alloc (by simp) _
theorem below_past {w w1 : World} {o o' : Obj} (h : Below ((w.alloc o).alloc o').heap.size ((w.alloc o).alloc o') w1) : Below w.heap.size w w1 := (below_2 w o o').trans (h.mono (by simp; omega))
theorem lt_two {w w1 : World} {o o' : Obj} (h : Below ((w.alloc o).alloc o').heap.size ((w.alloc o).alloc o') w1) : w.heap.size + 1 < w1.heap.size := by have := h.size; simp at this; omega
theorem right_depth {p : Pt} (h : rightB p = true) : 1 ≤ p.e ∧ p.e ≤ 4 := by
  by_cases q : 1 ≤ p.e ∧ p.e ≤ 4
  · exact q
  · rw [rightB_out q] at h; cases h

end Go.Proofs.YtmlljgijbffepaaDoor
