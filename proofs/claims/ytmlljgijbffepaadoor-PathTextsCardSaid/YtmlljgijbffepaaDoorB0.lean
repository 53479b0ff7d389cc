/- The chapter's examples: the first step of every law; and nodes that lie in memory. -/
import Derived.Test.YtmlljgijbffepaaDoorA4
import Derived.Test.YtmlljgijbffepaaDoorK1
namespace Go.Proofs.YtmlljgijbffepaaDoor
open Go Go.RowKit

structure PtAt (w : World) (B : Nat) (p : Pt) : Prop where
  c0 : w.cell? ⟨B, 0, none⟩ = some (.int .i64 p.a)
  c1 : w.cell? ⟨B, 1, none⟩ = some (.int .i64 p.b)
  c2 : w.cell? ⟨B, 2, none⟩ = some (.int .i64 p.c)
  c3 : w.cell? ⟨B, 3, none⟩ = some (.int .i64 p.d)
  c4 : w.cell? ⟨B, 4, none⟩ = some (.int .i64 p.e)
  lt : B < w.heap.size
theorem PtAt.later {W w' : World} {B : Nat} {p : Pt} (h : PtAt W B p) (hb : Below W.heap.size W w') : PtAt w' B p := by
  obtain ⟨k, _⟩ := kept hb
  exact ⟨(k _ _ h.lt).trans h.c0, (k _ _ h.lt).trans h.c1, (k _ _ h.lt).trans h.c2, (k _ _ h.lt).trans h.c3, (k _ _ h.lt).trans h.c4, Nat.lt_of_lt_of_le h.lt hb.size⟩
theorem PtAt.alloc {w : World} {B : Nat} {p : Pt} (h : PtAt w B p) (o : Obj) : PtAt (w.alloc o) B p := h.later (box_below w o)
theorem PtAt.new (w : World) (a b c d e : Int) : PtAt (boxed w a b c d e) w.heap.size ⟨a, b, c, d, e⟩ := by
  refine ⟨?_, ?_, ?_, ?_, ?_, by simp⟩ <;> simp [go_sem]

theorem thenBox {w w1 w2 : World} {o : Obj} (h1 : Below w.heap.size w w1) (h2 : Below (w1.alloc o).heap.size (w1.alloc o) w2) : Below w.heap.size w w2 :=
  (h1.alloc h1.size o).trans (h2.mono (Nat.le_trans h1.size (by simp)))
theorem endBox {w w1 : World} (h1 : Below w.heap.size w w1) (o : Obj) : Below w.heap.size w (w1.alloc o) := h1.alloc h1.size o
theorem thenCall {w w1 w2 : World} (h1 : Below w.heap.size w w1) (h2 : Below w1.heap.size w1 w2) : Below w.heap.size w w2 := h1.trans (h2.mono h1.size)
theorem parse_is (s : ByteArray) (v : Value) (w : World) (hs : s.size ≤ maxLen) (h : parseV s.data.toList = v) :
    Calls Tryd.prog 6 #[.string s] w fun e w' => e = .returned v ∧ Below w.heap.size w w' := by
  subst h; exact parse_any s w hs
theorem ex1 : parseV [49, 46, 50, 48, 46, 51] = .tuple #[Pt.v ⟨1, 20, 3, 0, 3⟩, .int .i64 0] := parseV_some (ns := [1, 20, 3]) (by decide +kernel)
theorem ex2 : parseV [48, 49] = .tuple #[Pt.v ⟨0, 0, 0, 0, 0⟩, .int .i64 4] := parseV_none (by decide +kernel)

set_option maxHeartbeats 1000000 in
theorem awake_any (w : World) : Calls Tryd.prog 5 #[] w fun e w' => e = .returned (.bool true) ∧ Below w.heap.size w w' := by
  go_enter Tryd.func5, Tryd.ntmps5
  go_wp2_with fail
  refine (parse_is ⟨#[49, 46, 50, 48, 46, 51]⟩ _ _ (by unfold maxLen; decide) ex1).mono ?_
  rintro e w1 ⟨rfl, hb1⟩
  go_wp2_with fail
  refine (parse_is ⟨#[48, 49]⟩ _ _ (by unfold maxLen; decide) ex2).mono ?_
  rintro e w2 ⟨rfl, hb2⟩
  have hp := (PtAt.new w1 1 20 3 0 3).later hb2
  have hz : ¬ w1.heap.size = w2.heap.size := Nat.ne_of_lt hp.lt
  obtain ⟨c0, c1, c2, c3, c4, hlt⟩ := hp
  go_wp2_with fail
  go_ret
  exact ⟨rfl, endBox (thenBox hb1 hb2) _⟩
end Go.Proofs.YtmlljgijbffepaaDoor
