/- A lock in a box. -/
import Derived.Test.YthjlapcccmbhbaaLe
namespace Go.Proofs.Ythjlapcccmbhbaa.Lk
open Go Go.RowKit Go.Shelf Pa
set_option maxRecDepth 100000

/-- a lock in a box -/
structure LkAt (w : World) (B : Nat) (x : Hd) : Prop where
  c0 : w.cell? ⟨B, 0, none⟩ = some (.int .i64 x.1.a)
  c1 : w.cell? ⟨B, 1, none⟩ = some (.int .i64 x.1.b)
  c2 : w.cell? ⟨B, 2, none⟩ = some (.int .i64 x.1.c)
  c3 : w.cell? ⟨B, 3, none⟩ = some (.int .i64 x.1.d)
  c4 : w.cell? ⟨B, 4, none⟩ = some (.int .i64 x.1.e)
  c5 : w.cell? ⟨B, 5, none⟩ = some (.int .i64 x.2)
  lt : B < w.heap.size
theorem LkAt.later {W W' : World} {B : Nat} {x : Hd} (h : LkAt W B x) (hb : Below W.heap.size W W') : LkAt W' B x := by
  obtain ⟨k, _⟩ := kept hb
  exact ⟨(k _ _ h.lt).trans h.c0, (k _ _ h.lt).trans h.c1, (k _ _ h.lt).trans h.c2, (k _ _ h.lt).trans h.c3, (k _ _ h.lt).trans h.c4, (k _ _ h.lt).trans h.c5, Nat.lt_of_lt_of_le h.lt hb.size⟩
theorem LkAt.new (w : World) (x : Hd) : LkAt (w.alloc (.cells #[.int .i64 x.1.a, .int .i64 x.1.b, .int .i64 x.1.c, .int .i64 x.1.d, .int .i64 x.1.e, .int .i64 x.2] 27)) w.heap.size x := by
  refine ⟨?_, ?_, ?_, ?_, ?_, ?_, by simp⟩ <;> simp [go_sem]
theorem wgives {W0 : World} {f : Nat} {args : Array Value} {v : Value} (h : ∀ w, Below W0.heap.size W0 w → Calls Try.prog f args w fun e w' => e = .returned v ∧ Below w.heap.size w w') : Pa.Gives W0 f args v :=
  fun w' hb => (h w' hb).mono fun _ _ ⟨he, hb'⟩ => ⟨he, hb.trans (hb'.mono hb.size)⟩
end Go.Proofs.Ythjlapcccmbhbaa.Lk
