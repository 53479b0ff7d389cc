/- Numbers in a block of their own. -/
import Derived.Test.YteaibamkfccplaaDoorGA
import Derived.Test.YteaibamkfccplaaDoorHD3
namespace Go.Proofs.YteaibamkfccplaaDoor.Hs
open Go Go.RowKit Go.Shelf

theorem cell_far {W : World} {k o o' : Nat} {u : Value} (h : o' ≠ o) : (W.setCell ⟨k, o, none⟩ u).cell? ⟨k, o', none⟩ = W.cell? ⟨k, o', none⟩ :=
  World.cell?_setCell_other _ _ _ _ (fun e => h (by injection e with e1 e2; exact e2.symm))
theorem cell_near {W : World} {k o : Nat} {u x : Value} (h : W.cell? ⟨k, o, none⟩ = some x) : (W.setCell ⟨k, o, none⟩ u).cell? ⟨k, o, none⟩ = some u :=
  World.cell?_setCell_same' _ _ _ (by rw [h]; rfl)
/-- one value is changed -/
def upd (f : Nat → Int) (k : Nat) (x : Int) : Nat → Int := fun i => if i = k then x else f i
/-- numbers in a block of their own -/
structure Arr (W : World) (g n : Nat) (f : Nat → Int) : Prop where
  at' : ∀ i, i < n → W.cell? ⟨g, i, none⟩ = some (.int .i64 (f i))
  fz : ∀ o, W.frozen? ⟨g, o, none⟩ = false
  lt : g < W.heap.size
section
variable {W W' : World} {g n : Nat} {f f' : Nat → Int}
theorem Arr.keep (h : Arr W g n f) (hs : W.heap.size ≤ W'.heap.size) (hg : W'.heap[g]? = W.heap[g]?) : Arr W' g n f :=
  ⟨fun i hi => (World.cell?_of_block (w := W) (a := ⟨g, i, none⟩) hg).trans (h.at' i hi), fun o => (World.frozen?_of_block (w := W) (a := ⟨g, o, none⟩) hg).trans (h.fz o), Nat.lt_of_lt_of_le h.lt hs⟩
theorem Arr.below (h : Arr W g n f) (hb : Below W.heap.size W W') : Arr W' g n f := h.keep hb.size (hb.block g h.lt)
theorem Arr.congr (h : Arr W g n f) (he : ∀ i, i < n → f i = f' i) : Arr W g n f' := ⟨fun i hi => by rw [← he i hi]; exact h.at' i hi, h.fz, h.lt⟩
theorem Arr.set (h : Arr W g n f) (k : Nat) (x : Int) : Arr (W.setCell ⟨g, k, none⟩ (.int .i64 x)) g n (upd f k x) := by
  refine ⟨fun i hi => ?_, fun o => by rw [World.frozen?_setCell]; exact h.fz o, by simpa [World.setCell] using h.lt⟩
  unfold upd
  by_cases e : i = k
  · subst e; rw [if_pos rfl]; exact cell_near (h.at' i hi)
  · rw [if_neg e, cell_far e]; exact h.at' i hi
end
end Go.Proofs.YteaibamkfccplaaDoor.Hs
