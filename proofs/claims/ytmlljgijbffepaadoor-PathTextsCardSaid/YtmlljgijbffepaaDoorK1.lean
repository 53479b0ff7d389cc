/- A region that draws its order, whose operations read what was there and whose calls keep it: one walk in the order of the text, in whatever later world. -/
import Derived.Test.YtmlljgijbffepaaDoorA5
namespace Go.Proofs.YtmlljgijbffepaaDoor
open Go Go.RowKit

/-- the worlds in which all that was in W is as it was -/
structure Later (W : World) where
  w : World
  h : Below W.heap.size W w
instance {W : World} : Inhabited (Later W) := ⟨⟨W, Below.refl _ _⟩⟩
@[go_sem] theorem Later.cell {W : World} (x : Later W) (b o : Nat) (h : b < W.heap.size) : x.w.cell? ⟨b, o, none⟩ = W.cell? ⟨b, o, none⟩ := x.h.cell (p := ⟨b, o, none⟩) h
def InLater (W : World) (w' : World) : Prop := ∃ x : Later W, w' = x.w
theorem wp_region_later {P : Program} (W : World) {id : Nat} {Q : Exit → Act → World → Prop} {a : Act} {w : World} {l : List Oper} (hm : P.follows .mixedOrders = true) (hB : Region.lexB .any l.toArray = true)
    (hw : Below W.heap.size W w)
    (h : wpQuiet P l.toArray (fun w' => ∃ x : Later W, w' = x.w) (fun a' => ∀ w', (∃ x : Later W, w' = x.w) → Q .normal a' w') l a) : (Code.region id l.toArray true).wp P Q a w :=
  wp_region_quiet (C := fun w' => ∃ x : Later W, w' = x.w) hm hB ⟨⟨w.drew, hw.drew⟩, rfl⟩ (by simpa using h)
theorem Gives.later {W : World} {f : Nat} {args : Array Value} {v : Value} {x : Later W} (h : Gives W f args v) :
    Calls Tryd.prog f args x.w fun e w'' => e = .returned v ∧ ∃ y : Later W, w'' = y.w :=
  (h x.w x.h).mono fun _ w'' ⟨he, hb⟩ => ⟨he, ⟨w'', hb⟩, rfl⟩
theorem may_g {w : World} {p : Pt} {b : Bool} (h : rightB p = b) : Gives w 10 #[p.v] (.bool b) := by
  subst h; exact Gives.of (may_any p)
theorem ret_int {k : IntKind} {a b : Int} (h : a = b) : Ending.returned (.int k a) = .returned (.int k b) := by rw [h]
end Go.Proofs.YtmlljgijbffepaaDoor
