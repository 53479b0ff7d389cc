/- Regions that draw their order, whose operations read what was there and whose calls keep it; what a call leaves, told from an earlier world on; append in such a region. -/
import Derived.Test.YtggmnjnigmbooaaR1
import Derived.WalkKit
import Derived.WalkLawsBesides
import Derived.Deep.QuietTactic
import Derived.BigQuiet
import Derived.WalkSmall
import Derived.KernelRfl
import Derived.Lib.Hide
import Derived.StillTailTactics
import Derived.Deep.RegionLaw
import Derived.Deep.RegionHeld3
namespace Go.Proofs.Ytggmnjnigmbooaa
open Go Go.RowKit
/-- what a call leaves, told from an earlier world on -/
theorem acc {P : Program} {f : Nat} {args : Array Value} {w w0 : World} {E : Ending} (hb : Below w0.heap.size w0 w)
    (h : Calls P f args w fun e w' => e = E ∧ Below w.heap.size w w') : Calls P f args w fun e w' => e = E ∧ Below w0.heap.size w0 w' :=
  h.mono fun _ _ ⟨he, h'⟩ => ⟨he, hb.trans (h'.mono hb.size)⟩
end Go.Proofs.Ytggmnjnigmbooaa
namespace Go.Proofs.Ytggmnjnigmbooaa.Pa
open Go Go.RowKit
set_option maxRecDepth 100000
/-- from whatever later world the call gives this value -/
def Gives (w0 : World) (f : Nat) (args : Array Value) (v : Value) : Prop :=
  ∀ w', Below w0.heap.size w0 w' → Calls Try.prog f args w' fun e w'' => e = .returned v ∧ Below w0.heap.size w0 w''
theorem Gives.of {w0 : World} {f : Nat} {args : Array Value} {v : Value} (h : ∀ w, Calls Try.prog f args w fun e w' => e = .returned v ∧ Below w.heap.size w w') : Gives w0 f args v :=
  fun w' hb => (h w').mono fun _ _ ⟨he, hb'⟩ => ⟨he, hb.trans (hb'.mono hb.size)⟩
/-- the worlds in which all that was in W is as it was -/
structure Later (W : World) where
  w : World
  h : Below W.heap.size W w
instance {W : World} : Inhabited (Later W) := ⟨⟨W, Below.refl _ _⟩⟩
@[go_sem] theorem Later.cell {W : World} (x : Later W) (b o : Nat) (h : b < W.heap.size) : x.w.cell? ⟨b, o, none⟩ = W.cell? ⟨b, o, none⟩ := x.h.cell (p := ⟨b, o, none⟩) h
theorem wp_region_later {P : Program} (W : World) {id : Nat} {Q : Exit → Act → World → Prop} {a : Act} {w : World} {l : List Oper} (hm : P.follows .mixedOrders = true) (hB : Region.lexB .any l.toArray = true)
    (hw : Below W.heap.size W w)
    (h : wpQuiet P l.toArray (fun w' => ∃ x : Later W, w' = x.w) (fun a' => ∀ w', (∃ x : Later W, w' = x.w) → Q .normal a' w') l a) : (Code.region id l.toArray true).wp P Q a w :=
  wp_region_quiet (C := fun w' => ∃ x : Later W, w' = x.w) hm hB ⟨⟨w.drew, hw.drew⟩, rfl⟩ (by simpa using h)
theorem Gives.later {W : World} {f : Nat} {args : Array Value} {v : Value} {x : Later W} (h : Gives W f args v) :
    Calls Try.prog f args x.w fun e w'' => e = .returned v ∧ ∃ y : Later W, w'' = y.w :=
  (h x.w x.h).mono fun _ w'' ⟨he, hb⟩ => ⟨he, ⟨w'', hb⟩, rfl⟩
/-- what there was is as it was, and the tape was not turned back -/
structure BelowD (u v : World) : Prop where
  bel : Below u.heap.size u v
  drawn : u.drawn ≤ v.drawn
theorem BelowD.refl (w : World) : BelowD w w := ⟨Below.refl _ _, Nat.le_refl _⟩
theorem BelowD.trans {a b c : World} (h : BelowD a b) (k : BelowD b c) : BelowD a c := ⟨h.bel.trans (k.bel.mono h.bel.size), Nat.le_trans h.drawn k.drawn⟩
theorem box_belowD (w : World) (o : Obj) : BelowD w (w.alloc o) := ⟨box_below w o, Nat.le_refl _⟩
end Go.Proofs.Ytggmnjnigmbooaa.Pa
namespace Go.Proofs.Ytggmnjnigmbooaa
open Go Go.RowKit
/-- append in a region that draws, by what it comes to -/
theorem step_append {P : Program} {ops : Array Oper} {o : Oper} {a : Act} {w : World} {K : Act → World → Prop} {Q : Exit → Act → World → Prop} {E : Prop}
    (hg : o.guard = none) (s x : Operand) (t : TypeId) (hop : o.op = Op.call { callee := Callee.builtin Builtin.append, args := #[s, x], argTypes := #[t, t] })
    (vs vx : Value) (hs : a.eval s = vs) (hx : a.eval x = vx) (v' : Value) (w' : World) (hrun : (Builtin.append_ #[t, t] o.type #[vs, vx]).run P w = .ok v' w') (hK : K (a.put o.dst v') w') :
    if Region.wanted o (yielded ops a.tmps) = true then Oper.wp P o a w K Q else E := by
  have hw : Region.wanted o (yielded ops a.tmps) = true := by simp [Region.wanted, hg]
  rw [if_pos hw]
  unfold Oper.wp
  simp [execOp, hop, resolve, invoke, builtin, hs, hx, hrun, Result.andThen]
  exact hK
end Go.Proofs.Ytggmnjnigmbooaa
