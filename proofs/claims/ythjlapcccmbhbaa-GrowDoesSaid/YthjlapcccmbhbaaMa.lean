/- A map from nodes to modes. -/
import Derived.Test.YthjlapcccmbhbaaT1
import Derived.Test.YthjlapcccmbhbaaLb
import Derived.Maps.OwnSet
import Derived.Maps.Views
import Derived.DeepKeys4
namespace Go.Proofs.Ythjlapcccmbhbaa.Lk
open Go Go.RowKit Go.Shelf Go.Maps Go.ChangeShapes Pa
set_option maxRecDepth 100000

theorem law25 : Keyed Try.prog 25 := Keyed.of_law (deep_law_laid laidOut (m := 4) (by omega) (of_decide_eq_true (by kernel_rfl)) (by kernel_rfl) (by rw [Try.underlying25]))
/-- how a node reads as a key -/
def klP (p : Pt) : Lit := .string (keyBytes [.int .i64 p.a, .int .i64 p.b, .int .i64 p.c, .int .i64 p.d, .int .i64 p.e])
theorem lits_int (d : Nat) {n : Int} (h : wf64 n) : Try.prog.keyLits (d + 1) 3 [.int .i64 n] = some [.int .i64 n] := by
  simp [Program.keyLits, Try.underlying3, h]
theorem lits_arr (d : Nat) {a b c e : Int} (ha : wf64 a) (hb : wf64 b) (hc : wf64 c) (he : wf64 e) :
    Try.prog.keyLits (d + 2) 23 [.int .i64 a, .int .i64 b, .int .i64 c, .int .i64 e] = some [.int .i64 a, .int .i64 b, .int .i64 c, .int .i64 e] := by
  unfold Program.keyLits
  simp only [Try.underlying23, cells23, cells3]
  rw [if_pos (by rfl), show List.range 4 = [0, 1, 2, 3] from rfl]
  simp [lits_int d ha, lits_int d hb, lits_int d hc, lits_int d he]
theorem lits_path (d : Nat) {p : Pt} (h : FitP p) :
    Try.prog.keyLits (d + 3) 25 [.int .i64 p.a, .int .i64 p.b, .int .i64 p.c, .int .i64 p.d, .int .i64 p.e] = some [.int .i64 p.a, .int .i64 p.b, .int .i64 p.c, .int .i64 p.d, .int .i64 p.e] := by
  unfold Program.keyLits
  simp only [Try.underlying25, cells25]
  rw [if_pos ⟨by rfl, by simp⟩]
  simp [cells23, cells3, lits_arr d h.a h.b h.c h.d, lits_int (d + 1) h.e]
theorem key_type25 : Try.prog.keyType 25 = true := by kernel_rfl
theorem types_size : ∃ d, Try.prog.types.size + 1 = d + 3 := ⟨Try.prog.types.size - 2, by have : 2 < Try.prog.types.size := of_decide_eq_true (by kernel_rfl); omega⟩
theorem key_of {p : Pt} (h : FitP p) : keyOf Try.prog 25 p.v = some (klP p) := by
  obtain ⟨d, hd⟩ := types_size
  have hf : Value.formed Try.prog 25 p.v = true := by simp [Value.formed, Try.underlying25, cells25]
  unfold keyOf
  rw [Try.underlying25]
  simp only [key_type25, hf, Bool.and_self, if_true, hd]
  rw [show (p.v).cells.toList = [.int .i64 p.a, .int .i64 p.b, .int .i64 p.c, .int .i64 p.d, .int .i64 p.e] from rfl, lits_path d h]
  rfl
theorem kl_inj {p q : Pt} (hp : FitP p) (hq : FitP q) (h : klP p = klP q) : p = q := by
  have h1 := key_of hp
  have h2 := key_of hq
  rw [← h] at h2
  have := law25.inj h1 h2
  obtain ⟨a, b, c, d, e⟩ := p
  obtain ⟨a', b', c', d', e'⟩ := q
  simpa using this
/-- whether a node is one of them -/
def inL (xs : List Hd) (p : Pt) : Bool := xs.any fun x => eqP x.1 p
/-- a map that has the nodes of these locks, with their modes, and no others -/
def MapL (W : World) (b n : Nat) (xs : List Hd) : Prop :=
  ∃ D : DataW Unit, W.ownsMap Try.prog 25 (plainElem Try.prog 3) b n D ∧ ∀ p, FitP p → Maps.has D (klP p) = inL xs p ∧ D.atKey (klP p) (.lit (.int .i64 0)) = .lit (.int .i64 (ofL xs p))
theorem MapL.made (W : World) : MapL (W.alloc (.map #[] 0)) W.heap.size 0 [] := ⟨.map [], World.ownsMap_made W Try.prog 25 _, fun _ _ => ⟨rfl, rfl⟩⟩
theorem MapL.keep {W W' : World} {b n : Nat} {xs : List Hd} (h : MapL W b n xs) (hb : W'.heap[b]? = W.heap[b]?) : MapL W' b n xs := by
  obtain ⟨D, ⟨es, clock, h1, h2⟩, h3⟩ := h
  exact ⟨D, ⟨es, clock, hb.trans h1, h2⟩, h3⟩
theorem MapL.lt {W : World} {b n : Nat} {xs : List Hd} (h : MapL W b n xs) : b < W.heap.size := by
  obtain ⟨D, h1, _⟩ := h
  exact h1.lt
theorem MapL.below {W W' : World} {b n : Nat} {xs : List Hd} (h : MapL W b n xs) (hb : Below W.heap.size W W') : MapL W' b n xs := h.keep (hb.block _ h.lt)
theorem zero3 (w : World) : (zeroValue 3).run Try.prog w = .ok (.int .i64 0) w := by kernel_rfl
theorem MapL.look_ok {W : World} {b n : Nat} {xs : List Hd} (h : MapL W b n xs) {p : Pt} (hp : FitP p) :
    (Instr.lookup 44 (.map (some b)) p.v true).run Try.prog W = .ok (.tuple #[.int .i64 (ofL xs p), .bool (inL xs p)]) W := by
  obtain ⟨D, h1, h4⟩ := h
  obtain ⟨v, ps, hrun, hv⟩ := h1.look_ok law25 Try.underlying44 (zero3 W) (plainElem_int Try.underlying3 (by decide)) (key_of hp)
  obtain ⟨e1, e2⟩ := h4 p hp
  obtain ⟨c, rfl, hc, -⟩ := plainElem_int_inv Try.underlying3 hv
  simp only [Prod.mk.injEq] at hc
  rw [e2] at hc
  have := hc.1
  simp at this
  rw [hrun, e1, ← this]
theorem MapL.look {W : World} {b n : Nat} {xs : List Hd} (h : MapL W b n xs) {p : Pt} (hp : FitP p) :
    (Instr.lookup 44 (.map (some b)) p.v false).run Try.prog W = .ok (.int .i64 (ofL xs p)) W := by
  obtain ⟨D, h1, h4⟩ := h
  obtain ⟨c, hrun, hat, -⟩ := h1.lookup_int law25 Try.underlying44 Try.underlying3 (zero3 W) (key_of hp)
  rw [(h4 p hp).2] at hat
  simp at hat
  rw [hrun, ← hat]
theorem of_snoc {p : Pt} : ∀ (xs : List Hd) (x : Hd), ofL (xs ++ [x]) p = if inL xs p then ofL xs p else if eqP x.1 p then x.2 else 0
  | [], x => by simp [ofL, inL]
  | y :: xs, x => by
    have ih := of_snoc (p := p) xs x
    simp only [List.cons_append, ofL, inL, List.any_cons] at ih ⊢
    by_cases hy : eqP y.1 p = true
    · simp [hy]
    · have hy' : eqP y.1 p = false := by simpa using hy
      simp only [hy', Bool.false_or, Bool.false_eq_true, if_false, ih]
      rfl
theorem in_snoc (xs : List Hd) (x : Hd) (p : Pt) : inL (xs ++ [x]) p = (inL xs p || eqP x.1 p) := by simp [inL]
theorem of_out {xs : List Hd} {p : Pt} (h : inL xs p = false) : ofL xs p = 0 := of_none fun x hx => by
  have := List.any_eq_false.1 h x hx
  simpa using this
theorem MapL.put {W : World} {b n : Nat} {xs : List Hd} (h : MapL W b n xs) {x : Hd} (hp : FitP x.1) (hn : inL xs x.1 = false) (hm : wf64 x.2) (hl : n ≤ 10000) :
    ∃ w', (Instr.mapUpdate 44 (.map (some b)) x.1.v (.int .i64 x.2)).run Try.prog W = .ok () w' ∧ MapL w' b (n + 1) (xs ++ [x]) ∧ W.grownBy w' (some b) := by
  obtain ⟨D, h1, h4⟩ := h
  obtain ⟨w', hrun, ho, hg⟩ := h1.update law25 Try.underlying44 (by unfold maxLen; omega) (key_of hp) (plainElem_int Try.underlying3 hm)
  have hM := h1.isMap
  refine ⟨w', hrun, ⟨_, ho, fun q hq => ?_⟩, hg⟩
  rw [in_snoc, of_snoc]
  by_cases e : x.1 = q
  · subst e
    rw [Maps.has_put_same hM (law25.key (key_of hp)), Maps.atKey_put_same hM (law25.key (key_of hp)), hn, eqP_self]
    simp
  · have e' : klP q ≠ klP x.1 := fun h => e (kl_inj hp hq h.symm)
    rw [Maps.has_put_other e', Maps.atKey_put_other e', (h4 q hq).1, (h4 q hq).2, eqP_ne e]
    cases hi : inL xs q
    · simp [of_out hi]
    · simp
end Go.Proofs.Ythjlapcccmbhbaa.Lk
