/- Which lock may come in the place of many: plain facts. -/
import Derived.Test.YthjlapcccmbhbaaWi
import Derived.Test.YthjlapcccmbhbaaWj
import Derived.Test.YthjlapcccmbhbaaWd
namespace Go.Proofs.Ythjlapcccmbhbaa.Lk
open Go Go.RowKit Go.Shelf Go.Maps Go.ChangeShapes Pa
set_option maxRecDepth 100000

/-- whether a node may have one lock in the place of many -/
def candB (xs : List Hd) (n : Int) (p : Pt) : Bool := decide (n ≤ (cntL xs p : Int)) && decide (reN (kn (ofL xs p)) < mxL xs p)
/-- the lock that it would have -/
def itemG (xs : List Hd) (p : Pt) : Hd := (p, (supN (kn (ofL xs p)) (doN (mxL xs p)) : Nat))
theorem cnt_right {xs : List Hd} {p : Pt} (h : 0 < cntL xs p) : rightB p = true := by
  unfold cntL at h
  obtain ⟨x, hx⟩ := List.exists_mem_of_length_pos h
  have h2 : kidB x.1 p = true := (List.mem_filter.1 hx).2
  have h1 := kid_right h2
  have hd := right_depth h1
  unfold kidB at h2
  rw [h1] at h2
  simp only [Bool.true_and, Bool.and_eq_true, Bool.not_eq_true', beq_eq_false_iff_ne] at h2
  rw [← (eqP_iff _ _).1 h2.2]
  exact cut_right h1 (by have := h2.1; omega) (by omega)
/-- as far as the nodes have been gone through -/
structure Pk (xs : List Hd) (n : Int) (left : Lit → Bool) (L : List Hd) : Prop where
  has : ∀ p, FitP p → left (klP p) = true → 0 < cntL xs p
  each : ∀ x ∈ L, 0 < cntL xs x.1 ∧ candB xs n x.1 = true ∧ x = itemG xs x.1
  all : ∀ p, 0 < cntL xs p → candB xs n p = true → left (klP p) = true ∨ itemG xs p ∈ L
theorem Pk.step {xs L : List Hd} {n : Int} {left : Lit → Bool} {x : Pt} (h : Pk xs n left L) (hx : FitP x) (hl : left (klP x) = true) :
    Pk xs n (fun z => left z && !z.sameKey (klP x)) (if candB xs n x then L ++ [itemG xs x] else L) := by
  refine ⟨fun p hp hh => h.has p hp ?_, fun y hy => ?_, fun p h1 h2 => ?_⟩
  · rw [Bool.and_eq_true] at hh
    exact hh.1
  · split at hy
    · rename_i hc
      rcases List.mem_append.1 hy with hy | hy
      · exact h.each y hy
      · obtain rfl : y = itemG xs x := by simpa using hy
        exact ⟨h.has x hx hl, hc, rfl⟩
    · exact h.each y hy
  · by_cases e : p = x
    · subst e
      right
      rw [if_pos h2]
      simp
    · rcases h.all p h1 h2 with h3 | h3
      · left
        rw [h3, Bool.true_and, Bool.not_eq_true']
        cases hs : (klP p).sameKey (klP x)
        · rfl
        · exact absurd (kl_inj (fit_right (cnt_right h1)) hx (WideAt.sameKey_eq hs)) e
      · right
        split
        · exact List.mem_append_left _ h3
        · exact h3
/-- which lock may come in the place of many -/
def PickIs (xs : List Hd) (n : Int) (x : Hd) (b : Bool) : Prop :=
  (b = false ∧ x = (⟨0, 0, 0, 0, 0⟩, 0) ∧ (n < 1 ∨ ∀ p, 0 < cntL xs p → candB xs n p = false)) ∨
  (b = true ∧ 1 ≤ n ∧ 0 < cntL xs x.1 ∧ candB xs n x.1 = true ∧ x = itemG xs x.1 ∧ ∀ p, 0 < cntL xs p → candB xs n p = true → ltU (itemG xs p) x = false)
theorem Pk.empty {xs : List Hd} {n : Int} {left : Lit → Bool} (h : Pk xs n left []) (hl : ∀ k, left k = false) : PickIs xs n (⟨0, 0, 0, 0, 0⟩, 0) false :=
  .inl ⟨rfl, rfl, .inr fun p h1 => by
    cases h2 : candB xs n p
    · rfl
    · rcases h.all p h1 h2 with h3 | h3
      · rw [hl] at h3; cases h3
      · cases h3⟩
theorem Pk.best {xs L ys : List Hd} {n : Int} {left : Lit → Bool} (h : Pk xs n left L) (hl : ∀ k, left k = false) (hb : Bk L ys) (h1 : 1 ≤ n) {y : Hd} (hy : ys[0]? = some y) : PickIs xs n y true := by
  have hp := hb.stb.perm
  have hm : y ∈ ys := List.mem_of_getElem? hy
  obtain ⟨g1, g2, g3⟩ := h.each y (hp.mem_iff.1 hm)
  refine .inr ⟨rfl, h1, g1, g2, g3, fun p k1 k2 => ?_⟩
  rcases h.all p k1 k2 with k3 | k3
  · rw [hl] at k3; cases k3
  · have k4 := hp.mem_iff.2 k3
    cases ys with
    | nil => cases k4
    | cons z zs =>
      obtain rfl : z = y := by simpa using hy
      rcases List.mem_cons.1 k4 with e | hz
      · rw [e]; exact ltU_irr (cnt_right g1)
      · exact (List.pairwise_cons.1 hb.sorted).1 _ hz
section
variable {ops : Array Oper} {o : Oper} {a : Act} {w : World} {K : Act → World → Prop} {Q : Exit → Act → World → Prop} {E : Prop}
/-- a lock put behind a row in a region that draws -/
theorem step_row {base c c0 n m q : Nat} {A A0 : Option Addr} {xs ys : List Hd} (hg : o.guard = none) (s x : Operand) (hop : o.op = Op.call { callee := Callee.builtin Builtin.append, args := #[s, x], argTypes := #[22, 22] })
    (hs : a.eval s = .slice A0 m c0) (hx : a.eval x = .slice A n c) (hr : Row w base (.slice A0 m c0) xs) (hl : Ls w A c ys) (hm : xs.length = m) (hn : ys.length = n) (hq : m + n = q) (hle : q ≤ 1000) (hb : base ≤ w.heap.size)
    (hK : ∀ A' c' w', Row w' base (.slice A' q c') (xs ++ ys) → w.grownBy w' (Value.slice A0 m c0).ownBlock → K (a.put o.dst (.slice A' q c')) w') :
    if Region.wanted o (yielded ops a.tmps) = true then Oper.wp Try.prog o a w K Q else E := by
  subst hn
  subst hm
  subst hq
  obtain ⟨v', w', hrun, hrow, hgr, -⟩ := hr.app hl hle hb o.type
  obtain ⟨A', c', rfl, -⟩ := hrow.ls
  have hw : Region.wanted o (yielded ops a.tmps) = true := by simp [Region.wanted, hg]
  rw [if_pos hw]
  unfold Oper.wp
  simp [execOp, hop, resolve, invoke, builtin, hs, hx, hrun, Result.andThen]
  have := hK A' c' w' (by rw [← List.length_append]; exact hrow) hgr
  exact this
end
end Go.Proofs.Ythjlapcccmbhbaa.Lk
