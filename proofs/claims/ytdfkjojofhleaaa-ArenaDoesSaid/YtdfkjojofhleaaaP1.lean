/- The document's own arena in memory: what places have, whether they are used, and those that are free, in order; whether a place is used. -/
import Derived.Test.YtdfkjojofhleaaaQ1
import Derived.Test.YtdfkjojofhleaaaD2
namespace Go.Proofs.Ytdfkjojofhleaaa
open Go Go.RowKit

/-- the cells of bools -/
def boolsL (xs : List Bool) : List Value := xs.map fun x => .bool x
theorem bools_snoc (xs : List Bool) (i : Bool) : boolsL (xs ++ [i]) = boolsL xs ++ [.bool i] := by simp [boolsL]
theorem ints_set (xs : List Int) (i : Nat) (x : Int) : intsL (xs.set i x) = (intsL xs).set i (.int .i64 x) := by simp [intsL, List.map_set]
theorem bools_set (xs : List Bool) (i : Nat) (x : Bool) : boolsL (xs.set i x) = (boolsL xs).set i (.bool x) := by simp [boolsL, List.map_set]
/-- the document's arena lies in a block -/
structure RefAt (W : World) (bx : Nat) (xv uv : Value) (A : Option Addr) (c : Nat) (X : List Int) (U : List Bool) (fr : List Nat) : Prop where
  c0 : W.cell? ⟨bx, 0, none⟩ = some xv
  c1 : W.cell? ⟨bx, 1, none⟩ = some uv
  c2 : W.cell? ⟨bx, 2, none⟩ = some (.slice A fr.length c)
  f0 : W.frozen? ⟨bx, 0, none⟩ = false
  f1 : W.frozen? ⟨bx, 1, none⟩ = false
  f2 : W.frozen? ⟨bx, 2, none⟩ = false
  rx : W.ownsRow (bx + 1) 3 1 xv X.length (intsL X)
  ru : W.ownsRow (bx + 1) 4 1 uv U.length (boolsL U)
  qf : Qu W (bx + 1) A c fr
  xu : ∀ g, xv.ownBlock = some g → uv.ownBlock ≠ some g
  xf : ∀ g, xv.ownBlock = some g → ¬ OfA A g
  uf : ∀ g, uv.ownBlock = some g → ¬ OfA A g
/-- its blocks -/
def OfRef (bx : Nat) (xv uv : Value) (A : Option Addr) (k : Nat) : Prop := k = bx ∨ xv.ownBlock = some k ∨ uv.ownBlock = some k ∨ OfA A k
theorem RefAt.lt {W : World} {bx c : Nat} {xv uv : Value} {A : Option Addr} {X : List Int} {U : List Bool} {fr : List Nat} (h : RefAt W bx xv uv A c X U fr) {k : Nat} (hk : OfRef bx xv uv A k) : bx ≤ k ∧ k < W.heap.size := by
  rcases hk with rfl | hk | hk | hk
  · exact ⟨Nat.le_refl _, cell_lt h.c0⟩
  · have := h.rx.lt k hk; omega
  · have := h.ru.lt k hk; omega
  · have := h.qf.lt hk; omega
theorem RefAt.keep {W W' : World} {bx c : Nat} {xv uv : Value} {A : Option Addr} {X : List Int} {U : List Bool} {fr : List Nat} (h : RefAt W bx xv uv A c X U fr) (hk : ∀ k, OfRef bx xv uv A k → W'.heap[k]? = W.heap[k]?) : RefAt W' bx xv uv A c X U fr := by
  have hb := hk bx (.inl rfl)
  exact ⟨(World.cell?_of_block (w := W) (a := ⟨bx, 0, none⟩) hb).trans h.c0, (World.cell?_of_block (w := W) (a := ⟨bx, 1, none⟩) hb).trans h.c1, (World.cell?_of_block (w := W) (a := ⟨bx, 2, none⟩) hb).trans h.c2,
    (World.frozen?_of_block (w := W) (a := ⟨bx, 0, none⟩) hb).trans h.f0, (World.frozen?_of_block (w := W) (a := ⟨bx, 1, none⟩) hb).trans h.f1, (World.frozen?_of_block (w := W) (a := ⟨bx, 2, none⟩) hb).trans h.f2,
    row_keep h.rx fun g hg => hk g (.inr (.inl hg)), row_keep h.ru fun g hg => hk g (.inr (.inr (.inl hg))), h.qf.keep fun k hk2 => hk k (.inr (.inr (.inr hk2))), h.xu, h.xf, h.uf⟩
theorem RefAt.below {W W' : World} {bx c : Nat} {xv uv : Value} {A : Option Addr} {X : List Int} {U : List Bool} {fr : List Nat} (h : RefAt W bx xv uv A c X U fr) (hb : Below W.heap.size W W') : RefAt W' bx xv uv A c X U fr :=
  h.keep fun k hk => hb.block k (h.lt hk).2
/-- what a call that may change the document's arena alone leaves -/
def RDoes (W : World) (bx : Nat) (xv uv : Value) (A : Option Addr) (v : Value) (X : List Int) (U : List Bool) (fr : List Nat) (e : Ending) (w' : World) : Prop :=
  ∃ A' c', e = .returned v ∧ RefAt w' bx xv uv A' c' X U fr ∧ OnlyS (OfRef bx xv uv A) W w' ∧ ∀ k, OfA A' k → OfA A k ∨ W.heap.size ≤ k
theorem RDoes.same {W w' : World} {bx c : Nat} {xv uv v : Value} {A : Option Addr} {X : List Int} {U : List Bool} {fr : List Nat} (h : RefAt W bx xv uv A c X U fr) (hb : Below W.heap.size W w') : RDoes W bx xv uv A v X U fr (.returned v) w' :=
  ⟨A, c, rfl, h.below hb, OnlyS.of_below hb, fun _ hk => .inl hk⟩
/-- whether a number is a used place -/
def hasU (U : List Bool) (i : Int) : Bool := decide (0 ≤ i) && (match U[i.toNat]? with | some x => x | none => false)
theorem hasU_at {U : List Bool} {k : Nat} (hk : k < U.length) : hasU U (k : Int) = U[k] := by
  unfold hasU
  rw [Int.toNat_natCast, List.getElem?_eq_getElem hk]
  simp
theorem hasU_neg {U : List Bool} {i : Int} (hi : i < 0) : hasU U i = false := by
  unfold hasU
  rw [decide_eq_false (by omega)]
  rfl
theorem hasU_out {U : List Bool} {k : Nat} (hk : U.length ≤ k) : hasU U (k : Int) = false := by
  unfold hasU
  rw [Int.toNat_natCast, List.getElem?_eq_none hk]
  simp
theorem RefAt.xform {W : World} {bx c : Nat} {xv uv : Value} {A : Option Addr} {X : List Int} {U : List Bool} {fr : List Nat} (h : RefAt W bx xv uv A c X U fr) (hp : 0 < X.length) : ∃ g d, xv = .slice (some ⟨g, 0, none⟩) X.length d ∧ bx < g ∧ g < W.heap.size := by
  obtain ⟨B, d, rfl, h1⟩ := row_slice h.rx
  rcases h1 with h1 | ⟨g, rfl⟩
  · omega
  · have := h.rx.lt g rfl
    exact ⟨g, d, rfl, by omega, this.2⟩
theorem RefAt.uform {W : World} {bx c : Nat} {xv uv : Value} {A : Option Addr} {X : List Int} {U : List Bool} {fr : List Nat} (h : RefAt W bx xv uv A c X U fr) (hp : 0 < U.length) : ∃ g d, uv = .slice (some ⟨g, 0, none⟩) U.length d ∧ bx < g ∧ g < W.heap.size := by
  obtain ⟨B, d, rfl, h1⟩ := row_slice h.ru
  rcases h1 with h1 | ⟨g, rfl⟩
  · omega
  · have := h.ru.lt g rfl
    exact ⟨g, d, rfl, by omega, this.2⟩
theorem RefAt.xcell {W : World} {bx c g n d : Nat} {uv : Value} {A : Option Addr} {X : List Int} {U : List Bool} {fr : List Nat} (h : RefAt W bx (.slice (some ⟨g, 0, none⟩) n d) uv A c X U fr) {j : Nat} (hj : j < X.length) : W.cell? ⟨g, j, none⟩ = some (.int .i64 X[j]) ∧ W.frozen? ⟨g, j, none⟩ = false := by
  obtain ⟨_, _, hv, _⟩ := row_slice h.rx
  cases hv
  have := h.rx.cells (g := g) rfl j (.int .i64 X[j]) (by simp [intsL, hj])
  rw [add_at] at this
  exact ⟨this, h.rx.frozenAt _⟩
theorem RefAt.ucell {W : World} {bx c g n d : Nat} {xv : Value} {A : Option Addr} {X : List Int} {U : List Bool} {fr : List Nat} (h : RefAt W bx xv (.slice (some ⟨g, 0, none⟩) n d) A c X U fr) {j : Nat} (hj : j < U.length) : W.cell? ⟨g, j, none⟩ = some (.bool U[j]) ∧ W.frozen? ⟨g, j, none⟩ = false := by
  obtain ⟨_, _, hv, _⟩ := row_slice h.ru
  cases hv
  have := h.ru.cells (g := g) rfl j (.bool U[j]) (by simp [boolsL, hj])
  rw [add_at] at this
  exact ⟨this, h.ru.frozenAt _⟩
set_option maxHeartbeats 1000000 in
theorem rhas_any {W : World} {bx c : Nat} {xv uv : Value} {A : Option Addr} {X : List Int} {U : List Bool} {fr : List Nat} (h : RefAt W bx xv uv A c X U fr) (hl : U.length ≤ 4096) (i : Int) :
    Calls Try.prog 14 #[wp bx, .int .i64 i] W fun e w' => e = .returned (.bool (hasU U i)) ∧ W = w' := by
  by_cases h0 : i < 0
  · rw [hasU_neg h0]
    have d0 : decide (0 ≤ i) = false := by simp; omega
    clear h
    go_enter Try.func14, Try.ntmps14
    go_wp2
    go_ret
    exact ⟨rfl, rfl⟩
  · obtain ⟨k, rfl⟩ : ∃ k : Nat, i = k := ⟨i.toNat, by omega⟩
    by_cases hk : k < U.length
    · rw [hasU_at hk]
      obtain ⟨g, d, rfl, _⟩ := h.uform (by omega)
      obtain ⟨e1, _⟩ := h.ucell hk
      have q1 := h.c1
      generalize U[k] = u at *
      clear h
      generalize U.length = n at *
      have d1 : decide (k < n) = true := by simp; omega
      go_enter Try.func14, Try.ntmps14
      go_wp2
      go_ret
      exact ⟨rfl, rfl⟩
    · rw [hasU_out (by omega)]
      obtain ⟨B, d, rfl, _⟩ := row_slice h.ru
      have q1 := h.c1
      clear h
      generalize U.length = n at *
      have d1 : decide (k < n) = false := by simp; omega
      go_enter Try.func14, Try.ntmps14
      go_wp2
      go_ret
      exact ⟨rfl, rfl⟩
end Go.Proofs.Ytdfkjojofhleaaa
