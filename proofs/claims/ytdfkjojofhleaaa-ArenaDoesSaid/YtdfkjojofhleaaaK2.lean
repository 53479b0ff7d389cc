/- The walk of the law that an arena does what the document says: its lists and its start. -/
import Derived.Test.YtdfkjojofhleaaaK1
import Derived.Test.YtdfkjojofhleaaaD3
import Derived.Deep.RegionHeld3
import Derived.Deep.Cut
import Derived.Carry
namespace Go.Proofs.Ytdfkjojofhleaaa
open Go Go.RowKit Go.Shelf

theorem block_add' (a : Addr) (n : Nat) : (a.add n).block = a.block := by unfold Addr.add; split <;> rfl
/-- a deed of a list that came in -/
structure DeedAt (w : World) (ad : Addr) (i : Nat) (k x y : Int) : Prop where
  c0 : w.cell? (ad.add (i * 3)) = some (.int .i64 k)
  c1 : w.cell? ⟨(ad.add (i * 3)).block, (ad.add (i * 3)).off + 1, none⟩ = some (.int .i64 x)
  c2 : w.cell? ⟨(ad.add (i * 3)).block, (ad.add (i * 3)).off + 2, none⟩ = some (.int .i64 y)
def InD (w : World) (A : Option Addr) (L : Nat) : Prop := ∀ i, i < L → ∃ ad k x y, A = some ad ∧ ad.block < w.heap.size ∧ DeedAt w ad i k x y
theorem InD.at {w w' : World} {A : Option Addr} {L i : Nat} (h : InD w A L) (hb : Below w.heap.size w w') (hi : i < L) : ∃ ad k x y, A = some ad ∧ DeedAt w' ad i k x y := by
  obtain ⟨ad, k, x, y, h1, h2, h4⟩ := h i hi
  refine ⟨ad, k, x, y, h1, ?_, ?_, ?_⟩
  · rw [hb.cell (p := ad.add (i * 3)) (by rw [block_add']; exact h2)]; exact h4.c0
  · rw [hb.cell (p := ⟨(ad.add (i * 3)).block, (ad.add (i * 3)).off + 1, none⟩) (by show (ad.add (i * 3)).block < _; rw [block_add']; exact h2)]; exact h4.c1
  · rw [hb.cell (p := ⟨(ad.add (i * 3)).block, (ad.add (i * 3)).off + 2, none⟩) (by show (ad.add (i * 3)).block < _; rw [block_add']; exact h2)]; exact h4.c2
set_option maxRecDepth 100000 in
theorem does_long (n : Int) (A : Option Addr) (L c : Nat) (w : World) (h : 40 < L ∨ 100 < n) (hm : L ≤ maxLen) :
    Calls Try.prog 3 #[.int .i64 n, .slice A L c] w fun e w' => e = .returned (.bool true) ∧ Below w.heap.size w w' := by
  unfold maxLen at hm
  have hbx := Boxed.new w 4 (.bool false)
  have hb0 := box_below w (.cells #[.bool false] 4)
  by_cases h1 : 40 < L
  · have h2 : (40 : Int) < (L : Int) := by omega
    have h3 : decide ((40 : Int) < (L : Int)) = true := by simp; omega
    clear h
    go_enter Try.func3, Try.ntmps3
    go_wp2_with fail
    generalize w.alloc (.cells #[.bool false] 4) = w0 at hbx hb0 ⊢
    refine (awake_any _).mono ?_
    rintro e w1 ⟨rfl, hb1⟩
    have hbx1 : Boxed w1 w.heap.size 4 (.bool false) := (hb1.block _ hbx.lt).trans hbx
    have c0 := hbx1.cell
    have f0 := hbx1.frozen
    have HB := Lib.hid (hb0.trans (hb1.mono hb0.size))
    clear hbx hb0 hb1 hbx1
    go_wp2_with fail
    exact bodyPost_ret (v := .bool true) (by simp [results, Try.f3, go_sem, c0]) rfl ⟨rfl, HB.out.setCell (p := ⟨w.heap.size, 0, none⟩) (Nat.le_refl _) _⟩
  · have h2 : ¬ (40 : Int) < (L : Int) := by omega
    have h3 : 100 < n := by omega
    have h4 : decide ((40 : Int) < (L : Int)) = false := by simp; omega
    have h5 : decide (100 < n) = true := by simpa using h3
    clear h
    go_enter Try.func3, Try.ntmps3
    go_wp2_with fail
    generalize w.alloc (.cells #[.bool false] 4) = w0 at hbx hb0 ⊢
    refine (awake_any _).mono ?_
    rintro e w1 ⟨rfl, hb1⟩
    have hbx1 : Boxed w1 w.heap.size 4 (.bool false) := (hb1.block _ hbx.lt).trans hbx
    have c0 := hbx1.cell
    have f0 := hbx1.frozen
    have HB := Lib.hid (hb0.trans (hb1.mono hb0.size))
    clear hbx hb0 hb1 hbx1
    go_wp2_with fail
    exact bodyPost_ret (v := .bool true) (by simp [results, Try.f3, go_sem, c0]) rfl ⟨rfl, HB.out.setCell (p := ⟨w.heap.size, 0, none⟩) (Nat.le_refl _) _⟩
/-- the state at the loop's head -/
def Head (w W : World) (b bx B4 B6 m : Nat) : Prop := ∃ xv uv ps fs us X U fr, Rel m ps fs us X U fr ∧ Dh w W b bx B4 B6 xv uv m ps fs X U fr
theorem head_start {w w1 w2 w3 : World} {b B4 m : Nat} (ho : One w w2 b (fun _ => False) m [] []) (hb2 : Below w1.heap.size w1 w2) (hbx : Boxed w1 B4 4 (.bool false)) (hB4 : w.heap.size ≤ B4) (hm : m ≤ 100) (hb : b = w1.heap.size) (hf : Fresh w2 w2.heap.size m w3) :
    Head w (w3.alloc (.cells #[wp w2.heap.size] 26)) b w2.heap.size B4 w3.heap.size m := by
  obtain ⟨xv, uv, A, c, hr, hb3, _⟩ := hf
  have hz : w2.heap.size < w3.heap.size := cell_lt hr.c0
  have hx := box_below w3 (.cells #[wp w2.heap.size] 26)
  have h4 : B4 < w1.heap.size := hbx.lt
  have hz2 := hb2.size
  have hbx2 : Boxed w2 B4 4 (.bool false) := (hb2.block _ h4).trans hbx
  have hbx3 : Boxed w3 B4 4 (.bool false) := (hb3.block _ hbx2.lt).trans hbx2
  refine ⟨xv, uv, [], [], [], _, _, _, Rel.start hm, ⟨A, c, hr.below hx, ?_, ?_⟩, hbx3.alloc _, Boxed.new _ _ _⟩
  · obtain ⟨S, h1, h2, h3, _⟩ := ho
    have hS : ∀ k, S k → k < w2.heap.size := fun k hk => (h1.lt hk).2
    have hSb : ∀ k, S k → w1.heap.size ≤ k := fun k hk => by have := (h1.lt hk).1; omega
    refine ⟨S, (h1.below hb3).below hx, h2, (h3.trans (hb3.mono h3.size)).trans (hx.mono (Nat.le_trans h3.size hb3.size)), fun k hk => ?_⟩
    have hsz : (w3.alloc (.cells #[wp w2.heap.size] 26)).heap.size = w3.heap.size + 1 := by simp
    rcases hk with hk | rfl | rfl
    · have := hr.lt hk
      exact ⟨by omega, fun hs => by have := hS k hs; omega, by have := h3.size; omega⟩
    · exact ⟨by omega, fun hs => by have := hSb _ hs; omega, hB4⟩
    · exact ⟨by omega, fun hs => by have := hS _ hs; omega, by have := h3.size; omega⟩
  · rintro k (rfl | rfl) hr2
    · have := (hr.lt hr2).1; omega
    · have := (hr.lt hr2).2; omega
end Go.Proofs.Ytdfkjojofhleaaa
