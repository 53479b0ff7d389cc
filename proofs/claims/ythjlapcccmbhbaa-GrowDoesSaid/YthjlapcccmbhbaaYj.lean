/- Which lock may come in the place of many: what the document's loop has found so far; plain facts. -/
import Derived.Test.YthjlapcccmbhbaaYh
import Derived.Test.YthjlapcccmbhbaaYi
import Derived.Test.YthjlapcccmbhbaaXf
import Derived.Test.YthjlapcccmbhbaaYb
import Derived.Test.YthjlapcccmbhbaaYc
namespace Go.Proofs.Ythjlapcccmbhbaa.Lk
open Go Go.RowKit Go.Shelf Pa
set_option maxRecDepth 100000

/-- as far as the list has been gone through -/
def PickAt (xs zs : List Hd) (n : Int) (x : Hd) (b : Bool) : Prop :=
  (b = false ∧ x = (⟨0, 0, 0, 0, 0⟩, 0) ∧ ∀ p, 0 < cntL zs p → ¬ (1 ≤ n ∧ candB xs n p = true)) ∨
  (b = true ∧ 1 ≤ n ∧ 0 < cntL xs x.1 ∧ candB xs n x.1 = true ∧ x = itemG xs x.1 ∧ ∀ p, 0 < cntL zs p → candB xs n p = true → ltU (itemG xs p) x = false)
section
variable {xs zs : List Hd} {n : Int} {x y : Hd} {u : Pt} {b : Bool}
theorem PickAt.nil : PickAt xs [] n (⟨0, 0, 0, 0, 0⟩, 0) false := .inl ⟨rfl, rfl, fun p h => by simp [cntL, fitL] at h⟩
theorem PickAt.is (h : PickAt xs xs n x b) : PickIs xs n x b := by
  rcases h with ⟨h1, h2, h3⟩ | h
  · refine .inl ⟨h1, h2, ?_⟩
    by_cases hn : n < 1
    · exact .inl hn
    · refine .inr fun p hp => ?_
      cases hc : candB xs n p
      · rfl
      · exact absurd ⟨by omega, hc⟩ (h3 p hp)
  · exact .inr h
theorem PickAt.none (h : PickAt xs zs n x b) (hk : ∀ p, kidB y.1 p = false) : PickAt xs (zs ++ [y]) n x b := by
  have e : ∀ p, cntL (zs ++ [y]) p = cntL zs p := fun p => by rw [cnt_snoc, hk p]; rfl
  unfold PickAt
  simp only [e]
  exact h
theorem cnt_or (hk : ∀ p, kidB y.1 p = eqP u p) {p : Pt} (h : 0 < cntL (zs ++ [y]) p) : 0 < cntL zs p ∨ p = u := by
  rw [cnt_snoc, hk p] at h
  by_cases e : eqP u p = true
  · exact .inr ((eqP_iff _ _).1 e).symm
  · rw [if_neg e] at h
    exact .inl h
theorem PickAt.not (h : PickAt xs zs n x b) (hk : ∀ p, kidB y.1 p = eqP u p) (hc : ¬ (1 ≤ n ∧ candB xs n u = true)) : PickAt xs (zs ++ [y]) n x b := by
  rcases h with ⟨h1, h2, h3⟩ | ⟨h1, h2, h3, h4, h5, h6⟩
  · refine .inl ⟨h1, h2, fun p hp => ?_⟩
    rcases cnt_or hk hp with hp | rfl
    · exact h3 p hp
    · exact hc
  · refine .inr ⟨h1, h2, h3, h4, h5, fun p hp hp2 => ?_⟩
    rcases cnt_or hk hp with hp | rfl
    · exact h6 p hp hp2
    · exact absurd ⟨h2, hp2⟩ hc
theorem PickAt.put (hzs : ∀ p, 0 < cntL zs p → 0 < cntL xs p) (h : PickAt xs zs n x b) (hk : ∀ p, kidB y.1 p = eqP u p) (h1 : 1 ≤ n) (hu : 0 < cntL xs u) (hc : candB xs n u = true) (hb : b = false ∨ ltU (itemG xs u) x = true) : PickAt xs (zs ++ [y]) n (itemG xs u) true := by
  refine .inr ⟨rfl, h1, hu, hc, rfl, fun p hp hp2 => ?_⟩
  have ru : rightB (itemG xs u).1 = true := cnt_right hu
  rcases cnt_or hk hp with hp | rfl
  · rcases h with ⟨-, -, h3⟩ | ⟨g1, -, g3, -, -, h6⟩
    · exact absurd ⟨h1, hp2⟩ (h3 p hp)
    · rcases hb with hb | hb
      · rw [g1] at hb; cases hb
      · exact leU_tr ru (cnt_right g3) (show rightB (itemG xs p).1 = true from cnt_right (hzs p hp)) (ltU_asym ru (cnt_right g3) hb) (h6 p hp hp2)
  · exact ltU_irr ru
theorem PickAt.keep (h : PickAt xs zs n x true) (hk : ∀ p, kidB y.1 p = eqP u p) (hb : ltU (itemG xs u) x = false) : PickAt xs (zs ++ [y]) n x true := by
  rcases h with ⟨h1, _⟩ | ⟨h1, h2, h3, h4, h5, h6⟩
  · cases h1
  · refine .inr ⟨h1, h2, h3, h4, h5, fun p hp hp2 => ?_⟩
    rcases cnt_or hk hp with hp | rfl
    · exact h6 p hp hp2
    · exact hb
theorem cnt_take {k : Nat} {p : Pt} (h : 0 < cntL (xs.take k) p) : 0 < cntL xs p := by
  unfold cntL at h ⊢
  obtain ⟨z, hz⟩ := List.exists_mem_of_length_pos h
  obtain ⟨hz1, hz2⟩ := List.mem_filter.1 hz
  exact List.length_pos_of_mem (List.mem_filter.2 ⟨List.take_subset _ _ hz1, hz2⟩)
theorem cnt_kid (hy : y ∈ xs) (hk : kidB y.1 u = true) : 0 < cntL xs u := by
  unfold cntL
  exact List.length_pos_of_mem (List.mem_filter.2 ⟨hy, hk⟩)
theorem up_kids (x : Pt) : ∃ (y : Pt) (r : Bool), upV x = .tuple #[y.v, .bool r] ∧ ∀ p, kidB x p = (r && eqP y p) := by
  by_cases h : rightB x = true ∧ x.e ≠ 1
  · refine ⟨cutP x (x.e - 1), true, by unfold upV; rw [if_pos h], fun p => ?_⟩
    have h2 : (x.e == 1) = false := by simpa using h.2
    unfold kidB
    rw [h.1, h2]
    rfl
  · refine ⟨⟨0, 0, 0, 0, 0⟩, false, by unfold upV; rw [if_neg h], fun p => ?_⟩
    unfold kidB
    cases h1 : rightB x
    · rfl
    · cases h2 : (x.e == 1)
      · exact absurd ⟨h1, by simpa using h2⟩ h
      · rfl
theorem top_perm {l l' : List Hd} (h : l.Perm l') : topL l = topL l' := by
  rcases top_get l with h1 | ⟨z, hz, h1⟩
  · rcases top_get l' with h2 | ⟨z, hz, h2⟩
    · rw [h1, h2]
    · have := top_mem (h.mem_iff.2 hz)
      omega
  · rcases top_get l' with h2 | ⟨z', hz', h2⟩
    · have := top_mem (h.mem_iff.1 hz)
      omega
    · have g1 := top_mem (h.mem_iff.1 hz)
      have g2 := top_mem (h.mem_iff.2 hz')
      omega
theorem bk_top {ys : List Hd} (h : Bk (fitL (fun x => belB x u) xs) ys) : topL ys = mxL xs u := top_perm h.stb.perm
/-- two answers are one -/
theorem PickIs.one (h : PickIs xs n x b) {y : Hd} {c : Bool} (k : PickIs xs n y c) : x = y ∧ b = c := by
  rcases h with ⟨h1, h2, h3⟩ | ⟨h1, h2, h3, h4, h5, h6⟩
  · rcases k with ⟨k1, k2, -⟩ | ⟨k1, k2, k3, k4, -⟩
    · exact ⟨h2.trans k2.symm, h1.trans k1.symm⟩
    · rcases h3 with h3 | h3
      · omega
      · rw [h3 _ k3] at k4; cases k4
  · rcases k with ⟨k1, k2, k3⟩ | ⟨k1, k2, k3, k4, k5, k6⟩
    · rcases k3 with k3 | k3
      · omega
      · rw [k3 _ h3] at h4; cases h4
    · refine ⟨?_, h1.trans k1.symm⟩
      have g1 := h6 y.1 k3 k4
      have g2 := k6 x.1 h3 h4
      rw [← k5] at g1
      rw [← h5] at g2
      have e : x.1 = y.1 := by
        have n1 : ¬ ltU y x = true := by rw [g1]; simp
        have n2 : ¬ ltU x y = true := by rw [g2]; simp
        rw [ltU_iff] at n1 n2
        rcases tree_total (cnt_right h3) (cnt_right k3) with e | e
        · exact e
        · have e0 : x.1.e = y.1.e := by omega
          exfalso
          cases hl : lessB x.1 y.1
          · rw [hl] at e
            exact n1 (.inr ⟨e0.symm, by simpa using e⟩)
          · exact n2 (.inr ⟨e0, hl⟩)
      rw [h5, k5, e]
end
/-- a lock in a box of its own -/
def Bx (w : World) (B : Nat) (x : Hd) : Prop := w.heap[B]? = some (.cells #[.int .i64 x.1.a, .int .i64 x.1.b, .int .i64 x.1.c, .int .i64 x.1.d, .int .i64 x.1.e, .int .i64 x.2] 27)
section
variable {w w' : World} {B C K : Nat} {x y : Hd}
theorem Bx.at (h : Bx w B x) : Pl6 w B 0 x := by
  have h' : w.heap[B]? = _ := h
  refine ⟨?_, ?_, ?_, ?_, ?_, ?_, ?_, ?_, ?_, ?_, ?_, ?_, (Array.getElem?_eq_some_iff.1 h').1⟩ <;> simp [World.cell?, World.frozen?, h']
theorem Bx.lt (h : Bx w B x) : B < w.heap.size := (Array.getElem?_eq_some_iff.1 h).1
theorem Bx.below (h : Bx w B x) (hb : Below w.heap.size w w') : Bx w' B x := (hb.block _ h.lt).trans h
theorem Bx.put (h : Bx w B x) (y : Hd) : Bx ((((((w.setCell ⟨B, 0, none⟩ (.int .i64 y.1.a)).setCell ⟨B, 1, none⟩ (.int .i64 y.1.b)).setCell ⟨B, 2, none⟩ (.int .i64 y.1.c)).setCell ⟨B, 3, none⟩ (.int .i64 y.1.d)).setCell ⟨B, 4, none⟩ (.int .i64 y.1.e)).setCell ⟨B, 5, none⟩ (.int .i64 y.2)) B y :=
  set_blk (o := 5) _ (set_blk (o := 4) _ (set_blk (o := 3) _ (set_blk (o := 2) _ (set_blk (o := 1) _ (set_blk (o := 0) _ h)))))
theorem Bx.beside (h : Bx w C x) (hne : C ≠ B) (y : Hd) : Bx ((((((w.setCell ⟨B, 0, none⟩ (.int .i64 y.1.a)).setCell ⟨B, 1, none⟩ (.int .i64 y.1.b)).setCell ⟨B, 2, none⟩ (.int .i64 y.1.c)).setCell ⟨B, 3, none⟩ (.int .i64 y.1.d)).setCell ⟨B, 4, none⟩ (.int .i64 y.1.e)).setCell ⟨B, 5, none⟩ (.int .i64 y.2)) C x :=
  ((((((((OnlyS.set B 0 w _).trans (OnlyS.set B 1 _ _)).trans (OnlyS.set B 2 _ _)).trans (OnlyS.set B 3 _ _)).trans (OnlyS.set B 4 _ _)).trans (OnlyS.set B 5 _ _)).block C h.lt hne)).trans h
end
end Go.Proofs.Ythjlapcccmbhbaa.Lk
