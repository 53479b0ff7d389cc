/- An arena beside the document's, with a deed and other boxes. -/
import Derived.Test.YtdfkjojofhleaaaM2
import Derived.Test.YtdfkjojofhleaaaP4
namespace Go.Proofs.Ytdfkjojofhleaaa
open Go Go.RowKit

/-- an arena, the document's, and other blocks -/
def Mid (w W : World) (b bx : Nat) (xv uv : Value) (E : Nat → Prop) (m : Nat) (ps : List Pl) (fs : List Nat) (X : List Int) (U : List Bool) (fr : List Nat) : Prop :=
  ∃ A c, RefAt W bx xv uv A c X U fr ∧ One w W b (fun k => OfRef bx xv uv A k ∨ E k) m ps fs ∧ ∀ k, E k → ¬ OfRef bx xv uv A k
section
variable {w W w' : World} {b bx m f : Nat} {xv uv v : Value} {E E' T : Nat → Prop} {ps ps' : List Pl} {fs fs' : List Nat} {X X' : List Int} {U U' : List Bool} {fr fr' : List Nat} {args : Array Value}
theorem Mid.bel (h : Mid w W b bx xv uv E m ps fs X U fr) : Below w.heap.size w W := by
  obtain ⟨A, c, _, h2, _⟩ := h
  exact h2.bel
theorem Mid.elt (h : Mid w W b bx xv uv E m ps fs X U fr) {k : Nat} (hk : E k) : k < W.heap.size ∧ w.heap.size ≤ k := by
  obtain ⟨A, c, _, h2, _⟩ := h
  exact h2.klt (.inr hk)
/-- other blocks change, and some are new -/
theorem Mid.turn (h : Mid w W b bx xv uv E m ps fs X U fr) (ho : OnlyS T W w') (hT : ∀ k, T k → E k) (hE : ∀ k, E' k → (E k ∨ W.heap.size ≤ k) ∧ k < w'.heap.size) : Mid w w' b bx xv uv E' m ps fs X U fr := by
  obtain ⟨A, c, h1, h2, h3⟩ := h
  refine ⟨A, c, h1.keep fun k hk => ho.block k (h1.lt hk).2 (fun ht => h3 k (hT k ht) hk), h2.turn ho (fun k hk => .inr (hT k hk)) (fun k hk => ?_), fun k hk hr => ?_⟩
  · rcases hk with hk | hk
    · exact ⟨.inl (.inl hk), Nat.lt_of_lt_of_le (h1.lt hk).2 ho.size⟩
    · obtain ⟨q1, q2⟩ := hE k hk
      exact ⟨q1.imp .inr id, q2⟩
  · rcases (hE k hk).1 with q | q
    · exact h3 k q hr
    · have := (h1.lt hr).2; omega
theorem Mid.below (h : Mid w W b bx xv uv E m ps fs X U fr) (hb : Below W.heap.size W w') : Mid w w' b bx xv uv E m ps fs X U fr :=
  h.turn (OnlyS.of_below (S := fun _ => False) hb) (fun _ h => h.elim) (fun _ hk => ⟨.inl hk, Nat.lt_of_lt_of_le (h.elt hk).1 hb.size⟩)
theorem mid_does (h : Mid w W b bx xv uv E m ps fs X U fr) (hc : ∀ S, Ar W b S m ps fs → Calls Try.prog f args W (Does W b S v m ps' fs')) :
    Calls Try.prog f args W fun e w' => e = .returned v ∧ Mid w w' b bx xv uv E m ps' fs' X U fr ∧ Keeps E W w' := by
  obtain ⟨A, c, h1, h2, h3⟩ := h
  refine (one_does h2 hc).mono ?_
  rintro e w' ⟨rfl, ho, hk⟩
  exact ⟨rfl, ⟨A, c, h1.keep fun k hk2 => hk.block k (.inl hk2), ho, h3⟩, ⟨hk.size, fun k hk2 => hk.block k (.inr hk2)⟩⟩
theorem mid_ref (h : Mid w W b bx xv uv E m ps fs X U fr) (hc : ∀ A c, RefAt W bx xv uv A c X U fr → Calls Try.prog f args W (RDoes W bx xv uv A v X' U' fr')) :
    Calls Try.prog f args W fun e w' => e = .returned v ∧ Mid w w' b bx xv uv E m ps fs X' U' fr' ∧ Keeps E W w' := by
  obtain ⟨A, c, h1, h2, h3⟩ := h
  refine (hc A c h1).mono ?_
  rintro e w' ⟨A', c', rfl, k1, k2, k3⟩
  have hor : ∀ k, OfRef bx xv uv A' k → OfRef bx xv uv A k ∨ W.heap.size ≤ k := by
    rintro k (q | q | q | q)
    · exact .inl (.inl q)
    · exact .inl (.inr (.inl q))
    · exact .inl (.inr (.inr (.inl q)))
    · exact (k3 k q).imp (fun q => .inr (.inr (.inr q))) id
  refine ⟨rfl, ⟨A', c', k1, h2.turn k2 (fun k hk => .inl hk) (fun k hk => ?_), fun k hk hr => ?_⟩, ⟨k2.size, fun k hk => k2.block k (h2.klt (.inr hk)).1 (h3 k hk)⟩⟩
  · rcases hk with hk | hk
    · exact ⟨(hor k hk).imp .inl id, (k1.lt hk).2⟩
    · exact ⟨.inl (.inr hk), Nat.lt_of_lt_of_le (h2.klt (.inr hk)).1 k2.size⟩
  · rcases hor k hr with q | q
    · exact h3 k hk q
    · have := (h2.klt (K := fun k => OfRef bx xv uv A k ∨ E k) (.inr hk)).1; omega
end
/-- .. with the result's box, the box of the document's, and a deed -/
structure Dd (w W : World) (b bx B4 B6 Bd : Nat) (xv uv : Value) (i x : Int) (m : Nat) (ps : List Pl) (fs : List Nat) (X : List Int) (U : List Bool) (fr : List Nat) : Prop where
  mid : Mid w W b bx xv uv (fun k => k = B4 ∨ k = B6 ∨ k = Bd) m ps fs X U fr
  b4 : Boxed W B4 4 (.bool false)
  b6 : Boxed W B6 26 (wp bx)
  d1 : W.cell? ⟨Bd, 1, none⟩ = some (.int .i64 i)
  d2 : W.cell? ⟨Bd, 2, none⟩ = some (.int .i64 x)
/-- .. with no deed -/
structure Dh (w W : World) (b bx B4 B6 : Nat) (xv uv : Value) (m : Nat) (ps : List Pl) (fs : List Nat) (X : List Int) (U : List Bool) (fr : List Nat) : Prop where
  mid : Mid w W b bx xv uv (fun k => k = B4 ∨ k = B6) m ps fs X U fr
  b4 : Boxed W B4 4 (.bool false)
  b6 : Boxed W B6 26 (wp bx)
section
variable {w W w' : World} {b bx B4 B6 Bd m f : Nat} {xv uv v : Value} {i x : Int} {ps ps' : List Pl} {fs fs' us : List Nat} {X X' : List Int} {U U' : List Bool} {fr fr' : List Nat} {args : Array Value}
theorem Dh.dd (h : Dh w W b bx B4 B6 xv uv m ps fs X U fr) (kd i x : Int) : Dd w (W.alloc (.cells #[.int .i64 kd, .int .i64 i, .int .i64 x] 29)) b bx B4 B6 W.heap.size xv uv i x m ps fs X U fr := by
  have hb := box_below W (.cells #[.int .i64 kd, .int .i64 i, .int .i64 x] 29)
  refine ⟨h.mid.turn (OnlyS.of_below (S := fun _ => False) hb) (fun _ h => h.elim) (fun k hk => ?_), h.b4.alloc _, h.b6.alloc _, by simp [go_sem], by simp [go_sem]⟩
  rcases hk with hk | hk | rfl
  · exact ⟨.inl (.inl hk), Nat.lt_of_lt_of_le (h.mid.elt (.inl hk)).1 hb.size⟩
  · exact ⟨.inl (.inr hk), Nat.lt_of_lt_of_le (h.mid.elt (.inr hk)).1 hb.size⟩
  · exact ⟨.inr (Nat.le_refl _), by simp⟩
theorem Dd.dh (h : Dd w W b bx B4 B6 Bd xv uv i x m ps fs X U fr) : Dh w W b bx B4 B6 xv uv m ps fs X U fr := by
  refine ⟨h.mid.turn (OnlyS.refl (fun _ => False) _) (fun _ h => h.elim) (fun k hk => ?_), h.b4, h.b6⟩
  have hk' : k = B4 ∨ k = B6 ∨ k = Bd := hk.imp id .inl
  exact ⟨.inl hk', (h.mid.elt hk').1⟩
theorem Dd.keeps (h : Dd w W b bx B4 B6 Bd xv uv i x m ps fs X U fr) (hm : Mid w w' b bx xv uv (fun k => k = B4 ∨ k = B6 ∨ k = Bd) m ps' fs' X' U' fr') (hk : Keeps (fun k => k = B4 ∨ k = B6 ∨ k = Bd) W w') : Dd w w' b bx B4 B6 Bd xv uv i x m ps' fs' X' U' fr' := by
  have hbd := hk.block Bd (.inr (.inr rfl))
  exact ⟨hm, (hk.block B4 (.inl rfl)).trans h.b4, (hk.block B6 (.inr (.inl rfl))).trans h.b6, (World.cell?_of_block (w := W) (a := ⟨Bd, 1, none⟩) hbd).trans h.d1, (World.cell?_of_block (w := W) (a := ⟨Bd, 2, none⟩) hbd).trans h.d2⟩
theorem Dd.below (h : Dd w W b bx B4 B6 Bd xv uv i x m ps fs X U fr) (hb : Below W.heap.size W w') : Dd w w' b bx B4 B6 Bd xv uv i x m ps fs X U fr :=
  h.keeps (h.mid.below hb) ⟨hb.size, fun _ hk => hb.block _ (h.mid.elt hk).1⟩
theorem Dd.deed (h : Dd w W b bx B4 B6 Bd xv uv i x m ps fs X U fr) : W.cell? ⟨B6, 0, none⟩ = some (wp bx) ∧ W.cell? ⟨Bd, 1, none⟩ = some (.int .i64 i) ∧ W.cell? ⟨Bd, 2, none⟩ = some (.int .i64 x) := ⟨h.b6.cell, h.d1, h.d2⟩
theorem dd_does (h : Dd w W b bx B4 B6 Bd xv uv i x m ps fs X U fr) (hc : ∀ S, Ar W b S m ps fs → Calls Try.prog f args W (Does W b S v m ps' fs')) :
    Calls Try.prog f args W fun e w' => e = .returned v ∧ Dd w w' b bx B4 B6 Bd xv uv i x m ps' fs' X U fr := by
  refine (mid_does h.mid hc).mono ?_
  rintro e w' ⟨rfl, hm, hk⟩
  exact ⟨rfl, h.keeps hm hk⟩
theorem dd_ref (h : Dd w W b bx B4 B6 Bd xv uv i x m ps fs X U fr) (hc : ∀ A c, RefAt W bx xv uv A c X U fr → Calls Try.prog f args W (RDoes W bx xv uv A v X' U' fr')) :
    Calls Try.prog f args W fun e w' => e = .returned v ∧ Dd w w' b bx B4 B6 Bd xv uv i x m ps fs X' U' fr' := by
  refine (mid_ref h.mid hc).mono ?_
  rintro e w' ⟨rfl, hm, hk⟩
  exact ⟨rfl, h.keeps hm hk⟩
theorem mid_has {E : Nat → Prop} (h : Mid w W b bx xv uv E m ps fs X U fr) (hl : U.length ≤ 4096) (i : Int) : Calls Try.prog 14 #[wp bx, .int .i64 i] W fun e w' => e = .returned (.bool (hasU U i)) ∧ W = w' := by
  obtain ⟨A, c, h1, _, _⟩ := h
  exact rhas_any h1 hl i
theorem mid_get {E : Nat → Prop} (h : Mid w W b bx xv uv E m ps fs X U fr) (i : Int) : Calls Try.prog 15 #[wp b, .int .i64 i] W fun e w' => e = .returned (.tuple #[.int .i64 (hasI ps i), .bool (usedB ps i)]) ∧ W = w' := by
  obtain ⟨A, c, _, h2, _⟩ := h
  exact one_get h2 i
theorem mid_left {E : Nat → Prop} (h : Mid w W b bx xv uv E m ps fs X U fr) (hr : Rel m ps fs us X U fr) : Calls Try.prog 16 #[wp b] W fun e w' => e = .returned (.int .i64 (fr.length : Int)) ∧ ∃ k, w' = W.drewN k := by
  obtain ⟨A, c, _, h2, _⟩ := h
  have := one_left h2
  have hl := hr.frlen
  have hb := h2.bounds
  rw [show (m : Int) - ((ps.length : Int) - (fs.length : Int)) = (fr.length : Int) by omega] at this
  exact this
theorem mid_len {E : Nat → Prop} (h : Mid w W b bx xv uv E m ps fs X U fr) (hr : Rel m ps fs us X U fr) : Calls Try.prog 17 #[wp b] W fun e w' => e = .returned (.int .i64 ((X.length : Int) - (fr.length : Int))) ∧ ∃ k, w' = W.drewN k := by
  obtain ⟨A, c, _, h2, _⟩ := h
  have := one_len h2
  have hl := hr.frlen
  have hb := h2.bounds
  rw [show ((ps.length : Int) - (fs.length : Int)) = (X.length : Int) - (fr.length : Int) by rw [hr.xl]; omega] at this
  exact this
/-- a place is freed by both -/
def freeP (ps : List Pl) (i : Int) : List Pl := if usedB ps i then ps.set i.toNat (0, false) else ps
def freeF (ps : List Pl) (fs : List Nat) (i : Int) : List Nat := if usedB ps i then fs ++ [i.toNat] else fs
def dropX (U : List Bool) (X : List Int) (i : Int) : List Int := if hasU U i then X.set i.toNat 0 else X
def dropU (U : List Bool) (i : Int) : List Bool := if hasU U i then U.set i.toNat false else U
def dropF (U : List Bool) (fr : List Nat) (i : Int) : List Nat := if hasU U i then i.toNat :: fr else fr
theorem Rel.drop (h : Rel m ps fs us X U fr) (i : Int) : ∃ us', Rel m (freeP ps i) (freeF ps fs i) us' (dropX U X i) (dropU U i) (dropF U fr i) := by
  unfold freeP freeF dropX dropU dropF
  rw [h.has i]
  cases hu : usedB ps i
  · exact ⟨us, h⟩
  · obtain ⟨k, _, rfl, _⟩ := used_yes hu
    obtain ⟨us', h1, _⟩ := h.free hu
    simp only [if_true, Int.toNat_natCast]
    exact ⟨us', h1⟩
theorem dd_free {j : Int} (h : Dd w W b bx B4 B6 Bd xv uv i x m ps fs X' U' fr') (hr : Rel m ps fs us X U fr) (i' : Int) (hi : i' = j) : Calls Try.prog 11 #[wp b, .int .i64 i'] W fun e w' => e = .returned (.bool (usedB ps j)) ∧ Dd w w' b bx B4 B6 Bd xv uv i x m (freeP ps j) (freeF ps fs j) X' U' fr' := by
  subst hi
  refine dd_does h fun S h1 => ?_
  unfold freeP freeF
  cases hu : usedB ps i'
  · exact free_no h1 hu
  · obtain ⟨k, hk, rfl, hv⟩ := used_yes hu
    obtain ⟨us', _, hl⟩ := hr.free hu
    simp only [if_true, Int.toNat_natCast]
    exact free_yes h1 hk hv hl
theorem dd_drop {j : Int} (h : Dd w W b bx B4 B6 Bd xv uv i x m ps' fs' X U fr) (hr : Rel m ps fs us X U fr) (i' : Int) (hi : i' = j) : Calls Try.prog 12 #[wp bx, .int .i64 i'] W fun e w' => e = .returned (.bool (usedB ps j)) ∧ Dd w w' b bx B4 B6 Bd xv uv i x m ps' fs' (dropX U X j) (dropU U j) (dropF U fr j) := by
  subst hi
  have hxl := hr.xl
  have hul := hr.ul
  have hml := hr.ml
  have hfl := hr.frlen
  have hln := hr.inv.len
  rw [← hr.has i']
  refine dd_ref h fun A c h1 => ?_
  unfold dropX dropU dropF
  cases hu : hasU U i'
  · exact rdrop_no h1 (by omega) hu
  · have hu2 := hu
    rw [hr.has i'] at hu2
    obtain ⟨k, hk, rfl, hv⟩ := used_yes hu2
    obtain ⟨hk1, hk2⟩ := hr.ult hu2
    simp only [if_true, Int.toNat_natCast]
    have hkU : k < U.length := by omega
    exact rdrop_yes h1 (by omega) hkU (by omega) (by omega) (by omega) (by rw [← hasU_at hkU]; exact hu)
theorem dd_set {j y : Int} (h : Dd w W b bx B4 B6 Bd xv uv i x m ps fs X U fr) (i' x' : Int) (hi : i' = j) (hx : x' = y) : Calls Try.prog 13 #[wp b, .int .i64 i', .int .i64 x'] W fun e w' => e = .returned (.bool (usedB ps j)) ∧ Dd w w' b bx B4 B6 Bd xv uv i x m (setP ps j y) fs X U fr := by
  subst hi hx
  exact dd_does h fun S h1 => set_any h1 i' x'
theorem dd_has {j : Int} {ps2 : List Pl} (h : Dd w W b bx B4 B6 Bd xv uv i x m ps' fs' X U fr) (hr : Rel m ps2 fs us X U fr) (i' : Int) (hi : i' = j) : Calls Try.prog 14 #[wp bx, .int .i64 i'] W fun e w' => e = .returned (.bool (usedB ps2 j)) ∧ Dd w w' b bx B4 B6 Bd xv uv i x m ps' fs' X U fr := by
  subst hi
  have hul := hr.ul
  have hml := hr.ml
  refine (mid_has h.mid (by omega) i').mono ?_
  rintro e w' ⟨rfl, rfl⟩
  rw [hr.has i']
  exact ⟨rfl, h⟩
/-- one is taken, or none is free, of both -/
theorem rel_take (hr : Rel m ps fs us X U fr) (x : Int) :
    (fr = [] ∧ m = ps.length - fs.length) ∨
    ∃ o fr' ps' fs' us', fr = o :: fr' ∧ o < m ∧ Rel m ps' fs' us' (X.set o x) (U.set o true) fr' ∧ ∀ W b S, Ar W b S m ps fs → Calls Try.prog 9 #[wp b, .int .i64 x] W (Does W b S (.tuple #[.int .i64 (o : Int), .bool true]) m ps' fs') := by
  have hl := hr.frlen
  have hln := hr.inv.len
  have hpl := hr.pl
  by_cases hm : m = ps.length - fs.length
  · left
    exact ⟨List.length_eq_zero_iff.1 (by omega), hm⟩
  · right
    rcases List.eq_nil_or_concat fs with rfl | ⟨gs, i, hgs⟩
    · have hlt : ps.length < m := by simp at hm; omega
      obtain ⟨fr', h1, h2⟩ := hr.new x hlt
      exact ⟨_, _, _, _, _, h1, hlt, h2, fun W b S h3 => take_new h3 x hlt⟩
    · rw [List.concat_eq_append] at hgs
      subst hgs
      obtain ⟨fr', h1, h2, h3⟩ := hr.old x
      exact ⟨_, _, _, _, _, h1, by omega, h2, fun W b S h4 => take_old h4 x h3⟩
end
end Go.Proofs.Ytdfkjojofhleaaa
