/- A place of the document's arena is taken. -/
import Derived.Test.YtdfkjojofhleaaaP1
namespace Go.Proofs.Ytdfkjojofhleaaa
open Go Go.RowKit

theorem ref_set {W W' : World} {bx c gx gu n n' d d' o : Nat} {A : Option Addr} {X : List Int} {U : List Bool} {fr : List Nat} {x : Int} {u : Bool} (h : RefAt W bx (.slice (some ⟨gx, 0, none⟩) n d) (.slice (some ⟨gu, 0, none⟩) n' d') A c X U fr)
    (hW' : W' = (W.setCell ⟨gx, o, none⟩ (.int .i64 x)).setCell ⟨gu, o, none⟩ (.bool u)) :
    RefAt W' bx (.slice (some ⟨gx, 0, none⟩) n d) (.slice (some ⟨gu, 0, none⟩) n' d') A c (X.set o x) (U.set o u) fr ∧ OnlyS (fun k => k = gx ∨ k = gu) W W' := by
  have h1 := h.rx.lt gx rfl
  have h2 := h.ru.lt gu rfl
  have hne : gx ≠ gu := fun e => h.xu gx rfl (by rw [e]; rfl)
  have ho1 : OnlyS (fun k => k = gx ∨ k = gu) W (W.setCell ⟨gx, o, none⟩ (.int .i64 x)) := (OnlyS.set gx o W _).mono (fun _ _ hk => .inl hk)
  have ho : OnlyS (fun k => k = gx ∨ k = gu) W W' := by
    rw [hW']
    exact ho1.trans ((OnlyS.set gu o _ _).mono (fun _ _ hk => .inr hk))
  have hb : W'.heap[bx]? = W.heap[bx]? := ho.block bx (cell_lt h.c0) (by omega)
  obtain ⟨_, _, hvx, _⟩ := row_slice h.rx
  obtain ⟨_, _, hvu, _⟩ := row_slice h.ru
  refine ⟨⟨(World.cell?_of_block (w := W) (a := ⟨bx, 0, none⟩) hb).trans h.c0, (World.cell?_of_block (w := W) (a := ⟨bx, 1, none⟩) hb).trans h.c1, (World.cell?_of_block (w := W) (a := ⟨bx, 2, none⟩) hb).trans h.c2,
    (World.frozen?_of_block (w := W) (a := ⟨bx, 0, none⟩) hb).trans h.f0, (World.frozen?_of_block (w := W) (a := ⟨bx, 1, none⟩) hb).trans h.f1, (World.frozen?_of_block (w := W) (a := ⟨bx, 2, none⟩) hb).trans h.f2, ?_, ?_, ?_, h.xu, h.xf, h.uf⟩, ho⟩
  · rw [ints_set, List.length_set, hW']
    cases hvx
    refine row_keep (row_store h.rx o (.int .i64 x)) fun g hg => ?_
    obtain rfl : gx = g := by simpa [Value.ownBlock] using hg
    exact Below.heap_setCell _ ⟨gu, o, none⟩ _ gx hne
  · rw [bools_set, List.length_set, hW']
    cases hvu
    refine row_store (row_keep h.ru fun g hg => ?_) o (.bool u)
    obtain rfl : gu = g := by simpa [Value.ownBlock] using hg
    exact Below.heap_setCell _ ⟨gx, o, none⟩ _ gu (Ne.symm hne)
  · refine h.qf.keep fun k hk => ho.block k (h.qf.lt hk).2 ?_
    rintro (rfl | rfl)
    · exact h.xf k rfl hk
    · exact h.uf k rfl hk
/-- those that are free become others -/
theorem ref_free {W W1 W' : World} {bx c c' : Nat} {xv uv : Value} {A A' : Option Addr} {X : List Int} {U : List Bool} {fr fr' : List Nat} (h : RefAt W bx xv uv A c X U fr) (ho : OnlyS (OfA A) W W1) (hq : Qu W1 (bx + 1) A' c' fr') (hl : ∀ k, OfA A' k → OfA A k ∨ W.heap.size ≤ k)
    (hW' : W' = W1.setCell ⟨bx, 2, none⟩ (.slice A' fr'.length c')) :
    RefAt W' bx xv uv A' c' X U fr' ∧ OnlyS (fun k => k = bx ∨ OfA A k) W W' ∧ W1.cell? ⟨bx, 2, none⟩ = some (.slice A fr.length c) ∧ W1.frozen? ⟨bx, 2, none⟩ = false := by
  have hblt := cell_lt h.c0
  have hb1 : W1.heap[bx]? = W.heap[bx]? := ho.block bx hblt (fun e => by have := (h.qf.lt e).1; omega)
  have q0 : ∀ o, W1.cell? ⟨bx, o, none⟩ = W.cell? ⟨bx, o, none⟩ := fun o => World.cell?_of_block (w := W) (a := ⟨bx, o, none⟩) hb1
  have q1 : ∀ o, W1.frozen? ⟨bx, o, none⟩ = W.frozen? ⟨bx, o, none⟩ := fun o => World.frozen?_of_block (w := W) (a := ⟨bx, o, none⟩) hb1
  have q2 : ∀ o, o ≠ 2 → W'.cell? ⟨bx, o, none⟩ = W.cell? ⟨bx, o, none⟩ := fun o ho => by
    rw [hW', World.cell?_setCell_other (h := fun e => ho (by injection e with e1 e2; exact e2.symm))]
    exact q0 o
  have ho' : OnlyS (fun k => k = bx ∨ OfA A k) W W' := by
    rw [hW']
    exact (ho.mono (fun _ _ hk => .inr hk)).setIn bx 2 _ (.inl (.inl rfl))
  have hkeep : ∀ k, k ≠ bx → W'.heap[k]? = W1.heap[k]? := fun k hk => by rw [hW']; exact Below.heap_setCell W1 ⟨bx, 2, none⟩ _ k hk
  refine ⟨⟨(q2 0 (by omega)).trans h.c0, (q2 1 (by omega)).trans h.c1, ?_, ?_, ?_, ?_, ?_, ?_, ?_, h.xu, ?_, ?_⟩, ho', (q0 2).trans h.c2, (q1 2).trans h.f2⟩
  · rw [hW']; exact World.cell?_setCell_same' _ _ _ (by rw [q0, h.c2]; rfl)
  · rw [hW', World.frozen?_setCell]; exact (q1 0).trans h.f0
  · rw [hW', World.frozen?_setCell]; exact (q1 1).trans h.f1
  · rw [hW', World.frozen?_setCell]; exact (q1 2).trans h.f2
  · refine row_keep h.rx fun g hg => ho'.block g (h.rx.lt g hg).2 ?_
    rintro (q | q)
    · have := (h.rx.lt g hg).1; omega
    · exact h.xf g hg q
  · refine row_keep h.ru fun g hg => ho'.block g (h.ru.lt g hg).2 ?_
    rintro (q | q)
    · have := (h.ru.lt g hg).1; omega
    · exact h.uf g hg q
  · refine hq.keep fun k hk => hkeep k (fun e => by have := (hq.lt hk).1; omega)
  · intro g hg hk
    rcases hl g hk with q | q
    · exact h.xf g hg q
    · have := (h.rx.lt g hg).2; omega
  · intro g hg hk
    rcases hl g hk with q | q
    · exact h.uf g hg q
    · have := (h.ru.lt g hg).2; omega
theorem rtake_none {W : World} {bx c : Nat} {xv uv : Value} {A : Option Addr} {X : List Int} {U : List Bool} (h : RefAt W bx xv uv A c X U []) (x : Int) :
    Calls Try.prog 10 #[wp bx, .int .i64 x] W (RDoes W bx xv uv A (.tuple #[.int .i64 0, .bool false]) X U []) := by
  have H := Lib.hid h
  have q2 := h.c2
  clear h
  go_enter Try.func10, Try.ntmps10
  go_wp2
  go_ret2
  exact RDoes.same H.out (Below.refl _ _)
theorem rtake_fin {W W1 W' : World} {bx c gx gu n n' d d' o : Nat} {A : Option Addr} {X : List Int} {U : List Bool} {fr : List Nat} {x : Int} {v : Value} (h1 : RefAt W1 bx (.slice (some ⟨gx, 0, none⟩) n d) (.slice (some ⟨gu, 0, none⟩) n' d') (tailA A c) (c - 1) X U fr) (ho : OnlyS (fun k => k = bx ∨ OfA A k) W W1)
    (hW' : W' = (W1.setCell ⟨gx, o, none⟩ (.int .i64 x)).setCell ⟨gu, o, none⟩ (.bool true)) :
    RDoes W bx (.slice (some ⟨gx, 0, none⟩) n d) (.slice (some ⟨gu, 0, none⟩) n' d') A v (X.set o x) (U.set o true) fr (.returned v) W' := by
  obtain ⟨h2, ho2⟩ := ref_set (x := x) (u := true) (o := o) h1 hW'
  refine ⟨_, _, rfl, h2, ?_, fun k hk => .inl (tailA_of hk)⟩
  refine (ho.mono ?_).trans (ho2.mono ?_)
  · rintro k _ (rfl | hk)
    · exact .inl rfl
    · exact .inr (.inr (.inr hk))
  · rintro k _ (rfl | rfl)
    · exact .inr (.inl rfl)
    · exact .inr (.inr (.inl rfl))
set_option maxHeartbeats 4000000 in
theorem rtake_some {W : World} {bx c o : Nat} {xv uv : Value} {A : Option Addr} {X : List Int} {U : List Bool} {fr : List Nat} (h : RefAt W bx xv uv A c X U (o :: fr)) (x : Int) (ho1 : o < X.length) (ho2 : o < U.length) (hl1 : X.length ≤ 4096) (hl2 : U.length ≤ 4096) :
    Calls Try.prog 10 #[wp bx, .int .i64 x] W (RDoes W bx xv uv A (.tuple #[.int .i64 (o : Int), .bool true]) (X.set o x) (U.set o true) fr) := by
  obtain ⟨g, off, rfl, k0⟩ := h.qf.cell (i := 0) (by simp)
  have k0' : W.cell? ⟨g, off, none⟩ = some (.int .i64 (o : Int)) := by simpa using k0
  obtain ⟨gx, dx, rfl, hbx, hgx⟩ := h.xform (by omega)
  obtain ⟨gu, du, rfl, hbu, hgu⟩ := h.uform (by omega)
  have hne : gx ≠ gu := fun e => h.xu gx rfl (by rw [e]; rfl)
  have hblt := cell_lt h.c0
  have hcap := h.qf.cap
  have hroom := h.qf.room
  unfold maxLen at hroom
  obtain ⟨h1, hon1, -, -⟩ := ref_free (fr' := fr) h (OnlyS.refl _ _) h.qf.tail (fun k hk => .inl (tailA_of hk)) rfl
  have q2 := h.c2
  have r2 := h.f2
  obtain ⟨nf, hnf⟩ : ∃ nf, fr.length = nf := ⟨_, rfl⟩
  have e0 : (o :: fr).length = nf + 1 := by simp [hnf]
  rw [e0] at q2 hcap
  rw [hnf] at h1 hon1
  have p0 := h1.c0
  have p1 := h1.c1
  obtain ⟨x1, x2⟩ := h1.xcell ho1
  obtain ⟨u1, u2⟩ := h1.ucell ho2
  have hb1 : bx < (W.setCell ⟨bx, 2, none⟩ (.slice (tailA (some ⟨g, off, none⟩) c) nf (c - 1))).heap.size := cell_lt p0
  have H1 := Lib.hid h1
  have HO := Lib.hid hon1
  have P0 := Lib.hid p0
  have P1 := Lib.hid p1
  have X1 := Lib.hid x1
  have X2 := Lib.hid x2
  have U1 := Lib.hid u1
  have U2 := Lib.hid u2
  have HB1 := Lib.hid hb1
  clear h k0 h1 hon1 hnf e0 p0 p1 x1 x2 u1 u2 hb1
  by_cases hc1 : c = 1
  · subst hc1
    obtain rfl : nf = 0 := by omega
    go_enter Try.func10, Try.ntmps10
    go_wp2_with fail
    have et : W.setCell ⟨bx, 2, none⟩ (.slice (some ⟨g, off, none⟩) 0 0) = W.setCell ⟨bx, 2, none⟩ (.slice (tailA (some ⟨g, off, none⟩) 1) 0 (1 - 1)) := rfl
    rw [et]
    clear et
    generalize W.setCell ⟨bx, 2, none⟩ (.slice (tailA (some ⟨g, off, none⟩) 1) 0 (1 - 1)) = W1 at H1 HO P0 P1 X1 X2 U1 U2 HB1 ⊢
    clear q2 r2 k0'
    have p0 := P0.out
    have p1 := P1.out
    have x1 := X1.out
    have x2 := X2.out
    have u1 := U1.out
    have u2 := U2.out
    have hb1 := HB1.out
    obtain ⟨nx, hnx⟩ : ∃ nx, X.length = nx := ⟨_, rfl⟩
    obtain ⟨nu, hnu⟩ : ∃ nu, U.length = nu := ⟨_, rfl⟩
    rw [hnx] at p0 ho1 hl1
    rw [hnu] at p1 ho2 hl2
    generalize X[o] = y1 at x1
    generalize U[o] = y2 at u1
    clear hnx hnu
    go_region
    all_goals go_wp2
    all_goals go_ret2
    all_goals exact rtake_fin (H1.out.below (drew_below W1 1)) (HO.out.drewN 1) rfl
  · have HC1 := Lib.hid hc1
    go_enter Try.func10, Try.ntmps10
    go_wp2_with fail
    have et : W.setCell ⟨bx, 2, none⟩ (.slice (some ⟨g, off + 1, none⟩) nf (c - 1)) = W.setCell ⟨bx, 2, none⟩ (.slice (tailA (some ⟨g, off, none⟩) c) nf (c - 1)) := by unfold tailA; rw [if_neg HC1.out]; rfl
    rw [et]
    clear et
    generalize W.setCell ⟨bx, 2, none⟩ (.slice (tailA (some ⟨g, off, none⟩) c) nf (c - 1)) = W1 at H1 HO P0 P1 X1 X2 U1 U2 HB1 ⊢
    clear q2 r2 k0'
    have p0 := P0.out
    have p1 := P1.out
    have x1 := X1.out
    have x2 := X2.out
    have u1 := U1.out
    have u2 := U2.out
    have hb1 := HB1.out
    obtain ⟨nx, hnx⟩ : ∃ nx, X.length = nx := ⟨_, rfl⟩
    obtain ⟨nu, hnu⟩ : ∃ nu, U.length = nu := ⟨_, rfl⟩
    rw [hnx] at p0 ho1 hl1
    rw [hnu] at p1 ho2 hl2
    generalize X[o] = y1 at x1
    generalize U[o] = y2 at u1
    clear hnx hnu
    go_region
    all_goals go_wp2
    all_goals go_ret2
    all_goals exact rtake_fin (H1.out.below (drew_below W1 1)) (HO.out.drewN 1) rfl
end Go.Proofs.Ytdfkjojofhleaaa
