/- A place of the document's arena is dropped. -/
import Derived.Test.YtdfkjojofhleaaaP2
import Derived.Lib.AppendZeros
namespace Go.Proofs.Ytdfkjojofhleaaa
open Go Go.RowKit

/-- what stands when one is put ahead of a list -/
structure QuPut (W : World) (base : Nat) (fr : List Nat) (k : Nat) (A' : Option Addr) (c' : Nat) (w' : World) : Prop where
  qu : Qu w' base A' c' (k :: fr)
  bel : Below W.heap.size W w'
  lies : ∀ j, OfA A' j → W.heap.size ≤ j
theorem Qu.front {W : World} {base c : Nat} {A : Option Addr} {fr : List Nat} (h : Qu W base A c fr) (hb : base ≤ W.heap.size) (k : Nat) (hl : fr.length ≤ 5000) (ty : TypeId) :
    ∃ A' c' w', (Builtin.append_ #[34, 34] ty #[.slice (some ⟨W.heap.size, 0, none⟩) 1 1, .slice A fr.length c]).run Try.prog (W.alloc (.cells #[.int .i64 (k : Int)] 3)) = .ok (.slice A' (fr.length + 1) c') w' ∧ QuPut W base fr k A' c' w' := by
  obtain ⟨i0, hi, hz0, hz1, hz2⟩ := info_parts info3
  have hx := box_below W (.cells #[.int .i64 (k : Int)] 3)
  have h1 := h.below hx
  have hown : (W.alloc (.cells #[.int .i64 (k : Int)] 3)).ownsRow base 3 1 (.slice (some ⟨W.heap.size, 0, none⟩) 1 1) 1 (nats [k]) := World.ownsRow_lit W #[.int .i64 (k : Int)] 1 hb (by decide) rfl
  have hself : QuPut W base [] k (some ⟨W.heap.size, 0, none⟩) 1 (W.alloc (.cells #[.int .i64 (k : Int)] 3)) := by
    refine ⟨Qu.of_row hown rfl, hx, ?_⟩
    rintro j ⟨a, ha, rfl⟩
    obtain rfl : (⟨W.heap.size, 0, none⟩ : Addr) = a := by simpa using ha
    exact Nat.le_refl _
  cases A with
  | none =>
    obtain ⟨rfl, rfl⟩ := h.nil rfl
    have hr := run_append_owned_none (P := Try.prog) (W.alloc (.cells #[.int .i64 (k : Int)] 3)) base 34 ty 3 i0 1 Try.underlying34 hi (.slice (some ⟨W.heap.size, 0, none⟩) 1 1) 1 (nats [k]) hown
    exact ⟨_, _, _, hr, hself⟩
  | some a =>
    obtain ⟨g, off, cur, rfl, h2, h3, h4, h5⟩ := h1.at' a rfl
    cases fr with
    | nil =>
      have hr := run_append_room_cells (P := Try.prog) (W.alloc (.cells #[.int .i64 (k : Int)] 3)) 34 ty 3 i0 Try.underlying34 hi W.heap.size 0 1 1 ⟨g, off, none⟩ 0 c [] (by simp) (by simp) (by simp) (by omega) (by simp) (by simp)
      exact ⟨_, _, _, hr, hself⟩
    | cons o fr =>
      obtain ⟨v', w', hr, hown', hg⟩ := run_append_arg_grows (P := Try.prog) (W.alloc (.cells #[.int .i64 (k : Int)] 3)) 34 ty 3 i0 (.int .i64 0) 1 8 Try.underlying34 hi hz0 hz1 hz2 rfl (by decide) ⟨W.heap.size, 0, none⟩ 1 1 (nats [k]) rfl (new_nat W k)
        ⟨g, off, none⟩ (o :: fr).length c (nats (o :: fr)) (nats_length _)
        (fun j u hj => by
          have hj2 : j < (o :: fr).length := by
            have := (List.getElem?_eq_some_iff.1 hj).1
            rw [nats_length] at this
            omega
          rw [Addr.add_lit, cell_of_row _ g _ cur 3 (0, 0) h3, h5 j hj2, ← hj]
          simp only [nats, List.getElem?_map, List.getElem?_eq_getElem hj2, Option.map_some])
        (by simp) (by unfold maxLen; omega) (by omega)
      have e : nats [k] ++ nats (o :: fr) = nats (k :: o :: fr) := rfl
      rw [e, Nat.add_comm] at hown'
      obtain ⟨g', cap', rfl⟩ := ownsRow_succ hown'
      have hgl2 := hown'.lt g' rfl
      refine ⟨_, _, w', hr, Qu.of_row (row_base hown' (by simp; omega)) rfl, ?_, ?_⟩
      · have hz := hg.size
        exact ⟨hg.os.trans hx.os, hg.tape.trans hx.tape, hg.output.trans hx.output, Nat.le_trans hx.size hz, fun j hj => (hg.block j (Nat.lt_of_lt_of_le hj hx.size) (by simp)).trans (hx.block j hj)⟩
      · rintro j ⟨a, ha, rfl⟩
        obtain rfl : (⟨g', 0, none⟩ : Addr) = a := by simpa using ha
        simp at hgl2 ⊢
        omega
theorem rdrop_no {W : World} {bx c : Nat} {xv uv : Value} {A : Option Addr} {X : List Int} {U : List Bool} {fr : List Nat} (h : RefAt W bx xv uv A c X U fr) (hl : U.length ≤ 4096) {i : Int} (hu : hasU U i = false) :
    Calls Try.prog 12 #[wp bx, .int .i64 i] W (RDoes W bx xv uv A (.bool false) X U fr) := by
  have HC := Lib.hid (rhas_any h hl i)
  rw [hu] at HC
  have H := Lib.hid h
  clear h hu
  go_enter Try.func12, Try.ntmps12
  go_wp2_with (go_at_call 14; ((with_reducible refine HC.out.mono ?_); rintro e w' ⟨rfl, rfl⟩))
  go_ret
  exact RDoes.same H.out (Below.refl _ _)
theorem rdrop_fin {W W1 w5 W' : World} {bx c k c' : Nat} {xv uv v : Value} {A A' : Option Addr} {X : List Int} {U : List Bool} {fr : List Nat} (h1 : RefAt W1 bx xv uv A c X U fr) (ho : OnlyS (OfRef bx xv uv A) W W1) (hp : QuPut W1 (bx + 1) fr k A' c' w5) (hW' : W' = w5.setCell ⟨bx, 2, none⟩ (.slice A' (fr.length + 1) c')) :
    (w5.cell? ⟨bx, 2, none⟩ = some (.slice A fr.length c) ∧ w5.frozen? ⟨bx, 2, none⟩ = false) ∧ RDoes W bx xv uv A v X U (k :: fr) (.returned v) W' := by
  obtain ⟨h2, ho2, h3, h4⟩ := ref_free (fr' := k :: fr) h1 (OnlyS.of_below hp.bel) hp.qu (fun j hj => .inr (hp.lies j hj)) hW'
  refine ⟨⟨h3, h4⟩, A', c', rfl, h2, ho.trans (ho2.mono ?_), fun j hj => .inr (Nat.le_trans ho.size (hp.lies j hj))⟩
  rintro j _ (rfl | hj)
  · exact .inl rfl
  · exact .inr (.inr (.inr hj))
set_option maxHeartbeats 4000000 in
theorem rdrop_yes {W : World} {bx c o : Nat} {xv uv : Value} {A : Option Addr} {X : List Int} {U : List Bool} {fr : List Nat} (h : RefAt W bx xv uv A c X U fr) (ho1 : o < X.length) (ho2 : o < U.length) (hl1 : X.length ≤ 4096) (hl2 : U.length ≤ 4096) (hlf : fr.length ≤ 4096) (hu : U[o] = true) :
    Calls Try.prog 12 #[wp bx, .int .i64 (o : Int)] W (RDoes W bx xv uv A (.bool true) (X.set o 0) (U.set o false) (o :: fr)) := by
  have HC := Lib.hid (rhas_any h hl2 (o : Int))
  rw [hasU_at ho2, hu] at HC
  obtain ⟨gx, dx, rfl, hbx, hgx⟩ := h.xform (by omega)
  obtain ⟨gu, du, rfl, hbu, hgu⟩ := h.uform (by omega)
  have hne : gx ≠ gu := fun e => h.xu gx rfl (by rw [e]; rfl)
  have hblt : bx < W.heap.size := cell_lt h.c0
  have p0 := h.c0
  have p1 := h.c1
  obtain ⟨x1, x2⟩ := h.xcell ho1
  obtain ⟨u1, u2⟩ := h.ucell ho2
  have H := Lib.hid h
  have hlf2 : fr.length ≤ 5000 := by omega
  obtain ⟨nx, hnx⟩ : ∃ nx, X.length = nx := ⟨_, rfl⟩
  obtain ⟨nu, hnu⟩ : ∃ nu, U.length = nu := ⟨_, rfl⟩
  rw [hnx] at p0 ho1 hl1
  rw [hnu] at p1 ho2 hl2
  generalize X[o] = y1 at x1
  generalize U[o] = y2 at u1 hu
  clear hnx hnu h hu
  go_enter Try.func12, Try.ntmps12
  go_wp2_with (go_at_call 14; ((with_reducible refine HC.out.mono ?_); rintro e w' ⟨rfl, rfl⟩))
  go_region
  all_goals
    obtain ⟨h1, hon⟩ := ref_set (x := 0) (u := false) (o := o) (H.out.below (drew_below W 1)) rfl
    have hon2 : OnlyS (OfRef bx (.slice (some ⟨gx, 0, none⟩) X.length dx) (.slice (some ⟨gu, 0, none⟩) U.length du) A) W (((W.drewN 1).setCell ⟨gx, o, none⟩ (.int .i64 0)).setCell ⟨gu, o, none⟩ (.bool false)) := (OnlyS.of_below (drew_below W 1)).trans (hon.mono (by
      rintro k _ (rfl | rfl)
      · exact .inr (.inl rfl)
      · exact .inr (.inr (.inl rfl))))
    have H1 : Hid (RefAt (((W.setCell ⟨gx, o, none⟩ (.int .i64 0)).setCell ⟨gu, o, none⟩ (.bool false)).drew) bx (.slice (some ⟨gx, 0, none⟩) X.length dx) (.slice (some ⟨gu, 0, none⟩) U.length du) A c (X.set o 0) (U.set o false) fr) := h1
    have HO : Hid (OnlyS (OfRef bx (.slice (some ⟨gx, 0, none⟩) X.length dx) (.slice (some ⟨gu, 0, none⟩) U.length du) A) W (((W.setCell ⟨gx, o, none⟩ (.int .i64 0)).setCell ⟨gu, o, none⟩ (.bool false)).drew)) := hon2
    clear h1 hon hon2
    generalize ((W.setCell ⟨gx, o, none⟩ (.int .i64 0)).setCell ⟨gu, o, none⟩ (.bool false)).drew = W1 at H1 HO ⊢
    have hlt1 : bx < W1.heap.size := cell_lt H1.out.c0
    have k2 := H1.out.c2
    have k3 := H1.out.f2
    obtain ⟨A', c', w5, hr, hput⟩ := H1.out.qf.front (by omega) o hlf2 34
    obtain ⟨⟨r1, r2⟩, hD⟩ := rdrop_fin (v := .bool true) H1.out HO.out hput rfl
    have HD := Lib.hid hD
    have HR := Lib.hid hr
    have HP := Lib.hid hput
    clear hr hput hD x1 x2 u1 u2 p0 p1
    obtain ⟨nf, hnf⟩ : ∃ nf, fr.length = nf := ⟨_, rfl⟩
    rw [hnf] at k2 r1 HR HD
    clear hnf
    go_wp2_with (at_builtin; refine Lib.wpList_append_run _ rfl _ _ 34 34 rfl _ _ rfl rfl _ _ HR.out ?_)
    go_ret
    exact HD.out
end Go.Proofs.Ytdfkjojofhleaaa
