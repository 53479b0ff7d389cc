/- What is held at each node first, in a map: the program's answer. -/
import Derived.Test.YthjlapcccmbhbaaWh
namespace Go.Proofs.Ythjlapcccmbhbaa.Lk
open Go Go.RowKit Go.Shelf Pa
attribute [local go_sem] Oper.semAt_some
set_option maxRecDepth 100000

/-- as far as that has gone -/
structure Fst (W : World) (xs : List Hd) (k m : Nat) (X : World) : Prop where
  map : ∃ h, MapF X W.heap.size m h (fun p => ofL (xs.drop k) p)
  box : X.cell? ⟨W.heap.size + 1, 0, none⟩ = some (.map (some W.heap.size))
  below : Below W.heap.size W X
  size : W.heap.size + 3 ≤ X.heap.size
theorem Fst.turn {W : World} {xs : List Hd} {k m B : Nat} {X Y : World} (h : Fst W xs k m X) (ht : Turn B X Y) (hB : W.heap.size < B) : Fst W xs k m Y := by
  obtain ⟨⟨h0, h1⟩, h2, h3, h4⟩ := h
  exact ⟨⟨h0, h1.keep (ht.low _ hB h1.lt)⟩, ht.cell h2, ht.below h3 (Nat.le_of_lt hB) (Nat.le_refl _), Nat.le_trans h4 ht.size⟩
theorem LkAt.turn {B B' : Nat} {X Y : World} {x : Hd} (h : LkAt X B x) (ht : Turn B' X Y) : LkAt Y B x :=
  ⟨ht.cell h.c0, ht.cell h.c1, ht.cell h.c2, ht.cell h.c3, ht.cell h.c4, ht.cell h.c5, Nat.lt_of_lt_of_le h.lt ht.size⟩
section
variable {W W' : World} {A : Option Addr} {c : Nat} {xs : List Hd}
set_option maxHeartbeats 8000000 in
theorem firsts_any (hr : Ls W A c xs) (hl : xs.length ≤ 100) (hf : ∀ x ∈ xs, FitP x.1 ∧ wf64 x.2) :
    Calls Try.prog 25 #[.slice A xs.length c] W fun e w' => ∃ h, Maps1 W xs.length h (fun p => ofL xs p) e w' := by
  refine (callsIn_wide (n := 9)).1 ?_
  refine callsIn_of_wp_marks Try.func25 rfl trivial ?_ rfl
  simp only [Try.ntmps25, List.size_toArray, List.length_cons, List.length_nil, Nat.reduceAdd, Nat.reduceSub, Array.replicate_succ, Array.replicate_zero, List.push_toArray, List.append_toArray, List.nil_append, List.cons_append]
  refine wpIn_wide.2 ?_
  have HR := Lib.hid hr
  have HF := Lib.hid hf
  obtain ⟨n, hn⟩ : ∃ n, xs.length = n := ⟨_, rfl⟩
  have HN := Lib.hid hn
  rw [hn] at hl ⊢
  clear hr hf hn
  have HM0 := Lib.hid (MapF.made W)
  have hx := Go.Proofs.Ythjlapcccmbhbaa.box_below W (.map #[] 0)
  have HX := Lib.hid hx
  clear hx
  go_wp2_with fail
  refine backward_any.mono ?_
  rintro e w8 ⟨rfl, rfl⟩
  go_wp2_with fail
  have hb3 : Below W.heap.size W (((W.alloc (.map #[] 0)).alloc (.cells #[.map (some W.heap.size)] 44)).alloc (.cells #[.slice A n c] 22)) := ((HX.out.alloc HX.out.size _).alloc (by simp; omega) _)
  have hm3 := (HM0.out.grow (Go.Proofs.Ythjlapcccmbhbaa.box_below _ (.cells #[.map (some W.heap.size)] 44))).grow (Go.Proofs.Ythjlapcccmbhbaa.box_below _ (.cells #[.slice A n c] 22))
  have c3 : (((W.alloc (.map #[] 0)).alloc (.cells #[.map (some W.heap.size)] 44)).alloc (.cells #[.slice A n c] 22)).cell? ⟨W.heap.size + 1, 0, none⟩ = some (.map (some W.heap.size)) := by simp [go_sem]
  have d3 : (((W.alloc (.map #[] 0)).alloc (.cells #[.map (some W.heap.size)] 44)).alloc (.cells #[.slice A n c] 22)).cell? ⟨W.heap.size + 1 + 1, 0, none⟩ = some (.slice A n c) := by simp [go_sem]
  have hz3 : (((W.alloc (.map #[] 0)).alloc (.cells #[.map (some W.heap.size)] 44)).alloc (.cells #[.slice A n c] 22)).heap.size = W.heap.size + 3 := by simp
  generalize ((W.alloc (.map #[] 0)).alloc (.cells #[.map (some W.heap.size)] 44)).alloc (.cells #[.slice A n c] 22) = w9 at *
  have hA : 0 < xs.length → ∀ a, A = some a → a.block < W.heap.size := fun h0 a ha => by
    obtain ⟨a', ha', hh⟩ := HR.out.here h0
    have h2 := cell_lt hh.c0
    rw [block_add'] at h2
    rw [ha] at ha'
    injection ha' with e
    rw [e]
    exact h2
  have HTells := Lib.hid (bwd_tells (K := W.heap.size) (xs := xs) (by rw [HN.out]; exact d3) (HR.out.below hb3) hA (by rw [HN.out]; omega))
  rw [HN.out] at HTells
  have HF9 : Hid (Fst W xs n 0 w9) := ⟨⟨_, hm3.congr (fun _ _ => rfl) (fun p _ => by rw [List.drop_of_length_le (Nat.le_of_eq HN.out)]; rfl)⟩, c3, hb3, by omega⟩
  clear hb3 hm3 c3 d3 HM0 HX hA
  refine (wpIn_wide (n := 9)).1 ?_
  refine wp_range (α := Nat × Hd) (encs := encH) (xs := bwd xs n) (S := fun k => k = W.heap.size + 1 + 1 ∨ k < W.heap.size) rfl (enters_of Try.func71 (by kernel_rfl) rfl) HTells.out (fun k hk => by rcases hk with hk | hk <;> omega) (fun _ => rfl)
    (fun pre X => ∃ m, m ≤ pre.length ∧ Fst W xs (n - pre.length) m X) (fun _ _ _ => False)
    (fun pre x a' X => ∃ m B, m ≤ pre.length ∧ Fst W xs (n - pre.length) m X ∧ LkAt X B x.2 ∧ W.heap.size < B ∧
      a' = { tmps := #[.slice A n c, undef, .map none, .pointer (some ⟨W.heap.size + 1, 0, none⟩), undef, .pointer (some ⟨B, 0, none⟩), .map (some W.heap.size), .slice A n c, .func (.func 71) #[] #[.pointer (some ⟨W.heap.size + 1 + 1, 0, none⟩)], .int .i64 (x.1 : Int), wv x.2, undef, undef, undef, undef, undef, undef], defers := [] })
    ?hI ?hIx ?hA ?h0 ?assign ?body ?done ?stop
  case hI =>
    rintro s X Y ⟨m, hm, h⟩ ht
    exact ⟨m, hm, h.turn ht (by omega)⟩
  case hIx => exact fun _ _ _ _ h _ => h
  case hA =>
    rintro s x a' X Y ⟨m, B, hm, h, hl, hB, e⟩ ht
    exact ⟨m, B, hm, h.turn ht (by omega), hl.turn ht, hB, e⟩
  case h0 => exact ⟨0, Nat.le_refl _, HF9.out⟩
  case assign =>
    rintro l1 pre x X ⟨m, hm, hi⟩
    have HI := Lib.hid hi
    obtain ⟨xi, ⟨⟨xa, xb, xc, xd, xe⟩, xm⟩⟩ := x
    clear hi
    gi_wp2
    have hx1 := Go.Proofs.Ythjlapcccmbhbaa.box_below X (.cells #[.int .i64 xa, .int .i64 xb, .int .i64 xc, .int .i64 xd, .int .i64 xe, .int .i64 xm] 27)
    refine ⟨KeepsFrom.of_grownBy (World.grownBy_alloc X _ none) (by simp), ⟨hx1.size, fun k hk => hx1.block k (by have := HI.out.size; omega)⟩, m, X.heap.size, hm, HI.out.turn (B := X.heap.size) (Turn.later hx1) (by obtain ⟨_, h1⟩ := HI.out.map; exact h1.lt), LkAt.new X (⟨xa, xb, xc, xd, xe⟩, xm), by obtain ⟨_, h1⟩ := HI.out.map; exact h1.lt, by simp⟩
  case body =>
    rintro l1 pre x post a' X hx ⟨m, B, hm, ⟨⟨h0, hmap⟩, hbox, hbl, hsz⟩, hlk, hB, rfl⟩
    obtain ⟨k, hk1, hk2, hkl, rfl⟩ := bwd_told HN.out hx
    rw [hk1] at hmap
    obtain ⟨hfx, hwx⟩ := HF.out _ (List.getElem_mem hkl)
    have hdr : ∀ p, ofL (xs.drop k) p = if eqP xs[k].1 p then xs[k].2 else ofL (xs.drop (k + 1)) p := fun p => by
      rw [List.drop_eq_getElem_cons hkl]
      rfl
    have HDr := Lib.hid hdr
    obtain ⟨W4, hrun, hM4, hg4⟩ := hmap.put hfx hwx (by omega)
    have HE4 : Hid (Fst W xs k (m + 1) W4) := by
      refine ⟨⟨_, hM4.congr (fun _ _ => rfl) (fun p _ => (HDr.out p).symm)⟩, ?_, below_grew hbl hg4 (Nat.le_refl _) (Nat.le_refl _), Nat.le_trans hsz hg4.size⟩
      have e : W4.heap[W.heap.size + 1]? = X.heap[W.heap.size + 1]? := hg4.block _ (cell_lt hbox) (fun e => by injection e with e; omega)
      exact (World.cell?_of_block (w := X) (a := ⟨W.heap.size + 1, 0, none⟩) e).trans hbox
    have HG4 := Lib.hid hg4
    have HLt := Lib.hid hmap.lt
    obtain ⟨x, hx'⟩ : ∃ x, xs[k] = x := ⟨_, rfl⟩
    rw [hx'] at hrun hlk
    simp only [hx']
    clear hmap hfx hwx hdr hM4 hg4 hbl hx HDr
    obtain ⟨⟨xa, xb, xc, xd, xe⟩, xm⟩ := x
    obtain ⟨c0, c1, c2, c3, c4, c5, hlt⟩ := hlk
    simp only at c0 c1 c2 c3 c4 c5 hrun
    clear hx'
    gi_wp2
    refine ⟨KeepsFrom.of_grownBy HG4.out (fun j e => by injection e with e; omega), ⟨HG4.out.size, fun k' hk' => HG4.out.block k' (by omega) (fun e => by injection e with e; omega)⟩, m + 1, by simp; omega, ?_⟩
    rw [show n - (pre ++ [(k, ((⟨xa, xb, xc, xd, xe⟩, xm) : Hd))]).length = k by rw [List.length_append, List.length_singleton]; omega]
    exact HE4.out
  case done =>
    rintro D X hD ⟨m, hm, h⟩ hd
    have HD := Lib.hid hd
    have HH := Lib.hid h
    rw [bwd_length] at HH hm
    have c3 := h.box
    clear h hd
    dsimp only [Exit.inBlock, Exit.then]
    rename_i hK0
    refine hK0 _ _ ?_
    clear hK0
    go_wp2_with fail
    refine ⟨by simp, .inl ⟨_, _, rfl, run_takeDeferred HD.out, ?_⟩⟩
    obtain ⟨⟨h0, h1⟩, -, h3, h4⟩ := HH.out
    rw [Nat.sub_self] at h1
    refine ⟨_, results_tmp rfl _ _ _, h0, W.heap.size, m, rfl, hm, h1.keep (World.putObj_heap_other (by omega)), h3.trans (below_put _ _ (by omega)), Nat.le_refl _⟩
  case stop =>
    rintro D cd pre post X _ _ h _
    exact h.elim
end
end Go.Proofs.Ythjlapcccmbhbaa.Lk
