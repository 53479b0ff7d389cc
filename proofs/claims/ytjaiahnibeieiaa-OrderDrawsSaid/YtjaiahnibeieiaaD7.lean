/- Cut. -/
import Derived.Test.YtjaiahnibeieiaaD4
import Derived.OwnWalk
import Derived.Maps.OwnIn
namespace Go.Proofs.Ytjaiahnibeieiaa
open Go Go.RowKit Go.Shelf
attribute [local go_sem] Oper.semAt_some

/-- the cells of numbers -/
def intsL (xs : List Int) : List Value := xs.map fun i => .int .i64 i
theorem ints_snoc (xs : List Int) (i : Int) : intsL (xs ++ [i]) = intsL xs ++ [.int .i64 i] := by simp [intsL]
theorem row_turn {W W' : World} {C base n size : Nat} {e : TypeId} {v : Value} {xs : List Value} (h : W.ownsRow base e size v n xs) (t : Turn C W W') : W'.ownsRow base e size v n xs := by
  refine row_keep h fun g hg => ?_
  rcases h.2 with ⟨rfl, _⟩ | ⟨g', cap, cur, rfl, _, hb, _⟩
  · simp [Value.ownBlock] at hg
  · simp [Value.ownBlock] at hg
    subst hg
    rw [hb]
    exact t.cells _ _ hb rfl
/-- a row reads as its list -/
theorem row_rf {W : World} {K n : Nat} {v : Value} {xs : List Int} (h : W.ownsRow K 3 1 v n (intsL xs)) (hn : xs.length = n) : ∃ A c, v = .slice A n c ∧ Rf W A n (fun i => xs.getD i 0) := by
  subst hn
  rcases h.2 with ⟨rfl, h0⟩ | ⟨g', cap', cur, rfl, hb, hg, h1, h2, h3, h4⟩
  · exact ⟨none, 0, by rw [h0], fun i hi => by omega⟩
  · refine ⟨_, cap', rfl, fun i hi => ⟨_, rfl, (Array.getElem?_eq_some_iff.1 hg).1, ?_⟩⟩
    have e1 : (intsL xs)[i]? = some (.int .i64 (xs.getD i 0)) := by simp [intsL, hi]
    exact h.cells (g := g') rfl i _ e1
/-- what was cut so far -/
structure Cu (K B : Nat) (w W : World) (xs : List Int) (v : Value) : Prop where
  bx : Boxed W B 23 v
  row : W.ownsRow K 3 1 v xs.length (intsL xs)
  bel : Below B w W
  hK : B < K
  sz : K ≤ W.heap.size
theorem Cu.turn {K B C : Nat} {w W W' : World} {xs : List Int} {v : Value} (h : Cu K B w W xs v) (t : Turn C W W') (h1 : B ≤ C) (h2 : B ≤ w.heap.size) : Cu K B w W' xs v :=
  ⟨Abides.boxed _ _ _ _ _ _ h.bx t, row_turn h.row t, t.below h.bel h1 h2, h.hK, Nat.le_trans h.sz t.size⟩
theorem Cu.step {K B : Nat} {w W w1 : World} {xs : List Int} {v v' : Value} {i : Int} {tmp : Obj} (h : Cu K B w W xs v) (hown : w1.ownsRow K 3 1 v' (xs.length + 1) (intsL xs ++ [.int .i64 i])) (hgrow : (W.alloc tmp).grownBy w1 v.ownBlock) :
    Boxed w1 B 23 v ∧ Cu K B w (w1.setCell ⟨B, 0, none⟩ v') (xs ++ [i]) v' ∧ KeepsOthers W (w1.setCell ⟨B, 0, none⟩ v') ∧ OnlyS (fun j => j = B ∨ K ≤ j) W (w1.setCell ⟨B, 0, none⟩ v') := by
  have hK := h.hK
  have hBs : B ≤ W.heap.size := Nat.le_of_lt h.bx.lt
  obtain ⟨a1, a2, a3, a4, a5⟩ := h.bx.appended (by decide) (row_base h.row (Nat.le_of_lt hK)) hBs (Nat.le_refl _) (row_base hown (Nat.le_of_lt hK)) hgrow
  have ho : OnlyS (fun j => j = B ∨ K ≤ j) W (w1.setCell ⟨B, 0, none⟩ v') :=
    (OnlyS.grown (w1 := W.alloc tmp) (OnlyS.of_below (box_below W tmp)) hgrow (fun j hj => .inl (.inr (h.row.lt j hj).1))).setIn B 0 v' (.inl (.inl rfl))
  refine ⟨a1, ⟨a2, ?_, h.bel.trans a5, hK, Nat.le_trans h.sz ho.size⟩, a4, ho⟩
  rw [List.length_append, ints_snoc]
  exact row_keep hown fun g hg => set_other (by have := (hown.lt g hg).1; omega)
theorem new_int (W : World) (k : Int) : ∀ j u, ([.int .i64 k] : List Value)[j]? = some u → (W.alloc (.cells #[.int .i64 k] 3)).cell? ((⟨W.heap.size, 0, none⟩ : Addr).add j) = some u := by
  intro j u hj
  rw [add_at]
  match j, hj with
  | 0, hj => simp at hj; subst hj; simp [go_sem]
theorem one_int (k : Int) : ∀ u ∈ ([.int .i64 k] : List Value), u.oneCell' = true := by
  intro u hu
  simp at hu
  subst hu
  rfl
def valsT (xs : List Told) : List Int := xs.map fun x => x.2
theorem valsT_snoc (xs : List Told) (x : Told) : valsT (xs ++ [x]) = valsT xs ++ [x.2] := by simp [valsT]
def CuI (K : Nat) (w : World) (pre : List Told) (W : World) : Prop := ∃ v, Cu K w.heap.size w W (valsT pre) v
/-- what Cut answers -/
def Cuts (W : World) (xs : List Int) (e : Ending) (w' : World) : Prop := ∃ A c, e = .returned (.slice A xs.length c) ∧ Rf w' A xs.length (fun i => xs.getD i 0) ∧ Below W.heap.size W w'
set_option maxRecDepth 100000 in
set_option maxHeartbeats 4000000 in
theorem cut_any {A : Option Addr} {L c : Nat} {n : Int} {z : Nat → Int} (W : World) (hz : Rf W A L z) (hL : L ≤ 1000) : Calls Try.prog 12 #[.slice A L c, .int .i64 n] W (Cuts W (valsT (plN z n L))) := by
  refine (callsIn_wide (n := 9)).1 ?_
  refine callsIn_of_wp_marks Try.func12 rfl trivial ?_ rfl
  simp only [Try.ntmps12, List.size_toArray, List.length_cons, List.length_nil, Nat.reduceAdd, Nat.reduceSub, Array.replicate_succ, Array.replicate_zero, List.push_toArray, List.append_toArray, List.nil_append, List.cons_append]
  refine wpIn_wide.2 ?_
  have HZ := Lib.hid hz
  clear hz
  go_wp2_with fail
  refine (places_any A L c n _).mono ?_
  rintro e w5 ⟨rfl, rfl⟩
  rw [World.size_alloc]
  have hb5 : Below W.heap.size W (((W.alloc (.cells #[.slice none 0 0] 23)).alloc (.cells #[.slice A L c] 23)).alloc (.cells #[.int .i64 n] 3)) := (((Below.refl _ W).alloc (Nat.le_refl _) _).alloc (by simp) _).alloc (by simp; omega) _
  have hs5 : (((W.alloc (.cells #[.slice none 0 0] 23)).alloc (.cells #[.slice A L c] 23)).alloc (.cells #[.int .i64 n] 3)).heap.size = W.heap.size + 3 := by simp
  have hbx := ((Boxed.new W 23 (.slice none 0 0)).alloc (.cells #[.slice A L c] 23)).alloc (.cells #[.int .i64 n] 3)
  have hc1 : (((W.alloc (.cells #[.slice none 0 0] 23)).alloc (.cells #[.slice A L c] 23)).alloc (.cells #[.int .i64 n] 3)).cell? ⟨W.heap.size + 1, 0, none⟩ = some (.slice A L c) := by simp [go_sem]
  have hc2 : (((W.alloc (.cells #[.slice none 0 0] 23)).alloc (.cells #[.slice A L c] 23)).alloc (.cells #[.int .i64 n] 3)).cell? ⟨W.heap.size + 1 + 1, 0, none⟩ = some (.int .i64 n) := by simp [go_sem]
  go_wp2_with fail
  generalize ((W.alloc (.cells #[.slice none 0 0] 23)).alloc (.cells #[.slice A L c] 23)).alloc (.cells #[.int .i64 n] 3) = w5 at hb5 hs5 hbx hc1 hc2 ⊢
  have hz5 := HZ.out.below hb5
  have hR5 : ∀ k, Reads (W.heap.size + 1) (W.heap.size + 1 + 1) A L k → k < w5.heap.size ∧ ¬ (k = W.heap.size ∨ W.heap.size + 3 ≤ k) := by
    intro k hk
    refine ⟨reads_lt hc1 hc2 hz5 k hk, ?_⟩
    rcases hk with rfl | rfl | ⟨ad, ha, h0, rfl⟩
    · omega
    · omega
    · obtain ⟨ad', e, hl, -⟩ := HZ.out 0 h0
      rw [ha] at e
      cases e
      omega
  have HTE := Lib.hid (places_tells hc1 hc2 hz5 (by unfold maxLen; omega))
  have HR := Lib.hid hR5
  have HC := Lib.hid (show CuI (W.heap.size + 3) W [] w5 from ⟨_, hbx, World.ownsRow_nil _ _ _ _, hb5, by omega, by omega⟩)
  clear hb5 hbx hc1 hc2 hz5 hR5
  obtain ⟨i0, hi, hz0, hz1, hz2⟩ := info_parts info3
  refine (wpIn_wide (n := 9)).1 ?_
  refine wp_range (α := Told) (encs := encT) (xs := plN z n L) (S := Reads (W.heap.size + 1) (W.heap.size + 1 + 1) A L) rfl (enters_of Try.func26 (by kernel_rfl) rfl) HTE.out (fun k hk => (HR.out k hk).1) (fun _ => rfl)
    (CuI (W.heap.size + 3) W) (fun _ _ _ => False)
    (fun pre x a' X => CuI (W.heap.size + 3) W pre X ∧ a' = { tmps := #[.slice A L c, .int .i64 n, undef, undef, .slice none 0 0, wp W.heap.size, undef, .int .i64 x.2, .slice A L c, .int .i64 n, .func (.func 26) #[] #[wp (W.heap.size + 1), wp (W.heap.size + 1 + 1)], .int .i64 (x.1 : Int), .int .i64 x.2, undef, undef, undef, undef, undef], defers := [] }) ?hI ?hIx ?hA HC.out ?assign ?body ?done ?stop
  case hI =>
    rintro s X Y ⟨v, h⟩ t
    exact ⟨v, h.turn t (by omega) (Nat.le_refl _)⟩
  case hIx => exact fun _ _ _ _ h _ => h
  case hA =>
    rintro s x a' X Y ⟨⟨v, h⟩, h'⟩ t
    exact ⟨⟨v, h.turn t (by omega) (Nat.le_refl _)⟩, h'⟩
  case assign =>
    rintro l1 pre x X hi
    have HI := Lib.hid hi
    clear hi
    gi_wp2
    exact ⟨KeepsFrom.refl _ _, Keeps.refl _ _, HI.out, by simp⟩
  case body =>
    rintro l1 pre x post a' X hx ⟨⟨v, hc⟩, rfl⟩
    have hlen : (valsT pre).length ≤ 1000 := by
      have h1 := congrArg List.length hx
      have h2 := plN_length z n L
      simp at h1
      simp [valsT]
      omega
    have c0 := hc.bx.cell
    have f0 := hc.bx.frozen
    have hsX := hc.sz
    clear hx
    gi_wp2_with (gi_at_builtin; refine wpListIn_append_own_at _ rfl (.tmp 13) (.tmp 15) 23 rfl (W.heap.size + 3) 3 i0 (.int .i64 0) 1 8 Try.underlying23 hi hz0 hz1 hz2 rfl (by decide) _ _ _ rfl (hc.row.alloc _) ⟨X.heap.size, 0, none⟩ 1 1 [.int .i64 x.2] rfl rfl (new_int X _) (one_int _) (by unfold maxLen; omega) (by omega) (by simp; omega) ?_; intro v' w1 hown' hgrow _ hat; obtain ⟨g', cap', rfl⟩ := ownsRow_succ hown'; obtain ⟨hv1, hc2, hk2, ho2⟩ := hc.step hown' hgrow; have hc1 := hv1.cell; have hf1 := hv1.frozen)
    refine ⟨hk2.from _, keeps_only ho2 (fun k hk => ⟨by have := (HR.out k hk).1; omega, (HR.out k hk).2⟩), ?_⟩
    unfold CuI
    rw [valsT_snoc]
    exact ⟨_, hc2⟩
  case done =>
    rintro D X hD ⟨v, hf⟩ hd
    obtain ⟨A2, c2, rfl, hrf⟩ := row_rf hf.row rfl
    have HD := Lib.hid hd
    have c0 := hf.bx.cell
    have HB := Lib.hid (hf.turn (Turn.put (B := W.heap.size) (.deferred none) (by omega) hd rfl) (Nat.le_refl _) (Nat.le_refl _))
    clear hf hd hrf
    dsimp only [Exit.inBlock, Exit.then]
    rename_i hK0
    refine hK0 _ _ ?_
    clear hK0
    go_wp2_with fail
    refine ⟨by simp, .inl ⟨_, _, rfl, run_takeDeferred HD.out, ?_⟩⟩
    obtain ⟨A3, c3, e3, hrf3⟩ := row_rf HB.out.row rfl
    cases e3
    exact ⟨_, results_tmp rfl _ _ _, A2, c2, rfl, hrf3, HB.out.bel⟩
  case stop =>
    rintro D c pre post W _ _ h _
    exact h.elim
end Go.Proofs.Ytjaiahnibeieiaa
