/- Counts and Last. -/
import Derived.Test.YtjaiahnibeieiaaD4
namespace Go.Proofs.Ytjaiahnibeieiaa
open Go Go.RowKit Go.Shelf
attribute [local go_sem] Oper.semAt_some

/-- numbers in a block that a box shows -/
structure Ca (W : World) (bx g N : Nat) (f : Nat → Int) (X : World) : Prop where
  bb : Boxed X bx 23 (.slice (some ⟨g, 0, none⟩) N N)
  arr : Arr X g N f
  bel : Below W.heap.size W X
  hb : W.heap.size ≤ bx
  hg : W.heap.size ≤ g
  lt : g < bx
  sz : bx + 3 ≤ X.heap.size
theorem Ca.turn {W X Y : World} {bx g N C : Nat} {f : Nat → Int} (h : Ca W bx g N f X) (hN : 1 ≤ N) (hC : W.heap.size ≤ C) (t : Turn C X Y) : Ca W bx g N f Y :=
  ⟨Abides.boxed _ _ _ _ _ _ h.bb t, h.arr.turn hN t, t.below h.bel hC (Nat.le_refl _), h.hb, h.hg, h.lt, Nat.le_trans h.sz t.size⟩
theorem Ca.set {W X : World} {bx g N : Nat} {f : Nat → Int} (h : Ca W bx g N f X) (k : Nat) (x : Int) : Ca W bx g N (upd f k x) (X.setCell ⟨g, k, none⟩ (.int .i64 x)) :=
  ⟨(set_other (by have := h.lt; omega)).trans h.bb, h.arr.set k x, h.bel.trans (below_set X _ h.hg), h.hb, h.hg, h.lt, by simpa [World.setCell] using h.sz⟩
theorem cntF_bound (ps : List Told) : ∀ f : Nat → Int, ∀ m, f m ≤ ps.foldl (fun f p => upd f p.2.toNat (f p.2.toNat + 1)) f m ∧ ps.foldl (fun f p => upd f p.2.toNat (f p.2.toNat + 1)) f m ≤ f m + (ps.length : Int) := by
  induction ps with
  | nil => intro f m; exact ⟨Int.le_refl _, by simp⟩
  | cons q r ih =>
    intro f m
    have h := ih (upd f q.2.toNat (f q.2.toNat + 1)) m
    have e : f m ≤ upd f q.2.toNat (f q.2.toNat + 1) m ∧ upd f q.2.toNat (f q.2.toNat + 1) m ≤ f m + 1 := by
      unfold upd
      split
      · rename_i e; subst e; omega
      · omega
    simp only [List.foldl_cons, List.length_cons]
    omega
theorem cntP_bound (ps : List Told) (m : Nat) : 0 ≤ cntP ps m ∧ cntP ps m ≤ (ps.length : Int) := by
  have := cntF_bound ps (fun _ => 0) m
  unfold cntP
  simp only [Int.zero_add] at this
  exact this
theorem few_nat {N : Nat} (h1 : 1 ≤ N) (h2 : N ≤ 64) : (decide (1 ≤ (N : Int)) && decide ((N : Int) ≤ 64)) = true := by simp; omega
/-- what is told where, as a number -/
theorem told_nat {z : Nat → Int} {L N : Nat} {pre post : List Told} {x : Told} (h : plN z N L = pre ++ x :: post) : ∃ m : Nat, x.2 = (m : Int) ∧ m < N ∧ x.1 < L ∧ x.2.toNat = m ∧ pre.length ≤ L := by
  have hm := mem_plN (x := x) (show x ∈ plN z N L by rw [h]; simp)
  have hl := plN_length z N L
  rw [h] at hl
  simp at hl
  exact ⟨x.2.toNat, by omega, by omega, hm.1, rfl, by omega⟩
/-- what Counts and Last answer -/
def Tables (W : World) (N : Nat) (f : Nat → Int) (e : Ending) (w' : World) : Prop := ∃ g, e = .returned (.slice (some ⟨g, 0, none⟩) N N) ∧ Arr w' g N f ∧ Below W.heap.size W w'
/-- the boxes of a range over places -/
abbrev boxes (w1 : World) (g N : Nat) (A : Option Addr) (L c : Nat) : World := ((w1.alloc (.cells #[.slice (some ⟨g, 0, none⟩) N N] 23)).alloc (.cells #[.slice A L c] 23)).alloc (.cells #[.int .i64 (N : Int)] 3)
structure Starts (W : World) (bx g N : Nat) (f : Nat → Int) (A : Option Addr) (L c : Nat) (z : Nat → Int) (w5 : World) : Prop where
  ca : Ca W bx g N f w5
  sz : w5.heap.size = bx + 3
  te : Tells Try.prog 26 #[] #[wp (bx + 1), wp (bx + 1 + 1)] encT (Reads (bx + 1) (bx + 1 + 1) A L) (plN z (N : Int) L) w5
  rd : ∀ k, Reads (bx + 1) (bx + 1 + 1) A L k → k < w5.heap.size ∧ ¬ k = g
theorem starts {W w1 : World} {g N L c : Nat} {f z : Nat → Int} {A : Option Addr} (hz : Rf W A L z) (hL : L ≤ 1000) (ha : Arr w1 g N f) (hb : Below W.heap.size W w1) (hg : W.heap.size ≤ g) : Starts W w1.heap.size g N f A L c z (boxes w1 g N A L c) := by
  have hb5 : Below w1.heap.size w1 (boxes w1 g N A L c) := (((Below.refl _ w1).alloc (Nat.le_refl _) _).alloc (by simp) _).alloc (by simp; omega) _
  have hs5 : (boxes w1 g N A L c).heap.size = w1.heap.size + 3 := by simp
  have hc1 : (boxes w1 g N A L c).cell? ⟨w1.heap.size + 1, 0, none⟩ = some (.slice A L c) := by simp [go_sem]
  have hc2 : (boxes w1 g N A L c).cell? ⟨w1.heap.size + 1 + 1, 0, none⟩ = some (.int .i64 (N : Int)) := by simp [go_sem]
  have hW5 := hb.trans (hb5.mono hb.size)
  have hz5 := hz.below hW5
  have hlt := ha.lt
  refine ⟨⟨((Boxed.new w1 23 (.slice (some ⟨g, 0, none⟩) N N)).alloc _).alloc _, ha.below hb5, hW5, hb.size, hg, hlt, by omega⟩, hs5, places_tells hc1 hc2 hz5 (by unfold maxLen; omega), fun k hk => ⟨reads_lt hc1 hc2 hz5 k hk, ?_⟩⟩
  rcases hk with rfl | rfl | ⟨ad, ha, h0, rfl⟩
  · omega
  · omega
  · obtain ⟨ad', e, hl, -⟩ := hz 0 h0
    rw [ha] at e
    cases e
    omega
set_option maxRecDepth 100000 in
set_option maxHeartbeats 4000000 in
theorem counts_yes {A : Option Addr} {L c N : Nat} {z : Nat → Int} (W : World) (hz : Rf W A L z) (h1 : 1 ≤ N) (h2 : N ≤ 64) (hL : L ≤ 1000) :
    Calls Try.prog 18 #[.slice A L c, .int .i64 (N : Int)] W (Tables W N (cntP (plN z N L))) := by
  refine (callsIn_wide (n := 9)).1 ?_
  refine callsIn_of_wp_marks Try.func18 rfl trivial ?_ rfl
  simp only [Try.ntmps18, List.size_toArray, List.length_cons, List.length_nil, Nat.reduceAdd, Nat.reduceSub, Array.replicate_succ, Array.replicate_zero, List.push_toArray, List.append_toArray, List.nil_append, List.cons_append]
  refine wpIn_wide.2 ?_
  have HW := Lib.hid (few_any (N : Int) W)
  rw [few_nat h1 h2] at HW
  have hmk := mk_ints W N (by omega)
  have HZ := Lib.hid hz
  clear hz
  go_wp2_with (go_at_call 24; ((with_reducible refine HW.out.mono ?_); rintro e w' ⟨rfl, rfl⟩))
  refine (places_any A L c (N : Int) _).mono ?_
  rintro e w5 ⟨rfl, rfl⟩
  clear hmk HW
  rw [World.size_alloc]
  have ha := Arr.made W N
  have hb1 := box_below W (.cells (madeCells #[.int .i64 0] N) 3)
  have hs1 : (W.alloc (.cells (madeCells #[.int .i64 0] N) 3)).heap.size = W.heap.size + 1 := by simp
  generalize W.alloc (.cells (madeCells #[.int .i64 0] N) 3) = w1 at ha hb1 hs1 ⊢
  have hst := starts (c := c) HZ.out hL ha hb1 (Nat.le_refl _)
  dsimp only [boxes] at hst
  rw [hs1] at hst ⊢
  clear ha hb1
  go_wp2_with fail
  generalize ((w1.alloc (.cells #[.slice (some ⟨W.heap.size, 0, none⟩) N N] 23)).alloc (.cells #[.slice A L c] 23)).alloc (.cells #[.int .i64 (N : Int)] 3) = w5 at hst ⊢
  have HC := Lib.hid hst.ca
  have hsz := hst.sz
  have HTE := Lib.hid hst.te
  have HR := Lib.hid hst.rd
  clear hst
  refine (wpIn_wide (n := 9)).1 ?_
  refine wp_range (α := Told) (encs := encT) (xs := plN z (N : Int) L) (S := Reads (W.heap.size + 1 + 1) (W.heap.size + 1 + 1 + 1) A L) rfl (enters_of Try.func26 (by kernel_rfl) rfl) HTE.out (fun k hk => (HR.out k hk).1) (fun _ => rfl)
    (fun pre X => Ca W (W.heap.size + 1) W.heap.size N (cntP pre) X) (fun _ _ _ => False)
    (fun pre x a' X => Ca W (W.heap.size + 1) W.heap.size N (cntP pre) X ∧ a' = { tmps := #[.slice A L c, .int .i64 (N : Int), undef, undef, .slice none 0 0, wp (W.heap.size + 1), undef, .int .i64 x.2, .int .i64 (N : Int), .bool true, .bool false, .int .i64 (N : Int), .slice (some ⟨W.heap.size, 0, none⟩) N N, .slice A L c, .int .i64 (N : Int), .func (.func 26) #[] #[wp (W.heap.size + 1 + 1), wp (W.heap.size + 1 + 1 + 1)], .int .i64 (x.1 : Int), .int .i64 x.2, undef, undef, undef, undef, undef, undef, undef], defers := [] }) ?hI ?hIx ?hA HC.out ?assign ?body ?done ?stop
  case hI => exact fun s X Y h t => h.turn h1 (by omega) t
  case hIx => exact fun _ _ _ _ h _ => h
  case hA =>
    rintro s x a' X Y ⟨h, h'⟩ t
    exact ⟨h.turn h1 (by omega) t, h'⟩
  case assign =>
    rintro l1 pre x X hi
    have HI := Lib.hid hi
    clear hi
    gi_wp2
    exact ⟨KeepsFrom.refl _ _, Keeps.refl _ _, HI.out, by simp⟩
  case body =>
    rintro l1 pre x post a' X hx ⟨hca, rfl⟩
    obtain ⟨m, hxm, hmN, -, hxn, hpl⟩ := told_nat hx
    have hbd := cntP_bound pre m
    have c0 := hca.bb.cell
    have c1 := hca.arr.at' m hmN
    have f1 := hca.arr.fz m
    have HN := Lib.hid (show cntP (pre ++ [x]) = upd (cntP pre) m (cntP pre m + 1) by rw [cntP_snoc, hxn])
    have HE := Lib.hid (hca.set m (cntP pre m + 1))
    have hsX := hca.sz
    have HO := Lib.hid (OnlyS.set W.heap.size m X (.int .i64 (cntP pre m + 1)))
    clear hca hx
    generalize cntP pre m = y at *
    have hw : IntKind.i64.wrap (y + 1) = y + 1 := wrap_small (by omega) (by omega)
    rw [hxm]
    gi_wp2
    refine ⟨keeps_from HO.out ?_, keeps_only HO.out ?_, ?_⟩
    · intro k hk
      have hk' : k = W.heap.size := hk
      omega
    · intro k hk
      have := HR.out k hk
      exact ⟨by omega, this.2⟩
    · show Ca W (W.heap.size + 1) W.heap.size N (cntP (pre ++ [x])) _
      rw [HN.out]
      exact HE.out
  case done =>
    rintro D X hD hf hd
    have HD := Lib.hid hd
    have HF1 := Lib.hid hf
    have c0 := hf.bb.cell
    clear hf hd
    dsimp only [Exit.inBlock, Exit.then]
    rename_i hK0
    refine hK0 _ _ ?_
    clear hK0
    go_wp2_with fail
    refine ⟨by simp, .inl ⟨_, _, rfl, run_takeDeferred HD.out, ?_⟩⟩
    have ht := HF1.out.turn h1 (Nat.le_refl _) (Turn.put (B := W.heap.size) (.deferred none) (by omega) HD.out rfl)
    exact ⟨_, results_tmp rfl _ _ _, W.heap.size, rfl, ht.arr, ht.bel⟩
  case stop =>
    rintro D c pre post W _ _ h _
    exact h.elim
set_option maxRecDepth 100000 in
set_option maxHeartbeats 4000000 in
theorem last_yes {A : Option Addr} {L c N : Nat} {z : Nat → Int} (W : World) (hz : Rf W A L z) (h1 : 1 ≤ N) (h2 : N ≤ 64) (hL : L ≤ 1000) :
    Calls Try.prog 19 #[.slice A L c, .int .i64 (N : Int)] W (Tables W N (lastP (plN z N L))) := by
  refine (callsIn_wide (n := 9)).1 ?_
  refine callsIn_of_wp_marks Try.func19 rfl trivial ?_ rfl
  simp only [Try.ntmps19, List.size_toArray, List.length_cons, List.length_nil, Nat.reduceAdd, Nat.reduceSub, Array.replicate_succ, Array.replicate_zero, List.push_toArray, List.append_toArray, List.nil_append, List.cons_append]
  refine wpIn_wide.2 ?_
  have HW := Lib.hid (few_any (N : Int) W)
  rw [few_nat h1 h2] at HW
  have HZ := Lib.hid hz
  clear hz
  go_wp2_with (go_at_call 24; ((with_reducible refine HW.out.mono ?_); rintro e w' ⟨rfl, rfl⟩))
  clear HW
  refine (repeat_any (b := W.heap.size) (by simp [go_sem]) h1 (by omega)).mono ?_
  rintro e w3 ⟨g, rfl, ha, hb3, hg⟩
  have hb1 := box_below W (.cells #[.int .i64 (-1)] 3)
  have hW3 := hb1.trans (hb3.mono hb1.size)
  rw [World.size_alloc] at hg
  go_wp2_with fail
  refine (places_any A L c (N : Int) _).mono ?_
  rintro e w5 ⟨rfl, rfl⟩
  rw [World.size_alloc]
  have hst := starts (c := c) HZ.out hL ha hW3 (by omega)
  dsimp only [boxes] at hst
  clear ha hb1 hb3 hW3
  go_wp2_with fail
  generalize ((w3.alloc (.cells #[.slice (some ⟨g, 0, none⟩) N N] 23)).alloc (.cells #[.slice A L c] 23)).alloc (.cells #[.int .i64 (N : Int)] 3) = w5 at hst ⊢
  have HC := Lib.hid hst.ca
  have hsz := hst.sz
  have HTE := Lib.hid hst.te
  have HR := Lib.hid hst.rd
  have hbx := hst.ca.hb
  have hgb := hst.ca.lt
  clear hst
  refine (wpIn_wide (n := 9)).1 ?_
  refine wp_range (α := Told) (encs := encT) (xs := plN z (N : Int) L) (S := Reads (w3.heap.size + 1) (w3.heap.size + 1 + 1) A L) rfl (enters_of Try.func26 (by kernel_rfl) rfl) HTE.out (fun k hk => (HR.out k hk).1) (fun _ => rfl)
    (fun pre X => Ca W w3.heap.size g N (lastP pre) X) (fun _ _ _ => False)
    (fun pre x a' X => Ca W w3.heap.size g N (lastP pre) X ∧ a' = { tmps := #[.slice A L c, .int .i64 (N : Int), undef, undef, .slice none 0 0, wp w3.heap.size, .int .i64 (x.1 : Int), .int .i64 x.2, .int .i64 (N : Int), .bool true, .bool false, .slice (some ⟨W.heap.size, 0, none⟩) 1 1, .int .i64 (N : Int), .slice (some ⟨g, 0, none⟩) N N, .slice A L c, .int .i64 (N : Int), .func (.func 26) #[] #[wp (w3.heap.size + 1), wp (w3.heap.size + 1 + 1)], .int .i64 (x.1 : Int), .int .i64 x.2, undef, undef, undef, undef, undef], defers := [] }) ?hI ?hIx ?hA HC.out ?assign ?body ?done ?stop
  case hI => exact fun s X Y h t => h.turn h1 (by omega) t
  case hIx => exact fun _ _ _ _ h _ => h
  case hA =>
    rintro s x a' X Y ⟨h, h'⟩ t
    exact ⟨h.turn h1 (by omega) t, h'⟩
  case assign =>
    rintro l1 pre x X hi
    have HI := Lib.hid hi
    clear hi
    gi_wp2
    exact ⟨KeepsFrom.refl _ _, Keeps.refl _ _, HI.out, by simp⟩
  case body =>
    rintro l1 pre x post a' X hx ⟨hca, rfl⟩
    obtain ⟨m, hxm, hmN, -, hxn, -⟩ := told_nat hx
    have c0 := hca.bb.cell
    have c1 := hca.arr.at' m hmN
    have f1 := hca.arr.fz m
    have HN := Lib.hid (show lastP (pre ++ [x]) = upd (lastP pre) m (x.1 : Int) by rw [lastP_snoc, hxn])
    have HE := Lib.hid (hca.set m (x.1 : Int))
    have hsX := hca.sz
    have HO := Lib.hid (OnlyS.set g m X (.int .i64 (x.1 : Int)))
    clear hca hx
    generalize lastP pre m = y at c1
    rw [hxm]
    gi_wp2
    refine ⟨keeps_from HO.out ?_, keeps_only HO.out ?_, ?_⟩
    · intro k hk
      have hk' : k = g := hk
      omega
    · intro k hk
      have := HR.out k hk
      exact ⟨by omega, this.2⟩
    · show Ca W w3.heap.size g N (lastP (pre ++ [x])) _
      rw [HN.out]
      exact HE.out
  case done =>
    rintro D X hD hf hd
    have HD := Lib.hid hd
    have HF1 := Lib.hid hf
    have c0 := hf.bb.cell
    clear hf hd
    dsimp only [Exit.inBlock, Exit.then]
    rename_i hK0
    refine hK0 _ _ ?_
    clear hK0
    go_wp2_with fail
    refine ⟨by simp, .inl ⟨_, _, rfl, run_takeDeferred HD.out, ?_⟩⟩
    have ht := HF1.out.turn h1 (Nat.le_refl _) (Turn.put (B := W.heap.size) (.deferred none) (by omega) HD.out rfl)
    exact ⟨_, results_tmp rfl _ _ _, g, rfl, ht.arr, ht.bel⟩
  case stop =>
    rintro D c pre post W _ _ h _
    exact h.elim
theorem few_no {n : Int} (h : n < 1 ∨ 64 < n) : (decide (1 ≤ n) && decide (n ≤ 64)) = false := by simp; omega
theorem counts_no {A : Option Addr} {L c : Nat} {n : Int} (W : World) (h : n < 1 ∨ 64 < n) : Calls Try.prog 18 #[.slice A L c, .int .i64 n] W fun e w' => e = .returned (.slice none 0 0) ∧ W = w' := by
  have HW := Lib.hid (few_any n W)
  rw [few_no h] at HW
  go_enter Try.func18, Try.ntmps18
  go_wp2_with (go_at_call 24; ((with_reducible refine HW.out.mono ?_); rintro e w' ⟨rfl, rfl⟩))
  go_ret
  exact ⟨rfl, rfl⟩
theorem last_no {A : Option Addr} {L c : Nat} {n : Int} (W : World) (h : n < 1 ∨ 64 < n) : Calls Try.prog 19 #[.slice A L c, .int .i64 n] W fun e w' => e = .returned (.slice none 0 0) ∧ W = w' := by
  have HW := Lib.hid (few_any n W)
  rw [few_no h] at HW
  go_enter Try.func19, Try.ntmps19
  go_wp2_with (go_at_call 24; ((with_reducible refine HW.out.mono ?_); rintro e w' ⟨rfl, rfl⟩))
  go_ret
  exact ⟨rfl, rfl⟩
end Go.Proofs.Ytjaiahnibeieiaa
