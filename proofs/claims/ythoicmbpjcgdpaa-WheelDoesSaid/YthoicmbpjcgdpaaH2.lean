/- A wheel that nobody made; and two wheels beside each other. -/
import Derived.Test.YthoicmbpjcgdpaaH1
namespace Go.Proofs.Ythoicmbpjcgdpaa
open Go Go.RowKit Go.Shelf
attribute [local go_sem] Oper.semAt_some

theorem set_none (a : Al) (W : World) : Calls Try.prog 9 #[.pointer none, alv a] W fun e w' => e = .returned (.bool false) ∧ Below W.heap.size W w' := by
  go_enter Try.func9, Try.ntmps9
  go_wp2_with (go_at_call 20; ((with_reducible refine (made_no _).mono ?_); rintro e w' ⟨rfl, rfl⟩))
  go_ret
  exact ⟨rfl, box_below _ _⟩
theorem stop_none (id : Int) (W : World) : Calls Try.prog 11 #[.pointer none, .int .i64 id] W fun e w' => e = .returned (.bool false) ∧ Below W.heap.size W w' := by
  have hb1 := box_below W (.cells #[.int .i64 id] 3)
  have HF := Lib.hid (find_any (w := W.alloc (.cells #[.int .i64 id] 3)) id (none_tells _))
  rw [show findA id [] = ((0, 0), false) from rfl] at HF
  go_enter Try.func11, Try.ntmps11
  go_wp2_with (go_at_call 21; ((with_reducible refine HF.out.mono ?_); rintro e w2 ⟨rfl, hb2⟩))
  go_ret
  exact ⟨rfl, (hb1.trans (hb2.mono hb1.size)).alloc (Nat.le_trans hb1.size hb2.size) _⟩
theorem at_none (id : Int) (W : World) : Calls Try.prog 18 #[.pointer none, .int .i64 id] W fun e w' => e = .returned (.tuple #[.int .i64 0, .bool false]) ∧ Below W.heap.size W w' :=
  at_any (xs := []) id (none_tells W)
theorem len_none (W : World) : Calls Try.prog 17 #[.pointer none] W fun e w' => e = .returned (.int .i64 0) ∧ Below W.heap.size W w' :=
  len_any (xs := []) (none_tells W) (by simp)
theorem all_none (W : World) : Calls Try.prog 16 #[.pointer none] W (GivesRow W []) := by
  have := lawall_any (pv := .pointer none) (xs := []) (w := W) (fun w' _ => none_tells w') (by simp)
  rwa [show srt [] = [] by simp [srt]] at this
/-- a call that hands back an empty list -/
def GivesNone (W : World) (e : Ending) (w' : World) : Prop := e = .returned (.slice none 0 0) ∧ Below W.heap.size W w'
def NoneI (W : World) (n₁ : Nat) (W' : World) : Prop := Boxed W' (W.heap.size + 1) 27 (.slice none 0 0) ∧ Below W.heap.size W W' ∧ n₁ ≤ W'.heap.size
theorem NoneI.abides {W : World} {n₁ C : Nat} (h : W.heap.size ≤ C) : Abides C (NoneI W n₁) := fun _ _ ⟨h1, h2, h3⟩ t => ⟨Abides.boxed _ _ _ _ _ _ h1 t, t.below h2 h (Nat.le_refl _), Nat.le_trans h3 t.size⟩
set_option maxRecDepth 100000 in
set_option maxHeartbeats 4000000 in
theorem due_none (now : Int) (W : World) : Calls Try.prog 14 #[.pointer none, .int .i64 now] W (GivesNone W) := by
  have hb1 : Below W.heap.size W ((W.alloc (.cells #[.int .i64 now] 2)).alloc (.cells #[.slice none 0 0] 27)) := ((Below.refl _ W).alloc (Nat.le_refl _) _).alloc (by simp) _
  have HA := Lib.hid (all_any (none_tells ((W.alloc (.cells #[.int .i64 now] 2)).alloc (.cells #[.slice none 0 0] 27))) (by simp))
  rw [show srt [] = [] by simp [srt]] at HA
  refine (callsIn_wide (n := 9)).1 ?_
  refine callsIn_of_wp_marks Try.func14 rfl trivial ?_ rfl
  simp only [Try.ntmps14, List.size_toArray, List.length_cons, List.length_nil, Nat.reduceAdd, Nat.reduceSub, Array.replicate_succ, Array.replicate_zero, List.push_toArray, List.append_toArray, List.nil_append, List.cons_append]
  gi_wp2_with (refine ⟨trivial, ?_⟩; gi_at_call 25; refine (callsIn_wide.2 HA.out).mono ?_; rintro e w3 ⟨Bs, v, rfl, hB, hr, hBs, hb⟩)
  have hbx1 : Boxed w3 (W.heap.size + 1) 27 (.slice none 0 0) := by
    have := Boxed.new (W.alloc (.cells #[.int .i64 now] 2)) 27 (.slice none 0 0)
    rw [World.size_alloc] at this
    exact (hb.block _ this.lt).trans this
  have hb3 : Below W.heap.size W w3 := hb1.trans (hb.mono hb1.size)
  have hz3 := hb3.size
  have hSr : ∀ k, OfRow Bs v k → k < w3.heap.size := by
    rintro k (rfl | hk)
    · exact hB.lt
    · exact (hr.lt k hk).2
  have HT := Lib.hid (values_tells hB hr)
  have HB1 := Lib.hid hbx1
  have HSr := Lib.hid hSr
  clear hbx1 hSr hB hr hBs hb HA
  refine wp_range (α := Al) (encs := fun x => #[alv x]) (xs := []) (S := OfRow Bs v) rfl (enters_of Try.func33 (by kernel_rfl) rfl) HT.out HSr.out (fun _ => rfl)
    (fun _ W' => NoneI W w3.heap.size W') (fun _ _ _ => False)
    (fun _ x a' Wa => NoneI W w3.heap.size Wa ∧ ∃ Bx, a' = { tmps := #[.pointer none, .int .i64 now, undef, .pointer (some ⟨W.heap.size, 0, none⟩), .slice none 0 0, .pointer (some ⟨W.heap.size + 1, 0, none⟩), .pointer (some ⟨Bx, 0, none⟩), undef, .pointer none, .func (.func 33) #[] #[.pointer (some ⟨Bs, 0, none⟩)], alv x, undef, undef, undef, undef, undef, undef, undef, undef, undef, undef, undef, undef, undef, undef, undef, undef, undef, undef, undef, undef, undef, undef, undef, undef, undef, undef, undef], defers := [] })
    ?hI ?hIx ?hA ⟨HB1.out, hb3, Nat.le_refl _⟩ ?assign ?body ?done ?stop
  case hI => exact fun s => NoneI.abides hz3
  case hIx => exact fun _ _ _ _ h _ => h
  case hA =>
    rintro s x a' X Y ⟨q1, Bx, q6⟩ t
    exact ⟨NoneI.abides hz3 _ _ q1 t, Bx, q6⟩
  case assign =>
    rintro l pre x X h
    have HI := Lib.hid h
    have hn := h.2.2
    clear h
    gi_wp2
    exact ⟨keeps_alloc _ _ _, keeps_of (box_below _ _) (fun k hk => Nat.lt_of_lt_of_le (HSr.out k hk) hn), NoneI.abides hz3 _ _ HI.out (Turn.later (box_below _ _)), X.heap.size, rfl⟩
  case body =>
    rintro l pre x post a' X hx _
    simp at hx
  case done =>
    rintro D X hD ⟨h1, h2, _⟩ hd
    have c0 := h1.cell
    have HD := Lib.hid hd
    clear hd h1
    gi_wp2
    refine ⟨by simp, .inl ⟨_, _, rfl, run_takeDeferred HD.out, ?_⟩⟩
    exact ⟨_, results_tmp rfl _ _ _, rfl, put_below h2 (Nat.le_trans hz3 hD) HD.out _⟩
  case stop =>
    rintro D c pre post X _ _ h _
    exact h.elim

/-- two wheels beside each other, a deed beside them, and other blocks -/
structure Pair (w W : World) (b1 b2 Bd : Nat) (K : Nat → Prop) (kd x y : Int) (l1 l2 : List Al) : Prop where
  ex : ∃ S1 S2 m1 m2, Wh W b1 S1 m1 ∧ m1.Perm l1 ∧ Wh W b2 S2 m2 ∧ m2.Perm l2 ∧ (∀ k, S1 k → ¬ S2 k) ∧ ∀ k, K k → ¬ S1 k ∧ ¬ S2 k
  w1 : w.heap.size ≤ b1
  w2 : w.heap.size ≤ b2
  lt : ∀ k, K k → k < W.heap.size
  own : K Bd
  c0 : W.cell? ⟨Bd, 0, none⟩ = some (.int .i64 kd)
  c1 : W.cell? ⟨Bd, 1, none⟩ = some (.int .i64 x)
  c2 : W.cell? ⟨Bd, 2, none⟩ = some (.int .i64 y)
  bel : Below w.heap.size w W
theorem Pair.swap {w W : World} {b1 b2 Bd : Nat} {K : Nat → Prop} {kd x y : Int} {l1 l2 : List Al} (h : Pair w W b1 b2 Bd K kd x y l1 l2) : Pair w W b2 b1 Bd K kd x y l2 l1 := by
  obtain ⟨S1, S2, m1, m2, h1, p1, h2, p2, hd, e1⟩ := h.ex
  exact ⟨⟨S2, S1, m2, m1, h2, p2, h1, p1, fun k hk hk1 => hd k hk1 hk, fun k hk => ⟨(e1 k hk).2, (e1 k hk).1⟩⟩, h.w2, h.w1, h.lt, h.own, h.c0, h.c1, h.c2, h.bel⟩
/-- a call changed the first wheel alone -/
theorem Pair.step {w W w' : World} {b1 b2 Bd : Nat} {K : Nat → Prop} {kd x y : Int} {l1 l2 l3 m3 : List Al} {S1 S2 S3 : Nat → Prop} {m1 m2 : List Al} (h : Pair w W b1 b2 Bd K kd x y l1 l2) (h1 : Wh W b1 S1 m1) (h2 : Wh W b2 S2 m2) (p2 : m2.Perm l2) (hd : ∀ k, S1 k → ¬ S2 k) (e1 : ∀ k, K k → ¬ S1 k ∧ ¬ S2 k)
    (h3 : Wh w' b1 S3 m3) (p3 : m3.Perm l3) (ho : OnlyS S1 W w') (hg : ∀ k, S3 k → S1 k ∨ W.heap.size ≤ k) : Pair w w' b1 b2 Bd K kd x y l3 l2 ∧ Keeps K W w' := by
  have hkeep : Keeps K W w' := ⟨ho.size, fun k hk => ho.block k (h.lt k hk) (e1 k hk).1⟩
  have hblk : w'.heap[Bd]? = W.heap[Bd]? := hkeep.block Bd h.own
  refine ⟨⟨⟨S3, S2, m3, m2, h3, p3, h2.keep ho (fun k hk hk1 => hd k hk1 hk), p2, fun k hk hk2 => ?_, fun k hk => ⟨fun hk3 => ?_, (e1 k hk).2⟩⟩, h.w1, h.w2, fun k hk => Nat.lt_of_lt_of_le (h.lt k hk) ho.size, h.own, ?_, ?_, ?_, h.bel.trans (ho.below (fun k hk => Nat.le_trans h.w1 (h1.lt hk).1) h.bel.size)⟩, hkeep⟩
  · rcases hg k hk with q | q
    · exact hd k q hk2
    · have := (h2.lt hk2).2; omega
  · rcases hg k hk3 with q | q
    · exact (e1 k hk).1 q
    · have := h.lt k hk; omega
  · exact (World.cell?_of_block (w := W) (a := ⟨Bd, 0, none⟩) hblk).trans h.c0
  · exact (World.cell?_of_block (w := W) (a := ⟨Bd, 1, none⟩) hblk).trans h.c1
  · exact (World.cell?_of_block (w := W) (a := ⟨Bd, 2, none⟩) hblk).trans h.c2
theorem Pair.below {w W W' : World} {b1 b2 Bd : Nat} {K : Nat → Prop} {kd x y : Int} {l1 l2 : List Al} (h : Pair w W b1 b2 Bd K kd x y l1 l2) (hb : Below W.heap.size W W') : Pair w W' b1 b2 Bd K kd x y l1 l2 := by
  obtain ⟨S1, S2, m1, m2, h1, p1, h2, p2, hd, e1⟩ := h.ex
  have hl := h.lt Bd h.own
  exact ⟨⟨S1, S2, m1, m2, h1.below hb, p1, h2.below hb, p2, hd, e1⟩, h.w1, h.w2, fun k hk => Nat.lt_of_lt_of_le (h.lt k hk) hb.size, h.own, (hb.cell (p := ⟨Bd, 0, none⟩) hl).trans h.c0, (hb.cell (p := ⟨Bd, 1, none⟩) hl).trans h.c1, (hb.cell (p := ⟨Bd, 2, none⟩) hl).trans h.c2, h.bel.trans (hb.mono h.bel.size)⟩
theorem pair_set {w W : World} {b1 b2 Bd : Nat} {K : Nat → Prop} {kd x y : Int} {l1 l2 : List Al} (a : Al) (h : Pair w W b1 b2 Bd K kd x y l1 l2) (hi : Ids l1) (hl : l1.length ≤ 1000) :
    Calls Try.prog 9 #[wp b1, alv a] W fun e w' => e = .returned (.bool (setB a l1)) ∧ Pair w w' b1 b2 Bd K kd x y (setL a l1) l2 ∧ Keeps K W w' := by
  obtain ⟨S1, S2, m1, m2, h1, p1, h2, p2, hd, e1⟩ := h.ex
  refine (set_any a h1 (by rw [p1.length_eq]; exact hl)).mono ?_
  rintro e w' ⟨S', l3, rfl, k1, k2, k3, k4⟩
  have hi2 := hi.perm p1.symm
  exact ⟨by rw [setB_perm hi2 p1], h.step h1 h2 p2 hd e1 k1 (k2.trans (setL_perm hi2 p1 a)) k3 k4⟩
theorem pair_stop {w W : World} {b1 b2 Bd : Nat} {K : Nat → Prop} {kd x y : Int} {l1 l2 : List Al} (id : Int) (h : Pair w W b1 b2 Bd K kd x y l1 l2) (hi : Ids l1) :
    Calls Try.prog 11 #[wp b1, .int .i64 id] W fun e w' => e = .returned (.bool (findA id l1).2) ∧ Pair w w' b1 b2 Bd K kd x y (l1.filter (fun x => !(x.1 == id))) l2 ∧ Keeps K W w' := by
  obtain ⟨S1, S2, m1, m2, h1, p1, h2, p2, hd, e1⟩ := h.ex
  have hi2 := hi.perm p1.symm
  refine (stop_any id h1 hi2.uniq).mono ?_
  rintro e w' ⟨S', l3, rfl, k1, k2, k3, k4⟩
  exact ⟨by rw [findA_perm hi2 p1], h.step h1 h2 p2 hd e1 k1 (k2.trans (p1.filter _)) k3 k4⟩
/-- with the blocks of a list -/
def Plus (K : Nat → Prop) (v : Value) (k : Nat) : Prop := K k ∨ v.ownBlock = some k
/-- a call that hands back a list and changes one of two wheels -/
def PairRow (w W : World) (b1 b2 Bd : Nat) (K : Nat → Prop) (kd x y : Int) (ys l1 l2 : List Al) (e : Ending) (w' : World) : Prop :=
  ∃ v, e = .returned v ∧ Row w' W.heap.size v ys ∧ Pair w w' b1 b2 Bd (Plus K v) kd x y l1 l2 ∧ Keeps K W w'
theorem pair_due {w W : World} {b1 b2 Bd : Nat} {K : Nat → Prop} {kd x y : Int} {l1 l2 : List Al} (now : Int) (h : Pair w W b1 b2 Bd K kd x y l1 l2) (hl : l1.length ≤ 1000) :
    Calls Try.prog 14 #[wp b1, .int .i64 now] W (PairRow w W b1 b2 Bd K kd x y (dueL now (srt l1)) (l1.filter (fun x => !decide (x.2 ≤ now))) l2) := by
  obtain ⟨S1, S2, m1, m2, h1, p1, h2, p2, hd, e1⟩ := h.ex
  refine (due_any now h1 (by rw [p1.length_eq]; exact hl)).mono ?_
  rintro e w' ⟨v, rfl, k0, k1, k3⟩
  obtain ⟨g1, g2⟩ := h.step h1 h2 p2 hd e1 k1 (p1.filter _) k3 (fun _ hk => .inl hk)
  refine ⟨v, rfl, by rw [← dueL_perm p1]; exact k0, ⟨⟨S1, S2, _, m2, k1, p1.filter _, h2.keep k3 (fun k hk hk1 => hd k hk1 hk), p2, hd, ?_⟩, g1.w1, g1.w2, ?_, .inl g1.own, g1.c0, g1.c1, g1.c2, g1.bel⟩, g2⟩
  · rintro k (hk | hk)
    · exact e1 k hk
    · have := (k0.lt k hk).1
      exact ⟨fun q => by have := (h1.lt q).2; omega, fun q => by have := (h2.lt q).2; omega⟩
  · rintro k (hk | hk)
    · exact g1.lt k hk
    · exact (k0.lt k hk).2
theorem pair_all {w W : World} {b1 b2 Bd : Nat} {K : Nat → Prop} {kd x y : Int} {l1 l2 : List Al} (h : Pair w W b1 b2 Bd K kd x y l1 l2) (hl : l1.length ≤ 1000) :
    Calls Try.prog 16 #[wp b1] W fun e w' => ∃ v, e = .returned v ∧ Row w' W.heap.size v (srt l1) ∧ Pair w w' b1 b2 Bd K kd x y l1 l2 ∧ Below W.heap.size W w' := by
  obtain ⟨S1, S2, m1, m2, h1, p1, h2, p2, hd, e1⟩ := h.ex
  refine (lawall_any (fun w' hb => (h1.below hb).seen) (by rw [p1.length_eq]; exact hl)).mono ?_
  rintro e w' ⟨v, rfl, hr, hb⟩
  exact ⟨v, rfl, by rw [← srt_congr p1]; exact hr, h.below hb, hb⟩
end Go.Proofs.Ythoicmbpjcgdpaa
