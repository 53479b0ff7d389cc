/- What an arena tells is gathered into two rows. -/
import Derived.Test.YtdfkjojofhleaaaD1
import Derived.Test.YtdfkjojofhleaaaA3
import Derived.OwnWalk
import Derived.Maps.OwnIn
namespace Go.Proofs.Ytdfkjojofhleaaa
open Go Go.RowKit Go.Shelf
attribute [local go_sem] Oper.semAt_some

/-- the cells of numbers -/
def intsL (xs : List Int) : List Value := xs.map fun i => .int .i64 i
theorem ints_snoc (xs : List Int) (i : Int) : intsL (xs ++ [i]) = intsL xs ++ [.int .i64 i] := by simp [intsL]
/-- two boxes with two rows of numbers -/
structure Col (n0 : Nat) (w W : World) (xs ys : List Int) (vn vt : Value) : Prop where
  bn : Boxed W n0 34 vn
  bt : Boxed W (n0 + 1) 34 vt
  rn : W.ownsRow n0 3 1 vn xs.length (intsL xs)
  rt : W.ownsRow n0 3 1 vt ys.length (intsL ys)
  ne : ∀ g, vn.ownBlock = some g → vt.ownBlock ≠ some g
  bel : Below n0 w W
theorem Col.turn {n0 C : Nat} {w W W' : World} {xs ys : List Int} {vn vt : Value} (h : Col n0 w W xs ys vn vt) (t : Turn C W W') (h1 : n0 ≤ C) (h2 : n0 ≤ w.heap.size) : Col n0 w W' xs ys vn vt :=
  ⟨Abides.boxed _ _ _ _ _ _ h.bn t, Abides.boxed _ _ _ _ _ _ h.bt t, row_turn h.rn t, row_turn h.rt t, h.ne, t.below h.bel h1 h2⟩
theorem app_only {W w1 : World} {B : Nat} {v v' : Value} {tmp : Obj} (hgrow : (W.alloc tmp).grownBy w1 v.ownBlock) : OnlyS (fun j => j = B ∨ v.ownBlock = some j) W (w1.setCell ⟨B, 0, none⟩ v') :=
  (OnlyS.grown (w1 := W.alloc tmp) (OnlyS.of_below (box_below W tmp)) hgrow (fun _ hj => .inl (.inr hj))).setIn B 0 v' (.inl (.inl rfl))
theorem Col.stepn {n0 : Nat} {w W w1 : World} {xs ys : List Int} {vn vt v' : Value} {i : Int} {tmp : Obj} (h : Col n0 w W xs ys vn vt) (hown : w1.ownsRow n0 3 1 v' (xs.length + 1) (intsL xs ++ [.int .i64 i])) (hgrow : (W.alloc tmp).grownBy w1 vn.ownBlock) (hat : v'.ownBlock = vn.ownBlock ∨ v'.ownBlock = some (W.alloc tmp).heap.size) :
    (Boxed w1 n0 34 vn ∧ Boxed w1 (n0 + 1) 34 vt) ∧ Col n0 w (w1.setCell ⟨n0, 0, none⟩ v') (xs ++ [i]) ys v' vt ∧ KeepsOthers W (w1.setCell ⟨n0, 0, none⟩ v') ∧ Below n0 W (w1.setCell ⟨n0, 0, none⟩ v') := by
  obtain ⟨a1, a2, a3, a4, a5⟩ := h.bn.appended (by decide) h.rn (Nat.le_of_lt h.bn.lt) (Nat.le_refl _) hown hgrow
  have ho := app_only (B := n0) (v' := v') hgrow
  refine ⟨⟨a1, (h.bt.alloc tmp).kept hgrow (h.bt.not_row (by decide) h.rn)⟩, ⟨a2, ?_, ?_, ?_, ?_, h.bel.trans a5⟩, a4, a5⟩
  · refine (ho.block (n0 + 1) h.bt.lt ?_).trans h.bt
    rintro (q | q)
    · omega
    · exact h.bt.not_row (by decide) h.rn q.symm
  · rw [List.length_append, ints_snoc]; exact a3
  · refine row_keep h.rt fun g hg => ho.block g (h.rt.lt g hg).2 ?_
    rintro (q | q)
    · subst q; exact h.bn.not_row (by decide) h.rt hg.symm
    · exact h.ne g q hg
  · intro g hg hg2
    rcases hat with q | q
    · exact h.ne g (by rw [← q]; exact hg) hg2
    · rw [q] at hg
      have := (h.rt.lt g hg2).2
      simp at hg
      omega
theorem Col.stept {n0 : Nat} {w W w1 : World} {xs ys : List Int} {vn vt v' : Value} {i : Int} {tmp : Obj} (h : Col n0 w W xs ys vn vt) (hown : w1.ownsRow n0 3 1 v' (ys.length + 1) (intsL ys ++ [.int .i64 i])) (hgrow : (W.alloc tmp).grownBy w1 vt.ownBlock) (hat : v'.ownBlock = vt.ownBlock ∨ v'.ownBlock = some (W.alloc tmp).heap.size) :
    Boxed w1 (n0 + 1) 34 vt ∧ Col n0 w (w1.setCell ⟨n0 + 1, 0, none⟩ v') xs (ys ++ [i]) vn v' ∧ KeepsOthers W (w1.setCell ⟨n0 + 1, 0, none⟩ v') ∧ Below n0 W (w1.setCell ⟨n0 + 1, 0, none⟩ v') := by
  obtain ⟨a1, a2, a3, a4, a5⟩ := h.bt.appended (by decide) h.rt (Nat.le_of_lt h.bn.lt) (Nat.le_succ _) hown hgrow
  have ho := app_only (B := n0 + 1) (v' := v') hgrow
  refine ⟨a1, ⟨?_, a2, ?_, ?_, ?_, h.bel.trans a5⟩, a4, a5⟩
  · refine (ho.block n0 h.bn.lt ?_).trans h.bn
    rintro (q | q)
    · omega
    · exact h.bn.not_row (by decide) h.rt q.symm
  · refine row_keep h.rn fun g hg => ho.block g (h.rn.lt g hg).2 ?_
    rintro (q | q)
    · subst q; exact h.bt.not_row (by decide) h.rn hg.symm
    · exact h.ne g hg q
  · rw [List.length_append, ints_snoc]; exact a3
  · intro g hg hg2
    rcases hat with q | q
    · exact h.ne g hg (by rw [← q]; exact hg2)
    · rw [q] at hg2
      have := (h.rn.lt g hg).2
      simp at hg2
      omega
theorem new_int (W : World) (k : Int) : ∀ j u, ([.int .i64 k] : List Value)[j]? = some u → (W.alloc (.cells #[.int .i64 k] 3)).cell? ((⟨W.heap.size, 0, none⟩ : Addr).add j) = some u := by
  intro j u hj
  rw [add_at]
  match j, hj with
  | 0, hj => simp at hj; subst hj; simp [go_sem]
def numsT (xs : List Told) : List Int := xs.map fun x => (x.1 : Int)
def valsT (xs : List Told) : List Int := xs.map fun x => x.2
def ColI (w : World) (pre : List Told) (W : World) : Prop := ∃ vn vt, Col w.heap.size w W (numsT pre) (valsT pre) vn vt
theorem ColI.abides {w : World} {C : Nat} {pre : List Told} (h1 : w.heap.size ≤ C) : Abides C (ColI w pre) := by
  rintro W W' ⟨vn, vt, h⟩ t
  exact ⟨vn, vt, h.turn t h1 (Nat.le_refl _)⟩
/-- a call that hands back an iterator over two rows of its own -/
def GivesSeq (w : World) (xs : List Told) (e : Ending) (w' : World) : Prop :=
  ∃ vn vt, e = .returned (.func (.func 21) #[] #[wp w.heap.size, wp (w.heap.size + 1)]) ∧ Col w.heap.size w w' (numsT xs) (valsT xs) vn vt
set_option maxRecDepth 100000 in
set_option maxHeartbeats 4000000 in
theorem used_any {pv : Value} {xs : List Told} {w : World} (hs : Tells Try.prog 20 #[pv] #[] encT (· < w.heap.size) xs w) (hl : xs.length ≤ 5000) :
    Calls Try.prog 18 #[pv] w (GivesSeq w xs) := by
  refine (callsIn_wide (n := 9)).1 ?_
  refine callsIn_of_wp_marks Try.func18 rfl trivial ?_ rfl
  simp only [Try.ntmps18, List.size_toArray, List.length_cons, List.length_nil, Nat.reduceAdd, Nat.reduceSub, Array.replicate_succ, Array.replicate_zero, List.push_toArray, List.append_toArray, List.nil_append, List.cons_append]
  have HS := Lib.hid hs
  clear hs
  gi_wp2
  obtain ⟨w3, hw3⟩ : ∃ w3, (w.alloc (.cells #[.slice none 0 0] 34)).alloc (.cells #[.slice none 0 0] 34) = w3 := ⟨_, rfl⟩
  have hb3 : Below w.heap.size w w3 := by rw [← hw3]; exact ((Below.refl _ w).alloc (Nat.le_refl _) _).alloc (by simp) _
  have hf3 : Col w.heap.size w w3 [] [] (.slice none 0 0) (.slice none 0 0) := by
    refine ⟨?_, ?_, World.ownsRow_nil _ _ _ _, World.ownsRow_nil _ _ _ _, by simp [Value.ownBlock], hb3⟩
    · rw [← hw3]; exact (Boxed.new w 34 _).alloc _
    · rw [← hw3]
      have := Boxed.new (w.alloc (.cells #[.slice none 0 0] 34)) 34 (.slice none 0 0)
      rw [World.size_alloc] at this
      exact this
  rw [hw3]
  clear hw3
  have hz3 := hb3.size
  have HF := Lib.hid hf3
  clear hf3
  obtain ⟨i0, hi, hz0, hz1, hz2⟩ := info_parts info3
  refine wp_range (α := Told) (encs := encT) (xs := xs) (S := (· < w.heap.size)) rfl (enters_of Try.func20 (by kernel_rfl) rfl) (HS.out.later hb3) (fun _ hk => Nat.lt_of_lt_of_le hk hb3.size) (fun _ => rfl)
    (ColI w) (fun _ _ _ => False)
    (fun pre x a' W => ColI w pre W ∧
      a' = { tmps := #[pv, undef, .nilFunc, wp w.heap.size, wp (w.heap.size + 1), .int .i64 (x.1 : Int), .int .i64 x.2, pv, .func (.func 20) #[pv] #[], .int .i64 (x.1 : Int), .int .i64 x.2, undef, undef, undef, undef, undef, undef, undef, undef, undef], defers := [] })
    ?hI ?hIx ?hA ⟨_, _, HF.out⟩ ?assign ?body ?done ?stop
  case hI => exact fun s => ColI.abides hz3
  case hIx => exact fun _ _ _ _ h _ => h
  case hA =>
    rintro s x a' W W' ⟨h1, h6⟩ t
    exact ⟨ColI.abides hz3 _ _ h1 t, h6⟩
  case assign =>
    rintro l pre x W hi
    have HI := Lib.hid hi
    clear hi
    gi_wp2
    exact ⟨KeepsFrom.refl _ _, Keeps.refl _ _, HI.out, by simp⟩
  case body =>
    rintro l pre x post a' W hx ⟨⟨vn, vt, hc⟩, rfl⟩
    have hlen : pre.length < 5000 := by
      have := congrArg List.length hx
      simp at this
      omega
    have n1 : (numsT pre).length < 5000 := by simp [numsT]; omega
    have n2 : (valsT pre).length < 5000 := by simp [valsT]; omega
    have c0 := hc.bn.cell
    have f0 := hc.bn.frozen
    have hzW := hc.bel.size
    clear hx
    gi_wp2_with (first
      | (gi_at_builtin; refine wpListIn_append_own_at _ rfl (.tmp 11) (.tmp 13) 34 rfl w.heap.size 3 i0 (.int .i64 0) 1 8 Try.underlying34 hi hz0 hz1 hz2 rfl (by decide) _ _ _ rfl (hc.rn.alloc _) ⟨W.heap.size, 0, none⟩ 1 1 [.int .i64 (x.1 : Int)] rfl rfl (new_int W _) (one_nat _) (by unfold maxLen; omega) (by omega) (by simp; omega) ?_; intro v' w1 hown' hgrow _ hat; obtain ⟨g', cap', rfl⟩ := ownsRow_succ hown'; obtain ⟨⟨hv1, hv2⟩, hc2, hk2, hb2⟩ := hc.stepn hown' hgrow hat; have hc1 := hv1.cell; have hf1 := hv1.frozen; have hc3 := hv2.cell; have hf3 := hv2.frozen; have hzw := hb2.size; have hlt2 := hc2.bt.lt)
      | (gi_at_builtin; refine wpListIn_append_own_at _ rfl (.tmp 15) (.tmp 17) 34 rfl w.heap.size 3 i0 (.int .i64 0) 1 8 Try.underlying34 hi hz0 hz1 hz2 rfl (by decide) _ _ _ rfl (hc2.rt.alloc _) ⟨w1.heap.size, 0, none⟩ 1 1 [.int .i64 x.2] rfl rfl ?c1 (one_nat _) (by unfold maxLen; omega) (by omega) ?c2 ?_))
    case c1 =>
      have := new_int (w1.setCell ⟨w.heap.size, 0, none⟩ (.slice (some ⟨g', 0, none⟩) ((numsT pre).length + 1) cap')) x.2
      rw [show (w1.setCell ⟨w.heap.size, 0, none⟩ (.slice (some ⟨g', 0, none⟩) ((numsT pre).length + 1) cap')).heap.size = w1.heap.size by simp [World.setCell]] at this
      exact this
    case c2 => exact Nat.le_trans (Nat.le_trans hzW hzw) (box_below _ _).size
    intro v2 w5 hown2 hgrow2 _ hat2
    obtain ⟨g2, cap2, rfl⟩ := ownsRow_succ hown2
    have hat3 : (Value.slice (some ⟨g2, 0, none⟩) ((valsT pre).length + 1) cap2).ownBlock = vt.ownBlock ∨ (Value.slice (some ⟨g2, 0, none⟩) ((valsT pre).length + 1) cap2).ownBlock = some ((w1.setCell ⟨w.heap.size, 0, none⟩ (.slice (some ⟨g', 0, none⟩) ((numsT pre).length + 1) cap')).alloc (.cells #[.int .i64 x.2] 3)).heap.size := by
      rcases hat2 with q | q
      · exact .inl q
      · right; rw [q]; simp
    obtain ⟨hv5, hc5, hk5, hb5⟩ := hc2.stept hown2 hgrow2 hat3
    have hc6 := hv5.cell
    have hf6 := hv5.frozen
    have HC5 := Lib.hid hc5
    have HK := Lib.hid (hk2.trans hk5)
    have HB := Lib.hid (hb2.trans hb5)
    clear hown' hown2 hgrow hgrow2 hat hat2 hat3 hc2 hc5 hk2 hk5 hb2 hb5 hc
    gi_wp2
    refine ⟨HK.out.from _, keeps_of HB.out (fun _ hk => hk), ?_⟩
    have e1 : numsT (pre ++ [x]) = numsT pre ++ [(x.1 : Int)] := by simp [numsT]
    have e2 : valsT (pre ++ [x]) = valsT pre ++ [x.2] := by simp [valsT]
    unfold ColI
    rw [e1, e2]
    exact ⟨_, _, HC5.out⟩
  case done =>
    rintro D W hD ⟨vn, vt, hc⟩ hd
    have HD := Lib.hid hd
    have HC := Lib.hid hc
    clear hd hc
    gi_wp2
    refine ⟨by simp, .inl ⟨_, _, rfl, run_takeDeferred HD.out, ?_⟩⟩
    exact ⟨_, results_tmp rfl _ _ _, vn, vt, rfl, HC.out.turn (Turn.put _ (Nat.le_trans hz3 hD) HD.out rfl) (Nat.le_refl _) (Nat.le_refl _)⟩
  case stop =>
    rintro D c pre post W _ _ h _
    exact h.elim
end Go.Proofs.Ytdfkjojofhleaaa
