/- All alarms of a wheel in order, and the law's list of them. -/
import Derived.Test.YthoicmbpjcgdpaaA6
namespace Go.Proofs.Ythoicmbpjcgdpaa
open Go Go.RowKit Go.Shelf
attribute [local go_sem] Oper.semAt_some

/-- a call that hands back an iterator over a row of its own -/
def GivesSeq (w : World) (xs : List Al) (e : Ending) (w' : World) : Prop :=
  ∃ Bs v, e = .returned (.func (.func 33) #[] #[.pointer (some ⟨Bs, 0, none⟩)]) ∧ Boxed w' Bs 27 v ∧ Row w' w.heap.size v xs ∧ w.heap.size ≤ Bs ∧ Below w.heap.size w w'
theorem all_any {pv : Value} {xs : List Al} {w : World} (hs : Seen pv xs w) (hl : xs.length ≤ 1000) :
    Calls Try.prog 25 #[pv] w (GivesSeq w (srt xs)) := by
  have H := Lib.hid (sorted_any (enters_of Try.func27 (by kernel_rfl) rfl) hs hl)
  clear hs
  go_enter Try.func25, Try.ntmps25
  go_wp2_with fail
  refine H.out.mono ?_
  rintro e w1 ⟨v, rfl, hr, hb⟩
  obtain ⟨A, c, rfl⟩ := row_slice hr
  have H1 := Lib.hid hr
  clear hr
  go_wp2_with fail
  refine (values_any _ _ _ _).mono ?_
  rintro e w2 ⟨rfl, rfl⟩
  go_wp2_with fail
  go_ret
  exact ⟨_, _, rfl, Boxed.new _ _ _, H1.out.alloc _, hb.size, hb.alloc hb.size _⟩

/-- behind 'out = append(out, a)', where the box lies below the row -/
theorem appended2 {W w1 : World} {B n₁ : Nat} {v v' : Value} {pre : List Al} {x : Al} {tmp : Obj} (hv : Boxed W B 27 v) (hr : Row W n₁ v pre) (hB : B < n₁) (hn : n₁ ≤ W.heap.size)
    (hown : w1.ownsRow n₁ 31 2 v' (pre.length + 1) (flat pre ++ [.int .i64 x.1, .int .i64 x.2])) (hgrow : (W.alloc tmp).grownBy w1 v.ownBlock) :
    Boxed w1 B 27 v ∧ Boxed (w1.setCell ⟨B, 0, none⟩ v') B 27 v' ∧ Row (w1.setCell ⟨B, 0, none⟩ v') n₁ v' (pre ++ [x]) ∧ KeepsOthers W (w1.setCell ⟨B, 0, none⟩ v') ∧
    (∀ k, k < n₁ → k ≠ B → (w1.setCell ⟨B, 0, none⟩ v').heap[k]? = W.heap[k]?) ∧ Below B W (w1.setCell ⟨B, 0, none⟩ v') := by
  have hr0 : Row W B v pre := hr.base (Nat.le_of_lt hB)
  have hown0 : w1.ownsRow B 31 2 v' (pre.length + 1) (flat pre ++ [.int .i64 x.1, .int .i64 x.2]) := by
    refine ⟨hown.1, ?_⟩
    rcases hown.2 with h | ⟨g, cap, cur, h1, h2, h3⟩
    · exact .inl h
    · exact .inr ⟨g, cap, cur, h1, by omega, h3⟩
  obtain ⟨h1, h2, _, h4, h5⟩ := hv.appended (by decide) hr0 (by omega) (Nat.le_refl _) hown0 hgrow
  refine ⟨h1, h2, row_form (ownsRow_setCell_below hown hB v'), h4, fun k hk hne => ?_, h5⟩
  refine (Below.heap_setCell w1 ⟨B, 0, none⟩ v' k hne).trans ?_
  refine (hgrow.block k (by simp; omega) (fun e => ?_)).trans (Below.heap_alloc _ _ _ (by omega))
  have := (hr.lt k e.symm).1
  omega
/-- a box of a list, below its row -/
def ColJ (B n₁ : Nat) (w : World) (pre : List Al) (W : World) : Prop := (∃ v, Boxed W B 27 v ∧ Row W n₁ v pre) ∧ n₁ ≤ W.heap.size ∧ Below B w W
theorem ColJ.abides {B n₁ C : Nat} {w : World} {pre : List Al} (h1 : B ≤ C) (h2 : B ≤ w.heap.size) : Abides C (ColJ B n₁ w pre) := by
  rintro W W' ⟨⟨v, hv, hr⟩, hn, hb⟩ t
  exact ⟨⟨v, Abides.boxed _ _ _ _ _ _ hv t, hr.turn t⟩, Nat.le_trans hn t.size, t.below hb h1 h2⟩

set_option maxRecDepth 100000 in
set_option maxHeartbeats 2000000 in
theorem lawall_any {pv : Value} {xs : List Al} {w : World} (hs : ∀ w', Below w.heap.size w w' → Seen pv xs w') (hl : xs.length ≤ 1000) :
    Calls Try.prog 16 #[pv] w (GivesRow w (srt xs)) := by
  have hb1 := box_below w (.cells #[.slice none 0 0] 27)
  have H := Lib.hid (all_any (hs _ hb1) hl)
  clear hs
  have hlen : (srt xs).length ≤ 1000 := by rw [srt_length]; exact hl
  generalize srt xs = ys at H hlen ⊢
  refine (callsIn_wide (n := 9)).1 ?_
  refine callsIn_of_wp_marks Try.func16 rfl trivial ?_ rfl
  simp only [Try.ntmps16, List.size_toArray, List.length_cons, List.length_nil, Nat.reduceAdd, Nat.reduceSub, Array.replicate_succ, Array.replicate_zero, List.push_toArray, List.append_toArray, List.nil_append, List.cons_append]
  gi_wp2_with (refine ⟨trivial, ?_⟩; gi_at_call 25; refine (callsIn_wide.2 H.out).mono ?_; rintro e w3 ⟨Bs, v, rfl, hB, hr, hBs, hb⟩)
  have hf3 : Boxed w3 w.heap.size 27 (.slice none 0 0) := by
    have := Boxed.new w 27 (.slice none 0 0)
    exact (hb.block _ this.lt).trans this
  have hb3 : Below w.heap.size w w3 := hb1.trans (hb.mono hb1.size)
  have hz3 := hb3.size
  have hBs2 : w.heap.size < Bs := by simp at hBs; omega
  have hS : ∀ k, OfRow Bs v k → k < w3.heap.size ∧ w.heap.size < k := by
    rintro k (rfl | hk)
    · exact ⟨hB.lt, hBs2⟩
    · have := hr.lt k hk
      simp at this
      omega
  have HT := Lib.hid (values_tells hB hr)
  have HF := Lib.hid hf3
  have HS := Lib.hid hS
  clear hf3 hS hB hr hBs hb hBs2 H
  obtain ⟨i0, hi, hz0, hz1, hz2⟩ := info_parts info31
  refine wp_range (α := Al) (encs := fun x => #[alv x]) (xs := ys) (S := OfRow Bs v) rfl (enters_of Try.func33 (by kernel_rfl) rfl) HT.out (fun k hk => (HS.out k hk).1) (fun _ => rfl)
    (ColJ w.heap.size w3.heap.size w) (fun _ _ _ => False)
    (fun pre x a' W => ColJ w.heap.size w3.heap.size w pre W ∧ ∃ Bx, w.heap.size < Bx ∧ BoxA W Bx x ∧
      a' = { tmps := #[pv, undef, .slice none 0 0, .pointer (some ⟨w.heap.size, 0, none⟩), .pointer (some ⟨Bx, 0, none⟩), pv, .func (.func 33) #[] #[.pointer (some ⟨Bs, 0, none⟩)], alv x, undef, undef, undef, undef, undef], defers := [] })
    ?hI ?hIx ?hA ⟨⟨_, HF.out, World.ownsRow_nil _ _ _ _⟩, Nat.le_refl _, hb3⟩ ?assign ?body ?done ?stop
  case hI => exact fun s => ColJ.abides hz3 (Nat.le_refl _)
  case hIx => exact fun _ _ _ _ h _ => h
  case hA =>
    rintro s x a' W W' ⟨h1, Bx, h4, h5, h6⟩ t
    exact ⟨ColJ.abides hz3 (Nat.le_refl _) _ _ h1 t, Bx, h4, h5.turn t, h6⟩
  case assign =>
    rintro l pre x W hi
    have HI := Lib.hid hi
    obtain ⟨⟨u, hv, hr⟩, hn, hb⟩ := hi
    have hlt := hv.lt
    clear hv hr
    gi_wp2
    exact ⟨keeps_alloc _ _ _, keeps_of (box_below _ _) (fun k hk => Nat.lt_of_lt_of_le (HS.out k hk).1 hn), ColJ.abides hz3 (Nat.le_refl _) _ _ HI.out (Turn.later (box_below _ _)), W.heap.size, hlt, BoxA.new _ _, rfl⟩
  case body =>
    rintro l pre x post a' W hx ⟨⟨⟨u, hv, hr⟩, hn, hb⟩, Bx, hBx, ⟨d0, d1⟩, rfl⟩
    have hlen2 : pre.length < 1000 := by
      have := congrArg List.length hx
      simp at this
      omega
    have c0 := hv.cell
    have f0 := hv.frozen
    have hlt3 := HF.out.lt
    clear hx
    gi_wp2_with (gi_at_builtin; refine wpListIn_append_own _ rfl _ _ 27 rfl w3.heap.size 31 i0 (.agg #[.int .i64 0, .int .i64 0]) 2 16 Try.underlying27 hi hz0 hz1 hz2 rfl (by decide) _ _ _ rfl (hr.alloc _) ⟨W.heap.size, 0, none⟩ 1 1 [.int .i64 x.1, .int .i64 x.2] rfl rfl (new_cells W x) (one_cells x) (by unfold maxLen; omega) (by omega) (by simp; omega) ?_; intro v' w1 hown' hgrow _; obtain ⟨g', cap', rfl⟩ := ownsRow_succ hown'; obtain ⟨hv1, hv2, hr2, hk2, hp2, hb2⟩ := appended2 hv hr hlt3 hn hown' hgrow; have hc1 := hv1.cell; have hf1 := hv1.frozen)
    exact ⟨hk2.from _, ⟨hb2.size, fun k hk => hp2 k (HS.out k hk).1 (Nat.ne_of_gt (HS.out k hk).2)⟩, ⟨_, hv2, hr2⟩, Nat.le_trans hn hb2.size, hb.trans hb2⟩
  case done =>
    rintro D W hD ⟨⟨u, hv, hr⟩, hn, hb⟩ hd
    have c0 := hv.cell
    have HD := Lib.hid hd
    have HR := Lib.hid hr
    clear hd hr
    gi_wp2
    refine ⟨by simp, .inl ⟨_, _, rfl, run_takeDeferred HD.out, ?_⟩⟩
    exact ⟨_, results_tmp rfl _ _ _, u, rfl, (HR.out.base hz3).turn (Turn.put (B := 0) _ (Nat.zero_le _) HD.out rfl), put_below hb (Nat.le_trans hz3 hD) HD.out _⟩
  case stop =>
    rintro D c pre post W _ _ h _
    exact h.elim
end Go.Proofs.Ythoicmbpjcgdpaa
