/- What an iterator tells, collected into a row. -/
import Derived.Test.YthoicmbpjcgdpaaA4
import Derived.OwnWalk
namespace Go.Proofs.Ythoicmbpjcgdpaa
open Go Go.RowKit Go.Shelf
attribute [local go_sem] Oper.semAt_some

theorem Row.turn {W W' : World} {C base : Nat} {v : Value} {xs : List Al} (h : Row W base v xs) (t : Turn C W W') : Row W' base v xs := by
  refine h.keep fun g hg => ?_
  rcases h.2 with ⟨rfl, _⟩ | ⟨g', cap, cur, rfl, _, hb, _⟩
  · simp [Value.ownBlock] at hg
  · simp [Value.ownBlock] at hg
    subst hg
    rw [hb]
    exact t.cells _ _ hb rfl
/-- a box holds a row -/
def ColI (n₀ B : Nat) (w : World) (pre : List Al) (W : World) : Prop := (∃ v, Boxed W B 27 v ∧ Row W n₀ v pre) ∧ Below n₀ w W
theorem ColI.abides {n₀ B C : Nat} {w : World} {pre : List Al} (h1 : n₀ ≤ C) (h2 : n₀ ≤ w.heap.size) : Abides C (ColI n₀ B w pre) := by
  rintro W W' ⟨⟨v, hv, hr⟩, hb⟩ t
  exact ⟨⟨v, Abides.boxed _ _ _ _ _ _ hv t, hr.turn t⟩, t.below hb h1 h2⟩
theorem info31 : (Try.prog.info? 31).map (fun i => (i.zero, i.size, i.bytes)) = some (some (.agg #[.int .i64 0, .int .i64 0]), 2, 16) := by kernel_rfl
theorem new_cells (W : World) (x : Al) : ∀ j u, ([.int .i64 x.1, .int .i64 x.2] : List Value)[j]? = some u → (W.alloc (.cells #[.int .i64 x.1, .int .i64 x.2] 31)).cell? ((⟨W.heap.size, 0, none⟩ : Addr).add j) = some u := by
  intro j u hj
  rw [add_at]
  match j, hj with
  | 0, hj => simp at hj; subst hj; simp [go_sem]
  | 1, hj => simp at hj; subst hj; simp [go_sem]
theorem one_cells (x : Al) : ∀ u ∈ ([.int .i64 x.1, .int .i64 x.2] : List Value), u.oneCell' = true := by
  intro u hu
  simp at hu
  rcases hu with rfl | rfl <;> rfl
/-- a call that hands back a row of its own -/
def GivesRow (w : World) (xs : List Al) (e : Ending) (w' : World) : Prop := ∃ v, e = .returned v ∧ Row w' w.heap.size v xs ∧ Below w.heap.size w w'
theorem row_form {W : World} {base : Nat} {v : Value} {xs : List Al} {x : Al} (h : W.ownsRow base 31 2 v (xs.length + 1) (flat xs ++ [.int .i64 x.1, .int .i64 x.2])) : Row W base v (xs ++ [x]) := by
  have : (xs ++ [x]).length = xs.length + 1 := by simp
  unfold Row
  rw [this, flat_snoc]
  exact h

set_option maxRecDepth 100000 in
set_option maxHeartbeats 2000000 in
theorem append_seq {gf : Nat} {bs lb : Array Value} {xs : List Al} {w : World} (eg : ∀ args w, (callFunc gf args).run Try.prog w = .ok (.enter gf args) w) (hs : Tells Try.prog gf bs lb (fun x : Al => #[alv x]) (· < w.heap.size) xs w) (hl : xs.length ≤ 1000) :
    Calls Try.prog 39 #[.slice none 0 0, .func (.func gf) bs lb] w (GivesRow w xs) := by
  refine (callsIn_wide (n := 9)).1 ?_
  refine callsIn_of_wp_marks Try.func39 rfl trivial ?_ rfl
  simp only [Try.ntmps39, List.size_toArray, List.length_cons, List.length_nil, Nat.reduceAdd, Nat.reduceSub, Array.replicate_succ, Array.replicate_zero, List.push_toArray, List.append_toArray, List.nil_append, List.cons_append]
  have HS := Lib.hid hs
  have HE := Lib.hid eg
  clear hs eg
  gi_wp2
  obtain ⟨w3, hw3⟩ : ∃ w3, w.alloc (.cells #[.slice none 0 0] 27) = w3 := ⟨_, rfl⟩
  have hb3 : Below w.heap.size w w3 := by rw [← hw3]; exact box_below _ _
  have hf3 : Boxed w3 w.heap.size 27 (.slice none 0 0) := by rw [← hw3]; exact Boxed.new _ _ _
  rw [hw3]
  clear hw3
  have hz3 := hb3.size
  have HF := Lib.hid hf3
  clear hf3
  obtain ⟨i0, hi, hz0, hz1, hz2⟩ := info_parts info31
  refine wp_range (α := Al) (encs := fun x => #[alv x]) (xs := xs) (S := (· < w.heap.size)) rfl HE.out (HS.out.later hb3) (fun _ hk => Nat.lt_of_lt_of_le hk hb3.size) (fun _ => rfl)
    (ColI w.heap.size w.heap.size w) (fun _ _ _ => False)
    (fun pre x a' W => ColI w.heap.size w.heap.size w pre W ∧ ∃ Bx, w.heap.size < Bx ∧ BoxA W Bx x ∧
      a' = { tmps := #[.slice none 0 0, .func (.func gf) bs lb, .pointer (some ⟨w.heap.size, 0, none⟩), undef, .slice none 0 0, .pointer (some ⟨Bx, 0, none⟩), .func (.func gf) bs lb, alv x, undef, undef, undef, undef, undef], defers := [] })
    ?hI ?hIx ?hA ⟨⟨_, HF.out, World.ownsRow_nil _ _ _ _⟩, hb3⟩ ?assign ?body ?done ?stop
  case hI => exact fun s => ColI.abides hz3 (Nat.le_refl _)
  case hIx => exact fun _ _ _ _ h _ => h
  case hA =>
    rintro s x a' W W' ⟨h1, Bx, h4, h5, h6⟩ t
    exact ⟨ColI.abides hz3 (Nat.le_refl _) _ _ h1 t, Bx, h4, h5.turn t, h6⟩
  case assign =>
    rintro l pre x W hi
    have HI := Lib.hid hi
    obtain ⟨⟨v, hv, hr⟩, hb⟩ := hi
    have hlt := hv.lt
    have hbs := hb.size
    clear hv hr
    gi_wp2
    exact ⟨keeps_alloc _ _ _, keeps_of ((Below.refl _ W).alloc hbs _) (fun _ hk => hk), ColI.abides hz3 (Nat.le_refl _) _ _ HI.out (Turn.later (box_below _ _)), W.heap.size, hlt, BoxA.new _ _, rfl⟩
  case body =>
    rintro l pre x post a' W hx ⟨⟨⟨v, hv, hr⟩, hb⟩, Bx, hBx, ⟨d0, d1⟩, rfl⟩
    have hlen : pre.length < 1000 := by
      have := congrArg List.length hx
      simp at this
      omega
    have c0 := hv.cell
    have f0 := hv.frozen
    have hbs := hb.size
    clear hx
    gi_wp2_with (gi_at_builtin; refine wpListIn_append_own _ rfl _ _ 27 rfl w.heap.size 31 i0 (.agg #[.int .i64 0, .int .i64 0]) 2 16 Try.underlying27 hi hz0 hz1 hz2 rfl (by decide) _ _ _ rfl (hr.alloc _) ⟨W.heap.size, 0, none⟩ 1 1 [.int .i64 x.1, .int .i64 x.2] rfl rfl (new_cells W x) (one_cells x) (by unfold maxLen; omega) (by omega) (by simp; omega) ?_; intro v' w1 hown' hgrow _; obtain ⟨g', cap', rfl⟩ := ownsRow_succ hown'; obtain ⟨hv1, hv2, hr2, hk2, hb2⟩ := hv.appended (by decide) hr hbs (Nat.le_refl _) hown' hgrow; have hc1 := hv1.cell; have hf1 := hv1.frozen)
    exact ⟨hk2.from _, keeps_of hb2 (fun _ hk => hk), ⟨_, hv2, row_form hr2⟩, hb.trans hb2⟩
  case done =>
    rintro D W hD ⟨⟨v, hv, hr⟩, hb⟩ hd
    have c0 := hv.cell
    have HD := Lib.hid hd
    have HR := Lib.hid hr
    clear hd hr
    gi_wp2
    refine ⟨by simp, .inl ⟨_, _, rfl, run_takeDeferred HD.out, ?_⟩⟩
    exact ⟨_, results_tmp rfl _ _ _, v, rfl, HR.out.turn (Turn.put (B := 0) _ (Nat.zero_le _) HD.out rfl), put_below hb (Nat.le_trans hz3 hD) HD.out _⟩
  case stop =>
    rintro D c pre post W _ _ h _
    exact h.elim
theorem collect_any {gf : Nat} {bs lb : Array Value} {xs : List Al} {w : World} (eg : ∀ args w, (callFunc gf args).run Try.prog w = .ok (.enter gf args) w) (hs : Tells Try.prog gf bs lb (fun x : Al => #[alv x]) (· < w.heap.size) xs w) (hl : xs.length ≤ 1000) :
    Calls Try.prog 34 #[.func (.func gf) bs lb] w (GivesRow w xs) := by
  have H := Lib.hid (append_seq eg hs hl)
  clear eg hs
  go_enter Try.func34, Try.ntmps34
  go_wp2_with (go_at_call 39; ((with_reducible refine H.out.mono ?_); rintro e w1 ⟨v, rfl, hr, hb⟩))
  go_ret
  exact ⟨v, rfl, hr, hb⟩
end Go.Proofs.Ythoicmbpjcgdpaa
