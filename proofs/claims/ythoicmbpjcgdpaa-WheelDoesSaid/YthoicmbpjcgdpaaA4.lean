/- The time of an alarm, and how many there are. -/
import Derived.Test.YthoicmbpjcgdpaaA3
namespace Go.Proofs.Ythoicmbpjcgdpaa
open Go Go.RowKit Go.Shelf
attribute [local go_sem] Oper.semAt_some

set_option maxHeartbeats 1000000 in
theorem at_any {pv : Value} {xs : List Al} {w : World} (id : Int) (hs : Seen pv xs w) :
    Calls Try.prog 18 #[pv, .int .i64 id] w fun e w' => e = .returned (.tuple #[.int .i64 (findA id xs).1.2, .bool (findA id xs).2]) ∧ Below w.heap.size w w' := by
  have hc := find_any id hs
  obtain ⟨y, hy⟩ : ∃ y, (findA id xs).1 = y := ⟨_, rfl⟩
  obtain ⟨f, hf⟩ : ∃ f, (findA id xs).2 = f := ⟨_, rfl⟩
  rw [hy, hf] at hc
  rw [hy, hf]
  clear hy hf hs
  go_enter Try.func18, Try.ntmps18
  go_wp2_with (go_at_call 21; ((with_reducible refine hc.mono ?_); rintro e w1 ⟨rfl, hb1⟩))
  go_ret2
  exact ⟨rfl, hb1.alloc hb1.size _⟩

def LenI (w : World) (pre : List Al) (W : World) : Prop := Boxed W w.heap.size 3 (.int .i64 pre.length) ∧ Below w.heap.size w W
set_option maxRecDepth 100000 in
set_option maxHeartbeats 2000000 in
theorem len_any {pv : Value} {xs : List Al} {w : World} (hs : Seen pv xs w) (hl : xs.length ≤ 1000) :
    Calls Try.prog 17 #[pv] w fun e w' => e = .returned (.int .i64 xs.length) ∧ Below w.heap.size w w' := by
  refine (callsIn_wide (n := 9)).1 ?_
  refine callsIn_of_wp_marks Try.func17 rfl trivial ?_ rfl
  simp only [Try.ntmps17, List.size_toArray, List.length_cons, List.length_nil, Nat.reduceAdd, Nat.reduceSub, Array.replicate_succ, Array.replicate_zero, List.push_toArray, List.append_toArray, List.nil_append, List.cons_append]
  have HS := Lib.hid hs
  clear hs
  gi_wp2
  obtain ⟨w3, hw3⟩ : ∃ w3, w.alloc (.cells #[.int .i64 0] 3) = w3 := ⟨_, rfl⟩
  have hb3 : Below w.heap.size w w3 := by rw [← hw3]; exact box_below _ _
  have hf3 : Boxed w3 w.heap.size 3 (.int .i64 0) := by rw [← hw3]; exact Boxed.new _ _ _
  rw [hw3]
  clear hw3
  have hz3 := hb3.size
  have HF := Lib.hid hf3
  clear hf3
  refine wp_range (α := Al) (encs := fun x => #[alv x]) (xs := xs) (S := (· < w.heap.size)) rfl (enters_of Try.func27 (by kernel_rfl) rfl) (HS.out.later hb3) (fun _ hk => Nat.lt_of_lt_of_le hk hb3.size) (fun _ => rfl)
    (LenI w) (fun _ _ _ => False)
    (fun pre x a' W => LenI w pre W ∧
      a' = { tmps := #[pv, undef, .int .i64 0, .pointer (some ⟨w.heap.size, 0, none⟩), pv, .func (.func 27) #[pv] #[], alv x, undef, undef, undef], defers := [] })
    ?hI ?hIx ?hA ⟨HF.out, hb3⟩ ?assign ?body ?done ?stop
  case hI => exact fun s => (Abides.boxed _ _ _ _).and (Abides.below hb3.size (Nat.le_refl _))
  case hIx => exact fun _ _ _ _ h _ => h
  case hA =>
    rintro s x a' W W' ⟨⟨h1, h2⟩, h6⟩ t
    exact ⟨⟨Abides.boxed _ _ _ _ _ _ h1 t, t.below h2 hb3.size (Nat.le_refl _)⟩, h6⟩
  case assign =>
    rintro l pre x W hi
    have HI := Lib.hid hi
    clear hi
    gi_wp2
    exact ⟨KeepsFrom.refl _ _, Keeps.refl _ _, HI.out, by simp⟩
  case body =>
    rintro l pre x post a' W hx ⟨⟨h1, h2⟩, rfl⟩
    have hlen : pre.length < 1000 := by
      have := congrArg List.length hx
      simp at this
      omega
    have c0 := h1.cell
    have f0 := h1.frozen
    have H1 := Lib.hid h1
    clear h1 hx
    gi_wp2
    refine ⟨keeps_set _ _ _ _, keeps_of ((Below.refl _ W).setCell (p := ⟨w.heap.size, 0, none⟩) (Nat.le_refl _) _) (fun _ hk => hk), ?_, h2.setCell (p := ⟨w.heap.size, 0, none⟩) (Nat.le_refl _) _⟩
    have := H1.out.set (.int .i64 (pre.length + 1))
    simpa using this
  case done =>
    rintro D W hD ⟨h1, h2⟩ hd
    have c0 := h1.cell
    have HD := Lib.hid hd
    clear hd h1
    gi_wp2
    refine ⟨by simp, .inl ⟨_, _, rfl, run_takeDeferred HD.out, ?_⟩⟩
    exact ⟨_, results_tmp rfl _ _ _, rfl, put_below h2 (Nat.le_trans hz3 hD) HD.out _⟩
  case stop =>
    rintro D c pre post W _ _ h _
    exact h.elim
end Go.Proofs.Ythoicmbpjcgdpaa
