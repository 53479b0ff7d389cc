/- A map that nobody made tells nothing: each, the sort of nothing, All, and what it hands back. -/
import Derived.Test.YtbeeekpofbhljaaA6
import Derived.OwnWalkIn
import Derived.TacticsInMore
import Derived.LoopNIn
import Derived.LoopIn
import Derived.Shelf.RegionOpen
namespace Go.Proofs.Ytbeeekpofbhljaa
open Go Go.RowKit Go.Shelf
attribute [local go_sem] Oper.semAt_some

theorem insertion_none (W : World) (f : Value) : Calls Try.prog 28 #[.slice none 0 0, .int .i64 0, .int .i64 0, f] W fun e w' => e = .returned (.tuple #[]) ∧ W = w' := by
  go_enter Try.func28, Try.ntmps28
  go_wp2
  go_loop [8] (fun i => i = .int .i64 1) (fun _ => 0)
  case atStart => rfl
  case round =>
    subst hrel
    go_wp2
    go_end0
    exact ⟨rfl, rfl⟩
theorem pdq_none (W : World) (f : Value) : Calls Try.prog 25 #[.slice none 0 0, .int .i64 0, .int .i64 0, .int .i64 0, f] W fun e w' => e = .returned (.tuple #[]) ∧ W = w' := by
  go_enter Try.func25, Try.ntmps25
  go_wp2
  go_loop [1, 2] (fun a b => a = .int .i64 0 ∧ b = .int .i64 0) (fun _ _ => 0)
  case atStart => exact ⟨rfl, rfl⟩
  case round =>
    obtain ⟨rfl, rfl⟩ := hrel
    go_wp2_with (go_at_call 28; ((with_reducible refine (insertion_none W f).mono ?_); rintro e w' ⟨rfl, rfl⟩))
    refine bodyPost_ret (results_none rfl _ _ _) rfl ?_
    exact ⟨rfl, rfl⟩
theorem sort_none (W : World) (f : Value) : Calls Try.prog 19 #[.slice none 0 0, f] W fun e w' => e = .returned (.tuple #[]) ∧ W = w' := by
  have HL : Hid (Calls Try.prog 26 #[.int .u64 0] W fun e w' => e = .returned (.int .i64 0) ∧ W = w') := Lib.hid (len_any 0 W (by omega) (by omega))
  have HP := Lib.hid (pdq_none W f)
  go_enter Try.func19, Try.ntmps19
  go_wp2_with (first
    | (go_at_call 26; ((with_reducible refine HL.out.mono ?_); rintro e w' ⟨rfl, rfl⟩))
    | (go_at_call 25; ((with_reducible refine HP.out.mono ?_); rintro e w' ⟨rfl, rfl⟩)))
  go_end0
  exact ⟨rfl, rfl⟩
set_option maxRecDepth 100000 in
theorem none_each (w : World) : Tells (α := Int × Int) Try.prog 18 #[.pointer none] #[] (fun x => #[.agg #[.int .u64 x.1, .int .i64 x.2]]) (fun _ => False) [] w := by
  intro l J Jx W hW hJ hY h0
  clear hW hJ hY
  refine callsIn_of_wp Try.func18 rfl trivial ?_ rfl
  simp only [Try.ntmps18, List.size_toArray, List.length_cons, List.length_nil, Nat.reduceAdd, Nat.reduceSub, Array.replicate_succ, Array.replicate_zero, List.push_toArray, List.append_toArray, List.nil_append, List.cons_append]
  refine wpIn_wide.2 ?_
  go_wp2_with (go_at_call 14; ((with_reducible refine (made_none W).mono ?_); rintro e w' ⟨rfl, rfl⟩))
  refine bodyPost_ret (results_none rfl _ _ _) rfl ?_
  exact ⟨⟨_, rfl⟩, .inl h0⟩
/-- the box of what was gathered is empty -/
def NoneC (w W : World) : Prop := Boxed W w.heap.size 49 (.slice none 0 0) ∧ Below w.heap.size w W
theorem NoneC.abides {w : World} {C : Nat} (h : w.heap.size ≤ C) : Abides C (NoneC w) := by
  rintro W W' ⟨h1, h2⟩ t
  exact ⟨Abides.boxed _ _ _ _ _ _ h1 t, t.below h2 h (Nat.le_refl _)⟩
set_option maxRecDepth 100000 in
set_option maxHeartbeats 2000000 in
theorem all_none (w : World) : Calls Try.prog 10 #[.pointer none] w fun e w' => e = .returned (.func (.func 21) #[] #[wp w.heap.size]) ∧ NoneC w w' := by
  refine (callsIn_wide (n := 9)).1 ?_
  refine callsIn_of_wp_marks Try.func10 rfl trivial ?_ rfl
  simp only [Try.ntmps10, List.size_toArray, List.length_cons, List.length_nil, Nat.reduceAdd, Nat.reduceSub, Array.replicate_succ, Array.replicate_zero, List.push_toArray, List.append_toArray, List.nil_append, List.cons_append]
  refine wpIn_wide.2 ?_
  go_wp2_with fail
  have HC : Hid (NoneC w (w.alloc (.cells #[.slice none 0 0] 49))) := Lib.hid ⟨Boxed.new _ _ _, box_below _ _⟩
  have hz : w.heap.size ≤ (w.alloc (.cells #[.slice none 0 0] 49)).heap.size := by simp
  have HT := Lib.hid (none_each (w.alloc (.cells #[.slice none 0 0] 49)))
  generalize w.alloc (.cells #[.slice none 0 0] 49) = w3 at HC HT hz ⊢
  refine (wpIn_wide (n := 9)).1 ?_
  refine wp_range (α := Int × Int) (encs := fun x => #[.agg #[.int .u64 x.1, .int .i64 x.2]]) (xs := []) (S := fun _ => False) rfl (enters_of Try.func18 (by kernel_rfl) rfl) HT.out (fun _ hk => hk.elim) (fun _ => rfl)
    (fun _ W => NoneC w W) (fun _ _ _ => False) (fun _ _ _ W => NoneC w W) ?hI ?hIx ?hA HC.out ?assign ?body ?done ?stop
  case hI => exact fun _ => NoneC.abides hz
  case hIx => exact fun _ _ _ _ h _ => h
  case hA => exact fun _ _ _ => NoneC.abides hz
  case assign =>
    rintro l pre x W hi
    have HI := Lib.hid hi
    clear hi
    gi_wp2
    exact ⟨keeps_alloc _ _ _, keeps_of (box_below _ _) (fun _ hk => hk.elim), HI.out.1.alloc _, HI.out.2.alloc HI.out.2.size _⟩
  case body =>
    rintro l pre x post a' W hx _
    simp at hx
  case stop =>
    rintro D c pre post W _ _ h _
    exact h.elim
  case done =>
    rintro D W hD ⟨hb, hl⟩ hd
    have HD := Lib.hid hd
    have c0 := hb.cell
    have HB := Lib.hid hb
    have HL := Lib.hid hl
    clear hd hb hl
    go_wp2_with (go_at_call 19; ((with_reducible refine (sort_none W _).mono ?_); rintro e w' ⟨rfl, rfl⟩))
    refine ⟨by simp, .inl ⟨_, _, rfl, run_takeDeferred HD.out, ?_⟩⟩
    exact ⟨_, results_tmp rfl _ _ _, rfl, NoneC.abides (Nat.le_trans hz hD) _ _ ⟨HB.out, HL.out⟩ (Turn.put _ (Nat.le_refl _) HD.out rfl)⟩
set_option maxRecDepth 100000 in
theorem none_tells {w W0 : World} (h : Boxed W0 w.heap.size 49 (.slice none 0 0)) : Tells (α := Value × Value) Try.prog 21 #[] #[wp w.heap.size] (fun x => #[x.1, x.2]) (fun _ => False) [] W0 := by
  intro l J Jx W hW hJ hY h0
  have hb : Boxed W w.heap.size 49 (.slice none 0 0) := (hW.block _ h.lt).trans h
  have c0 := hb.cell
  clear hW hY hb h
  refine callsIn_of_wp Try.func21 rfl trivial ?_ rfl
  simp only [Try.ntmps21, List.size_toArray, List.length_cons, List.length_nil, Nat.reduceAdd, Nat.reduceSub, Array.replicate_succ, Array.replicate_zero, List.push_toArray, List.append_toArray, List.nil_append, List.cons_append]
  refine wpIn_wide.2 ?_
  go_wp2_with fail
  go_loopw [7] (fun t wr => t = .int .i64 0 ∧ wr = W) (fun _ _ => 0)
  case atStart => exact ⟨rfl, rfl⟩
  case round =>
    obtain ⟨rfl, rfl⟩ := hrel
    go_wp2_with fail
    go_end0
    exact ⟨⟨_, rfl⟩, .inl h0⟩
end Go.Proofs.Ytbeeekpofbhljaa
