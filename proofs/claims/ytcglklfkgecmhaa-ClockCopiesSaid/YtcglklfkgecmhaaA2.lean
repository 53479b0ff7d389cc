/- The contracts of a clock's making, its copy, its time that goes on, and its stamps. -/
import Derived.Test.YtcglklfkgecmhaaA1
import Derived.Laws.EntriesVeiled
namespace Go.Proofs.Ytcglklfkgecmhaa
open Go Go.RowKit

/-- of what there was only this block may have changed -/
structure Only (b : Nat) (w w' : World) : Prop where
  os : w'.os = w.os
  tape : w'.tape = w.tape
  output : w'.output = w.output
  size : w.heap.size ≤ w'.heap.size
  block : ∀ k, k < w.heap.size → k ≠ b → w'.heap[k]? = w.heap[k]?
theorem Only.refl (b : Nat) (w : World) : Only b w w := ⟨rfl, rfl, rfl, Nat.le_refl _, fun _ _ _ => rfl⟩
theorem Only.drewN {b : Nat} {w : World} (k : Nat) : Only b w (w.drewN k) := ⟨rfl, rfl, rfl, Nat.le_refl _, fun _ _ _ => rfl⟩
theorem Only.set (b o : Nat) (w : World) (k : Nat) (u : Value) : Only b w ((w.drewN k).setCell ⟨b, o, none⟩ u) :=
  ⟨rfl, rfl, rfl, by simp [World.setCell], fun i _ hne => Below.heap_setCell (w.drewN k) ⟨b, o, none⟩ u i hne⟩
theorem Only.below {b B : Nat} {w w' : World} (h : Only b w w') (hB : B ≤ b) (hw : B ≤ w.heap.size) : Below B w w' :=
  ⟨h.os, h.tape, h.output, h.size, fun k hk => h.block k (by omega) (by omega)⟩

def bnd (t : Int) : Int := if t < 0 then 0 else if 1099511627776 < t then 1099511627776 else t
theorem bnd_bd (t : Int) : 0 ≤ bnd t ∧ bnd t ≤ 1099511627776 := by unfold bnd; split <;> (try split) <;> omega
def tickE (n m t : Int) : Int := if t < 0 then 1 else if m - n < t then 20 else 0
def tickN (n m t : Int) : Int := if t < 0 then n else if m - n < t then n else n + t
def stE (s m : Int) : Int := if m - s < 1 then 20 else 0
def stV (s m : Int) : Int := if m - s < 1 then 0 else s + 1
def stS (s m : Int) : Int := if m - s < 1 then s else s + 1

theorem ClkAt.drewN {w : World} {b : Nat} {n s m : Int} (h : ClkAt w b n s m) (k : Nat) : ClkAt (w.drewN k) b n s m :=
  ⟨h.c0, h.c1, h.c2, h.f0, h.f1, h.lt⟩
theorem ClkAt.set0 {w : World} {b : Nat} {n s m : Int} (h : ClkAt w b n s m) (n' : Int) : ClkAt (w.setCell ⟨b, 0, none⟩ (.int .i64 n')) b n' s m := by
  obtain ⟨c0, c1, c2, f0, f1, hlt⟩ := h
  constructor <;> simp [go_sem, c0, c1, c2, f0, f1, hlt]
theorem ClkAt.set1 {w : World} {b : Nat} {n s m : Int} (h : ClkAt w b n s m) (s' : Int) : ClkAt (w.setCell ⟨b, 1, none⟩ (.int .i64 s')) b n s' m := by
  obtain ⟨c0, c1, c2, f0, f1, hlt⟩ := h
  constructor <;> simp [go_sem, c0, c1, c2, f0, f1, hlt]

theorem ret_int {k : IntKind} {a b : Int} (h : a = b) : Ending.returned (.int k a) = .returned (.int k b) := by rw [h]
theorem ret_two {k l : IntKind} {a b c d : Int} (h : a = b) (h' : c = d) : Ending.returned (.tuple #[.int k a, .int l c]) = .returned (.tuple #[.int k b, .int l d]) := by rw [h, h']
/-- what a call that may change this clock alone leaves -/
def Then (b : Nat) (w : World) (v : Value) (n s m : Int) (e : Ending) (w' : World) : Prop := e = .returned v ∧ ClkAt w' b n s m ∧ Only b w w'

set_option maxHeartbeats 400000 in
theorem tick_any {w : World} {b : Nat} {n s m : Int} (t : Int) (h : ClkAt w b n s m) (h0 : 0 ≤ n) (h1 : n ≤ m) (h2 : m ≤ 1099511627776) :
    Calls Try.prog 11 #[clk b, .int .i64 t] w (Then b w (.int .i64 (tickE n m t)) (tickN n m t) s m) := by
  have H := Lib.hid h
  obtain ⟨c0, c1, c2, f0, f1, hlt⟩ := h
  by_cases ht : t < 0
  · have HE := Lib.hid (show tickE n m t = 1 by unfold tickE; rw [if_pos ht])
    have HN := Lib.hid (show tickN n m t = n by unfold tickN; rw [if_pos ht])
    go_enter Try.func11, Try.ntmps11
    go_wp2_with (go_at_call 17; ((with_reducible refine (made_yes H.out).mono ?_); rintro e w' ⟨rfl, rfl⟩))
    go_ret
    exact ⟨ret_int HE.out.symm, by rw [HN.out]; exact H.out, Only.refl _ _⟩
  · by_cases hr : m - n < t
    · have HE := Lib.hid (show tickE n m t = 20 by unfold tickE; rw [if_neg ht, if_pos hr])
      have HN := Lib.hid (show tickN n m t = n by unfold tickN; rw [if_neg ht, if_pos hr])
      go_enter Try.func11, Try.ntmps11
      go_wp2_with (go_at_call 17; ((with_reducible refine (made_yes H.out).mono ?_); rintro e w' ⟨rfl, rfl⟩))
      go_quiet ((go_at_call 16; exact Calls.quiet_of_same ((room_any _ _ _ h0 h1 h2).mono fun _ _ ⟨he, hw⟩ => ⟨he, hw.symm⟩)))
      go_wp2
      go_ret
      exact ⟨ret_int HE.out.symm, by rw [HN.out]; exact H.out.drewN _, Only.drewN _⟩
    · have HE := Lib.hid (show tickE n m t = 0 by unfold tickE; rw [if_neg ht, if_neg hr])
      have HN := Lib.hid (show tickN n m t = n + t by unfold tickN; rw [if_neg ht, if_neg hr])
      go_enter Try.func11, Try.ntmps11
      go_wp2_with (go_at_call 17; ((with_reducible refine (made_yes H.out).mono ?_); rintro e w' ⟨rfl, rfl⟩))
      go_quiet ((go_at_call 16; exact Calls.quiet_of_same ((room_any _ _ _ h0 h1 h2).mono fun _ _ ⟨he, hw⟩ => ⟨he, hw.symm⟩)))
      go_wp2
      go_ret
      exact ⟨ret_int HE.out.symm, by rw [HN.out]; exact (H.out.drewN _).set0 _, Only.set _ _ _ _ _⟩
theorem tick_no (t : Int) (w : World) : Calls Try.prog 11 #[.pointer none, .int .i64 t] w fun e w' => e = .returned (.int .i64 70) ∧ w = w' := by
  go_enter Try.func11, Try.ntmps11
  go_wp2_with (go_at_call 17; ((with_reducible refine (made_no _).mono ?_); rintro e w' ⟨rfl, rfl⟩))
  go_ret
  exact ⟨rfl, rfl⟩
set_option maxHeartbeats 400000 in
theorem stamp_any {w : World} {b : Nat} {n s m : Int} (h : ClkAt w b n s m) (h0 : 0 ≤ s) (h1 : s ≤ m) (h2 : m ≤ 1099511627776) :
    Calls Try.prog 9 #[clk b] w (Then b w (.tuple #[.int .i64 (stV s m), .int .i64 (stE s m)]) n (stS s m) m) := by
  have H := Lib.hid h
  obtain ⟨c0, c1, c2, f0, f1, hlt⟩ := h
  by_cases hr : m - s < 1
  · have HE := Lib.hid (show stE s m = 20 by unfold stE; rw [if_pos hr])
    have HV := Lib.hid (show stV s m = 0 by unfold stV; rw [if_pos hr])
    have HS := Lib.hid (show stS s m = s by unfold stS; rw [if_pos hr])
    go_enter Try.func9, Try.ntmps9
    go_wp2_with (go_at_call 17; ((with_reducible refine (made_yes H.out).mono ?_); rintro e w' ⟨rfl, rfl⟩))
    go_quiet ((go_at_call 16; exact Calls.quiet_of_same ((room_any _ _ _ h0 h1 h2).mono fun _ _ ⟨he, hw⟩ => ⟨he, hw.symm⟩)))
    go_wp2
    go_ret2
    exact ⟨ret_two HV.out.symm HE.out.symm, by rw [HS.out]; exact H.out.drewN _, Only.drewN _⟩
  · have HE := Lib.hid (show stE s m = 0 by unfold stE; rw [if_neg hr])
    have HV := Lib.hid (show stV s m = s + 1 by unfold stV; rw [if_neg hr])
    have HS := Lib.hid (show stS s m = s + 1 by unfold stS; rw [if_neg hr])
    go_enter Try.func9, Try.ntmps9
    go_wp2_with (go_at_call 17; ((with_reducible refine (made_yes H.out).mono ?_); rintro e w' ⟨rfl, rfl⟩))
    go_quiet ((go_at_call 16; exact Calls.quiet_of_same ((room_any _ _ _ h0 h1 h2).mono fun _ _ ⟨he, hw⟩ => ⟨he, hw.symm⟩)))
    go_wp2
    go_ret2
    exact ⟨ret_two HV.out.symm HE.out.symm, by rw [HS.out]; exact (H.out.drewN _).set1 _, Only.set _ _ _ _ _⟩
theorem stamp_no (w : World) : Calls Try.prog 9 #[.pointer none] w fun e w' => e = .returned (.tuple #[.int .i64 0, .int .i64 70]) ∧ w = w' := by
  go_enter Try.func9, Try.ntmps9
  go_wp2_with (go_at_call 17; ((with_reducible refine (made_no _).mono ?_); rintro e w' ⟨rfl, rfl⟩))
  go_ret2
  exact ⟨rfl, rfl⟩
theorem copy_no (w : World) : Calls Try.prog 13 #[.pointer none] w fun e w' => e = .returned (.pointer none) ∧ w = w' := by
  go_enter Try.func13, Try.ntmps13
  go_wp2_with (go_at_call 17; ((with_reducible refine (made_no _).mono ?_); rintro e w' ⟨rfl, rfl⟩))
  go_ret
  exact ⟨rfl, rfl⟩

/-- a call that makes a clock in a new block -/
def Makes (w : World) (n s m : Int) (e : Ending) (w' : World) : Prop := e = .returned (clk w.heap.size) ∧ ClkAt w' w.heap.size n s m ∧ Below w.heap.size w w'
theorem ClkAt.new (w : World) (n s m : Int) (t : Nat) : ClkAt (w.alloc (.cells #[.int .i64 n, .int .i64 s, roomF m] t)) w.heap.size n s m := by
  constructor <;> simp [go_sem]
theorem box_below (w : World) (o : Obj) : Below w.heap.size w (w.alloc o) := (Below.refl _ _).alloc (Nat.le_refl _) _
theorem copy_yes {w : World} {b : Nat} {n s m : Int} (h : ClkAt w b n s m) : Calls Try.prog 13 #[clk b] w (Makes w n s m) := by
  have H := Lib.hid h
  obtain ⟨c0, c1, c2, f0, f1, hlt⟩ := h
  go_enter Try.func13, Try.ntmps13
  go_wp2_with (go_at_call 17; ((with_reducible refine (made_yes H.out).mono ?_); rintro e w' ⟨rfl, rfl⟩))
  go_ret
  exact ⟨rfl, ClkAt.new _ _ _ _ _, box_below _ _⟩
theorem new_any (t : Int) (w : World) : Calls Try.prog 7 #[.int .i64 t] w (Makes w 0 0 (bnd t)) := by
  by_cases h0 : t < 0
  · have HB := Lib.hid (show bnd t = 0 by unfold bnd; rw [if_pos h0])
    go_enter Try.func7, Try.ntmps7
    go_wp2
    go_ret
    exact ⟨rfl, by rw [HB.out]; exact ClkAt.new _ _ _ _ _, box_below _ _⟩
  · by_cases h1 : 1099511627776 < t
    · have HB := Lib.hid (show bnd t = 1099511627776 by unfold bnd; rw [if_neg h0, if_pos h1])
      go_enter Try.func7, Try.ntmps7
      go_wp2
      go_ret
      exact ⟨rfl, by rw [HB.out]; exact ClkAt.new _ _ _ _ _, box_below _ _⟩
    · have HB := Lib.hid (show bnd t = t by unfold bnd; rw [if_neg h0, if_neg h1])
      go_enter Try.func7, Try.ntmps7
      go_wp2
      go_ret
      exact ⟨rfl, by rw [HB.out]; exact ClkAt.new _ _ _ _ _, box_below _ _⟩
end Go.Proofs.Ytcglklfkgecmhaa
