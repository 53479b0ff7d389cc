/- The contracts of the document's own clock, and of the chapter's example. -/
import Derived.Test.YtcglklfkgecmhaaA2
namespace Go.Proofs.Ytcglklfkgecmhaa
open Go Go.RowKit

theorem ClkAt.keep {w w' : World} {b : Nat} {n s m : Int} (h : ClkAt w b n s m) (hb : w'.heap[b]? = w.heap[b]?) (hz : w.heap.size ≤ w'.heap.size) : ClkAt w' b n s m := by
  obtain ⟨c0, c1, c2, f0, f1, hlt⟩ := h
  have hc : ∀ o, w'.cell? ⟨b, o, none⟩ = w.cell? ⟨b, o, none⟩ := fun o => World.cell?_of_block (w := w) (a := ⟨b, o, none⟩) hb
  have hf : ∀ o, w'.frozen? ⟨b, o, none⟩ = w.frozen? ⟨b, o, none⟩ := fun o => World.frozen?_of_block (w := w) (a := ⟨b, o, none⟩) hb
  exact ⟨by rw [hc, c0], by rw [hc, c1], by rw [hc, c2], by rw [hf, f0], by rw [hf, f1], Nat.lt_of_lt_of_le hlt hz⟩
theorem ClkAt.later {w w' : World} {b : Nat} {n s m : Int} (h : ClkAt w b n s m) (hb : Below w.heap.size w w') : ClkAt w' b n s m := h.keep (hb.block b h.lt) hb.size
theorem ClkAt.other {w w' : World} {b c : Nat} {n s m : Int} (h : ClkAt w b n s m) (hb : Only c w w') (hne : b ≠ c) : ClkAt w' b n s m := h.keep (hb.block b h.lt hne) hb.size

/-- the document's clock lies in a block: its time, its stamp, its most -/
structure RefAt (w : World) (b : Nat) (n s m : Int) : Prop where
  c0 : w.cell? ⟨b, 0, none⟩ = some (.int .i64 n)
  c1 : w.cell? ⟨b, 1, none⟩ = some (.int .i64 s)
  c2 : w.cell? ⟨b, 2, none⟩ = some (.int .i64 m)
  f0 : w.frozen? ⟨b, 0, none⟩ = false
  f1 : w.frozen? ⟨b, 1, none⟩ = false
  lt : b < w.heap.size
theorem RefAt.keep {w w' : World} {b : Nat} {n s m : Int} (h : RefAt w b n s m) (hb : w'.heap[b]? = w.heap[b]?) (hz : w.heap.size ≤ w'.heap.size) : RefAt w' b n s m := by
  obtain ⟨c0, c1, c2, f0, f1, hlt⟩ := h
  have hc : ∀ o, w'.cell? ⟨b, o, none⟩ = w.cell? ⟨b, o, none⟩ := fun o => World.cell?_of_block (w := w) (a := ⟨b, o, none⟩) hb
  have hf : ∀ o, w'.frozen? ⟨b, o, none⟩ = w.frozen? ⟨b, o, none⟩ := fun o => World.frozen?_of_block (w := w) (a := ⟨b, o, none⟩) hb
  exact ⟨by rw [hc, c0], by rw [hc, c1], by rw [hc, c2], by rw [hf, f0], by rw [hf, f1], Nat.lt_of_lt_of_le hlt hz⟩
theorem RefAt.later {w w' : World} {b : Nat} {n s m : Int} (h : RefAt w b n s m) (hb : Below w.heap.size w w') : RefAt w' b n s m := h.keep (hb.block b h.lt) hb.size
theorem RefAt.other {w w' : World} {b c : Nat} {n s m : Int} (h : RefAt w b n s m) (hb : Only c w w') (hne : b ≠ c) : RefAt w' b n s m := h.keep (hb.block b h.lt hne) hb.size
theorem RefAt.drewN {w : World} {b : Nat} {n s m : Int} (h : RefAt w b n s m) (k : Nat) : RefAt (w.drewN k) b n s m :=
  ⟨h.c0, h.c1, h.c2, h.f0, h.f1, h.lt⟩
theorem RefAt.set0 {w : World} {b : Nat} {n s m : Int} (h : RefAt w b n s m) (n' : Int) : RefAt (w.setCell ⟨b, 0, none⟩ (.int .i64 n')) b n' s m := by
  obtain ⟨c0, c1, c2, f0, f1, hlt⟩ := h
  constructor <;> simp [go_sem, c0, c1, c2, f0, f1, hlt]
theorem RefAt.set1 {w : World} {b : Nat} {n s m : Int} (h : RefAt w b n s m) (s' : Int) : RefAt (w.setCell ⟨b, 1, none⟩ (.int .i64 s')) b n s' m := by
  obtain ⟨c0, c1, c2, f0, f1, hlt⟩ := h
  constructor <;> simp [go_sem, c0, c1, c2, f0, f1, hlt]
theorem RefAt.new (w : World) (n s m : Int) (t : Nat) : RefAt (w.alloc (.cells #[.int .i64 n, .int .i64 s, .int .i64 m] t)) w.heap.size n s m := by
  constructor <;> simp [go_sem]

def RThen (b : Nat) (w : World) (v : Value) (n s m : Int) (e : Ending) (w' : World) : Prop := e = .returned v ∧ RefAt w' b n s m ∧ Only b w w'
def RMakes (w : World) (n s m : Int) (e : Ending) (w' : World) : Prop := e = .returned (clk w.heap.size) ∧ RefAt w' w.heap.size n s m ∧ Below w.heap.size w w'

set_option maxHeartbeats 400000 in
theorem rtick_any {w : World} {b : Nat} {n s m : Int} (t : Int) (h : RefAt w b n s m) (h0 : 0 ≤ n) (h1 : n ≤ m) (h2 : m ≤ 1099511627776) :
    Calls Try.prog 12 #[clk b, .int .i64 t] w (RThen b w (.int .i64 (tickE n m t)) (tickN n m t) s m) := by
  have H := Lib.hid h
  obtain ⟨c0, c1, c2, f0, f1, hlt⟩ := h
  by_cases ht : t < 0
  · have HE := Lib.hid (show tickE n m t = 1 by unfold tickE; rw [if_pos ht])
    have HN := Lib.hid (show tickN n m t = n by unfold tickN; rw [if_pos ht])
    go_enter Try.func12, Try.ntmps12
    go_wp2
    go_ret
    exact ⟨ret_int HE.out.symm, by rw [HN.out]; exact H.out, Only.refl _ _⟩
  · by_cases hr : m - n < t
    · have HE := Lib.hid (show tickE n m t = 20 by unfold tickE; rw [if_neg ht, if_pos hr])
      have HN := Lib.hid (show tickN n m t = n by unfold tickN; rw [if_neg ht, if_pos hr])
      have hw : IntKind.i64.wrap (m - n) = m - n := IntWalk.i64_in _ (by omega)
      go_enter Try.func12, Try.ntmps12
      go_wp2
      go_quiet (fail)
      clear hw
      go_wp2
      go_ret
      exact ⟨ret_int HE.out.symm, by rw [HN.out]; exact H.out.drewN _, Only.drewN _⟩
    · have HE := Lib.hid (show tickE n m t = 0 by unfold tickE; rw [if_neg ht, if_neg hr])
      have HN := Lib.hid (show tickN n m t = n + t by unfold tickN; rw [if_neg ht, if_neg hr])
      have hw : IntKind.i64.wrap (m - n) = m - n := IntWalk.i64_in _ (by omega)
      go_enter Try.func12, Try.ntmps12
      go_wp2
      go_quiet (fail)
      clear hw
      go_wp2
      go_ret
      exact ⟨ret_int HE.out.symm, by rw [HN.out]; exact (H.out.drewN _).set0 _, Only.set _ _ _ _ _⟩
set_option maxHeartbeats 400000 in
theorem next_any {w : World} {b : Nat} {n s m : Int} (h : RefAt w b n s m) (h0 : 0 ≤ s) (h1 : s ≤ m) (h2 : m ≤ 1099511627776) :
    Calls Try.prog 10 #[clk b] w (RThen b w (.tuple #[.int .i64 (stV s m), .int .i64 (stE s m)]) n (stS s m) m) := by
  have H := Lib.hid h
  obtain ⟨c0, c1, c2, f0, f1, hlt⟩ := h
  by_cases hr : m ≤ s
  · have HE := Lib.hid (show stE s m = 20 by unfold stE; rw [if_pos (by omega)])
    have HV := Lib.hid (show stV s m = 0 by unfold stV; rw [if_pos (by omega)])
    have HS := Lib.hid (show stS s m = s by unfold stS; rw [if_pos (by omega)])
    go_enter Try.func10, Try.ntmps10
    go_wp2
    go_quiet (fail)
    go_wp2
    go_ret2
    exact ⟨ret_two HV.out.symm HE.out.symm, by rw [HS.out]; exact H.out.drewN _, Only.drewN _⟩
  · have HE := Lib.hid (show stE s m = 0 by unfold stE; rw [if_neg (by omega)])
    have HV := Lib.hid (show stV s m = s + 1 by unfold stV; rw [if_neg (by omega)])
    have HS := Lib.hid (show stS s m = s + 1 by unfold stS; rw [if_neg (by omega)])
    go_enter Try.func10, Try.ntmps10
    go_wp2
    go_quiet (fail)
    go_wp2
    go_ret2
    exact ⟨ret_two HV.out.symm HE.out.symm, by rw [HS.out]; exact (H.out.drewN _).set1 _, Only.set _ _ _ _ _⟩
theorem rnew_any (t : Int) (w : World) : Calls Try.prog 8 #[.int .i64 t] w (RMakes w 0 0 (bnd t)) := by
  by_cases h0 : t < 0
  · have HB := Lib.hid (show bnd t = 0 by unfold bnd; rw [if_pos h0])
    go_enter Try.func8, Try.ntmps8
    go_wp2
    go_ret
    exact ⟨rfl, by rw [HB.out]; exact RefAt.new _ _ _ _ _, box_below _ _⟩
  · by_cases h1 : 1099511627776 < t
    · have HB := Lib.hid (show bnd t = 1099511627776 by unfold bnd; rw [if_neg h0, if_pos h1])
      go_enter Try.func8, Try.ntmps8
      go_wp2
      go_ret
      exact ⟨rfl, by rw [HB.out]; exact RefAt.new _ _ _ _ _, box_below _ _⟩
    · have HB := Lib.hid (show bnd t = t by unfold bnd; rw [if_neg h0, if_neg h1])
      go_enter Try.func8, Try.ntmps8
      go_wp2
      go_ret
      exact ⟨rfl, by rw [HB.out]; exact RefAt.new _ _ _ _ _, box_below _ _⟩

/-- the chapter's example -/
theorem awake_any (w : World) : Calls Try.prog 6 #[] w fun e w' => e = .returned (.bool true) ∧ Below w.heap.size w w' := by
  have B : Hid (bnd 1 = 1) := by unfold Hid; decide
  go_enter Try.func6, Try.ntmps6
  go_wp2_with fail
  refine (new_any 1 _).mono ?_
  rintro e w1 ⟨rfl, hc, hb1⟩
  rw [B.out] at hc
  have hp := Lib.hid hc
  clear hc
  go_wp2_with fail
  refine (stamp_any hp.out (by omega) (by omega) (by omega)).mono ?_
  rintro e w2 ⟨rfl, hc, ho1⟩
  have e1 : stV 0 1 = 1 := by decide
  have e2 : stE 0 1 = 0 := by decide
  have e3 : stS 0 1 = 1 := by decide
  rw [e1, e2]
  rw [e3] at hc
  clear e1 e2 e3
  have hq := Lib.hid hc
  clear hc
  go_wp2_with fail
  refine (stamp_any hq.out (by omega) (by omega) (by omega)).mono ?_
  rintro e w3 ⟨rfl, hc, ho2⟩
  have e1 : stV 1 1 = 0 := by decide
  have e2 : stE 1 1 = 20 := by decide
  rw [e1, e2]
  clear e1 e2 hc
  have hz1 := hb1.size
  have hz2 := ho1.size
  have hfin : Below w.heap.size w w3 := (hb1.trans (ho1.below (Nat.le_refl _) hz1)).trans (ho2.below (Nat.le_refl _) (by omega))
  clear hz1 hz2 ho1 ho2 hb1
  go_wp2_with fail
  go_ret
  exact ⟨rfl, hfin⟩
end Go.Proofs.Ytcglklfkgecmhaa
