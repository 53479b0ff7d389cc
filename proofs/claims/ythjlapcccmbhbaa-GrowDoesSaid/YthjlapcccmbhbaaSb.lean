/- A range turned round a place. -/
import Derived.Test.YthjlapcccmbhbaaSa
namespace Go.Proofs.Ythjlapcccmbhbaa.Lk
open Go Go.RowKit Go.Shelf Pa
set_option maxRecDepth 100000

/-- what stands from a to m goes behind what stands from m to b -/
def rotF (f : Nat → Hd) (a m b : Nat) : Nat → Hd := fun k => if a ≤ k ∧ k < a + (b - m) then f (k + (m - a)) else if a + (b - m) ≤ k ∧ k < b then f (k - (b - m)) else f k
theorem rot_gt (g : Nat → Hd) {i j m : Nat} (hj : 0 < j) (h : j < i) (hm : i ≤ m) : rotF (swR g (m - i) m j) (m - i + j) m (m + j) = rotF g (m - i) m (m + j) := by
  funext k
  unfold rotF swR
  repeat' split
  all_goals first | omega | (congr 1; omega) | rfl
theorem rot_lt (g : Nat → Hd) {i j m : Nat} (hi : 0 < i) (h : i < j) (hm : i ≤ m) : rotF (swR g (m - i) (m + j - i) i) (m - i) m (m + (j - i)) = rotF g (m - i) m (m + j) := by
  funext k
  unfold rotF swR
  repeat' split
  all_goals first | omega | (congr 1; omega) | rfl
theorem rot_eq (g : Nat → Hd) {i m : Nat} (hm : i ≤ m) : swR g (m - i) m i = rotF g (m - i) m (m + i) := by
  funext k
  unfold rotF swR
  repeat' split
  all_goals first | omega | (congr 1; omega) | rfl
section
variable {W W' : World} {K g n cap : Nat} {f : Nat → Hd}
set_option maxHeartbeats 4000000 in
theorem rotate_any (h : Rw W K g n cap f) (hK : K ≤ W.heap.size) {a m b : Nat} (ham : a < m) (hmb : m < b) (hb : b ≤ n) (hn : n ≤ 1000) (cv : Value) :
    Calls Try.prog 80 #[.slice (some ⟨g, 0, none⟩) n cap, .int .i64 (a : Nat), .int .i64 (m : Nat), .int .i64 (b : Nat), cv] W fun e w' =>
      e = .returned (.tuple #[]) ∧ Rw w' K g n cap (rotF f a m b) ∧ (lst n (rotF f a m b)).Perm (lst n f) ∧ Below K W w' := by
  have HR := Lib.hid h
  clear h
  have wi : IntKind.i64.wrap ((m : Int) - (a : Int)) = ((m - a : Nat) : Int) := by rw [IntKind.wrap_i64]; omega
  have wj : IntKind.i64.wrap ((b : Int) - (m : Int)) = ((b - m : Nat) : Int) := by rw [IntKind.wrap_i64]; omega
  go_enter Try.func80, Try.ntmps80
  go_wp2
  clear wi wj
  go_loopw [10, 11] (fun u v wr => ∃ i j : Nat, ∃ q : Nat → Hd, u = .int .i64 (i : Nat) ∧ v = .int .i64 (j : Nat) ∧ 0 < i ∧ 0 < j ∧ a + i ≤ m ∧ m + j ≤ b ∧ Rw wr K g n cap q ∧ rotF q (m - i) m (m + j) = rotF f a m b ∧ (lst n q).Perm (lst n f) ∧ Below K W wr) (fun u v _ => (intOf u).toNat + (intOf v).toNat)
  case atStart => exact ⟨m - a, b - m, f, rfl, rfl, by omega, by omega, by omega, by omega, HR.out, by rw [show m - (m - a) = a by omega, show m + (b - m) = b by omega], List.Perm.refl _, Below.refl _ _⟩
  case round =>
    obtain ⟨i, j, q, rfl, rfl, hi, hj, hai, hmj, hrow, hrot, hperm, hb'⟩ := hrel
    have HRow := Lib.hid hrow
    have HRot := Lib.hid hrot
    have HP := Lib.hid hperm
    have HB := Lib.hid hb'
    clear hperm hb' hrow hrot
    obtain ⟨mi, hmi⟩ : ∃ mi, m - i = mi := ⟨_, rfl⟩
    have e1 : (m : Int) - (i : Int) = (mi : Int) := by omega
    have w1 : IntKind.i64.wrap (mi : Int) = (mi : Int) := by rw [IntKind.wrap_i64]; omega
    have HMI := Lib.hid hmi
    rw [hmi] at HRot
    by_cases hij : i = j
    · subst hij
      have HS := Lib.hid (fun cv => swapRange_any HRow.out (Nat.le_trans hK HB.out.size) (a := mi) (b := m) (t := i) (by omega) (by omega) hn cv)
      have h1 : ((i : Int) != (i : Int)) = false := by simp
      go_wp2_with fail
      refine (HS.out _).mono ?_
      rintro e w2 ⟨rfl, hr2, hp2, hb2⟩
      rw [← HMI.out, rot_eq q (by omega), HMI.out, HRot.out] at hr2 hp2
      have HR2 := Lib.hid hr2
      have HP2 := Lib.hid (hp2.trans HP.out)
      have HB2 := Lib.hid (HB.out.trans hb2)
      clear hr2 hp2 hb2
      go_wp2_with fail
      go_end0
      exact ⟨rfl, HR2.out, HP2.out, HB2.out⟩
    · have h1 : ((i : Int) != (j : Int)) = true := by simp; omega
      by_cases hgt : (j : Int) < (i : Int)
      · have HS := Lib.hid (fun cv => swapRange_any HRow.out (Nat.le_trans hK HB.out.size) (a := mi) (b := m) (t := j) (by omega) (by omega) hn cv)
        obtain ⟨ij, hd⟩ : ∃ ij, i - j = ij := ⟨_, rfl⟩
        have e2 : (i : Int) - (j : Int) = (ij : Int) := by omega
        have w2' : IntKind.i64.wrap (ij : Int) = (ij : Int) := by rw [IntKind.wrap_i64]; omega
        have HD := Lib.hid hd
        clear hmi hd
        go_wp2_with fail
        refine (HS.out _).mono ?_
        rintro e w2 ⟨rfl, hr2, hp2, hb2⟩
        have HR2 := Lib.hid hr2
        have HP2 := Lib.hid (hp2.trans HP.out)
        have HB2 := Lib.hid (HB.out.trans hb2)
        clear hr2 hp2 hb2
        go_wp2_with fail
        go_roundw
        case rel =>
          have := HD.out
          have := HMI.out
          refine ⟨ij, j, _, rfl, rfl, by omega, hj, by omega, hmj, HR2.out, ?_, HP2.out, HB2.out⟩
          rw [show m - ij = m - i + j by omega, ← HMI.out, rot_gt q hj (by omega) (by omega), HMI.out]
          exact HRot.out
        case measure => have := HD.out; simp [intOf]; omega
      · obtain ⟨ji, hd⟩ : ∃ ji, j - i = ji := ⟨_, rfl⟩
        have e2 : (j : Int) - (i : Int) = (ji : Int) := by omega
        have w2' : IntKind.i64.wrap (ji : Int) = (ji : Int) := by rw [IntKind.wrap_i64]; omega
        obtain ⟨mp, hmp⟩ : ∃ mp, m + j = mp := ⟨_, rfl⟩
        have e3 : (m : Int) + (j : Int) = (mp : Int) := by omega
        have w3 : IntKind.i64.wrap (mp : Int) = (mp : Int) := by rw [IntKind.wrap_i64]; omega
        obtain ⟨mj, hmj'⟩ : ∃ mj, mp - i = mj := ⟨_, rfl⟩
        have e4 : (mp : Int) - (i : Int) = (mj : Int) := by omega
        have w4 : IntKind.i64.wrap (mj : Int) = (mj : Int) := by rw [IntKind.wrap_i64]; omega
        have HD : Hid (j - i = ji ∧ m + j = mp ∧ mp - i = mj) := ⟨hd, hmp, hmj'⟩
        have HS := Lib.hid (fun cv => swapRange_any HRow.out (Nat.le_trans hK HB.out.size) (a := mi) (b := mj) (t := i) (by omega) (by omega) hn cv)
        clear hmi hd hmp hmj'
        go_wp2_with fail
        refine (HS.out _).mono ?_
        rintro e w2 ⟨rfl, hr2, hp2, hb2⟩
        have HR2 := Lib.hid hr2
        have HP2 := Lib.hid (hp2.trans HP.out)
        have HB2 := Lib.hid (HB.out.trans hb2)
        clear hr2 hp2 hb2
        go_wp2_with fail
        go_roundw
        case rel =>
          obtain ⟨g1, g2, g3⟩ := HD.out
          have := HMI.out
          refine ⟨i, ji, _, rfl, rfl, hi, by omega, hai, by omega, HR2.out, ?_, HP2.out, HB2.out⟩
          rw [← g1, ← g3, ← g2, ← HMI.out, rot_lt q hi (by omega) (by omega), HMI.out]
          exact HRot.out
        case measure => obtain ⟨g1, g2, g3⟩ := HD.out; simp [intOf]; omega
end
end Go.Proofs.Ythjlapcccmbhbaa.Lk
