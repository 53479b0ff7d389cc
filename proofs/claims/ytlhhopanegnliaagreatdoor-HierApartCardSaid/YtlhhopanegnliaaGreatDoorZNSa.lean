import Derived.Test.YtlhhopanegnliaaGreatDoorZMLd
import Derived.RegionTactic
import Derived.ChangeAlike
import Derived.BigRegion
import Derived.Test.YtlhhopanegnliaaGreatDoorZNLc
namespace Go.Proofs.YtlhhopanegnliaaGreatDoor.Lk
open Go Go.RowKit Go.Shelf Pa
set_option maxRecDepth 100000
def lst (n : Nat) (f : Nat → Hd) : List Hd := (List.range n).map f
theorem lst_len (n : Nat) (f : Nat → Hd) : (lst n f).length = n := by simp [lst]
theorem lst_get {n : Nat} (f : Nat → Hd) {k : Nat} (h : k < (lst n f).length) : (lst n f)[k] = f k := by simp [lst]
def swF (f : Nat → Hd) (i j : Nat) : Nat → Hd := fun k => if k = j then f i else if k = i then f j else f k
theorem lst_set (n : Nat) (f : Nat → Hd) (i j : Nat) : ((lst n f).set i (f j)).set j (f i) = lst n (swF f i j) := by
  apply List.ext_getElem
  · simp [lst]
  · intro k h1 h2
    simp only [List.length_set, lst_len] at h1
    rw [List.getElem_set, List.getElem_set]
    simp only [lst_get, swF]
    by_cases e1 : k = j
    · rw [if_pos e1, if_pos e1.symm]
    · rw [if_neg e1, if_neg (fun e => e1 e.symm)]
      by_cases e2 : k = i
      · rw [if_pos e2, if_pos e2.symm]
      · rw [if_neg e2, if_neg (fun e => e2 e.symm)]
theorem lst_perm (n : Nat) (f : Nat → Hd) {i j : Nat} (hi : i < n) (hj : j < n) : (lst n (swF f i j)).Perm (lst n f) := by
  rw [← lst_set]
  have := List.set_set_perm (i := i) (j := j) (show i < (lst n f).length by rw [lst_len]; exact hi) (by rw [lst_len]; exact hj)
  rw [lst_get, lst_get] at this
  exact this
abbrev Rw (W : World) (K g n cap : Nat) (f : Nat → Hd) : Prop := Row W K (.slice (some ⟨g, 0, none⟩) n cap) (lst n f)
section
variable {W W' : World} {K g n cap : Nat} {f : Nat → Hd}
theorem Rw.at (h : Rw W K g n cap f) {k : Nat} (hk : k < n) : Pl6 W g (k * 6) (f k) := by
  have hk' : k < (lst n f).length := by rw [lst_len]; exact hk
  have := Row.at h hk'
  rw [lst_get] at this
  exact this
theorem Rw.lt (h : Rw W K g n cap f) : K ≤ g ∧ g < W.heap.size := World.ownsRow.lt h g rfl
theorem Rw.keep (h : Rw W K g n cap f) (hk : W'.heap[g]? = W.heap[g]?) : Rw W' K g n cap f := row_keep h fun b hb => by cases hb; exact hk
theorem Rw.below (h : Rw W K g n cap f) (hb : Below W.heap.size W W') : Rw W' K g n cap f := row_below h hb
theorem Rw.swap (h : Rw W K g n cap f) {i j : Nat} (hi : i < n) (hj : j < n) : Rw (put6 (put6 W g (i * 6) (f j)) g (j * 6) (f i)) K g n cap (swF f i j) := by
  have h1 := Row.put h (lst_len n f) (k := i) (by rw [lst_len]; exact hi) (f j)
  have h2 := Row.put h1 (by rw [List.length_set, lst_len]) (k := j) (by rw [List.length_set, lst_len]; exact hj) (f i)
  rw [lst_set] at h2
  exact h2
theorem swap_below (W : World) (i j : Nat) (x y : Hd) (hK : K ≤ g) (hW : K ≤ W.heap.size) : Below K W (put6 (put6 W g i x) g j y) :=
  ((put6_only W g i x).trans (put6_only _ g j y)).below (fun _ e => by rw [e]; exact hK) hW
theorem below_drewK {B : Nat} {a w : World} (h : Below B a w) (n : Nat) : Below B a (w.drewN n) := h.trans ⟨rfl, rfl, rfl, Nat.le_refl _, fun _ _ => rfl⟩
def swR (f : Nat → Hd) (a b t : Nat) : Nat → Hd := fun k => if a ≤ k ∧ k < a + t then f (k - a + b) else if b ≤ k ∧ k < b + t then f (k - b + a) else f k
theorem swR_zero (f : Nat → Hd) (a b : Nat) : swR f a b 0 = f := by
  funext k
  unfold swR
  rw [if_neg (by omega), if_neg (by omega)]
theorem swR_next (f : Nat → Hd) {a b t : Nat} (h : a + (t + 1) ≤ b ∨ b + (t + 1) ≤ a) : swF (swR f a b t) (a + t) (b + t) = swR f a b (t + 1) := by
  funext k
  unfold swF swR
  by_cases e1 : k = b + t
  · subst e1
    rw [if_pos rfl, if_neg (by omega), if_neg (by omega), if_neg (by omega), if_pos (by omega)]
    congr 1
    omega
  · rw [if_neg e1]
    by_cases e2 : k = a + t
    · subst e2
      rw [if_pos rfl, if_neg (by omega), if_neg (by omega), if_pos (by omega)]
      congr 1
      omega
    · rw [if_neg e2]
      by_cases h1 : a ≤ k ∧ k < a + t
      · have h1' : a ≤ k ∧ k < a + (t + 1) := by omega
        rw [if_pos h1, if_pos h1']
      · have h1' : ¬ (a ≤ k ∧ k < a + (t + 1)) := by omega
        rw [if_neg h1, if_neg h1']
        by_cases h2 : b ≤ k ∧ k < b + t
        · have h2' : b ≤ k ∧ k < b + (t + 1) := by omega
          rw [if_pos h2, if_pos h2']
        · have h2' : ¬ (b ≤ k ∧ k < b + (t + 1)) := by omega
          rw [if_neg h2, if_neg h2']
structure Far6 (i j : Nat) : Prop where
  n0 : ¬ i = j
  m0 : ¬ j = i
  a1 : ¬ i * 6 = j * 6 + 1
  a2 : ¬ i * 6 = j * 6 + 2
  a3 : ¬ i * 6 = j * 6 + 3
  a4 : ¬ i * 6 = j * 6 + 4
  a5 : ¬ i * 6 = j * 6 + 5
  b1 : ¬ j * 6 = i * 6 + 1
  b2 : ¬ j * 6 = i * 6 + 2
  b3 : ¬ j * 6 = i * 6 + 3
  b4 : ¬ j * 6 = i * 6 + 4
  b5 : ¬ j * 6 = i * 6 + 5
  c1 : ¬ i * 6 + 1 = j * 6
  c2 : ¬ i * 6 + 2 = j * 6
  c3 : ¬ i * 6 + 3 = j * 6
  c4 : ¬ i * 6 + 4 = j * 6
  c5 : ¬ i * 6 + 5 = j * 6
  d1 : ¬ j * 6 + 1 = i * 6
  d2 : ¬ j * 6 + 2 = i * 6
  d3 : ¬ j * 6 + 3 = i * 6
  d4 : ¬ j * 6 + 4 = i * 6
  d5 : ¬ j * 6 + 5 = i * 6
theorem far6 {i j : Nat} (h : i ≠ j) : Far6 i j := by constructor <;> omega
set_option maxHeartbeats 4000000 in
theorem swapRange_any (h : Rw W K g n cap f) (hK : K ≤ W.heap.size) {a b t : Nat} (hab : a + t ≤ b) (hb : b + t ≤ n) (hn : n ≤ 1000) (cv : Value) :
    Calls Tryz.prog 230 #[.slice (some ⟨g, 0, none⟩) n cap, .int .i64 (a : Nat), .int .i64 (b : Nat), .int .i64 (t : Nat), cv] W fun e w' =>
      e = .returned (.tuple #[]) ∧ Rw w' K g n cap (swR f a b t) ∧ (lst n (swR f a b t)).Perm (lst n f) ∧ Below K W w' := by
  have HR := Lib.hid h
  clear h
  go_enter Tryz.func230, Tryz.ntmps230
  go_wp2
  go_loopw [10] (fun u wr => ∃ s : Nat, s ≤ t ∧ u = .int .i64 s ∧ Rw wr K g n cap (swR f a b s) ∧ (lst n (swR f a b s)).Perm (lst n f) ∧ Below K W wr) (fun u _ => t - (intOf u).toNat)
  case atStart => exact ⟨0, by omega, rfl, by rw [swR_zero]; exact HR.out, by rw [swR_zero], Below.refl _ _⟩
  case round =>
    obtain ⟨s, hs, rfl, hrow, hperm, hb'⟩ := hrel
    have HRow := Lib.hid hrow
    have HP := Lib.hid hperm
    have HB := Lib.hid hb'
    clear hperm hb'
    by_cases hst : s < t
    · obtain ⟨i, hi⟩ : ∃ i, a + s = i := ⟨_, rfl⟩
      obtain ⟨j, hj⟩ : ∃ j, b + s = j := ⟨_, rfl⟩
      have i1 : (s : Int) < (t : Int) := by omega
      have ei : (a : Int) + (s : Int) = (i : Int) := by omega
      have ej : (b : Int) + (s : Int) = (j : Int) := by omega
      have hin : i < n := by omega
      have hjn : j < n := by omega
      have wi : IntKind.i64.wrap (i : Int) = (i : Int) := by rw [IntKind.wrap_i64]; omega
      have wj : IntKind.i64.wrap (j : Int) = (j : Int) := by rw [IntKind.wrap_i64]; omega
      have zi : (i : Int) < (n : Int) := by omega
      have zj : (j : Int) < (n : Int) := by omega
      go_wp2_with fail
      obtain ⟨x0, x1, x2, x3, x4, x5, p0, p1, p2, p3, p4, p5, hlg⟩ := hrow.at hin
      obtain ⟨y0, y1, y2, y3, y4, y5, q0, q1, q2, q3, q4, q5, -⟩ := hrow.at hjn
      obtain ⟨n0, m0, a1, a2, a3, a4, a5, b1, b2, b3, b4, b5, c1, c2, c3, c4, c5, d1, d2, d3, d4, d5⟩ := far6 (show i ≠ j by omega)
      obtain ⟨x, hx⟩ : ∃ x, swR f a b s i = x := ⟨_, rfl⟩
      obtain ⟨y, hy⟩ : ∃ y, swR f a b s j = y := ⟨_, rfl⟩
      rw [hx] at x0 x1 x2 x3 x4 x5
      rw [hy] at y0 y1 y2 y3 y4 y5
      have HXY : Hid (swR f a b s i = x ∧ swR f a b s j = y) := ⟨hx, hy⟩
      have HI := Lib.hid hi
      have HJ := Lib.hid hj
      clear hrow hx hy hi hj
      obtain ⟨⟨xa, xb, xc, xd, xe⟩, xm⟩ := x
      obtain ⟨⟨ya, yb, yc, yd, ye⟩, ym⟩ := y
      simp only at x0 x1 x2 x3 x4 x5 y0 y1 y2 y3 y4 y5
      go_region
      obtain ⟨w5, hw5⟩ : ∃ w5, (World.setCell (World.setCell (World.setCell (World.setCell (World.setCell (World.setCell (World.setCell (World.setCell (World.setCell (World.setCell (World.setCell (World.setCell wr ⟨g, i * 6, none⟩ (.int .i64 ya)) ⟨g, i * 6 + 1, none⟩ (.int .i64 yb)) ⟨g, i * 6 + 2, none⟩ (.int .i64 yc)) ⟨g, i * 6 + 3, none⟩ (.int .i64 yd)) ⟨g, i * 6 + 4, none⟩ (.int .i64 ye)) ⟨g, i * 6 + 5, none⟩ (.int .i64 ym)) ⟨g, j * 6, none⟩ (.int .i64 xa)) ⟨g, j * 6 + 1, none⟩ (.int .i64 xb)) ⟨g, j * 6 + 2, none⟩ (.int .i64 xc)) ⟨g, j * 6 + 3, none⟩ (.int .i64 xd)) ⟨g, j * 6 + 4, none⟩ (.int .i64 xe)) ⟨g, j * 6 + 5, none⟩ (.int .i64 xm)) = w5 := ⟨_, rfl⟩
      rw [hw5]
      have hsw := HRow.out.swap hin hjn
      rw [HXY.out.1, HXY.out.2] at hsw
      have HB' := swap_below wr (i * 6) (j * 6) (⟨ya, yb, yc, yd, ye⟩, ym) (⟨xa, xb, xc, xd, xe⟩, xm) HRow.out.lt.1 (Nat.le_trans hK HB.out.size)
      have hpe := lst_perm n (swR f a b s) hin hjn
      have hnx : swF (swR f a b s) i j = swR f a b (s + 1) := by rw [← HI.out, ← HJ.out]; exact swR_next f (by omega)
      rw [hnx] at hsw hpe
      have HSw : Hid (Rw w5 K g n cap (swR f a b (s + 1))) := by rw [← hw5]; exact hsw
      have HPe := Lib.hid (hpe.trans HP.out)
      have HBe : Hid (Below K W w5) := by rw [← hw5]; exact HB.out.trans HB'
      clear x0 x1 x2 x3 x4 x5 y0 y1 y2 y3 y4 y5 p0 p1 p2 p3 p4 p5 q0 q1 q2 q3 q4 q5 n0 m0 a1 a2 a3 a4 a5 b1 b2 b3 b4 b5 c1 c2 c3 c4 c5 d1 d2 d3 d4 d5 hsw HB' hpe hnx hw5
      go_wp2_with fail
      go_roundw
      case rel => exact ⟨s + 1, by omega, by go_num, HSw.out.keep rfl, HPe.out, below_drewK HBe.out 1⟩
      case measure => simp [intOf]; omega
    · obtain rfl : s = t := by omega
      go_wp2_with fail
      go_end0
      exact ⟨rfl, HRow.out, HP.out, HB.out⟩
end
end Go.Proofs.YtlhhopanegnliaaGreatDoor.Lk
namespace Go.Proofs.YtlhhopanegnliaaGreatDoor.Lk
open Go Go.RowKit Go.Shelf Pa
set_option maxRecDepth 100000
def rotF (f : Nat → Hd) (a m b : Nat) : Nat → Hd := fun k => if a ≤ k ∧ k < a + (b - m) then f (k + (m - a)) else if a + (b - m) ≤ k ∧ k < b then f (k - (b - m)) else f k
theorem rot_gt (g : Nat → Hd) {i j m : Nat} (hj : 0 < j) (h : j < i) (hm : i ≤ m) : rotF (swR g (m - i) m j) (m - i + j) m (m + j) = rotF g (m - i) m (m + j) := by
  funext k
  unfold rotF swR
  repeat' split
  all_goals first | omega | (congr 1; omega) | rfl
theorem rot_lt (g : Nat → Hd) {i j m : Nat} (hi : 0 < i) (h : i < j) (hm : i ≤ m) : rotF (swR g (m - i) (m + j - i) i) (m - i) m (m + (j - i)) = rotF g (m - i) m (m + j) := by
  funext k
  unfold rotF swR
  repeat' split
  all_goals first | omega | (congr 1; omega) | rfl
theorem rot_eq (g : Nat → Hd) {i m : Nat} (hm : i ≤ m) : swR g (m - i) m i = rotF g (m - i) m (m + i) := by
  funext k
  unfold rotF swR
  repeat' split
  all_goals first | omega | (congr 1; omega) | rfl
section
variable {W W' : World} {K g n cap : Nat} {f : Nat → Hd}
set_option maxHeartbeats 4000000 in
theorem rotate_any (h : Rw W K g n cap f) (hK : K ≤ W.heap.size) {a m b : Nat} (ham : a < m) (hmb : m < b) (hb : b ≤ n) (hn : n ≤ 1000) (cv : Value) :
    Calls Tryz.prog 218 #[.slice (some ⟨g, 0, none⟩) n cap, .int .i64 (a : Nat), .int .i64 (m : Nat), .int .i64 (b : Nat), cv] W fun e w' =>
      e = .returned (.tuple #[]) ∧ Rw w' K g n cap (rotF f a m b) ∧ (lst n (rotF f a m b)).Perm (lst n f) ∧ Below K W w' := by
  have HR := Lib.hid h
  clear h
  have wi : IntKind.i64.wrap ((m : Int) - (a : Int)) = ((m - a : Nat) : Int) := by rw [IntKind.wrap_i64]; omega
  have wj : IntKind.i64.wrap ((b : Int) - (m : Int)) = ((b - m : Nat) : Int) := by rw [IntKind.wrap_i64]; omega
  go_enter Tryz.func218, Tryz.ntmps218
  go_wp2
  clear wi wj
  go_loopw [10, 11] (fun u v wr => ∃ i j : Nat, ∃ q : Nat → Hd, u = .int .i64 (i : Nat) ∧ v = .int .i64 (j : Nat) ∧ 0 < i ∧ 0 < j ∧ a + i ≤ m ∧ m + j ≤ b ∧ Rw wr K g n cap q ∧ rotF q (m - i) m (m + j) = rotF f a m b ∧ (lst n q).Perm (lst n f) ∧ Below K W wr) (fun u v _ => (intOf u).toNat + (intOf v).toNat)
  case atStart => exact ⟨m - a, b - m, f, rfl, rfl, by omega, by omega, by omega, by omega, HR.out, by rw [show m - (m - a) = a by omega, show m + (b - m) = b by omega], List.Perm.refl _, Below.refl _ _⟩
  case round =>
    obtain ⟨i, j, q, rfl, rfl, hi, hj, hai, hmj, hrow, hrot, hperm, hb'⟩ := hrel
    have HRow := Lib.hid hrow
    have HRot := Lib.hid hrot
    have HP := Lib.hid hperm
    have HB := Lib.hid hb'
    clear hperm hb' hrow hrot
    obtain ⟨mi, hmi⟩ : ∃ mi, m - i = mi := ⟨_, rfl⟩
    have e1 : (m : Int) - (i : Int) = (mi : Int) := by omega
    have w1 : IntKind.i64.wrap (mi : Int) = (mi : Int) := by rw [IntKind.wrap_i64]; omega
    have HMI := Lib.hid hmi
    rw [hmi] at HRot
    by_cases hij : i = j
    · subst hij
      have HS := Lib.hid (fun cv => swapRange_any HRow.out (Nat.le_trans hK HB.out.size) (a := mi) (b := m) (t := i) (by omega) (by omega) hn cv)
      have h1 : ((i : Int) != (i : Int)) = false := by simp
      go_wp2_with fail
      refine (HS.out _).mono ?_
      rintro e w2 ⟨rfl, hr2, hp2, hb2⟩
      rw [← HMI.out, rot_eq q (by omega), HMI.out, HRot.out] at hr2 hp2
      have HR2 := Lib.hid hr2
      have HP2 := Lib.hid (hp2.trans HP.out)
      have HB2 := Lib.hid (HB.out.trans hb2)
      clear hr2 hp2 hb2
      go_wp2_with fail
      go_end0
      exact ⟨rfl, HR2.out, HP2.out, HB2.out⟩
    · have h1 : ((i : Int) != (j : Int)) = true := by simp; omega
      by_cases hgt : (j : Int) < (i : Int)
      · have HS := Lib.hid (fun cv => swapRange_any HRow.out (Nat.le_trans hK HB.out.size) (a := mi) (b := m) (t := j) (by omega) (by omega) hn cv)
        obtain ⟨ij, hd⟩ : ∃ ij, i - j = ij := ⟨_, rfl⟩
        have e2 : (i : Int) - (j : Int) = (ij : Int) := by omega
        have w2' : IntKind.i64.wrap (ij : Int) = (ij : Int) := by rw [IntKind.wrap_i64]; omega
        have HD := Lib.hid hd
        clear hmi hd
        go_wp2_with fail
        refine (HS.out _).mono ?_
        rintro e w2 ⟨rfl, hr2, hp2, hb2⟩
        have HR2 := Lib.hid hr2
        have HP2 := Lib.hid (hp2.trans HP.out)
        have HB2 := Lib.hid (HB.out.trans hb2)
        clear hr2 hp2 hb2
        go_wp2_with fail
        go_roundw
        case rel =>
          have := HD.out
          have := HMI.out
          refine ⟨ij, j, _, rfl, rfl, by omega, hj, by omega, hmj, HR2.out, ?_, HP2.out, HB2.out⟩
          rw [show m - ij = m - i + j by omega, ← HMI.out, rot_gt q hj (by omega) (by omega), HMI.out]
          exact HRot.out
        case measure => have := HD.out; simp [intOf]; omega
      · obtain ⟨ji, hd⟩ : ∃ ji, j - i = ji := ⟨_, rfl⟩
        have e2 : (j : Int) - (i : Int) = (ji : Int) := by omega
        have w2' : IntKind.i64.wrap (ji : Int) = (ji : Int) := by rw [IntKind.wrap_i64]; omega
        obtain ⟨mp, hmp⟩ : ∃ mp, m + j = mp := ⟨_, rfl⟩
        have e3 : (m : Int) + (j : Int) = (mp : Int) := by omega
        have w3 : IntKind.i64.wrap (mp : Int) = (mp : Int) := by rw [IntKind.wrap_i64]; omega
        obtain ⟨mj, hmj'⟩ : ∃ mj, mp - i = mj := ⟨_, rfl⟩
        have e4 : (mp : Int) - (i : Int) = (mj : Int) := by omega
        have w4 : IntKind.i64.wrap (mj : Int) = (mj : Int) := by rw [IntKind.wrap_i64]; omega
        have HD : Hid (j - i = ji ∧ m + j = mp ∧ mp - i = mj) := ⟨hd, hmp, hmj'⟩
        have HS := Lib.hid (fun cv => swapRange_any HRow.out (Nat.le_trans hK HB.out.size) (a := mi) (b := mj) (t := i) (by omega) (by omega) hn cv)
        clear hmi hd hmp hmj'
        go_wp2_with fail
        refine (HS.out _).mono ?_
        rintro e w2 ⟨rfl, hr2, hp2, hb2⟩
        have HR2 := Lib.hid hr2
        have HP2 := Lib.hid (hp2.trans HP.out)
        have HB2 := Lib.hid (HB.out.trans hb2)
        clear hr2 hp2 hb2
        go_wp2_with fail
        go_roundw
        case rel =>
          obtain ⟨g1, g2, g3⟩ := HD.out
          have := HMI.out
          refine ⟨i, ji, _, rfl, rfl, hi, by omega, hai, by omega, HR2.out, ?_, HP2.out, HB2.out⟩
          rw [← g1, ← g3, ← g2, ← HMI.out, rot_lt q hi (by omega) (by omega), HMI.out]
          exact HRot.out
        case measure => obtain ⟨g1, g2, g3⟩ := HD.out; simp [intOf]; omega
end
end Go.Proofs.YtlhhopanegnliaaGreatDoor.Lk
namespace Go.Proofs.YtlhhopanegnliaaGreatDoor.Lk
open Go Go.RowKit Go.Shelf Pa
set_option maxRecDepth 100000
def cmpU (x y : Hd) : Int := if x.1.e = y.1.e then (if lessB x.1 y.1 then -1 else if lessB y.1 x.1 then 1 else 0) else if y.1.e < x.1.e then -1 else 1
set_option maxHeartbeats 4000000 in
theorem upward_any (x y : Hd) (hx : rightB x.1 = true) (hy : rightB y.1 = true) (W : World) :
    Calls Tryz.prog 120 #[wv x, wv y] W fun e w' => e = .returned (.int .i64 (cmpU x y)) ∧ Below W.heap.size W w' := by
  have HX := Lib.hid (Pa.below_2 W (.cells #[.int .i64 x.1.a, .int .i64 x.1.b, .int .i64 x.1.c, .int .i64 x.1.d, .int .i64 x.1.e, .int .i64 x.2] 39) (.cells #[.int .i64 y.1.a, .int .i64 y.1.b, .int .i64 y.1.c, .int .i64 y.1.d, .int .i64 y.1.e, .int .i64 y.2] 39))
  have HM1 := Lib.hid (fun w => may_any x.1 w)
  have HM2 := Lib.hid (fun w => may_any y.1 w)
  have HL1 := Lib.hid (fun w => less_any x.1 y.1 w)
  have HL2 := Lib.hid (fun w => less_any y.1 x.1 w)
  rw [hx] at HM1
  rw [hy] at HM2
  have h1 := (LkAt.new W x).later (Go.Proofs.YtlhhopanegnliaaGreatDoor.box_below _ (.cells #[.int .i64 y.1.a, .int .i64 y.1.b, .int .i64 y.1.c, .int .i64 y.1.d, .int .i64 y.1.e, .int .i64 y.2] 39))
  have h2 := LkAt.new (W.alloc (.cells #[.int .i64 x.1.a, .int .i64 x.1.b, .int .i64 x.1.c, .int .i64 x.1.d, .int .i64 x.1.e, .int .i64 x.2] 39)) y
  simp only [show (W.alloc (.cells #[.int .i64 x.1.a, .int .i64 x.1.b, .int .i64 x.1.c, .int .i64 x.1.d, .int .i64 x.1.e, .int .i64 x.2] 39)).heap.size = W.heap.size + 1 by simp] at h2
  obtain ⟨c0, c1, c2, c3, c4, -, hl1⟩ := h1
  obtain ⟨d0, d1, d2, d3, d4, -, hl2⟩ := h2
  obtain ⟨r, hr⟩ : ∃ r, cmpU x y = r := ⟨_, rfl⟩
  rw [hr]
  have HR := Lib.hid hr
  unfold cmpU at HR
  clear hr
  obtain ⟨⟨xa, xb, xc, xd, xe⟩, xm⟩ := x
  obtain ⟨⟨ya, yb, yc, yd, ye⟩, ym⟩ := y
  simp only at *
  clear hx hy
  go_enter Tryz.func120, Tryz.ntmps120
  go_wp2_with fail
  generalize (W.alloc (.cells #[.int .i64 xa, .int .i64 xb, .int .i64 xc, .int .i64 xd, .int .i64 xe, .int .i64 xm] 39)).alloc (.cells #[.int .i64 ya, .int .i64 yb, .int .i64 yc, .int .i64 yd, .int .i64 ye, .int .i64 ym] 39) = W1 at *
  go_region
  · have hp : PtAt ((W1.alloc (.cells #[.int .i64 xa, .int .i64 xb, .int .i64 xc, .int .i64 xd, .int .i64 xe] 30)).alloc (.cells #[.int .i64 ya, .int .i64 yb, .int .i64 yc, .int .i64 yd, .int .i64 ye] 30)).drew W1.heap.size ⟨xa, xb, xc, xd, xe⟩ := PtAt.later ((PtAt.new W1 xa xb xc xd xe).alloc _) (Below.refl _ _).drew
    have hq : PtAt ((W1.alloc (.cells #[.int .i64 xa, .int .i64 xb, .int .i64 xc, .int .i64 xd, .int .i64 xe] 30)).alloc (.cells #[.int .i64 ya, .int .i64 yb, .int .i64 yc, .int .i64 yd, .int .i64 ye] 30)).drew (W1.heap.size + 1) ⟨ya, yb, yc, yd, ye⟩ := PtAt.later (by simpa using PtAt.new (boxed W1 xa xb xc xd xe) ya yb yc yd ye) (Below.refl _ _).drew
    have HB := Lib.hid (HX.out.trans ((Pa.below_2 W1 (.cells #[.int .i64 xa, .int .i64 xb, .int .i64 xc, .int .i64 xd, .int .i64 xe] 30) (.cells #[.int .i64 ya, .int .i64 yb, .int .i64 yc, .int .i64 yd, .int .i64 ye] 30)).drew.mono HX.out.size))
    generalize ((W1.alloc (.cells #[.int .i64 xa, .int .i64 xb, .int .i64 xc, .int .i64 xd, .int .i64 xe] 30)).alloc (.cells #[.int .i64 ya, .int .i64 yb, .int .i64 yc, .int .i64 yd, .int .i64 ye] 30)).drew = W2 at *
    have HPt := Lib.hid hp
    have HQt := Lib.hid hq
    obtain ⟨p0, p1, p2, p3, p4, hlp⟩ := hp
    obtain ⟨q0, q1, q2, q3, q4, hlq⟩ := hq
    simp only at p0 p1 p2 p3 p4 q0 q1 q2 q3 q4
    clear c0 c1 c2 c3 c4 d0 d1 d2 d3 d4 hl1 hl2
    by_cases hd : xe = ye
    · have hd' : (xe != ye) = false := by simp [hd]
      cases hl : lessB ⟨xa, xb, xc, xd, xe⟩ ⟨ya, yb, yc, yd, ye⟩
      · rw [hl] at HL1
        have HD := Lib.hid hd
        clear hd
        go_wp2_with fail
        refine (HL1.out _).mono ?_
        rintro e3 w3 ⟨rfl, hb3⟩
        have HB3 := Lib.hid (thenCall HB.out hb3)
        have HP3 := Lib.hid (HPt.out.later hb3)
        have HQ3 := Lib.hid (HQt.out.later hb3)
        clear hb3 p0 p1 p2 p3 p4 q0 q1 q2 q3 q4 hlp hlq
        obtain ⟨p0, p1, p2, p3, p4, hlp⟩ := HP3.out
        obtain ⟨q0, q1, q2, q3, q4, hlq⟩ := HQ3.out
        simp only at p0 p1 p2 p3 p4 q0 q1 q2 q3 q4
        go_wp2_with fail
        refine (HM1.out _).mono ?_
        rintro e4 w4 ⟨rfl, hb4⟩
        have HB4 := Lib.hid (thenCall HB3.out hb4)
        have HP4 := Lib.hid (HP3.out.later hb4)
        have HQ4 := Lib.hid (HQ3.out.later hb4)
        clear hb4 p0 p1 p2 p3 p4 q0 q1 q2 q3 q4 hlp hlq
        obtain ⟨p0, p1, p2, p3, p4, hlp⟩ := HP4.out
        obtain ⟨q0, q1, q2, q3, q4, hlq⟩ := HQ4.out
        simp only at p0 p1 p2 p3 p4 q0 q1 q2 q3 q4
        go_wp2_with fail
        refine (HM2.out _).mono ?_
        rintro e5 w5 ⟨rfl, hb5⟩
        have HB5 := Lib.hid (thenCall HB4.out hb5)
        have HP5 := Lib.hid (HP4.out.later hb5)
        have HQ5 := Lib.hid (HQ4.out.later hb5)
        clear hb5 p0 p1 p2 p3 p4 q0 q1 q2 q3 q4 hlp hlq
        obtain ⟨p0, p1, p2, p3, p4, hlp⟩ := HP5.out
        obtain ⟨q0, q1, q2, q3, q4, hlq⟩ := HQ5.out
        simp only at p0 p1 p2 p3 p4 q0 q1 q2 q3 q4
        cases hl2 : lessB ⟨ya, yb, yc, yd, ye⟩ ⟨xa, xb, xc, xd, xe⟩
        · rw [hl2] at HL2
          have HV : Hid (r = 0) := by unfold Hid; rw [← HR.out, if_pos HD.out, hl, hl2]; rfl
          go_wp2_with fail
          refine (HL2.out _).mono ?_
          rintro e6 w6 ⟨rfl, hb6⟩
          have HB6 := Lib.hid (thenCall HB5.out hb6)
          have HP6 := Lib.hid (HP5.out.later hb6)
          have HQ6 := Lib.hid (HQ5.out.later hb6)
          clear hb6 p0 p1 p2 p3 p4 q0 q1 q2 q3 q4 hlp hlq
          obtain ⟨p0, p1, p2, p3, p4, hlp⟩ := HP6.out
          obtain ⟨q0, q1, q2, q3, q4, hlq⟩ := HQ6.out
          simp only at p0 p1 p2 p3 p4 q0 q1 q2 q3 q4
          go_wp2_with fail
          refine (HM2.out _).mono ?_
          rintro e7 w7 ⟨rfl, hb7⟩
          have HB7 := Lib.hid (thenCall HB6.out hb7)
          have HP7 := Lib.hid (HP6.out.later hb7)
          clear hb7 p0 p1 p2 p3 p4 q0 q1 q2 q3 q4 hlp hlq
          obtain ⟨p0, p1, p2, p3, p4, hlp⟩ := HP7.out
          simp only at p0 p1 p2 p3 p4
          go_wp2_with fail
          refine (HM1.out _).mono ?_
          rintro e8 w8 ⟨rfl, hb8⟩
          have HB8 := Lib.hid (thenCall HB7.out hb8)
          clear hb8 p0 p1 p2 p3 p4 hlp
          go_wp2_with fail
          go_ret
          exact ⟨by rw [HV.out]; rfl, HB8.out⟩
        · rw [hl2] at HL2
          have HV : Hid (r = 1) := by unfold Hid; rw [← HR.out, if_pos HD.out, hl, hl2]; rfl
          go_wp2_with fail
          refine (HL2.out _).mono ?_
          rintro e6 w6 ⟨rfl, hb6⟩
          have HB6 := Lib.hid (thenCall HB5.out hb6)
          clear hb6 p0 p1 p2 p3 p4 q0 q1 q2 q3 q4 hlp hlq
          go_wp2_with fail
          go_ret
          exact ⟨by rw [HV.out]; rfl, HB6.out⟩
      · rw [hl] at HL1
        have HV : Hid (r = -1) := by unfold Hid; rw [← HR.out, if_pos hd, hl]; rfl
        clear hd
        go_wp2_with fail
        refine (HL1.out _).mono ?_
        rintro e3 w3 ⟨rfl, hb3⟩
        have HB3 := Lib.hid (thenCall HB.out hb3)
        clear hb3 p0 p1 p2 p3 p4 q0 q1 q2 q3 q4 hlp hlq
        go_wp2_with fail
        go_ret
        exact ⟨by rw [HV.out]; rfl, HB3.out⟩
    · have hd' : (xe != ye) = true := by simp [hd]
      by_cases hlt : ye < xe
      · have HV : Hid (r = -1) := by unfold Hid; rw [← HR.out, if_neg hd, if_pos hlt]
        have HC := Lib.hid (fun w => cmp_lt ye xe w hlt)
        clear hd hlt
        go_wp2_with fail
        refine (HC.out _).mono ?_
        rintro e3 w3 ⟨rfl, rfl⟩
        go_wp2_with fail
        go_ret
        exact ⟨by rw [HV.out]; rfl, HB.out⟩
      · have HV : Hid (r = 1) := by unfold Hid; rw [← HR.out, if_neg hd, if_neg hlt]
        have HC := Lib.hid (fun w => cmp_gt ye xe w (by omega))
        clear hd hlt
        go_wp2_with fail
        refine (HC.out _).mono ?_
        rintro e3 w3 ⟨rfl, rfl⟩
        go_wp2_with fail
        go_ret
        exact ⟨by rw [HV.out]; rfl, HB.out⟩
  · have hp : PtAt ((W1.alloc (.cells #[.int .i64 ya, .int .i64 yb, .int .i64 yc, .int .i64 yd, .int .i64 ye] 30)).alloc (.cells #[.int .i64 xa, .int .i64 xb, .int .i64 xc, .int .i64 xd, .int .i64 xe] 30)).drew (W1.heap.size + 1) ⟨xa, xb, xc, xd, xe⟩ := PtAt.later (by simpa using PtAt.new (boxed W1 ya yb yc yd ye) xa xb xc xd xe) (Below.refl _ _).drew
    have hq : PtAt ((W1.alloc (.cells #[.int .i64 ya, .int .i64 yb, .int .i64 yc, .int .i64 yd, .int .i64 ye] 30)).alloc (.cells #[.int .i64 xa, .int .i64 xb, .int .i64 xc, .int .i64 xd, .int .i64 xe] 30)).drew W1.heap.size ⟨ya, yb, yc, yd, ye⟩ := PtAt.later ((PtAt.new W1 ya yb yc yd ye).alloc _) (Below.refl _ _).drew
    have HB := Lib.hid (HX.out.trans ((Pa.below_2 W1 (.cells #[.int .i64 ya, .int .i64 yb, .int .i64 yc, .int .i64 yd, .int .i64 ye] 30) (.cells #[.int .i64 xa, .int .i64 xb, .int .i64 xc, .int .i64 xd, .int .i64 xe] 30)).drew.mono HX.out.size))
    generalize ((W1.alloc (.cells #[.int .i64 ya, .int .i64 yb, .int .i64 yc, .int .i64 yd, .int .i64 ye] 30)).alloc (.cells #[.int .i64 xa, .int .i64 xb, .int .i64 xc, .int .i64 xd, .int .i64 xe] 30)).drew = W2 at *
    have HPt := Lib.hid hp
    have HQt := Lib.hid hq
    obtain ⟨p0, p1, p2, p3, p4, hlp⟩ := hp
    obtain ⟨q0, q1, q2, q3, q4, hlq⟩ := hq
    simp only at p0 p1 p2 p3 p4 q0 q1 q2 q3 q4
    clear c0 c1 c2 c3 c4 d0 d1 d2 d3 d4 hl1 hl2
    by_cases hd : xe = ye
    · have hd' : (xe != ye) = false := by simp [hd]
      cases hl : lessB ⟨xa, xb, xc, xd, xe⟩ ⟨ya, yb, yc, yd, ye⟩
      · rw [hl] at HL1
        have HD := Lib.hid hd
        clear hd
        go_wp2_with fail
        refine (HL1.out _).mono ?_
        rintro e3 w3 ⟨rfl, hb3⟩
        have HB3 := Lib.hid (thenCall HB.out hb3)
        have HP3 := Lib.hid (HPt.out.later hb3)
        have HQ3 := Lib.hid (HQt.out.later hb3)
        clear hb3 p0 p1 p2 p3 p4 q0 q1 q2 q3 q4 hlp hlq
        obtain ⟨p0, p1, p2, p3, p4, hlp⟩ := HP3.out
        obtain ⟨q0, q1, q2, q3, q4, hlq⟩ := HQ3.out
        simp only at p0 p1 p2 p3 p4 q0 q1 q2 q3 q4
        go_wp2_with fail
        refine (HM1.out _).mono ?_
        rintro e4 w4 ⟨rfl, hb4⟩
        have HB4 := Lib.hid (thenCall HB3.out hb4)
        have HP4 := Lib.hid (HP3.out.later hb4)
        have HQ4 := Lib.hid (HQ3.out.later hb4)
        clear hb4 p0 p1 p2 p3 p4 q0 q1 q2 q3 q4 hlp hlq
        obtain ⟨p0, p1, p2, p3, p4, hlp⟩ := HP4.out
        obtain ⟨q0, q1, q2, q3, q4, hlq⟩ := HQ4.out
        simp only at p0 p1 p2 p3 p4 q0 q1 q2 q3 q4
        go_wp2_with fail
        refine (HM2.out _).mono ?_
        rintro e5 w5 ⟨rfl, hb5⟩
        have HB5 := Lib.hid (thenCall HB4.out hb5)
        have HP5 := Lib.hid (HP4.out.later hb5)
        have HQ5 := Lib.hid (HQ4.out.later hb5)
        clear hb5 p0 p1 p2 p3 p4 q0 q1 q2 q3 q4 hlp hlq
        obtain ⟨p0, p1, p2, p3, p4, hlp⟩ := HP5.out
        obtain ⟨q0, q1, q2, q3, q4, hlq⟩ := HQ5.out
        simp only at p0 p1 p2 p3 p4 q0 q1 q2 q3 q4
        cases hl2 : lessB ⟨ya, yb, yc, yd, ye⟩ ⟨xa, xb, xc, xd, xe⟩
        · rw [hl2] at HL2
          have HV : Hid (r = 0) := by unfold Hid; rw [← HR.out, if_pos HD.out, hl, hl2]; rfl
          go_wp2_with fail
          refine (HL2.out _).mono ?_
          rintro e6 w6 ⟨rfl, hb6⟩
          have HB6 := Lib.hid (thenCall HB5.out hb6)
          have HP6 := Lib.hid (HP5.out.later hb6)
          have HQ6 := Lib.hid (HQ5.out.later hb6)
          clear hb6 p0 p1 p2 p3 p4 q0 q1 q2 q3 q4 hlp hlq
          obtain ⟨p0, p1, p2, p3, p4, hlp⟩ := HP6.out
          obtain ⟨q0, q1, q2, q3, q4, hlq⟩ := HQ6.out
          simp only at p0 p1 p2 p3 p4 q0 q1 q2 q3 q4
          go_wp2_with fail
          refine (HM2.out _).mono ?_
          rintro e7 w7 ⟨rfl, hb7⟩
          have HB7 := Lib.hid (thenCall HB6.out hb7)
          have HP7 := Lib.hid (HP6.out.later hb7)
          clear hb7 p0 p1 p2 p3 p4 q0 q1 q2 q3 q4 hlp hlq
          obtain ⟨p0, p1, p2, p3, p4, hlp⟩ := HP7.out
          simp only at p0 p1 p2 p3 p4
          go_wp2_with fail
          refine (HM1.out _).mono ?_
          rintro e8 w8 ⟨rfl, hb8⟩
          have HB8 := Lib.hid (thenCall HB7.out hb8)
          clear hb8 p0 p1 p2 p3 p4 hlp
          go_wp2_with fail
          go_ret
          exact ⟨by rw [HV.out]; rfl, HB8.out⟩
        · rw [hl2] at HL2
          have HV : Hid (r = 1) := by unfold Hid; rw [← HR.out, if_pos HD.out, hl, hl2]; rfl
          go_wp2_with fail
          refine (HL2.out _).mono ?_
          rintro e6 w6 ⟨rfl, hb6⟩
          have HB6 := Lib.hid (thenCall HB5.out hb6)
          clear hb6 p0 p1 p2 p3 p4 q0 q1 q2 q3 q4 hlp hlq
          go_wp2_with fail
          go_ret
          exact ⟨by rw [HV.out]; rfl, HB6.out⟩
      · rw [hl] at HL1
        have HV : Hid (r = -1) := by unfold Hid; rw [← HR.out, if_pos hd, hl]; rfl
        clear hd
        go_wp2_with fail
        refine (HL1.out _).mono ?_
        rintro e3 w3 ⟨rfl, hb3⟩
        have HB3 := Lib.hid (thenCall HB.out hb3)
        clear hb3 p0 p1 p2 p3 p4 q0 q1 q2 q3 q4 hlp hlq
        go_wp2_with fail
        go_ret
        exact ⟨by rw [HV.out]; rfl, HB3.out⟩
    · have hd' : (xe != ye) = true := by simp [hd]
      by_cases hlt : ye < xe
      · have HV : Hid (r = -1) := by unfold Hid; rw [← HR.out, if_neg hd, if_pos hlt]
        have HC := Lib.hid (fun w => cmp_lt ye xe w hlt)
        clear hd hlt
        go_wp2_with fail
        refine (HC.out _).mono ?_
        rintro e3 w3 ⟨rfl, rfl⟩
        go_wp2_with fail
        go_ret
        exact ⟨by rw [HV.out]; rfl, HB.out⟩
      · have HV : Hid (r = 1) := by unfold Hid; rw [← HR.out, if_neg hd, if_neg hlt]
        have HC := Lib.hid (fun w => cmp_gt ye xe w (by omega))
        clear hd hlt
        go_wp2_with fail
        refine (HC.out _).mono ?_
        rintro e3 w3 ⟨rfl, rfl⟩
        go_wp2_with fail
        go_ret
        exact ⟨by rw [HV.out]; rfl, HB.out⟩
end Go.Proofs.YtlhhopanegnliaaGreatDoor.Lk
namespace Go.Proofs.YtlhhopanegnliaaGreatDoor.Lk
open Go Go.RowKit Go.Shelf Pa
set_option maxRecDepth 100000
def ltU (x y : Hd) : Bool := decide (cmpU x y < 0)
theorem ltU_iff (x y : Hd) : ltU x y = true ↔ y.1.e < x.1.e ∨ (x.1.e = y.1.e ∧ lessB x.1 y.1 = true) := by
  unfold ltU cmpU
  simp only [decide_eq_true_iff]
  by_cases h : x.1.e = y.1.e
  · rw [if_pos h]
    by_cases hl : lessB x.1 y.1 = true
    · rw [if_pos hl]
      simp [hl, h]
    · rw [if_neg hl]
      constructor
      · intro hh
        split at hh <;> omega
      · rintro (hh | ⟨-, hh⟩)
        · omega
        · exact absurd hh hl
  · rw [if_neg h]
    by_cases h2 : y.1.e < x.1.e
    · rw [if_pos h2]
      simp [h2]
    · rw [if_neg h2]
      constructor
      · intro hh
        omega
      · rintro (hh | ⟨hh, -⟩)
        · exact absurd hh h2
        · exact absurd hh h
theorem less_asym {p q : Pt} (hp : rightB p = true) (hq : rightB q = true) (h : lessB p q = true) : lessB q p = false := by
  cases hh : lessB q p
  · rfl
  · have := tree_less hp hq hp h hh
    rw [(tree_self hp).2] at this
    cases this
theorem ltU_asym {x y : Hd} (hx : rightB x.1 = true) (hy : rightB y.1 = true) (h : ltU x y = true) : ltU y x = false := by
  cases hh : ltU y x
  · rfl
  · rw [ltU_iff] at h hh
    rcases h with h | ⟨h, h2⟩
    · rcases hh with hh | ⟨hh, -⟩ <;> omega
    · rcases hh with hh | ⟨-, hh2⟩
      · omega
      · rw [less_asym hx hy h2] at hh2
        cases hh2
theorem ltU_irr {x : Hd} (hx : rightB x.1 = true) : ltU x x = false := by
  cases hh : ltU x x
  · rfl
  · have := ltU_asym hx hx hh
    rw [hh] at this
    exact this
theorem leU_tr {x y z : Hd} (hx : rightB x.1 = true) (hy : rightB y.1 = true) (hz : rightB z.1 = true) (h1 : ltU y x = false) (h2 : ltU z y = false) : ltU z x = false := by
  cases hh : ltU z x
  · rfl
  · exfalso
    have n1 : ¬ (ltU y x = true) := by rw [h1]; simp
    have n2 : ¬ (ltU z y = true) := by rw [h2]; simp
    rw [ltU_iff] at n1 n2 hh
    have e1 : ¬ x.1.e < y.1.e := fun h => n1 (.inl h)
    have e2 : ¬ y.1.e < z.1.e := fun h => n2 (.inl h)
    rcases hh with hh | ⟨he, hl⟩
    · omega
    · have ey : y.1.e = x.1.e := by omega
      have ez : z.1.e = y.1.e := by omega
      have l1 : ¬ lessB y.1 x.1 = true := fun h => n1 (.inr ⟨ey, h⟩)
      have l2 : ¬ lessB z.1 y.1 = true := fun h => n2 (.inr ⟨ez, h⟩)
      rcases tree_total hx hy with e | e
      · rw [← e] at l2
        exact l2 hl
      · have lx : lessB x.1 y.1 = true := by rw [e]; simpa using l1
        exact l2 (tree_less hz hx hy hl lx)
def Rf (n : Nat) (f : Nat → Hd) : Prop := ∀ k, k < n → rightB (f k).1 = true
theorem Rf.perm {n : Nat} {f g : Nat → Hd} (h : Rf n f) (hp : (lst n g).Perm (lst n f)) : Rf n g := by
  intro k hk
  have : g k ∈ lst n g := List.mem_map.2 ⟨k, List.mem_range.2 hk, rfl⟩
  obtain ⟨j, hj, e⟩ := List.mem_map.1 (hp.mem_iff.1 this)
  rw [← e]
  exact h j (List.mem_range.1 hj)
def Sf (f : Nat → Hd) (a b : Nat) : Prop := ∀ i j, a ≤ i → i < j → j < b → ltU (f j) (f i) = false
structure Mv (lo hi : Nat) (f g : Nat → Hd) : Prop where
  out : ∀ k, k < lo ∨ hi ≤ k → g k = f k
  ins : ∀ k, lo ≤ k → k < hi → ∃ k', lo ≤ k' ∧ k' < hi ∧ g k = f k'
theorem Mv.refl (lo hi : Nat) (f : Nat → Hd) : Mv lo hi f f := ⟨fun _ _ => rfl, fun k h1 h2 => ⟨k, h1, h2, rfl⟩⟩
theorem Mv.trans {lo hi : Nat} {f g h : Nat → Hd} (h1 : Mv lo hi f g) (h2 : Mv lo hi g h) : Mv lo hi f h :=
  ⟨fun k hk => (h2.out k hk).trans (h1.out k hk), fun k a b => by
    obtain ⟨k1, a1, b1, e1⟩ := h2.ins k a b
    obtain ⟨k2, a2, b2, e2⟩ := h1.ins k1 a1 b1
    exact ⟨k2, a2, b2, e1.trans e2⟩⟩
theorem Mv.wide {lo hi lo' hi' : Nat} {f g : Nat → Hd} (h : Mv lo hi f g) (h1 : lo' ≤ lo) (h2 : hi ≤ hi') : Mv lo' hi' f g :=
  ⟨fun k hk => h.out k (by omega), fun k a b => by
    by_cases c : lo ≤ k ∧ k < hi
    · obtain ⟨k1, a1, b1, e1⟩ := h.ins k c.1 c.2
      exact ⟨k1, by omega, by omega, e1⟩
    · exact ⟨k, a, b, h.out k (by omega)⟩⟩
theorem Mv.swap (f : Nat → Hd) {lo hi i j : Nat} (hi1 : lo ≤ i) (hi2 : i < hi) (hj1 : lo ≤ j) (hj2 : j < hi) : Mv lo hi f (swF f i j) := by
  refine ⟨fun k hk => ?_, fun k a b => ?_⟩
  · unfold swF
    rw [if_neg (by omega), if_neg (by omega)]
  · unfold swF
    split
    · exact ⟨i, hi1, hi2, rfl⟩
    · split
      · exact ⟨j, hj1, hj2, rfl⟩
      · exact ⟨k, a, b, rfl⟩
theorem Mv.rot (f : Nat → Hd) {s m e : Nat} (h1 : s ≤ m) (h2 : m ≤ e) : Mv s e f (rotF f s m e) := by
  refine ⟨fun k hk => ?_, fun k a b => ?_⟩
  · unfold rotF
    rw [if_neg (by omega), if_neg (by omega)]
  · unfold rotF
    split
    · exact ⟨_, by omega, by omega, rfl⟩
    · split
      · exact ⟨_, by omega, by omega, rfl⟩
      · exact ⟨k, a, b, rfl⟩
theorem Sf.sub {f : Nat → Hd} {a b a' b' : Nat} (h : Sf f a b) (h1 : a ≤ a') (h2 : b' ≤ b) : Sf f a' b' := fun i j x y z => h i j (by omega) y (by omega)
theorem Sf.keep {f g : Nat → Hd} {a b : Nat} (h : Sf f a b) (hk : ∀ k, a ≤ k → k < b → g k = f k) : Sf g a b := fun i j x y z => by
  rw [hk i x (by omega), hk j (by omega) z]
  exact h i j x y z
theorem Sf.le {f : Nat → Hd} {a b n : Nat} (h : Sf f a b) (hr : Rf n f) (hb : b ≤ n) {i j : Nat} (h1 : a ≤ i) (h2 : i ≤ j) (h3 : j < b) : ltU (f j) (f i) = false := by
  rcases Nat.lt_or_ge i j with hij | hij
  · exact h i j h1 hij h3
  · obtain rfl : i = j := by omega
    exact ltU_irr (hr i (by omega))
section
variable {f : Nat → Hd} {n a m b : Nat}
theorem search_mono (hr : Rf n f) (hb : b ≤ n) (h1 : Sf f a m) (h2 : Sf f m b) {p c c' : Nat} (hc : c' ≤ c) (hac : a ≤ c') (hcm : c < m) (hpm : m ≤ p - c) (hpb : p - c' < b) (h : ltU (f (p - c)) (f c) = false) : ltU (f (p - c')) (f c') = false := by
  have g1 := h1.le hr (by omega) hac hc hcm
  have g2 := h2.le hr hb (i := p - c) (j := p - c') hpm (by omega) hpb
  have r1 := hr c' (by omega)
  have r2 := hr c (by omega)
  have r3 := hr (p - c) (by omega)
  have r4 := hr (p - c') (by omega)
  exact leU_tr r1 r3 r4 (leU_tr r1 r2 r3 g1 h) g2
structure Cut (f : Nat → Hd) (a m b mid s : Nat) : Prop where
  lo : a ≤ s
  mb : mid + m ≤ s + b
  hm : s ≤ m
  hi : s ≤ mid
  no : ∀ c, a ≤ c → mid + m ≤ c + b → c < s → ltU (f (mid + m - 1 - c)) (f c) = false
  yes : ∀ c, s ≤ c → c < m → c < mid → ltU (f (mid + m - 1 - c)) (f c) = true
theorem Cut.cross {mid s : Nat} (hC : Cut f a m b mid s) (hr : Rf n f) (hb : b ≤ n) (ham : a < m) (hmb : m < b) (h1 : Sf f a m) (h2 : Sf f m b) (hmid : mid = (a + b) / 2) :
    ∀ i j, a ≤ i → i < mid → mid ≤ j → j < b → ltU (rotF f s m (mid + m - s) j) (rotF f s m (mid + m - s) i) = false := by
  intro i j hai him hmj hjb
  have := hC.lo
  have := hC.mb
  have := hC.hm
  have := hC.hi
  have ei : rotF f s m (mid + m - s) i = if i < s then f i else f (i + (m - s)) := by
    unfold rotF
    by_cases h : i < s
    · rw [if_neg (by omega), if_neg (by omega), if_pos h]
    · rw [if_pos (by omega), if_neg h]
  have ej : rotF f s m (mid + m - s) j = if j < mid + m - s then f (j - (mid - s)) else f j := by
    unfold rotF
    by_cases h : j < mid + m - s
    · rw [if_neg (by omega), if_pos (by omega), if_pos h]
      congr 1; omega
    · rw [if_neg (by omega), if_neg (by omega), if_neg h]
  rw [ei, ej]
  by_cases hi : i < s
  · rw [if_pos hi]
    by_cases hj : j < mid + m - s
    · rw [if_pos hj]
      exact h1.le hr (by omega) hai (by omega) (by omega)
    · rw [if_neg hj]
      -- what stood ahead in the first part, what stands behind in the second
      by_cases hs : mid + m ≤ (s - 1) + b
      · have hno := hC.no (s - 1) (by omega) hs (by omega)
        have e : mid + m - 1 - (s - 1) = mid + m - s := by omega
        rw [e] at hno
        have g1 := h1.le hr (by omega) (i := i) (j := s - 1) hai (by omega) (by omega)
        have g2 := h2.le hr hb (i := mid + m - s) (j := j) (by omega) (by omega) hjb
        have r1 := hr i (by omega)
        have r2 := hr (s - 1) (by omega)
        have r3 := hr (mid + m - s) (by omega)
        have r4 := hr j (by omega)
        exact leU_tr r1 r3 r4 (leU_tr r1 r2 r3 g1 hno) g2
      · exfalso; omega
  · rw [if_neg hi]
    by_cases hj : j < mid + m - s
    · rw [if_pos hj]
      by_cases hs : s < m ∧ s < mid
      · have hyes := hC.yes s (Nat.le_refl _) hs.1 hs.2
        have g1 := h1.le hr (by omega) (i := s) (j := j - (mid - s)) (by omega) (by omega) (by omega)
        have g2 := h2.le hr hb (i := i + (m - s)) (j := mid + m - 1 - s) (by omega) (by omega) (by omega)
        have r1 := hr (i + (m - s)) (by omega)
        have r2 := hr (mid + m - 1 - s) (by omega)
        have r3 := hr s (by omega)
        have r4 := hr (j - (mid - s)) (by omega)
        exact leU_tr r1 r3 r4 (leU_tr r1 r2 r3 g2 (ltU_asym r2 r3 hyes)) g1
      · exfalso; omega
    · rw [if_neg hj]
      exact h2.le hr hb (by omega) (by omega) hjb
theorem Cut.parts {mid s : Nat} (hC : Cut f a m b mid s) (h1 : Sf f a m) (h2 : Sf f m b) :
    Sf (rotF f s m (mid + m - s)) a s ∧ Sf (rotF f s m (mid + m - s)) s mid ∧ Sf (rotF f s m (mid + m - s)) mid (mid + m - s) ∧ Sf (rotF f s m (mid + m - s)) (mid + m - s) b := by
  have := hC.lo
  have := hC.mb
  have := hC.hm
  have := hC.hi
  refine ⟨(h1.sub (Nat.le_refl _) (by omega)).keep fun k x y => ?_, fun i j x y z => ?_, fun i j x y z => ?_, (h2.sub (by omega) (Nat.le_refl _)).keep fun k x y => ?_⟩
  · unfold rotF
    rw [if_neg (by omega), if_neg (by omega)]
  · unfold rotF
    rw [if_pos (by omega), if_pos (by omega)]
    exact h2 _ _ (by omega) (by omega) (by omega)
  · unfold rotF
    rw [if_neg (by omega), if_pos (by omega), if_neg (by omega), if_pos (by omega)]
    exact h1 _ _ (by omega) (by omega) (by omega)
  · unfold rotF
    rw [if_neg (by omega), if_neg (by omega)]
theorem merged {g g1 g2 : Nat → Hd} {mid : Nat} (hc : ∀ i j, a ≤ i → i < mid → mid ≤ j → j < b → ltU (g j) (g i) = false) (m1 : Mv a mid g g1) (s1 : Sf g1 a mid) (m2 : Mv mid b g1 g2) (s2 : Sf g2 mid b) : Sf g2 a b := by
  intro i j x y z
  by_cases hj : j < mid
  · rw [m2.out i (.inl (by omega)), m2.out j (.inl hj)]
    exact s1 i j x y hj
  · by_cases hi : mid ≤ i
    · exact s2 i j hi y z
    · obtain ⟨i', a1, b1, e1⟩ := m1.ins i x (by omega)
      obtain ⟨j', a2, b2, e2⟩ := m2.ins j (by omega) z
      rw [m2.out i (.inl (by omega)), e1, e2, m1.out j' (.inr a2)]
      exact hc i' j' a1 b1 a2 b2
theorem rot_none1 (f : Nat → Hd) (m e : Nat) : rotF f m m e = f := by
  funext k
  unfold rotF
  rw [Nat.sub_self, Nat.add_zero, if_neg (show ¬ (m + (e - m) ≤ k ∧ k < e) by omega)]
  split <;> rfl
theorem rot_none2 (f : Nat → Hd) (s m : Nat) : rotF f s m m = f := by
  funext k
  unfold rotF
  rw [Nat.sub_self, if_neg (by omega)]
  simp
end
end Go.Proofs.YtlhhopanegnliaaGreatDoor.Lk
namespace Go.Proofs.YtlhhopanegnliaaGreatDoor.Lk
open Go Pa
set_option maxRecDepth 100000
def Stb (l l' : List Hd) : Prop := ∀ p, l.filter (fun x => eqP x.1 p) = l'.filter (fun x => eqP x.1 p)
theorem Stb.refl (l : List Hd) : Stb l l := fun _ => rfl
theorem Stb.trans {a b c : List Hd} (h : Stb a b) (k : Stb b c) : Stb a c := fun p => (h p).trans (k p)
theorem Stb.symm {a b : List Hd} (h : Stb a b) : Stb b a := fun p => (h p).symm
instance : DecidableEq Pt := fun p q => decidable_of_iff (eqP p q = true) (eqP_iff p q)
theorem count_at (x : Hd) (l : List Hd) : l.count x = (l.filter (fun y => eqP y.1 x.1)).count x := by
  induction l with
  | nil => rfl
  | cons y l ih =>
    rw [List.filter_cons]
    by_cases e : y = x
    · subst e
      rw [if_pos (eqP_self _), List.count_cons_self, List.count_cons_self, ih]
    · rw [List.count_cons_of_ne e]
      split
      · rw [List.count_cons_of_ne e, ih]
      · exact ih
theorem Stb.perm {l l' : List Hd} (h : Stb l l') : l.Perm l' := List.perm_iff_count.2 fun x => by rw [count_at x l, count_at x l', h x.1]
theorem Stb.append {a b c d : List Hd} (h : Stb a b) (k : Stb c d) : Stb (a ++ c) (b ++ d) := fun p => by rw [List.filter_append, List.filter_append, h p, k p]
theorem stb_turn {b c : List Hd} (h : ∀ x ∈ b, ∀ y ∈ c, x.1 ≠ y.1) : Stb (c ++ b) (b ++ c) := fun p => by
  rw [List.filter_append, List.filter_append]
  by_cases hb : ∃ x ∈ b, x.1 = p
  · obtain ⟨x, hx, rfl⟩ := hb
    have e : c.filter (fun y => eqP y.1 x.1) = [] := List.filter_eq_nil_iff.2 fun y hy => by
      rw [eqP_ne (fun e => h x hx y hy e.symm)]; simp
    rw [e, List.nil_append, List.append_nil]
  · have e : b.filter (fun y => eqP y.1 p) = [] := List.filter_eq_nil_iff.2 fun y hy => by
      rw [eqP_ne (fun e => hb ⟨y, hy, e⟩)]; simp
    rw [e, List.nil_append, List.append_nil]
theorem Rf.stb {n : Nat} {f g : Nat → Hd} (h : Rf n f) (hp : Stb (lst n g) (lst n f)) : Rf n g := h.perm hp.perm
def seg (f : Nat → Hd) (i k : Nat) : List Hd := (List.range' i k).map f
theorem seg_ext {f g : Nat → Hd} {i j k : Nat} (h : ∀ x, x < k → f (i + x) = g (j + x)) : seg f i k = seg g j k := by
  apply List.ext_getElem
  · simp [seg]
  · intro x h1 h2
    simp [seg] at h1 ⊢
    exact h x h1
theorem seg_two (f : Nat → Hd) (i k l : Nat) : seg f i (k + l) = seg f i k ++ seg f (i + k) l := by
  unfold seg
  rw [← List.map_append, List.range'_append_1]
theorem lst_seg (n : Nat) (f : Nat → Hd) : lst n f = seg f 0 n := by unfold lst seg; rw [List.range_eq_range']
theorem lst_four {n s m e : Nat} (f : Nat → Hd) (h1 : s ≤ m) (h2 : m ≤ e) (h3 : e ≤ n) : lst n f = seg f 0 s ++ (seg f s (m - s) ++ seg f m (e - m)) ++ seg f e (n - e) := by
  obtain ⟨k1, rfl⟩ : ∃ k, m = s + k := ⟨m - s, by omega⟩
  obtain ⟨k2, rfl⟩ : ∃ k, e = s + k1 + k := ⟨e - (s + k1), by omega⟩
  obtain ⟨k3, rfl⟩ : ∃ k, n = s + k1 + k2 + k := ⟨n - (s + k1 + k2), by omega⟩
  rw [lst_seg, seg_two, seg_two, seg_two, Nat.zero_add, Nat.zero_add, Nat.zero_add, show s + k1 - s = k1 by omega, show s + k1 + k2 - (s + k1) = k2 by omega, show s + k1 + k2 + k3 - (s + k1 + k2) = k3 by omega]
  simp only [List.append_assoc]
theorem stb_rot {n s m e : Nat} {f : Nat → Hd} (h1 : s ≤ m) (h2 : m ≤ e) (h3 : e ≤ n) (hne : ∀ i j, s ≤ i → i < m → m ≤ j → j < e → (f i).1 ≠ (f j).1) : Stb (lst n (rotF f s m e)) (lst n f) := by
  have e1 : seg (rotF f s m e) 0 s = seg f 0 s := seg_ext fun x hx => by unfold rotF; rw [if_neg (by omega), if_neg (by omega)]
  have e2 : seg (rotF f s m e) s (e - m) = seg f m (e - m) := seg_ext fun x hx => by unfold rotF; rw [if_pos (by omega)]; congr 1; omega
  have e3 : seg (rotF f s m e) (s + (e - m)) (m - s) = seg f s (m - s) := seg_ext fun x hx => by unfold rotF; rw [if_neg (by omega), if_pos (by omega)]; congr 1; omega
  have e4 : seg (rotF f s m e) e (n - e) = seg f e (n - e) := seg_ext fun x hx => by unfold rotF; rw [if_neg (by omega), if_neg (by omega)]
  rw [lst_four (s := s) (m := s + (e - m)) (rotF f s m e) (by omega) (by omega) h3, lst_four f h1 h2 h3, e1, e4]
  rw [show s + (e - m) - s = e - m by omega, show e - (s + (e - m)) = m - s by omega, e2, e3]
  refine ((Stb.refl _).append (stb_turn fun x hx y hy => ?_)).append (Stb.refl _)
  obtain ⟨i, hi, rfl⟩ := List.mem_map.1 hx
  obtain ⟨j, hj, rfl⟩ := List.mem_map.1 hy
  rw [List.mem_range'_1] at hi hj
  exact hne i j hi.1 (by omega) hj.1 (by omega)
theorem stb_swap {n i j : Nat} {f : Nat → Hd} (hi : i < n) (hj : j < n) (hij : i = j + 1 ∨ j = i + 1) (hne : (f i).1 ≠ (f j).1) : Stb (lst n (swF f i j)) (lst n f) := by
  rcases hij with rfl | rfl
  · have e : swF f (j + 1) j = rotF f j (j + 1) (j + 2) := by
      funext k
      unfold swF rotF
      repeat' split
      all_goals first | omega | rfl | (congr 1; omega)
    rw [e]
    refine stb_rot (by omega) (by omega) (by omega) fun x y a b c d => ?_
    obtain rfl : x = j := by omega
    obtain rfl : y = x + 1 := by omega
    exact fun e => hne e.symm
  · have e : swF f i (i + 1) = rotF f i (i + 1) (i + 2) := by
      funext k
      unfold swF rotF
      repeat' split
      all_goals first | omega | rfl | (congr 1; omega)
    rw [e]
    refine stb_rot (by omega) (by omega) (by omega) fun x y a b c d => ?_
    obtain rfl : x = i := by omega
    obtain rfl : y = x + 1 := by omega
    exact hne
theorem ltU_ne {x y : Hd} (h : ltU x y = true) : x.1 ≠ y.1 := by
  intro e
  rcases (ltU_iff x y).1 h with h1 | ⟨-, h1⟩
  · rw [e] at h1; omega
  · rw [e] at h1
    unfold lessB at h1
    rw [cmpL_self] at h1
    simp at h1
theorem Cut.stb {n a m b mid s : Nat} {f : Nat → Hd} (hC : Cut f a m b mid s) (hr : Rf n f) (hb : b ≤ n) (h1 : Sf f a m) (h2 : Sf f m b) : Stb (lst n (rotF f s m (mid + m - s))) (lst n f) := by
  have l1 := hC.lo
  have l2 := hC.mb
  have l3 := hC.hm
  have l4 := hC.hi
  refine stb_rot l3 (by omega) (by omega) fun i j x1 x2 y1 y2 => ?_
  have hy := hC.yes s (Nat.le_refl _) (by omega) (by omega)
  have hi := h1.le hr (by omega) (i := s) (j := i) l1 x1 x2
  have hj := h2.le hr hb (i := j) (j := mid + m - 1 - s) y1 (by omega) (by omega)
  cases hh : ltU (f j) (f i)
  · have := leU_tr (hr s (by omega)) (hr j (by omega)) (hr (mid + m - 1 - s) (by omega)) (leU_tr (hr s (by omega)) (hr i (by omega)) (hr j (by omega)) hi hh) hj
    rw [this] at hy
    cases hy
  · exact fun e => ltU_ne hh e.symm
end Go.Proofs.YtlhhopanegnliaaGreatDoor.Lk
