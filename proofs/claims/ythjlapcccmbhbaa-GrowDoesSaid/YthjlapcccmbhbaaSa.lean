/- Rows of locks as functions; two places exchanged; ranges exchanged. -/
import Derived.Test.YthjlapcccmbhbaaLg
import Derived.RegionTactic
import Derived.ChangeAlike
import Derived.BigRegion
namespace Go.Proofs.Ythjlapcccmbhbaa.Lk
open Go Go.RowKit Go.Shelf Pa
set_option maxRecDepth 100000

/-- the first n of a row that is told place by place -/
def lst (n : Nat) (f : Nat → Hd) : List Hd := (List.range n).map f
theorem lst_len (n : Nat) (f : Nat → Hd) : (lst n f).length = n := by simp [lst]
theorem lst_get {n : Nat} (f : Nat → Hd) {k : Nat} (h : k < (lst n f).length) : (lst n f)[k] = f k := by simp [lst]
theorem lst_ext {n : Nat} {f g : Nat → Hd} (h : ∀ k, k < n → f k = g k) : lst n f = lst n g := List.map_congr_left fun k hk => h k (List.mem_range.1 hk)
/-- two places exchanged -/
def swF (f : Nat → Hd) (i j : Nat) : Nat → Hd := fun k => if k = j then f i else if k = i then f j else f k
theorem lst_set (n : Nat) (f : Nat → Hd) (i j : Nat) : ((lst n f).set i (f j)).set j (f i) = lst n (swF f i j) := by
  apply List.ext_getElem
  · simp [lst]
  · intro k h1 h2
    simp only [List.length_set, lst_len] at h1
    rw [List.getElem_set, List.getElem_set]
    simp only [lst_get, swF]
    by_cases e1 : k = j
    · rw [if_pos e1, if_pos e1.symm]
    · rw [if_neg e1, if_neg (fun e => e1 e.symm)]
      by_cases e2 : k = i
      · rw [if_pos e2, if_pos e2.symm]
      · rw [if_neg e2, if_neg (fun e => e2 e.symm)]
theorem lst_perm (n : Nat) (f : Nat → Hd) {i j : Nat} (hi : i < n) (hj : j < n) : (lst n (swF f i j)).Perm (lst n f) := by
  rw [← lst_set]
  have := List.set_set_perm (i := i) (j := j) (show i < (lst n f).length by rw [lst_len]; exact hi) (by rw [lst_len]; exact hj)
  rw [lst_get, lst_get] at this
  exact this
/-- a row of one's own -/
abbrev Rw (W : World) (K g n cap : Nat) (f : Nat → Hd) : Prop := Row W K (.slice (some ⟨g, 0, none⟩) n cap) (lst n f)
section
variable {W W' : World} {K g n cap : Nat} {f : Nat → Hd}
theorem Rw.at (h : Rw W K g n cap f) {k : Nat} (hk : k < n) : Pl6 W g (k * 6) (f k) := by
  have hk' : k < (lst n f).length := by rw [lst_len]; exact hk
  have := Row.at h hk'
  rw [lst_get] at this
  exact this
theorem Rw.lt (h : Rw W K g n cap f) : K ≤ g ∧ g < W.heap.size := World.ownsRow.lt h g rfl
theorem Rw.keep (h : Rw W K g n cap f) (hk : W'.heap[g]? = W.heap[g]?) : Rw W' K g n cap f := row_keep h fun b hb => by cases hb; exact hk
theorem Rw.below (h : Rw W K g n cap f) (hb : Below W.heap.size W W') : Rw W' K g n cap f := row_below h hb
theorem Rw.swap (h : Rw W K g n cap f) {i j : Nat} (hi : i < n) (hj : j < n) : Rw (put6 (put6 W g (i * 6) (f j)) g (j * 6) (f i)) K g n cap (swF f i j) := by
  have h1 := Row.put h (lst_len n f) (k := i) (by rw [lst_len]; exact hi) (f j)
  have h2 := Row.put h1 (by rw [List.length_set, lst_len]) (k := j) (by rw [List.length_set, lst_len]; exact hj) (f i)
  rw [lst_set] at h2
  exact h2
theorem swap_below (W : World) (i j : Nat) (x y : Hd) (hK : K ≤ g) (hW : K ≤ W.heap.size) : Below K W (put6 (put6 W g i x) g j y) :=
  ((put6_only W g i x).trans (put6_only _ g j y)).below (fun _ e => by rw [e]; exact hK) hW
theorem below_drewK {B : Nat} {a w : World} (h : Below B a w) (n : Nat) : Below B a (w.drewN n) := h.trans ⟨rfl, rfl, rfl, Nat.le_refl _, fun _ _ => rfl⟩
/-- ranges exchanged -/
def swR (f : Nat → Hd) (a b t : Nat) : Nat → Hd := fun k => if a ≤ k ∧ k < a + t then f (k - a + b) else if b ≤ k ∧ k < b + t then f (k - b + a) else f k
theorem swR_zero (f : Nat → Hd) (a b : Nat) : swR f a b 0 = f := by
  funext k
  unfold swR
  rw [if_neg (by omega), if_neg (by omega)]
theorem swR_next (f : Nat → Hd) {a b t : Nat} (h : a + (t + 1) ≤ b ∨ b + (t + 1) ≤ a) : swF (swR f a b t) (a + t) (b + t) = swR f a b (t + 1) := by
  funext k
  unfold swF swR
  by_cases e1 : k = b + t
  · subst e1
    rw [if_pos rfl, if_neg (by omega), if_neg (by omega), if_neg (by omega), if_pos (by omega)]
    congr 1
    omega
  · rw [if_neg e1]
    by_cases e2 : k = a + t
    · subst e2
      rw [if_pos rfl, if_neg (by omega), if_neg (by omega), if_pos (by omega)]
      congr 1
      omega
    · rw [if_neg e2]
      by_cases h1 : a ≤ k ∧ k < a + t
      · have h1' : a ≤ k ∧ k < a + (t + 1) := by omega
        rw [if_pos h1, if_pos h1']
      · have h1' : ¬ (a ≤ k ∧ k < a + (t + 1)) := by omega
        rw [if_neg h1, if_neg h1']
        by_cases h2 : b ≤ k ∧ k < b + t
        · have h2' : b ≤ k ∧ k < b + (t + 1) := by omega
          rw [if_pos h2, if_pos h2']
        · have h2' : ¬ (b ≤ k ∧ k < b + (t + 1)) := by omega
          rw [if_neg h2, if_neg h2']
/-- offsets of two places never meet -/
structure Far6 (i j : Nat) : Prop where
  n0 : ¬ i = j
  m0 : ¬ j = i
  a1 : ¬ i * 6 = j * 6 + 1
  a2 : ¬ i * 6 = j * 6 + 2
  a3 : ¬ i * 6 = j * 6 + 3
  a4 : ¬ i * 6 = j * 6 + 4
  a5 : ¬ i * 6 = j * 6 + 5
  b1 : ¬ j * 6 = i * 6 + 1
  b2 : ¬ j * 6 = i * 6 + 2
  b3 : ¬ j * 6 = i * 6 + 3
  b4 : ¬ j * 6 = i * 6 + 4
  b5 : ¬ j * 6 = i * 6 + 5
  c1 : ¬ i * 6 + 1 = j * 6
  c2 : ¬ i * 6 + 2 = j * 6
  c3 : ¬ i * 6 + 3 = j * 6
  c4 : ¬ i * 6 + 4 = j * 6
  c5 : ¬ i * 6 + 5 = j * 6
  d1 : ¬ j * 6 + 1 = i * 6
  d2 : ¬ j * 6 + 2 = i * 6
  d3 : ¬ j * 6 + 3 = i * 6
  d4 : ¬ j * 6 + 4 = i * 6
  d5 : ¬ j * 6 + 5 = i * 6
theorem far6 {i j : Nat} (h : i ≠ j) : Far6 i j := by constructor <;> omega
set_option maxHeartbeats 4000000 in
theorem swapRange_any (h : Rw W K g n cap f) (hK : K ≤ W.heap.size) {a b t : Nat} (hab : a + t ≤ b) (hb : b + t ≤ n) (hn : n ≤ 1000) (cv : Value) :
    Calls Try.prog 81 #[.slice (some ⟨g, 0, none⟩) n cap, .int .i64 (a : Nat), .int .i64 (b : Nat), .int .i64 (t : Nat), cv] W fun e w' =>
      e = .returned (.tuple #[]) ∧ Rw w' K g n cap (swR f a b t) ∧ (lst n (swR f a b t)).Perm (lst n f) ∧ Below K W w' := by
  have HR := Lib.hid h
  clear h
  go_enter Try.func81, Try.ntmps81
  go_wp2
  go_loopw [10] (fun u wr => ∃ s : Nat, s ≤ t ∧ u = .int .i64 s ∧ Rw wr K g n cap (swR f a b s) ∧ (lst n (swR f a b s)).Perm (lst n f) ∧ Below K W wr) (fun u _ => t - (intOf u).toNat)
  case atStart => exact ⟨0, by omega, rfl, by rw [swR_zero]; exact HR.out, by rw [swR_zero], Below.refl _ _⟩
  case round =>
    obtain ⟨s, hs, rfl, hrow, hperm, hb'⟩ := hrel
    have HRow := Lib.hid hrow
    have HP := Lib.hid hperm
    have HB := Lib.hid hb'
    clear hperm hb'
    by_cases hst : s < t
    · obtain ⟨i, hi⟩ : ∃ i, a + s = i := ⟨_, rfl⟩
      obtain ⟨j, hj⟩ : ∃ j, b + s = j := ⟨_, rfl⟩
      have i1 : (s : Int) < (t : Int) := by omega
      have ei : (a : Int) + (s : Int) = (i : Int) := by omega
      have ej : (b : Int) + (s : Int) = (j : Int) := by omega
      have hin : i < n := by omega
      have hjn : j < n := by omega
      have wi : IntKind.i64.wrap (i : Int) = (i : Int) := by rw [IntKind.wrap_i64]; omega
      have wj : IntKind.i64.wrap (j : Int) = (j : Int) := by rw [IntKind.wrap_i64]; omega
      have zi : (i : Int) < (n : Int) := by omega
      have zj : (j : Int) < (n : Int) := by omega
      go_wp2_with fail
      obtain ⟨x0, x1, x2, x3, x4, x5, p0, p1, p2, p3, p4, p5, hlg⟩ := hrow.at hin
      obtain ⟨y0, y1, y2, y3, y4, y5, q0, q1, q2, q3, q4, q5, -⟩ := hrow.at hjn
      obtain ⟨n0, m0, a1, a2, a3, a4, a5, b1, b2, b3, b4, b5, c1, c2, c3, c4, c5, d1, d2, d3, d4, d5⟩ := far6 (show i ≠ j by omega)
      obtain ⟨x, hx⟩ : ∃ x, swR f a b s i = x := ⟨_, rfl⟩
      obtain ⟨y, hy⟩ : ∃ y, swR f a b s j = y := ⟨_, rfl⟩
      rw [hx] at x0 x1 x2 x3 x4 x5
      rw [hy] at y0 y1 y2 y3 y4 y5
      have HXY : Hid (swR f a b s i = x ∧ swR f a b s j = y) := ⟨hx, hy⟩
      have HI := Lib.hid hi
      have HJ := Lib.hid hj
      clear hrow hx hy hi hj
      obtain ⟨⟨xa, xb, xc, xd, xe⟩, xm⟩ := x
      obtain ⟨⟨ya, yb, yc, yd, ye⟩, ym⟩ := y
      simp only at x0 x1 x2 x3 x4 x5 y0 y1 y2 y3 y4 y5
      go_region
      obtain ⟨w5, hw5⟩ : ∃ w5, (World.setCell (World.setCell (World.setCell (World.setCell (World.setCell (World.setCell (World.setCell (World.setCell (World.setCell (World.setCell (World.setCell (World.setCell wr ⟨g, i * 6, none⟩ (.int .i64 ya)) ⟨g, i * 6 + 1, none⟩ (.int .i64 yb)) ⟨g, i * 6 + 2, none⟩ (.int .i64 yc)) ⟨g, i * 6 + 3, none⟩ (.int .i64 yd)) ⟨g, i * 6 + 4, none⟩ (.int .i64 ye)) ⟨g, i * 6 + 5, none⟩ (.int .i64 ym)) ⟨g, j * 6, none⟩ (.int .i64 xa)) ⟨g, j * 6 + 1, none⟩ (.int .i64 xb)) ⟨g, j * 6 + 2, none⟩ (.int .i64 xc)) ⟨g, j * 6 + 3, none⟩ (.int .i64 xd)) ⟨g, j * 6 + 4, none⟩ (.int .i64 xe)) ⟨g, j * 6 + 5, none⟩ (.int .i64 xm)) = w5 := ⟨_, rfl⟩
      rw [hw5]
      have hsw := HRow.out.swap hin hjn
      rw [HXY.out.1, HXY.out.2] at hsw
      have HB' := swap_below wr (i * 6) (j * 6) (⟨ya, yb, yc, yd, ye⟩, ym) (⟨xa, xb, xc, xd, xe⟩, xm) HRow.out.lt.1 (Nat.le_trans hK HB.out.size)
      have hpe := lst_perm n (swR f a b s) hin hjn
      have hnx : swF (swR f a b s) i j = swR f a b (s + 1) := by rw [← HI.out, ← HJ.out]; exact swR_next f (by omega)
      rw [hnx] at hsw hpe
      have HSw : Hid (Rw w5 K g n cap (swR f a b (s + 1))) := by rw [← hw5]; exact hsw
      have HPe := Lib.hid (hpe.trans HP.out)
      have HBe : Hid (Below K W w5) := by rw [← hw5]; exact HB.out.trans HB'
      clear x0 x1 x2 x3 x4 x5 y0 y1 y2 y3 y4 y5 p0 p1 p2 p3 p4 p5 q0 q1 q2 q3 q4 q5 n0 m0 a1 a2 a3 a4 a5 b1 b2 b3 b4 b5 c1 c2 c3 c4 c5 d1 d2 d3 d4 d5 hsw HB' hpe hnx hw5
      go_wp2_with fail
      go_roundw
      case rel => exact ⟨s + 1, by omega, by go_num, HSw.out.keep rfl, HPe.out, below_drewK HBe.out 1⟩
      case measure => simp [intOf]; omega
    · obtain rfl : s = t := by omega
      go_wp2_with fail
      go_end0
      exact ⟨rfl, HRow.out, HP.out, HB.out⟩
end
end Go.Proofs.Ythjlapcccmbhbaa.Lk
