/- The contracts of the library's comparisons, and of the function that says whether a node is less than another. -/
import Derived.Test.YtmlljgijbffepaaK1
namespace Go.Proofs.Ytmlljgijbffepaa
open Go Go.RowKit

theorem nan_any (n : Int) (w : World) : Calls Try.prog 31 #[.int .i64 n] w fun e w' => e = .returned (.bool false) ∧ w = w' := by
  go_enter Try.func31, Try.ntmps31
  go_wp2
  go_ret
  exact ⟨rfl, rfl⟩
theorem cmp_lt (a b : Int) (w : World) (h : a < b) : Calls Try.prog 30 #[.int .i64 a, .int .i64 b] w fun e w' => e = .returned (.int .i64 (-1)) ∧ w = w' := by
  go_enter Try.func30, Try.ntmps30
  go_wp2_with (go_at_call 31; ((with_reducible refine (nan_any _ _).mono ?_); rintro e w' ⟨rfl, rfl⟩))
  go_ret
  exact ⟨rfl, rfl⟩
theorem cmp_gt (a b : Int) (w : World) (h : b < a) : Calls Try.prog 30 #[.int .i64 a, .int .i64 b] w fun e w' => e = .returned (.int .i64 1) ∧ w = w' := by
  have h' : ¬ a < b := by omega
  go_enter Try.func30, Try.ntmps30
  go_wp2_with (go_at_call 31; ((with_reducible refine (nan_any _ _).mono ?_); rintro e w' ⟨rfl, rfl⟩))
  go_ret
  exact ⟨rfl, rfl⟩
theorem cmp_eq (a : Int) (w : World) : Calls Try.prog 30 #[.int .i64 a, .int .i64 a] w fun e w' => e = .returned (.int .i64 0) ∧ w = w' := by
  go_enter Try.func30, Try.ntmps30
  go_wp2_with (go_at_call 31; ((with_reducible refine (nan_any _ _).mono ?_); rintro e w' ⟨rfl, rfl⟩))
  go_ret
  exact ⟨rfl, rfl⟩

def cmpL : List Int → List Int → Int
  | [], [] => 0
  | [], _ :: _ => -1
  | _ :: _, [] => 1
  | x :: r, y :: q => if x < y then -1 else if y < x then 1 else cmpL r q

def InCells (w : World) (B : Nat) (l : List Int) : Prop := ∀ i (h : i < l.length), w.cell? ⟨B, i, none⟩ = some (.int .i64 l[i])

theorem drop_cons (l : List Int) (k : Nat) (h : k < l.length) : l.drop k = l[k] :: l.drop (k + 1) := List.drop_eq_getElem_cons h
section
variable {l q : List Int} {k : Nat}
theorem cmpL_long (h : k < l.length) (h2 : q.length ≤ k) : cmpL (l.drop k) (q.drop k) = 1 := by
  rw [drop_cons l k h, List.drop_of_length_le h2]; rfl
theorem cmpL_lt (h : k < l.length) (h2 : k < q.length) (hv : l[k] < q[k]) : cmpL (l.drop k) (q.drop k) = -1 := by
  rw [drop_cons l k h, drop_cons q k h2, cmpL, if_pos hv]
theorem cmpL_gt (h : k < l.length) (h2 : k < q.length) (hv : q[k] < l[k]) : cmpL (l.drop k) (q.drop k) = 1 := by
  rw [drop_cons l k h, drop_cons q k h2, cmpL, if_neg (by omega), if_pos hv]
theorem cmpL_on (h : k < l.length) (h2 : k < q.length) (hv : l[k] = q[k]) : cmpL (l.drop k) (q.drop k) = cmpL (l.drop (k + 1)) (q.drop (k + 1)) := by
  rw [drop_cons l k h, drop_cons q k h2, cmpL, if_neg (by omega), if_neg (by omega)]
theorem cmpL_end (h : k = l.length) (h2 : k < q.length) : cmpL (l.drop k) (q.drop k) = -1 := by
  rw [drop_cons q k h2, List.drop_of_length_le (by omega)]; rfl
theorem cmpL_same (h : k = l.length) (h2 : k = q.length) : cmpL (l.drop k) (q.drop k) = 0 := by
  rw [List.drop_of_length_le (by omega), List.drop_of_length_le (by omega)]; rfl
end
def CRel (l q : List Int) (i : Value) : Prop := ∃ k : Nat, i = .int .i64 (k : Nat) ∧ k ≤ l.length ∧ k ≤ q.length ∧ cmpL (l.drop k) (q.drop k) = cmpL l q

set_option maxHeartbeats 1000000 in
theorem compare_any (l q : List Int) (B C : Nat) (w : World) (hl : l.length ≤ 4) (hq : q.length ≤ 4) (h1 : InCells w B l) (h2 : InCells w C q) :
    Calls Try.prog 28 #[.slice (some ⟨B, 0, none⟩) l.length 4, .slice (some ⟨C, 0, none⟩) q.length 4] w fun e w' => e = .returned (.int .i64 (cmpL l q)) ∧ w = w' := by
  have H1 := Lib.hid h1; clear h1
  have H2 := Lib.hid h2; clear h2
  go_enter Try.func28, Try.ntmps28
  go_wp2
  go_loop [11] (fun i => CRel l q i) (fun i => l.length - (intOf i).toNat)
  case atStart => exact ⟨0, rfl, by omega, by omega, rfl⟩
  case round =>
    obtain ⟨k, rfl, hk1, hk2, hE⟩ := hrel
    have HE := Lib.hid hE; clear hE
    by_cases hlt : k < l.length
    · have c1 := H1.out k hlt
      by_cases hlt2 : k < q.length
      · have c2 := H2.out k hlt2
        obtain ⟨x, hx⟩ : ∃ x, l[k] = x := ⟨_, rfl⟩
        obtain ⟨y, hy⟩ : ∃ y, q[k] = y := ⟨_, rfl⟩
        rw [hx] at c1
        rw [hy] at c2
        by_cases hv : x < y
        · have HC := Lib.hid (cmpL_lt hlt hlt2 (by rw [hx, hy]; exact hv)); clear hx hy
          go_wp2_with (go_at_call 30; ((with_reducible refine (cmp_lt _ _ _ hv).mono ?_); rintro e w' ⟨rfl, rfl⟩))
          go_ret
          exact ⟨ret_int (by rw [← HE.out, HC.out]), rfl⟩
        · by_cases hv2 : y < x
          · have HC := Lib.hid (cmpL_gt hlt hlt2 (by rw [hx, hy]; exact hv2)); clear hx hy
            go_wp2_with (go_at_call 30; ((with_reducible refine (cmp_gt _ _ _ hv2).mono ?_); rintro e w' ⟨rfl, rfl⟩))
            go_ret
            exact ⟨ret_int (by rw [← HE.out, HC.out]), rfl⟩
          · obtain rfl : x = y := by omega
            have HC := Lib.hid (cmpL_on hlt hlt2 (by rw [hx, hy])); clear hx hy hv hv2
            go_wp2_with (go_at_call 30; ((with_reducible refine (cmp_eq _ _).mono ?_); rintro e w' ⟨rfl, rfl⟩))
            go_round
            case rel => exact ⟨k + 1, by go_num, by omega, by omega, HC.out.symm.trans HE.out⟩
            case measure => simp [intOf]; omega
      · have HC := Lib.hid (cmpL_long hlt (by omega : q.length ≤ k))
        have hge : (q.length : Int) ≤ (k : Int) := by omega
        go_wp2
        go_ret
        exact ⟨ret_int (by rw [← HE.out, HC.out]), rfl⟩
    · by_cases hlt2 : k < q.length
      · have HC := Lib.hid (cmpL_end (by omega : k = l.length) hlt2)
        have hlen : (l.length : Int) < (q.length : Int) := by omega
        go_wp2
        go_ret
        exact ⟨ret_int (by rw [← HE.out, HC.out]), rfl⟩
      · have HC := Lib.hid (cmpL_same (by omega : k = l.length) (by omega : k = q.length))
        have hlen : ¬ (l.length : Int) < (q.length : Int) := by omega
        go_wp2
        go_ret
        exact ⟨ret_int (by rw [← HE.out, HC.out]), rfl⟩

/-- the numbers of a node -/
def numsP (p : Pt) : List Int := [p.a, p.b, p.c, p.d].take p.e.toNat
def lessB (p q : Pt) : Bool := rightB p && rightB q && decide (cmpL (numsP p) (numsP q) < 0)

theorem take_cells {w' : World} {B k : Nat} {a b c d : Int} (h0 : w'.cell? ⟨B, 0, none⟩ = some (.int .i64 a)) (h1 : w'.cell? ⟨B, 1, none⟩ = some (.int .i64 b)) (h2 : w'.cell? ⟨B, 2, none⟩ = some (.int .i64 c)) (h3 : w'.cell? ⟨B, 3, none⟩ = some (.int .i64 d)) :
    InCells w' B ([a, b, c, d].take k) := by
  intro i h
  simp only [List.length_take, List.length_cons, List.length_nil] at h
  rw [List.getElem_take]
  rcases (by omega : i = 0 ∨ i = 1 ∨ i = 2 ∨ i = 3) with rfl | rfl | rfl | rfl
  · exact h0
  · exact h1
  · exact h2
  · exact h3
theorem take_len {k : Nat} {a b c d : Int} (h : k ≤ 4) : ([a, b, c, d].take k).length = k := by simp; omega
theorem compare_g {w : World} {a b c d a' b' c' d' : Int} {k k' : Nat} (h : k ≤ 4) (h' : k' ≤ 4) :
    Gives (boxed (boxed w a b c d k) a' b' c' d' k') 28 #[.slice (some ⟨w.heap.size, 0, none⟩) k 4, .slice (some ⟨w.heap.size + 1, 0, none⟩) k' 4] (.int .i64 (cmpL ([a, b, c, d].take k) ([a', b', c', d'].take k'))) := by
  intro w' hb
  obtain ⟨h1, _⟩ := kept hb
  have i1 : InCells w' w.heap.size ([a, b, c, d].take k) := by
    apply take_cells
    all_goals rw [h1 _ _ (by simp; omega)]
    all_goals simp [go_sem]
  have i2 : InCells w' (w.heap.size + 1) ([a', b', c', d'].take k') := by
    apply take_cells
    all_goals rw [h1 _ _ (by simp)]
    all_goals simp [go_sem]
  have := compare_any _ _ _ _ w' (by rw [take_len h]; exact h) (by rw [take_len h']; exact h') i1 i2
  rw [take_len h, take_len h'] at this
  exact this.mono fun _ _ ⟨he, hw⟩ => ⟨he, hw ▸ hb⟩

set_option maxHeartbeats 2000000 in
theorem less_any (p q : Pt) (w : World) :
    Calls Try.prog 18 #[p.v, q.v] w fun e w' => e = .returned (.bool (lessB p q)) ∧ Below w.heap.size w w' := by
  obtain ⟨a, b, c, d, e⟩ := p
  obtain ⟨a', b', c', d', e'⟩ := q
  cases hr : rightB ⟨a, b, c, d, e⟩
  · have gp := may_g (w := (boxed (boxed w a b c d e) a' b' c' d' e')) hr
    have HV := Lib.hid (show lessB ⟨a, b, c, d, e⟩ ⟨a', b', c', d', e'⟩ = false by simp [lessB, hr])
    clear hr
    go_enter Try.func18, Try.ntmps18
    go_wp2
    refine wp_region_later (boxed (boxed w a b c d e) a' b' c' d' e') (by kernel_rfl) (by kernel_rfl) (Below.refl _ _) ?_
    repeat (go_big_quiet_step (((first | go_at_call 22 | go_at_call 28); exact Gives.later (by with_reducible assumption))))
    refine wpQuiet_nil ?_
    rintro _ ⟨⟨w1, hb1⟩, rfl⟩
    go_wp2
    go_ret
    exact ⟨ret_bool HV.out.symm, below_past hb1⟩
  · cases hq : rightB ⟨a', b', c', d', e'⟩
    · have gp := may_g (w := (boxed (boxed w a b c d e) a' b' c' d' e')) hr
      have gq := may_g (w := (boxed (boxed w a b c d e) a' b' c' d' e')) hq
      have HV := Lib.hid (show lessB ⟨a, b, c, d, e⟩ ⟨a', b', c', d', e'⟩ = false by simp [lessB, hq])
      clear hr hq
      go_enter Try.func18, Try.ntmps18
      go_wp2
      refine wp_region_later (boxed (boxed w a b c d e) a' b' c' d' e') (by kernel_rfl) (by kernel_rfl) (Below.refl _ _) ?_
      repeat (go_big_quiet_step (((first | go_at_call 22 | go_at_call 28); exact Gives.later (by with_reducible assumption))))
      refine wpQuiet_nil ?_
      rintro _ ⟨⟨w1, hb1⟩, rfl⟩
      go_wp2
      go_ret
      exact ⟨ret_bool HV.out.symm, below_past hb1⟩
    · have hd := right_depth hr
      have hd' := right_depth hq
      simp only at hd hd'
      obtain ⟨k, rfl⟩ : ∃ k : Nat, e = k := ⟨e.toNat, by omega⟩
      obtain ⟨k', rfl⟩ : ∃ k' : Nat, e' = k' := ⟨e'.toNat, by omega⟩
      have hk : k ≤ 4 := by omega
      have hk' : k' ≤ 4 := by omega
      have gp := may_g (w := (boxed (boxed w a b c d k) a' b' c' d' k')) hr
      have gq := may_g (w := (boxed (boxed w a b c d k) a' b' c' d' k')) hq
      have gc := compare_g (w := w) (a := a) (b := b) (c := c) (d := d) (a' := a') (b' := b') (c' := c') (d' := d') hk hk'
      have HV := Lib.hid (show lessB ⟨a, b, c, d, k⟩ ⟨a', b', c', d', k'⟩ = decide (cmpL ([a, b, c, d].take k) ([a', b', c', d'].take k') < 0) by unfold lessB; rw [hr, hq]; rfl)
      have i1 : (0 : Int) ≤ (k : Int) := by omega
      have i2 : (k : Int) ≤ 4 := by omega
      have i3 : (0 : Int) ≤ (k' : Int) := by omega
      have i4 : (k' : Int) ≤ 4 := by omega
      clear hr hq hd hd'
      generalize cmpL ([a, b, c, d].take k) ([a', b', c', d'].take k') = z at *
      go_enter Try.func18, Try.ntmps18
      go_wp2
      refine wp_region_later (boxed (boxed w a b c d k) a' b' c' d' k') (by kernel_rfl) (by kernel_rfl) (Below.refl _ _) ?_
      repeat (go_big_quiet_step (((first | go_at_call 22 | go_at_call 28); exact Gives.later (by with_reducible assumption))))
      refine wpQuiet_nil ?_
      rintro _ ⟨⟨w1, hb1⟩, rfl⟩
      go_wp2
      go_ret
      exact ⟨ret_bool HV.out.symm, below_past hb1⟩
end Go.Proofs.Ytmlljgijbffepaa
