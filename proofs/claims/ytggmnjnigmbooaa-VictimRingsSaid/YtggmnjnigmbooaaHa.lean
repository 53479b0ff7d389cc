/- Whether a number stands in a list, by the document; where a number stands in a row that rises, by the library. -/
import Derived.Test.YtggmnjnigmbooaaGn
namespace Go.Proofs.Ytggmnjnigmbooaa
open Go Go.RowKit Go.Shelf
set_option maxRecDepth 100000

section
variable {W : World} {A : Option Addr} {c : Nat} {xs : List Int}
theorem nan_any (x : Int) (W : World) : Calls Try.prog 58 #[.int .i64 x] W fun e w' => e = .returned (.bool false) ∧ W = w' := by
  go_enter Try.func58, Try.ntmps58
  go_wp2
  go_ret
  exact ⟨rfl, rfl⟩
theorem nan2_any (x : Int) (W : World) : Calls Try.prog 45 #[.int .i64 x] W fun e w' => e = .returned (.bool false) ∧ W = w' := by
  go_enter Try.func45, Try.ntmps45
  go_wp2
  go_ret
  exact ⟨rfl, rfl⟩
theorem cmpless_any (x y : Int) (W : World) : Calls Try.prog 44 #[.int .i64 x, .int .i64 y] W fun e w' => e = .returned (.bool (decide (x < y))) ∧ W = w' := by
  have HN := Lib.hid (fun x W => nan_any x W)
  by_cases h : x < y
  · have HV := Lib.hid (show decide (x < y) = true by simpa using h)
    go_enter Try.func44, Try.ntmps44
    go_wp2_with (go_at_call 58; refine (HN.out _ _).mono ?_; rintro e w1 ⟨rfl, rfl⟩)
    go_ret
    exact ⟨by rw [HV.out]; rfl, rfl⟩
  · have HV := Lib.hid (show decide (x < y) = false by simpa using h)
    go_enter Try.func44, Try.ntmps44
    go_wp2_with (go_at_call 58; refine (HN.out _ _).mono ?_; rintro e w1 ⟨rfl, rfl⟩)
    go_ret
    exact ⟨by rw [HV.out]; rfl, rfl⟩
/-- where a number stands in a row that rises, if it stands in it -/
def Found (xs : List Int) (x : Int) (v : Value) : Prop := ∃ i : Nat, (v = .tuple #[.int .i64 i, .bool true] ∧ ∃ h : i < xs.length, xs[i] = x) ∨ (v = .tuple #[.int .i64 i, .bool false] ∧ x ∉ xs)
/-- all ahead of i are less, all from j on are not -/
structure Bs (xs : List Int) (x : Int) (i j : Nat) : Prop where
  le : i ≤ j
  low : ∀ k (h : k < xs.length), k < i → xs[k] < x
  high : ∀ k (h : k < xs.length), j ≤ k → x ≤ xs[k]
theorem Bs.up {xs : List Int} (hs : Od.Asc Is.ltI xs) {x : Int} {i j h : Nat} (b : Bs xs x i j) (hh : h < xs.length) (hj : h < j) (e : xs[h] < x) : Bs xs x (h + 1) j :=
  ⟨hj, fun k hk hlt => by
    rcases Nat.lt_or_ge k h with q | q
    · have := List.pairwise_iff_getElem.1 hs k h hk hh q
      simp only [Is.ltI, decide_eq_true_iff] at this
      omega
    · obtain rfl : k = h := by omega
      exact e, b.high⟩
theorem Bs.down {xs : List Int} (hs : Od.Asc Is.ltI xs) {x : Int} {i j h : Nat} (b : Bs xs x i j) (hh : h < xs.length) (hi : i ≤ h) (e : ¬ xs[h] < x) : Bs xs x i h :=
  ⟨hi, b.low, fun k hk hle => by
    rcases Nat.lt_or_ge h k with q | q
    · have := List.pairwise_iff_getElem.1 hs h k hh hk q
      simp only [Is.ltI, decide_eq_true_iff] at this
      omega
    · obtain rfl : k = h := by omega
      omega⟩
theorem Bs.not {xs : List Int} (hs : Od.Asc Is.ltI xs) {x : Int} {i : Nat} (b : Bs xs x i i) (hn : ∀ h : i < xs.length, xs[i] ≠ x) : x ∉ xs := by
  intro hm
  obtain ⟨k, hk, e⟩ := List.getElem_of_mem hm
  rcases Nat.lt_trichotomy k i with q | q | q
  · have := b.low k hk q; omega
  · subst q; exact hn hk e
  · have h1 : i < xs.length := by omega
    have h2 := b.high i h1 (Nat.le_refl _)
    have h3 := List.pairwise_iff_getElem.1 hs i k h1 hk q
    simp only [Is.ltI, decide_eq_true_iff] at h3
    omega
set_option maxHeartbeats 2000000 in
theorem search_any (h : Is.Ls W A c xs) (hl : xs.length ≤ 1000000) (hs : Od.Asc Is.ltI xs) (x : Int) : Calls Try.prog 33 #[.slice A xs.length c, .int .i64 x] W fun e w' => (∃ v, e = .returned v ∧ Found xs x v) ∧ Below W.heap.size W w' := by
  have H1 := Lib.hid h
  have HS := Lib.hid hs
  have HC := Lib.hid (fun x y W => cmpless_any x y W)
  clear h hs
  obtain ⟨n, hn⟩ : ∃ n, xs.length = n := ⟨_, rfl⟩
  rw [hn] at hl ⊢
  have HN := Lib.hid hn
  clear hn
  go_enter Try.func33, Try.ntmps33
  go_wp2
  go_loopw [7, 8] (fun s t wr => ∃ i j : Nat, s = .int .i64 i ∧ t = .int .i64 j ∧ j ≤ n ∧ wr = W ∧ Bs xs x i j) (fun s t _ => (intOf t).toNat - (intOf s).toNat)
  case atStart => exact ⟨0, n, rfl, rfl, by omega, rfl, by omega, fun k h h' => by omega, fun k h h' => by have := HN.out; omega⟩
  case round =>
    obtain ⟨i, j, rfl, rfl, hj, rfl, hb⟩ := hrel
    have HB := Lib.hid hb
    have hij := hb.le
    clear hb
    by_cases hlt : i < j
    · obtain ⟨h, hh⟩ : ∃ h : Nat, ((i : Int) + (j : Int)) / 2 = (h : Int) := ⟨(i + j) / 2, by omega⟩
      have hih : i ≤ h := by omega
      have hhj : h < j := by omega
      have hhn : h < n := by omega
      have hhl : h < xs.length := by rw [HN.out]; omega
      obtain ⟨g1, rfl, a0⟩ := H1.out.here hhl
      obtain ⟨y, hy⟩ : ∃ y, xs[h] = y := ⟨_, rfl⟩
      rw [hy] at a0
      by_cases hyx : y < x
      · have HQ := Lib.hid (HB.out.up HS.out hhl hhj (by rw [hy]; exact hyx))
        have HV := Lib.hid (show decide (y < x) = true by simpa using hyx)
        clear hhl hy hyx
        go_wp2_with fail
        refine (HC.out _ _ _).mono ?_
        rintro e w1 ⟨rfl, rfl⟩
        rw [HV.out]
        go_wp2_with fail
        go_roundw
        case rel => exact ⟨h + 1, j, by go_num, rfl, by omega, trivial, HQ.out⟩
        case measure => simp [intOf]; omega
      · have HQ := Lib.hid (HB.out.down HS.out hhl hih (by rw [hy]; exact hyx))
        have HV := Lib.hid (show decide (y < x) = false by simpa using hyx)
        clear hhl hy hyx
        go_wp2_with fail
        refine (HC.out _ _ _).mono ?_
        rintro e w1 ⟨rfl, rfl⟩
        rw [HV.out]
        go_wp2_with fail
        go_roundw
        case rel => exact ⟨i, h, rfl, rfl, by omega, trivial, HQ.out⟩
        case measure => simp [intOf]; omega
    · obtain rfl : i = j := by omega
      by_cases hin : i < n
      · have hil : i < xs.length := by rw [HN.out]; exact hin
        obtain ⟨g1, rfl, a0⟩ := H1.out.here hil
        obtain ⟨y, hy⟩ : ∃ y, xs[i] = y := ⟨_, rfl⟩
        rw [hy] at a0
        by_cases hyx : y = x
        · have HF := Lib.hid (show Found xs x (.tuple #[.int .i64 i, .bool true]) from ⟨i, .inl ⟨rfl, hil, hy.trans hyx⟩⟩)
          subst hyx
          clear hil hy HB
          go_wp2_with fail
          go_ret2
          exact ⟨⟨.tuple #[.int .i64 i, .bool true], rfl, HF.out⟩, Below.refl _ _⟩
        · have HF := Lib.hid (show Found xs x (.tuple #[.int .i64 i, .bool false]) from ⟨i, .inr ⟨rfl, HB.out.not HS.out fun h => by rw [hy]; exact hyx⟩⟩)
          have hyx' : (y == x) = false := by simpa using hyx
          clear hil hy HB hyx
          go_wp2_with fail
          refine (nan2_any _ _).mono ?_
          rintro e w1 ⟨rfl, rfl⟩
          go_wp2_with fail
          go_ret2
          exact ⟨⟨.tuple #[.int .i64 i, .bool false], rfl, HF.out⟩, Below.refl _ _⟩
      · have HF := Lib.hid (show Found xs x (.tuple #[.int .i64 i, .bool false]) from ⟨i, .inr ⟨rfl, HB.out.not HS.out fun h => by have := HN.out; omega⟩⟩)
        clear HB
        go_wp2_with fail
        go_ret2
        exact ⟨⟨.tuple #[.int .i64 i, .bool false], rfl, HF.out⟩, Below.refl _ _⟩
/-- ways, as a value: the numbers of the places, and where each leads -/
abbrev wayV (A1 : Option Addr) (n1 c1 : Nat) (A2 : Option Addr) (n2 c2 : Nat) : Value := .agg #[.slice A1 n1 c1, .slice A2 n2 c2]
theorem place_any {A2 : Option Addr} {n2 c2 : Nat} (h : Is.Ls W A c xs) (hl : xs.length ≤ 1000000) (hs : Od.Asc Is.ltI xs) (x : Int) :
    Calls Try.prog 24 #[wayV A xs.length c A2 n2 c2, .int .i64 x] W fun e w' => (∃ v, e = .returned v ∧ Found xs x v) ∧ Below W.heap.size W w' := by
  have hb := box_below W (.cells #[.slice A xs.length c, .slice A2 n2 c2] 48)
  have HB := Lib.hid hb
  have HS := Lib.hid (search_any (h.below hb) hl hs x)
  obtain ⟨n, hn⟩ : ∃ n, xs.length = n := ⟨_, rfl⟩
  rw [hn] at hl HB HS ⊢
  clear hn h hs hb
  go_enter Try.func24, Try.ntmps24
  go_wp2_with fail
  refine (HS.out).mono ?_
  rintro e w1 ⟨⟨v, rfl, i, hf⟩, hb1⟩
  have HB1 := Lib.hid (HB.out.trans (hb1.mono HB.out.size))
  clear HS HB hb1
  rcases hf with ⟨rfl, hf⟩ | ⟨rfl, hf⟩
  · go_wp2_with fail
    go_ret2
    exact ⟨⟨.tuple #[.int .i64 i, .bool true], rfl, i, .inl ⟨rfl, hf⟩⟩, HB1.out⟩
  · go_wp2_with fail
    go_ret2
    exact ⟨⟨.tuple #[.int .i64 i, .bool false], rfl, i, .inr ⟨rfl, hf⟩⟩, HB1.out⟩
end
end Go.Proofs.Ytggmnjnigmbooaa
