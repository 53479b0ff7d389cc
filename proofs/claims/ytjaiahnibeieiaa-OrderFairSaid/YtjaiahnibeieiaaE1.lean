/- The document's Fair and Gap. -/
import Derived.Test.YtjaiahnibeieiaaD6
namespace Go.Proofs.Ytjaiahnibeieiaa
open Go Go.RowKit

/-- whether x is one of j places from a on -/
def hasB (z : Nat → Int) (a : Nat) : Nat → Int → Bool
  | 0, _ => false
  | j + 1, x => hasB z a j x || decide (x = z (a + j))
theorem hasB_iff {z : Nat → Int} {a : Nat} {x : Int} (j : Nat) : hasB z a j x = true ↔ ∃ i, a ≤ i ∧ i < a + j ∧ z i = x := by
  induction j with
  | zero =>
    show false = true ↔ _
    constructor
    · intro h; cases h
    · rintro ⟨i, h1, h2, -⟩; omega
  | succ j ih =>
    show (hasB z a j x || decide (x = z (a + j))) = true ↔ _
    rw [Bool.or_eq_true, ih, decide_eq_true_eq]
    constructor
    · rintro (⟨i, h1, h2, h3⟩ | h)
      · exact ⟨i, h1, by omega, h3⟩
      · exact ⟨a + j, by omega, by omega, h.symm⟩
    · rintro ⟨i, h1, h2, h3⟩
      by_cases e : i = a + j
      · subst e; exact .inr h3.symm
      · exact .inl ⟨i, h1, by omega, h3⟩
theorem rfair_less {A : Option Addr} {L c : Nat} (n w : Int) (W : World) (h : n < 1 ∨ w < n) : Calls Try.prog 15 #[.slice A L c, .int .i64 n, .int .i64 w] W fun e w' => e = .returned (.bool false) ∧ W = w' := by
  by_cases h1 : n < 1
  · go_enter Try.func15, Try.ntmps15
    go_wp2
    go_ret
    exact ⟨rfl, rfl⟩
  · have h2 : w < n := by omega
    go_enter Try.func15, Try.ntmps15
    go_wp2
    go_ret
    exact ⟨rfl, rfl⟩
theorem rfair_great {A : Option Addr} {L c : Nat} (n w : Int) (W : World) (h : ¬ (n < 1 ∨ w < n)) (h2 : (L : Int) < w) (hL : L ≤ 1000) : Calls Try.prog 15 #[.slice A L c, .int .i64 n, .int .i64 w] W fun e w' => e = .returned (.bool true) ∧ W = w' := by
  have h3 : ¬ n < 1 := by omega
  have h4 : ¬ w < n := by omega
  clear h
  go_enter Try.func15, Try.ntmps15
  go_wp2
  go_loopw [7] (fun t wr => t = .int .i64 0 ∧ wr = W) (fun _ _ => 0)
  case atStart => exact ⟨rfl, rfl⟩
  case round =>
    obtain ⟨rfl, rfl⟩ := hrel
    by_cases hl0 : 0 < L
    · have d1 : ¬ w ≤ (L : Int) := by omega
      go_wp2
      go_ret
      exact ⟨rfl, rfl⟩
    · obtain rfl : L = 0 := by omega
      go_wp2
      go_ret
      exact ⟨rfl, rfl⟩
set_option maxHeartbeats 4000000 in
theorem rfair_in {ad : Addr} {L c N V : Nat} {z : Nat → Int} (W : World) (hz : Rf W (some ad) L z) (hc : L ≤ c) (h1 : 1 ≤ N) (h2 : N ≤ V) (h3 : V ≤ L) (hL : L ≤ 1000) :
    Calls Try.prog 15 #[.slice (some ad) L c, .int .i64 (N : Int), .int .i64 (V : Int)] W fun e w' => e = .returned (.bool (fairI z L (N : Int) (V : Int))) ∧ W = w' := by
  have HF := Lib.hid (fair_wins (z := z) (L := L) h1 h2 h3)
  have HZ := Lib.hid hz
  generalize fairI z L (N : Int) (V : Int) = fb at HF
  clear hz
  have d1 : ¬ (N : Int) < 1 := by omega
  have d2 : ¬ (V : Int) < (N : Int) := by omega
  go_enter Try.func15, Try.ntmps15
  go_wp2
  go_loopw [7] (fun t wr => wr = W ∧ ∃ a : Nat, a ≤ L ∧ t = .int .i64 a ∧ ∀ x : Nat, x < N → ∀ a' : Nat, a' < a → a' + V ≤ L → ∃ i, a' ≤ i ∧ i < a' + V ∧ z i = (x : Int)) (fun t _ => L - (intOf t).toNat)
  case atStart => exact ⟨rfl, 0, by omega, rfl, fun _ _ a' h => by omega⟩
  case round =>
    obtain ⟨rfl, a, ha, rfl, hw⟩ := hrel
    have HW := Lib.hid hw
    clear hw
    have hsub : IntKind.i64.wrap ((L : Int) - (a : Int)) = (L : Int) - (a : Int) := wrap_small (by omega) (by omega)
    by_cases hin : a + V ≤ L
    · have e1 : (a : Int) < (L : Int) := by omega
      have e2 : (V : Int) ≤ (L : Int) - (a : Int) := by omega
      go_wp2
      go_loopw [8] (fun t wr2 => wr2 = wr ∧ ∃ x : Nat, x ≤ N ∧ t = .int .i64 x ∧ ∀ x' : Nat, x' < x → ∃ i, a ≤ i ∧ i < a + V ∧ z i = (x' : Int)) (fun t _ => N - (intOf t).toNat)
      case atStart => exact ⟨rfl, 0, by omega, rfl, fun x' h => by omega⟩
      case round =>
        obtain ⟨rfl, x, hx, rfl, hxw⟩ := hrel
        have HX := Lib.hid hxw
        clear hxw
        by_cases hxN : x < N
        · have hadd : IntKind.i64.wrap ((a : Int) + (V : Int)) = (a : Int) + (V : Int) := wrap_small (by omega) (by omega)
          go_wp2
          go_loopw [45, 9] (fun t b wr3 => wr3 = wr ∧ ∃ j : Nat, j ≤ V ∧ t = .int .i64 j ∧ b = .bool (hasB z a j (x : Int))) (fun t _ _ => V - (intOf t).toNat)
          case atStart => exact ⟨rfl, 0, by omega, rfl, rfl⟩
          case round =>
            obtain ⟨rfl, j, hj, rfl, rfl⟩ := hrel
            by_cases hjV : j < V
            · obtain ⟨ad', e, -, q⟩ := HZ.out (a + j) (by omega)
              cases e
              have q' : wr.cell? ((ad.add a).add j) = some (.int .i64 (z (a + j))) := by rw [Addr.add_add]; exact q
              have hjj : j < a + V - a := by omega
              have HN : hasB z a (j + 1) (x : Int) = (hasB z a j (x : Int) || decide ((x : Int) = z (a + j))) := rfl
              have HH := Lib.hid HN
              clear q HN
              generalize z (a + j) = y at q' HH
              cases hb : hasB z a j (x : Int) with
              | true =>
                rw [hb, Bool.true_or] at HH
                clear hb
                go_wp2
                go_roundw
                case rel => exact ⟨by simp, j + 1, by omega, by go_num, by rw [HH.out]⟩
                case measure => simp [intOf]; omega
              | false =>
                rw [hb, Bool.false_or] at HH
                clear hb
                by_cases hxy : (x : Int) = y
                · rw [decide_eq_true hxy] at HH
                  have e3 : ((x : Int) == y) = true := by simp [hxy]
                  go_wp2
                  go_roundw
                  case rel => exact ⟨by simp, j + 1, by omega, by go_num, by rw [HH.out]⟩
                  case measure => simp [intOf]; omega
                · rw [decide_eq_false hxy] at HH
                  have e3 : ((x : Int) == y) = false := by simp [hxy]
                  go_wp2
                  go_roundw
                  case rel => exact ⟨by simp, j + 1, by omega, by go_num, by rw [HH.out]⟩
                  case measure => simp [intOf]; omega
            · obtain rfl : j = V := by omega
              have HB := Lib.hid (hasB_iff (z := z) (a := a) (x := (x : Int)) j)
              cases hb : hasB z a j (x : Int) with
              | true =>
                rw [hb] at HB
                clear hb
                go_wp2
                go_roundw
                case rel =>
                  refine ⟨by simp, x + 1, by omega, by go_num, fun x' hx' => ?_⟩
                  by_cases e : x' = x
                  · subst e; exact HB.out.1 rfl
                  · exact HX.out x' (by omega)
                case measure => simp [intOf]; omega
              | false =>
                rw [hb] at HB
                clear hb
                go_wp2
                go_ret
                refine ⟨?_, rfl⟩
                cases hfb : fb with
                | false => rfl
                | true =>
                  exfalso
                  have := HB.out.2 (HF.out.1 hfb x hxN a hin)
                  cases this
        · obtain rfl : x = N := by omega
          go_wp2
          go_roundw
          case rel =>
            refine ⟨by simp, a + 1, by omega, by go_num, fun x hx a' ha' hv => ?_⟩
            by_cases e : a' = a
            · subst e; exact HX.out x hx
            · exact HW.out x hx a' (by omega) hv
          case measure => simp [intOf]; omega
    · by_cases haL : a < L
      · have e2 : ¬ (V : Int) ≤ (L : Int) - (a : Int) := by omega
        go_wp2
        go_ret
        refine ⟨?_, rfl⟩
        rw [HF.out.2 (fun x hx a' hv => HW.out x hx a' (by omega) hv)]
        rfl
      · obtain rfl : a = L := by omega
        go_wp2
        go_ret
        refine ⟨?_, rfl⟩
        rw [HF.out.2 (fun x hx a' hv => HW.out x hx a' (by omega) hv)]
        rfl
theorem rfair_any {A : Option Addr} {L c : Nat} {z : Nat → Int} (n w : Int) (W : World) (hz : Rf W A L z) (hc : L ≤ c) (hL : L ≤ 1000) : Calls Try.prog 15 #[.slice A L c, .int .i64 n, .int .i64 w] W fun e w' => e = .returned (.bool (fairI z L n w)) ∧ W = w' := by
  by_cases h : n < 1 ∨ w < n
  · rw [fair_less h]; exact rfair_less n w W h
  · by_cases h2 : (L : Int) < w
    · rw [fair_great h h2]; exact rfair_great n w W h h2 hL
    · obtain ⟨N, rfl⟩ : ∃ N : Nat, n = N := ⟨n.toNat, by omega⟩
      obtain ⟨V, rfl⟩ : ∃ V : Nat, w = V := ⟨w.toNat, by omega⟩
      obtain ⟨ad, rfl, -, -⟩ := hz 0 (by omega)
      exact rfair_in W hz hc (by omega) (by omega) (by omega) hL
theorem rgap_any {A : Option Addr} {L c : Nat} {z : Nat → Int} (n : Int) (W : World) (hz : Rf W A L z) (hc : L ≤ c) (hL : L ≤ 1000) : Calls Try.prog 17 #[.slice A L c, .int .i64 n] W fun e w' => e = .returned (.int .i64 (gapI z L n)) ∧ W = w' := by
  by_cases h : n < 1
  · rw [show gapI z L n = 0 from if_pos h]
    go_enter Try.func17, Try.ntmps17
    go_wp2
    go_ret
    exact ⟨rfl, rfl⟩
  · by_cases h2 : (L : Int) < n
    · rw [show gapI z L n = n by unfold gapI; rw [if_neg h, if_pos h2]]
      go_enter Try.func17, Try.ntmps17
      go_wp2
      go_ret
      exact ⟨rfl, rfl⟩
    · obtain ⟨N, rfl⟩ : ∃ N : Nat, n = N := ⟨n.toNat, by omega⟩
      have HF := fun v W (hz : Rf W A L z) => Lib.hid (rfair_any (c := c) (N : Int) v W hz hc hL)
      have HZ := Lib.hid hz
      have k1 := gap_ge (z := z) (L := L) (n := (N : Int)) (by omega)
      have k2 := gap_le (z := z) (L := L) (n := (N : Int)) (by omega) (by omega)
      have K3 := Lib.hid (fair_gap (z := z) (L := L) (n := (N : Int)) (by omega))
      have K4 := Lib.hid (fun (v : Int) (h1 : (N : Int) ≤ v) (h2 : v < gapI z L (N : Int)) => gap_below (z := z) (L := L) (n := (N : Int)) (v := v) (by omega) h1 h2)
      obtain ⟨G, hG⟩ : ∃ G : Nat, gapI z L (N : Int) = G := ⟨(gapI z L (N : Int)).toNat, by omega⟩
      rw [hG] at k1 k2 K3 K4 ⊢
      clear hz hG
      go_enter Try.func17, Try.ntmps17
      go_wp2
      go_loopw [5] (fun t wr => wr = W ∧ ∃ v : Nat, N ≤ v ∧ v ≤ G ∧ v ≤ L + 1 ∧ t = .int .i64 v) (fun t _ => L + 1 - (intOf t).toNat)
      case atStart => exact ⟨rfl, N, Nat.le_refl _, by omega, by omega, rfl⟩
      case round =>
        obtain ⟨rfl, v, hv1, hv2, hv3, rfl⟩ := hrel
        by_cases hvL : v ≤ L
        · have HV := HF (v : Int) wr HZ.out
          by_cases e : v = G
          · subst e
            rw [K3.out] at HV
            go_wp2_with (go_at_call 15; ((with_reducible refine HV.out.mono ?_); rintro e w' ⟨rfl, rfl⟩))
            go_ret
            exact ⟨rfl, rfl⟩
          · rw [K4.out (v : Int) (by omega) (by omega)] at HV
            go_wp2_with (go_at_call 15; ((with_reducible refine HV.out.mono ?_); rintro e w' ⟨rfl, rfl⟩))
            go_roundw
            case rel => exact ⟨by simp, v + 1, by omega, by omega, by omega, by go_num⟩
            case measure => simp [intOf]; omega
        · obtain rfl : v = L + 1 := by omega
          obtain rfl : G = L + 1 := by omega
          go_wp2_with fail
          go_ret
          exact ⟨by go_num, rfl⟩
end Go.Proofs.Ytjaiahnibeieiaa
