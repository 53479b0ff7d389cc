/- The walk of the law that one that is alone is always granted what it asks, and that nothing is left when all have gone. -/
import Derived.Test.YteaibamkfccplaaDoorM3
namespace Go.Proofs.YteaibamkfccplaaDoor
open Go Go.RowKit Go.Shelf
set_option maxRecDepth 100000

/-- behind some Asks: who may be there, and how many -/
structure Be (w W : World) (b : Nat) (P : Int → Prop) (n : Nat) : Prop where
  is : ∃ H L, One w W b H L ∧ Inv H L ∧ AllP P H L ∧ H.length + L.length ≤ n
section
variable {w W W' : World} {b n : Nat} {P R : Int → Prop}
theorem Be.below (h : Be w W b P n) (hb : Below W.heap.size W W') : Be w W' b P n := by
  obtain ⟨H, L, h1, h2⟩ := h.is
  exact ⟨H, L, h1.below hb, h2⟩
theorem Be.bel (h : Be w W b P n) : Below w.heap.size w W := by
  obtain ⟨H, L, h1, -⟩ := h.is
  exact h1.bel
theorem Be.mono (h : Be w W b P n) (hp : ∀ t, P t → R t) : Be w W b R n := by
  obtain ⟨H, L, h1, h2, h3, h4⟩ := h.is
  exact ⟨H, L, h1, h2, h3.mono hp, h4⟩
theorem Be.ask (h : Be w W b P n) (ht : TabG w) (hn : n ≤ 400) (tx m fl : Int) (hp : P tx) :
    Calls Tryd.prog 18 #[qp b, .int .i64 tx, .int .i64 m, .int .i64 fl] W fun e w' => ∃ x y, e = .returned (.tuple #[.int .i64 x, .int .i64 y]) ∧ Be w w' b P (n + 1) := by
  obtain ⟨H, L, h1, h2, h3, h4⟩ := h.is
  refine (h1.ask ht (by omega) tx m fl).mono ?_
  rintro e w' ⟨rfl, ho⟩
  exact ⟨_, _, rfl, _, _, ho, h2.ask tx m fl, h3.ask hp, by have := ask_len tx m fl H L; omega⟩
theorem Be.release (h : Be w W b P n) (ht : TabG w) (hn : n ≤ 400) (tx : Int) :
    Calls Tryd.prog 12 #[qp b, .int .i64 tx] W fun e w' => ∃ A k c x, e = .returned (.tuple #[.slice A k c, .int .i64 x]) ∧ Be w w' b (fun t => P t ∧ t ≠ tx) n := by
  obtain ⟨H, L, h1, h2, h3, h4⟩ := h.is
  refine (h1.release ht (by omega) h2.once tx).mono ?_
  rintro e w' ⟨A, c, rfl, -, ho⟩
  exact ⟨_, _, _, _, rfl, _, _, ho, h2.rel tx, h3.rel h2 tx, by have := rel_len tx H L; omega⟩
theorem Be.empty (h : Be w W b P n) (hp : ∀ t, ¬ P t) : Calls Tryd.prog 22 #[qp b] W fun e w' => e = .returned (.int .i64 0) ∧ Below w.heap.size w w' := by
  obtain ⟨H, L, h1, h2, h3, h4⟩ := h.is
  obtain ⟨rfl, rfl⟩ := h3.none hp
  refine (h1.size (by simp)).mono ?_
  rintro e w' ⟨rfl, ho⟩
  exact ⟨rfl, ho.bel⟩
end
theorem alone_long (A : Option Addr) (n c : Nat) (tx : Int) (A2 : Option Addr) (n2 k2 : Nat) (w : World) (ht : TabG w) (hm : n ≤ maxLen) (hm2 : n2 ≤ maxLen) (h : 30 < n ∨ 40 < n2 ∨ tx < 1) :
    Calls Tryd.prog 6 #[.slice A n c, .int .i64 tx, .slice A2 n2 k2] w fun e w' => e = .returned (.bool true) ∧ Below w.heap.size w w' := by
  unfold maxLen at hm hm2
  have HA := Lib.hid (awake_any w ht)
  clear ht
  by_cases h1 : 30 < n
  · have q1 : (30 : Int) < (n : Int) := by omega
    have q1' : decide ((30 : Int) < (n : Int)) = true := by simp; omega
    clear h h1
    go_enter Tryd.func6, Tryd.ntmps6
    go_wp2_with fail
    refine HA.out.mono ?_
    rintro e w1 ⟨rfl, hb1⟩
    go_wp2_with fail
    go_ret
    exact ⟨rfl, hb1⟩
  · have q1 : ¬ (30 : Int) < (n : Int) := by omega
    have q1' : decide ((30 : Int) < (n : Int)) = false := by simp; omega
    by_cases h2 : 40 < n2
    · have q2 : (40 : Int) < (n2 : Int) := by omega
      have q2' : decide ((40 : Int) < (n2 : Int)) = true := by simp; omega
      clear h h1 h2
      go_enter Tryd.func6, Tryd.ntmps6
      go_wp2_with fail
      refine HA.out.mono ?_
      rintro e w1 ⟨rfl, hb1⟩
      go_wp2_with fail
      go_ret
      exact ⟨rfl, hb1⟩
    · have q2 : ¬ (40 : Int) < (n2 : Int) := by omega
      have q2' : decide ((40 : Int) < (n2 : Int)) = false := by simp; omega
      have q3 : tx < 1 := by omega
      clear h h1 h2
      go_enter Tryd.func6, Tryd.ntmps6
      go_wp2_with fail
      refine HA.out.mono ?_
      rintro e w1 ⟨rfl, hb1⟩
      go_wp2_with fail
      go_ret
      exact ⟨rfl, hb1⟩
theorem rsup_g {m n : Int} {v : Nat} (w : World) (h : supN (kn m) (kn n) = v) : Gives w 30 #[.int .i64 m, .int .i64 n] (.int .i64 (v : Nat)) := fun w' hb => by rw [← h]; exact rsup_any m n w w' hb
set_option maxHeartbeats 4000000 in
theorem alone_short (A : Option Addr) (n c : Nat) (tx : Int) (A2 : Option Addr) (n2 k2 : Nat) (d : Nat → Dd) (w : World) (ht : TabG w) (h1 : ¬ 30 < n) (h2 : ¬ 40 < n2) (h3 : ¬ tx < 1) (hi : InI w A n) (hd : InD w A2 n2 d) :
    Calls Tryd.prog 6 #[.slice A n c, .int .i64 tx, .slice A2 n2 k2] w fun e w' => e = .returned (.bool true) ∧ Below w.heap.size w w' := by
  have HA := Lib.hid (awake_any w ht)
  have HT := Lib.hid ht
  have I := Lib.hid hi
  have D := Lib.hid hd
  have q1 : ¬ (30 : Int) < (n : Int) := by omega
  have q1' : decide ((30 : Int) < (n : Int)) = false := by simp; omega
  have q2 : ¬ (40 : Int) < (n2 : Int) := by omega
  have q2' : decide ((40 : Int) < (n2 : Int)) = false := by simp; omega
  have htx : 1 ≤ tx := by omega
  clear ht hi hd
  go_enter Tryd.func6, Tryd.ntmps6
  go_wp2_with fail
  refine HA.out.mono ?_
  rintro e w1 ⟨rfl, hb1⟩
  have H0 := Lib.hid (One.new w w1 hb1)
  have hbb : ∃ b, b = w1.heap.size := ⟨_, rfl⟩
  go_wp2_with fail
  clear hb1 HA
  generalize w1.alloc (.cells #[.slice none 0 0, .slice none 0 0] 28) = w2 at *
  generalize w1.heap.size = b at *
  clear hbb
  go_loopw [8, 35] (fun v t wr => ∃ (k : Nat) (hv : Nat), k ≤ n ∧ hv ≤ 6 ∧ t = .int .i64 k ∧ v = .int .i64 hv ∧ One w wr b (hold1 tx hv) []) (fun _ t _ => n - (intOf t).toNat)
  case atStart => exact ⟨0, 0, by omega, by omega, rfl, rfl, H0.out⟩
  case round =>
    obtain ⟨k, hv, hk, hv6, rfl, rfl, ho⟩ := hrel
    have H := Lib.hid ho
    clear ho H0
    have hlen := hold1_len tx hv
    by_cases hlt : k < n
    · obtain ⟨ad, m, rfl, e0⟩ := I.out.at H.out.bel hlt
      by_cases hm : 1 ≤ m ∧ m ≤ 6
      · have m1 := hm.1
        have m6 := hm.2
        have HAsk := Lib.hid (H.out.asks HT.out (by simp; omega) (ask_alone htx m1 m6 hv6))
        have HSv := Lib.hid (supN_le hv (kn m))
        obtain ⟨s, hs⟩ : ∃ s, supN hv (kn m) = s := ⟨_, rfl⟩
        have HRs := Lib.hid (fun (w3 : World) => rsup_any (hv : Int) m w3 w3 (Below.refl _ _))
        rw [kn_nat hv6, hs] at HRs
        rw [hs] at HAsk HSv
        clear hm hs
        go_wp2_with fail
        refine HAsk.out.mono ?_
        rintro e w3 ⟨rfl, ho3⟩
        have H3 := Lib.hid ho3
        clear ho3 HAsk H e0
        go_wp2_with fail
        refine (HRs.out _).mono ?_
        rintro e w4 ⟨rfl, hb4⟩
        have H4 := Lib.hid (H3.out.below hb4)
        have HMo := Lib.hid (H4.out.mode (by have := hold1_len tx s; simp; omega) tx)
        rw [fst_hold1] at HMo
        clear hb4 HRs H3
        go_wp2_with fail
        refine HMo.out.mono ?_
        rintro e w5 ⟨rfl, ho5⟩
        have H5 := Lib.hid ho5
        clear ho5 HMo H4
        go_wp2_with fail
        go_roundw
        case rel => exact ⟨k + 1, s, by omega, HSv.out, by go_num, rfl, H5.out⟩
        case measure => simp [intOf]; omega
      · have HAsk := Lib.hid (H.out.asks HT.out (by simp; omega) (ask_bad (tx := tx) hm))
        by_cases m1 : m < 1
        · clear hm
          go_wp2_with fail
          refine HAsk.out.mono ?_
          rintro e w3 ⟨rfl, ho3⟩
          have H3 := Lib.hid ho3
          clear ho3 HAsk H e0
          go_wp2_with fail
          go_roundw
          case rel => exact ⟨k + 1, hv, by omega, hv6, by go_num, rfl, H3.out⟩
          case measure => simp [intOf]; omega
        · have m6 : 6 < m := by omega
          clear hm
          go_wp2_with fail
          refine HAsk.out.mono ?_
          rintro e w3 ⟨rfl, ho3⟩
          have H3 := Lib.hid ho3
          clear ho3 HAsk H e0
          go_wp2_with fail
          go_roundw
          case rel => exact ⟨k + 1, hv, by omega, hv6, by go_num, rfl, H3.out⟩
          case measure => simp [intOf]; omega
    · obtain rfl : k = n := by omega
      have HB := Lib.hid (show Be w wr b (fun t => t = tx ∨ ∃ i, i < n2 ∧ t = (d i).t) 1 from ⟨_, _, H.out, inv_hold1 htx hv6, (all_hold1 tx hv).mono fun t h => .inl h, by simp; omega⟩)
      clear H I
      go_wp2_with fail
      go_loopw [73] (fun t wr => ∃ j : Nat, j ≤ n2 ∧ t = .int .i64 j ∧ Be w wr b (fun t => t = tx ∨ ∃ i, i < n2 ∧ t = (d i).t) (1 + j)) (fun t _ => n2 - (intOf t).toNat)
      case atStart => exact ⟨0, by omega, rfl, HB.out⟩
      case round =>
        obtain ⟨w4, rfl⟩ : ∃ w4, w4 = wr := ⟨_, rfl⟩
        obtain ⟨j, hj, rfl, hb⟩ := hrel
        have HB1 := Lib.hid hb
        clear hb HB
        by_cases hjn : j < n2
        · obtain ⟨ad, rfl, ⟨e0, e1, e2, e3⟩⟩ := D.out.at HB1.out.bel hjn
          have HC := Lib.hid ((HB1.out.below (box_below w4 (.cells #[.int .i64 (d j).k, .int .i64 (d j).t, .int .i64 (d j).m, .int .i64 (d j).f] 36))).ask HT.out (by omega) (d j).t (d j).m (d j).f (.inr ⟨j, hjn, rfl⟩))
          generalize d j = dj at e0 e1 e2 e3 HC
          obtain ⟨kk, tt, mm, ff⟩ := dj
          simp only at e0 e1 e2 e3 HC
          clear HB1
          go_wp2_with fail
          refine HC.out.mono ?_
          rintro e w5 ⟨x, y, rfl, hb5⟩
          have HB5 := Lib.hid hb5
          clear hb5 HC e0 e1 e2 e3
          go_wp2_with fail
          go_roundw
          case rel => exact ⟨j + 1, by omega, by go_num, by rw [← Nat.add_assoc]; exact HB5.out⟩
          case measure => simp [intOf]; omega
        · obtain rfl : j = n2 := by omega
          clear hjn
          have HB2 := Lib.hid (show Be w w4 b (fun t => (t = tx ∨ ∃ i, i < j ∧ t = (d i).t) ∧ ∀ i, i < 0 → t ≠ (d i).t) (1 + j) from HB1.out.mono fun t h => ⟨h, fun i hi => by omega⟩)
          clear HB1
          go_wp2_with fail
          go_loopw [88] (fun t wr => ∃ i : Nat, i ≤ j ∧ t = .int .i64 i ∧ Be w wr b (fun t => (t = tx ∨ ∃ i, i < j ∧ t = (d i).t) ∧ ∀ i', i' < i → t ≠ (d i').t) (1 + j)) (fun t _ => j - (intOf t).toNat)
          case atStart => exact ⟨0, by omega, rfl, HB2.out⟩
          case round =>
            obtain ⟨w6, rfl⟩ : ∃ w6, w6 = wr := ⟨_, rfl⟩
            obtain ⟨i, hi, rfl, hb⟩ := hrel
            have HB3 := Lib.hid hb
            clear hb HB2
            by_cases hin : i < j
            · obtain ⟨ad, rfl, ⟨e0, e1, e2, e3⟩⟩ := D.out.at HB3.out.bel hin
              have HC := Lib.hid ((HB3.out.below (box_below w6 (.cells #[.int .i64 (d i).k, .int .i64 (d i).t, .int .i64 (d i).m, .int .i64 (d i).f] 36))).release HT.out (by omega) (d i).t)
              have HDI := Lib.hid (show ∀ t, ((t = tx ∨ ∃ i, i < j ∧ t = (d i).t) ∧ ∀ i', i' < i → t ≠ (d i').t) ∧ t ≠ (d i).t → (t = tx ∨ ∃ i, i < j ∧ t = (d i).t) ∧ ∀ i', i' < i + 1 → t ≠ (d i').t from fun t ht => ⟨ht.1.1, fun i' hi' => by
                rcases Nat.lt_or_ge i' i with q | q
                · exact ht.1.2 i' q
                · obtain rfl : i' = i := by omega
                  exact ht.2⟩)
              obtain ⟨dj, hdj⟩ : ∃ dj, d i = dj := ⟨_, rfl⟩
              have HDJ := Lib.hid hdj
              rw [hdj] at e0 e1 e2 e3 HC
              clear hdj
              obtain ⟨kk, tt, mm, ff⟩ := dj
              simp only at e0 e1 e2 e3 HC
              clear HB3
              go_wp2_with fail
              refine HC.out.mono ?_
              rintro e w7 ⟨A7, k7, c7, x7, rfl, hb7⟩
              have HB7 := Lib.hid (hb7.mono (R := fun t => (t = tx ∨ ∃ i, i < j ∧ t = (d i).t) ∧ ∀ i', i' < i + 1 → t ≠ (d i').t) fun t ht => HDI.out t (by rw [HDJ.out]; exact ht))
              clear hb7 HC e0 e1 e2 e3
              go_wp2_with fail
              go_roundw
              case rel => exact ⟨i + 1, by omega, by go_num, HB7.out⟩
              case measure => simp [intOf]; omega
            · obtain rfl : i = j := by omega
              clear hin D
              have HC := Lib.hid (HB3.out.release HT.out (by omega) tx)
              clear HB3
              go_wp2_with fail
              refine HC.out.mono ?_
              rintro e w7 ⟨A7, k7, c7, x7, rfl, hb7⟩
              have HE := Lib.hid (hb7.empty (fun t ht => by
                rcases ht.1.1 with q | ⟨i', q1, q2⟩
                · exact ht.2 q
                · exact ht.1.2 i' q1 q2))
              clear hb7 HC
              go_wp2_with fail
              refine HE.out.mono ?_
              rintro e w8 ⟨rfl, hb8⟩
              go_wp2_with fail
              go_ret
              exact ⟨rfl, hb8⟩
theorem alone_walk (A : Option Addr) (n c : Nat) (tx : Int) (A2 : Option Addr) (n2 k2 : Nat) (d : Nat → Dd) (w : World) (ht : TabG w) (hm : n ≤ maxLen) (hi : InI w A n) (hm2 : n2 ≤ maxLen) (hd : InD w A2 n2 d) :
    Calls Tryd.prog 6 #[.slice A n c, .int .i64 tx, .slice A2 n2 k2] w fun e w' => e = .returned (.bool true) ∧ Below w.heap.size w w' := by
  by_cases h : 30 < n ∨ 40 < n2 ∨ tx < 1
  · exact alone_long A n c tx A2 n2 k2 w ht hm hm2 h
  · exact alone_short A n c tx A2 n2 k2 d w ht (by omega) (by omega) (by omega) hi hd
end Go.Proofs.YteaibamkfccplaaDoor
