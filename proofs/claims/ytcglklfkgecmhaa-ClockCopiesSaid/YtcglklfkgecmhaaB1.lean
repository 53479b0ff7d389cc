/- The walk of the law that the time never falls and stamps rise by one. -/
import Derived.Test.YtcglklfkgecmhaaB0
namespace Go.Proofs.Ytcglklfkgecmhaa
open Go Go.RowKit

theorem never_long (t : Int) (A : Option Addr) (n c : Nat) (w : World) (h : 40 < n) (hm : n ≤ maxLen) :
    Calls Try.prog 4 #[.int .i64 t, .slice A n c] w fun e w' => e = .returned (.bool true) ∧ Below w.heap.size w w' := by
  unfold maxLen at hm
  have h1 : (40 : Int) < (n : Int) := by omega
  set_option maxRecDepth 100000 in
  go_enter Try.func4, Try.ntmps4
  go_wp2_with fail
  refine (awake_any _).mono ?_
  rintro e w1 ⟨rfl, hb1⟩
  go_wp2_with fail
  go_ret
  exact ⟨rfl, hb1⟩

/-- what stands at the head of a round -/
structure Nev (w : World) (b L : Nat) (m : Int) (st i : Value) (wr : World) (k : Nat) (n s : Int) : Prop where
  kl : k ≤ L
  hi : i = .int .i64 k
  hs : st = .int .i64 s
  n0 : 0 ≤ n
  nm : n ≤ m
  s0 : 0 ≤ s
  sm : s ≤ m
  clk : ClkAt wr b n s m
  bel : Below w.heap.size w wr
theorem left_zero {w : World} {b : Nat} {n s m : Int} (h : ClkAt w b n s m) (h0 : 0 ≤ s) (h1 : s ≤ m) (h2 : m ≤ 1099511627776) (h3 : m - s < 1) :
    Calls Try.prog 15 #[clk b] w fun e w' => e = .returned (.int .i64 0) ∧ ∃ k, w' = w.drewN k := by
  have e : m - s = 0 := by omega
  have := left_yes h h0 h1 h2
  rwa [e] at this
theorem Below.drewN {B : Nat} {a w : World} (h : Below B a w) (k : Nat) : Below B a (w.drewN k) := ⟨h.os, h.tape, h.output, h.size, h.block⟩

set_option maxHeartbeats 2000000 in
set_option maxRecDepth 100000 in
theorem never_short (t : Int) (A : Option Addr) (L c : Nat) (zs : List Int) (w : World) (h : ¬ 40 < L) (hin : Inp w.heap.size w A L c zs) :
    Calls Try.prog 4 #[.int .i64 t, .slice A L c] w fun e w' => e = .returned (.bool true) ∧ Below w.heap.size w w' := by
  have I := Lib.hid hin
  clear hin
  have hL : ¬ (40 : Int) < (L : Int) := by omega
  have hbd := bnd_bd t
  obtain ⟨m, hm⟩ : ∃ m, bnd t = m := ⟨_, rfl⟩
  rw [hm] at hbd
  obtain ⟨m0, m9⟩ := hbd
  have HM := Lib.hid hm
  clear hm
  go_enter Try.func4, Try.ntmps4
  go_wp2_with fail
  refine (awake_any _).mono ?_
  rintro e w1 ⟨rfl, hb1⟩
  go_wp2_with fail
  refine (new_any t _).mono ?_
  rintro e w2 ⟨rfl, hc, hb2⟩
  rw [HM.out] at hc
  have HZ := hb1.size
  have HB := hb1.trans (hb2.mono HZ)
  obtain ⟨b, hb⟩ : ∃ b, w1.heap.size = b := ⟨_, rfl⟩
  rw [hb] at hc HZ ⊢
  clear hb hb1 hb2 HM
  have HC := Lib.hid hc
  clear hc
  go_wp2_with fail
  go_loopw [6, 25] (fun st i wr => ∃ k n s, Nev w b L m st i wr k n s) (fun _ i _ => L - (intOf i).toNat)
  case atStart => exact ⟨0, 0, 0, by omega, rfl, rfl, by omega, by omega, by omega, by omega, HC.out, HB⟩
  case round =>
    obtain ⟨k, n, s, hk, rfl, rfl, n0, nm, s0, sm, hc, hbe⟩ := hrel
    clear HB HC
    have H1 := Lib.hid hc
    clear hc
    by_cases hlt : k < L
    · obtain ⟨ad, z, rfl, hz⟩ := I.out.at hbe hlt
      have hkn := tick_ways n m z
      have hks := st_ways s m
      rcases hkn with ⟨hz0, e1, e2⟩ | ⟨hz0, hz1, e1, e2⟩ | ⟨hz0, hz1, e1, e2⟩ <;> rcases hks with ⟨hs0, e3, e4, e5⟩ | ⟨hs0, e3, e4, e5⟩
      all_goals
        have E1 := Lib.hid e1
        have E2 := Lib.hid e2
        have E3 := Lib.hid e3
        have E4 := Lib.hid e4
        have E5 := Lib.hid e5
        clear e1 e2 e3 e4 e5
        go_wp2_with fail
        refine (now_yes H1.out).mono ?_
        rintro e w' ⟨rfl, rfl⟩
        go_wp2_with fail
        refine (tick_any z H1.out n0 nm m9).mono ?_
        rintro e w3 ⟨rfl, hc2, ho2⟩
        rw [E1.out]
        rw [E2.out] at hc2
        have H2 := Lib.hid hc2
        have O2 := Lib.hid ho2
        clear hc2 ho2 hz
        go_wp2_with (go_at_call 14; ((with_reducible refine (now_yes H2.out).mono ?_); rintro e w' ⟨rfl, rfl⟩))
        refine (stamp_any H2.out s0 sm m9).mono ?_
        rintro e w4 ⟨rfl, hc3, ho3⟩
        rw [E3.out, E4.out]
        rw [E5.out] at hc3
        have H3 := Lib.hid hc3
        have HBE := Lib.hid (hbe.trans ((O2.out.below HZ hbe.size).trans (ho3.below HZ (Nat.le_trans hbe.size O2.out.size))))
        clear hc3 ho3
        go_wp2_with (go_at_call 15; ((with_reducible refine (left_zero H3.out s0 sm m9 hs0).mono ?_); rintro e w' ⟨rfl, kq, rfl⟩))
        go_roundw
        case rel => first | exact ⟨k + 1, _, _, by omega, by go_num, rfl, by omega, by omega, by omega, by omega, H3.out, HBE.out⟩ | exact ⟨k + 1, _, _, by omega, by go_num, rfl, by omega, by omega, by omega, by omega, H3.out.drewN _, Below.drewN HBE.out _⟩
        case measure => simp [intOf]; omega
    · obtain rfl : k = L := by omega
      go_wp2_with (first
        | (go_at_call 9; ((with_reducible refine (stamp_no _).mono ?_); rintro e w' ⟨rfl, rfl⟩))
        | (go_at_call 14; ((with_reducible refine (now_no _).mono ?_); rintro e w' ⟨rfl, rfl⟩))
        | (go_at_call 11; ((with_reducible refine (tick_no _ _).mono ?_); rintro e w' ⟨rfl, rfl⟩))
        | (go_at_call 15; ((with_reducible refine (left_no _).mono ?_); rintro e w' ⟨rfl, rfl⟩))
        | (go_at_call 13; ((with_reducible refine (copy_no _).mono ?_); rintro e w' ⟨rfl, rfl⟩)))
      go_ret
      exact ⟨rfl, hbe⟩
theorem never_walk (t : Int) (A : Option Addr) (L c : Nat) (zs : List Int) (w : World) (hm : L ≤ maxLen) (hin : Inp w.heap.size w A L c zs) :
    Calls Try.prog 4 #[.int .i64 t, .slice A L c] w fun e w' => e = .returned (.bool true) ∧ Below w.heap.size w w' := by
  by_cases h : 40 < L
  · exact never_long t A L c w h hm
  · exact never_short t A L c zs w h hin
end Go.Proofs.Ytcglklfkgecmhaa
