/- The walk of the law that a copy of a clock goes on as the clock does, and neither moves the other one. -/
import Derived.Test.YtcglklfkgecmhaaB1
namespace Go.Proofs.Ytcglklfkgecmhaa
open Go Go.RowKit

theorem copies_long (t : Int) (A : Option Addr) (n c : Nat) (q : Int) (w : World) (h : 40 < n) (hm : n ≤ maxLen) :
    Calls Try.prog 5 #[.int .i64 t, .slice A n c, .int .i64 q] w fun e w' => e = .returned (.bool true) ∧ Below w.heap.size w w' := by
  unfold maxLen at hm
  have h1 : (40 : Int) < (n : Int) := by omega
  set_option maxRecDepth 100000 in
  go_enter Try.func5, Try.ntmps5
  go_wp2_with fail
  refine (awake_any _).mono ?_
  rintro e w1 ⟨rfl, hb1⟩
  go_wp2_with fail
  go_ret
  exact ⟨rfl, hb1⟩

/-- a clock that the law made, in a later world -/
structure One (w : World) (b : Nat) (m : Int) (wr : World) (n s : Int) : Prop where
  n0 : 0 ≤ n
  nm : n ≤ m
  s0 : 0 ≤ s
  sm : s ≤ m
  clk : ClkAt wr b n s m
  bel : Below w.heap.size w wr
theorem One.drewN {w : World} {b : Nat} {m : Int} {wr : World} {n s : Int} (h : One w b m wr n s) (k : Nat) : One w b m (wr.drewN k) n s :=
  ⟨h.n0, h.nm, h.s0, h.sm, h.clk.drewN k, Below.drewN h.bel k⟩
theorem One.went {w : World} {b : Nat} {m : Int} {w1 w2 : World} {n s n' s' : Int} (h : One w b m w1 n s) (hb : w.heap.size ≤ b)
    (hc : ClkAt w2 b n' s' m) (h1 : Only b w1 w2) (hn : 0 ≤ n' ∧ n' ≤ m) (hs : 0 ≤ s' ∧ s' ≤ m) : One w b m w2 n' s' :=
  ⟨hn.1, hn.2, hs.1, hs.2, hc, h.bel.trans (h1.below hb h.bel.size)⟩
/-- another clock went on -/
theorem One.other {w : World} {b d : Nat} {m : Int} {w1 w2 : World} {n s : Int} (h : One w b m w1 n s) (hne : b ≠ d) (hd : w.heap.size ≤ d) (h1 : Only d w1 w2) : One w b m w2 n s :=
  ⟨h.n0, h.nm, h.s0, h.sm, h.clk.other h1 hne, h.bel.trans (h1.below hd h.bel.size)⟩

set_option maxHeartbeats 2000000 in
set_option maxRecDepth 100000 in
theorem copies_short (t : Int) (A : Option Addr) (L c : Nat) (q : Int) (zs : List Int) (w : World) (h : ¬ 40 < L) (hin : Inp w.heap.size w A L c zs) :
    Calls Try.prog 5 #[.int .i64 t, .slice A L c, .int .i64 q] w fun e w' => e = .returned (.bool true) ∧ Below w.heap.size w w' := by
  have I := Lib.hid hin
  clear hin
  have hL : ¬ (40 : Int) < (L : Int) := by omega
  have hbd := bnd_bd t
  obtain ⟨m, hm⟩ : ∃ m, bnd t = m := ⟨_, rfl⟩
  rw [hm] at hbd
  obtain ⟨m0, m9⟩ := hbd
  have HM := Lib.hid hm
  clear hm
  go_enter Try.func5, Try.ntmps5
  go_wp2_with fail
  refine (awake_any _).mono ?_
  rintro e w1 ⟨rfl, hb1⟩
  go_wp2_with fail
  refine (new_any t _).mono ?_
  rintro e w2 ⟨rfl, hc, hb2⟩
  rw [HM.out] at hc
  have hz1 := hb1.size
  have HB : One w w1.heap.size m w2 0 0 := ⟨by omega, m0, by omega, m0, hc, hb1.trans (hb2.mono hz1)⟩
  clear hc hb1 hb2 HM
  generalize w1.heap.size = b at *
  have B3 := Lib.hid HB
  clear HB
  go_wp2_with fail
  go_loopw [28] (fun i wr => ∃ k n s, k ≤ L ∧ i = .int .i64 (k : Nat) ∧ One w b m wr n s) (fun i _ => L - (intOf i).toNat)
  case atStart => exact ⟨0, 0, 0, by omega, rfl, B3.out⟩
  case round =>
    obtain ⟨k, n, s, hk, rfl, hB⟩ := hrel
    clear B3
    have H1 := Lib.hid hB
    obtain ⟨n0, nm, s0, sm, _, hbe⟩ := hB
    by_cases hlt : k < L
    · obtain ⟨ad, z, rfl, hz⟩ := I.out.at hbe hlt
      clear hbe
      go_wp2_with fail
      refine (tick_any z H1.out.clk n0 nm m9).mono ?_
      rintro e w4 ⟨rfl, hc, ho⟩
      have H4 := Lib.hid (H1.out.went hz1 hc ho (tick_bd z n0 nm) ⟨s0, sm⟩)
      clear hc ho hz
      go_wp2_with fail
      refine (stamp_any H4.out.clk s0 sm m9).mono ?_
      rintro e w5 ⟨rfl, hc, ho⟩
      have H5 := Lib.hid (H4.out.went hz1 hc ho ⟨H4.out.n0, H4.out.nm⟩ (st_bd s0 sm))
      clear hc ho
      go_wp2_with fail
      go_roundw
      case rel => exact ⟨k + 1, _, _, by omega, by go_num, H5.out⟩
      case measure => simp [intOf]; omega
    · obtain rfl : k = L := by omega
      clear hbe
      go_wp2_with fail
      refine (copy_yes H1.out.clk).mono ?_
      rintro e w4 ⟨rfl, hd, hb4⟩
      have hl := H1.out.clk.lt
      have hwz := H1.out.bel.size
      have HC : One w b m w4 n s := ⟨n0, nm, s0, sm, H1.out.clk.later hb4, H1.out.bel.trans (hb4.mono H1.out.bel.size)⟩
      have HD : One w wr.heap.size m w4 n s := ⟨n0, nm, s0, sm, hd, H1.out.bel.trans (hb4.mono H1.out.bel.size)⟩
      have hne : b ≠ wr.heap.size := by omega
      clear hd hb4 hl H1
      generalize wr.heap.size = d at *
      have NE := Lib.hid hne
      have C4 := Lib.hid HC
      have D4 := Lib.hid HD
      clear hne HC HD
      have tb := tick_bd q n0 nm
      have sb := st_bd s0 sm
      obtain ⟨e1, he1⟩ : ∃ x, tickE n m q = x := ⟨_, rfl⟩
      obtain ⟨n', hn'⟩ : ∃ x, tickN n m q = x := ⟨_, rfl⟩
      obtain ⟨e2, he2⟩ : ∃ x, stE s m = x := ⟨_, rfl⟩
      obtain ⟨v2, hv2⟩ : ∃ x, stV s m = x := ⟨_, rfl⟩
      obtain ⟨s', hs'⟩ : ∃ x, stS s m = x := ⟨_, rfl⟩
      rw [hn'] at tb
      rw [hs'] at sb
      have E1 := Lib.hid he1
      have N1 := Lib.hid hn'
      have E2 := Lib.hid he2
      have V2 := Lib.hid hv2
      have S2 := Lib.hid hs'
      clear he1 hn' he2 hv2 hs'
      have TB := Lib.hid tb
      have SB := Lib.hid sb
      obtain ⟨n0', nm'⟩ := tb
      obtain ⟨s0', sm'⟩ := sb
      go_wp2_with fail
      refine (now_yes C4.out.clk).mono ?_
      rintro e w' ⟨rfl, rfl⟩
      go_wp2_with fail
      refine (left_yes C4.out.clk s0 sm m9).mono ?_
      rintro e w' ⟨rfl, kq, rfl⟩
      have C5 := Lib.hid (C4.out.drewN kq)
      have D5 := Lib.hid (D4.out.drewN kq)
      clear C4 D4
      generalize w4.drewN kq = w5 at *
      go_wp2_with fail
      refine (tick_any q D5.out.clk n0 nm m9).mono ?_
      rintro e w6 ⟨rfl, hd, ho⟩
      rw [E1.out]
      rw [N1.out] at hd
      have D6 := Lib.hid (D5.out.went hwz hd ho TB.out ⟨s0, sm⟩)
      have C6 := Lib.hid (C5.out.other NE.out hwz ho)
      clear hd ho C5 D5
      go_wp2_with fail
      refine (left_yes D6.out.clk s0 sm m9).mono ?_
      rintro e w' ⟨rfl, kq, rfl⟩
      have C7 := Lib.hid (C6.out.drewN kq)
      have D7 := Lib.hid (D6.out.drewN kq)
      clear C6 D6
      generalize w6.drewN kq = w7 at *
      go_wp2_with fail
      refine (stamp_any D7.out.clk s0 sm m9).mono ?_
      rintro e w8 ⟨rfl, hd, ho⟩
      rw [E2.out, V2.out]
      rw [S2.out] at hd
      have D8 := Lib.hid (D7.out.went hwz hd ho TB.out SB.out)
      have C8 := Lib.hid (C7.out.other NE.out hwz ho)
      clear hd ho C7 D7
      go_wp2_with fail
      refine (now_yes C8.out.clk).mono ?_
      rintro e w' ⟨rfl, rfl⟩
      go_wp2_with fail
      refine (left_yes C8.out.clk s0 sm m9).mono ?_
      rintro e w' ⟨rfl, kq, rfl⟩
      have C9 := Lib.hid (C8.out.drewN kq)
      have D9 := Lib.hid (D8.out.drewN kq)
      clear C8 D8
      generalize w8.drewN kq = w9 at *
      go_wp2_with fail
      refine (stamp_any C9.out.clk s0 sm m9).mono ?_
      rintro e w10 ⟨rfl, hd, ho⟩
      rw [E2.out, V2.out]
      rw [S2.out] at hd
      have C10 := Lib.hid (C9.out.went hz1 hd ho ⟨n0, nm⟩ SB.out)
      have D10 := Lib.hid (D9.out.other NE.out.symm hz1 ho)
      clear hd ho C9 D9
      go_wp2_with fail
      refine (tick_any q C10.out.clk n0 nm m9).mono ?_
      rintro e w11 ⟨rfl, hd, ho⟩
      rw [E1.out]
      rw [N1.out] at hd
      have C11 := Lib.hid (C10.out.went hz1 hd ho TB.out SB.out)
      have D11 := Lib.hid (D10.out.other NE.out.symm hz1 ho)
      clear hd ho C10 D10
      go_wp2_with fail
      refine (now_yes C11.out.clk).mono ?_
      rintro e w' ⟨rfl, rfl⟩
      go_wp2_with fail
      refine (now_yes D11.out.clk).mono ?_
      rintro e w' ⟨rfl, rfl⟩
      go_wp2_with fail
      refine (left_yes C11.out.clk s0' sm' m9).mono ?_
      rintro e w' ⟨rfl, kq, rfl⟩
      have C12 := Lib.hid (C11.out.drewN kq)
      have D12 := Lib.hid (D11.out.drewN kq)
      clear C11 D11
      generalize w11.drewN kq = w12 at *
      go_wp2_with fail
      refine (left_yes D12.out.clk s0' sm' m9).mono ?_
      rintro e w' ⟨rfl, kq, rfl⟩
      go_wp2_with fail
      go_ret
      exact ⟨rfl, Below.drewN C12.out.bel _⟩
theorem copies_walk (t : Int) (A : Option Addr) (L c : Nat) (q : Int) (zs : List Int) (w : World) (hm : L ≤ maxLen) (hin : Inp w.heap.size w A L c zs) :
    Calls Try.prog 5 #[.int .i64 t, .slice A L c, .int .i64 q] w fun e w' => e = .returned (.bool true) ∧ Below w.heap.size w w' := by
  by_cases h : 40 < L
  · exact copies_long t A L c q w h hm
  · exact copies_short t A L c q zs w h hin
end Go.Proofs.Ytcglklfkgecmhaa
