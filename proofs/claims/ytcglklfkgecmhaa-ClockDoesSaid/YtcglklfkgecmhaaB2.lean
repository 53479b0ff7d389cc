/- The walk of the law that a clock does what the document says. -/
import Derived.Test.YtcglklfkgecmhaaB1
namespace Go.Proofs.Ytcglklfkgecmhaa
open Go Go.RowKit

theorem does_long (t : Int) (A : Option Addr) (n c : Nat) (w : World) (h : 40 < n) (hm : n ≤ maxLen) :
    Calls Try.prog 3 #[.int .i64 t, .slice A n c] w fun e w' => e = .returned (.bool true) ∧ Below w.heap.size w w' := by
  unfold maxLen at hm
  have h1 : (40 : Int) < (n : Int) := by omega
  set_option maxRecDepth 100000 in
  go_enter Try.func3, Try.ntmps3
  go_wp2_with fail
  refine (awake_any _).mono ?_
  rintro e w1 ⟨rfl, hb1⟩
  go_wp2_with fail
  go_ret
  exact ⟨rfl, hb1⟩

/-- what stands at the head of a round: both clocks are alike -/
structure Both (w : World) (b x : Nat) (m : Int) (wr : World) (n s : Int) : Prop where
  n0 : 0 ≤ n
  nm : n ≤ m
  s0 : 0 ≤ s
  sm : s ≤ m
  clk : ClkAt wr b n s m
  ref : RefAt wr x n s m
  bel : Below w.heap.size w wr
theorem Both.drewN {w : World} {b x : Nat} {m : Int} {wr : World} {n s : Int} (h : Both w b x m wr n s) (k : Nat) : Both w b x m (wr.drewN k) n s :=
  ⟨h.n0, h.nm, h.s0, h.sm, h.clk.drewN k, h.ref.drewN k, Below.drewN h.bel k⟩
/-- a copy was made, and went its own way -/
theorem Both.copied {w : World} {b x : Nat} {m : Int} {w1 w2 w3 w4 : World} {n s : Int} (h : Both w b x m w1 n s) (h1 : Below w1.heap.size w1 w2) (h2 : Only w1.heap.size w2 w3) (h3 : Only w1.heap.size w3 w4) : Both w b x m w4 n s := by
  have hz := h.bel.size
  have hb : Below w1.heap.size w1 w4 := (h1.trans (h2.below (Nat.le_refl _) h1.size)).trans (h3.below (Nat.le_refl _) (Nat.le_trans h1.size h2.size))
  exact ⟨h.n0, h.nm, h.s0, h.sm, h.clk.later hb, h.ref.later hb, h.bel.trans (hb.mono hz)⟩
/-- both clocks went on alike -/
theorem Both.went {w : World} {b x : Nat} {m : Int} {w1 w2 w3 : World} {n s n' s' : Int} (h : Both w b x m w1 n s) (hne : b ≠ x) (hb : w.heap.size ≤ b) (hx : w.heap.size ≤ x)
    (hc : ClkAt w2 b n' s' m) (h1 : Only b w1 w2) (hr : RefAt w3 x n' s' m) (h2 : Only x w2 w3) (hn : 0 ≤ n' ∧ n' ≤ m) (hs : 0 ≤ s' ∧ s' ≤ m) : Both w b x m w3 n' s' :=
  ⟨hn.1, hn.2, hs.1, hs.2, hc.other h2 hne, hr, (h.bel.trans (h1.below hb h.bel.size)).trans (h2.below hx (Nat.le_trans h.bel.size h1.size))⟩

set_option maxHeartbeats 2000000 in
set_option maxRecDepth 100000 in
theorem does_short (t : Int) (A : Option Addr) (L c : Nat) (zs : List Int) (w : World) (h : ¬ 40 < L) (hin : Inp w.heap.size w A L c zs) :
    Calls Try.prog 3 #[.int .i64 t, .slice A L c] w fun e w' => e = .returned (.bool true) ∧ Below w.heap.size w w' := by
  have I := Lib.hid hin
  clear hin
  have hL : ¬ (40 : Int) < (L : Int) := by omega
  have hbd := bnd_bd t
  obtain ⟨m, hm⟩ : ∃ m, bnd t = m := ⟨_, rfl⟩
  rw [hm] at hbd
  obtain ⟨m0, m9⟩ := hbd
  have HM := Lib.hid hm
  clear hm
  go_enter Try.func3, Try.ntmps3
  go_wp2_with fail
  refine (awake_any _).mono ?_
  rintro e w1 ⟨rfl, hb1⟩
  go_wp2_with fail
  refine (new_any t _).mono ?_
  rintro e w2 ⟨rfl, hc, hb2⟩
  go_wp2_with fail
  refine (rnew_any t _).mono ?_
  rintro e w3 ⟨rfl, hr, hb3⟩
  rw [HM.out] at hc hr
  have hz1 := hb1.size
  have hz2 := hc.lt
  have HB : Both w w1.heap.size w2.heap.size m w3 0 0 := ⟨by omega, m0, by omega, m0, hc.later hb3, hr, (hb1.trans (hb2.mono hz1)).trans (hb3.mono (by omega))⟩
  have hne : w1.heap.size ≠ w2.heap.size := by omega
  have hx : w.heap.size ≤ w2.heap.size := by omega
  clear hc hr hb1 hb2 hb3 hz2 HM
  generalize w1.heap.size = b at *
  generalize w2.heap.size = x at *
  have NE := Lib.hid hne
  have B3 := Lib.hid HB
  clear hne HB
  go_wp2_with fail
  go_loopw [25] (fun i wr => ∃ k n s, k ≤ L ∧ i = .int .i64 (k : Nat) ∧ Both w b x m wr n s) (fun i _ => L - (intOf i).toNat)
  case atStart => exact ⟨0, 0, 0, by omega, rfl, B3.out⟩
  case round =>
    obtain ⟨k, n, s, hk, rfl, hB⟩ := hrel
    clear B3
    have H1 := Lib.hid hB
    obtain ⟨n0, nm, s0, sm, _, _, hbe⟩ := hB
    by_cases hlt : k < L
    · obtain ⟨ad, z, rfl, hz⟩ := I.out.at hbe hlt
      clear hbe
      cases h3 : (z.tmod 3 == 1)
      · go_wp2_with fail
        refine (tick_any z H1.out.clk n0 nm m9).mono ?_
        rintro e w4 ⟨rfl, hc, ho⟩
        have C4 := Lib.hid hc
        have O4 := Lib.hid ho
        clear hc ho hz
        go_wp2_with fail
        refine (rtick_any z (H1.out.ref.other O4.out NE.out.symm) n0 nm m9).mono ?_
        rintro e w5 ⟨rfl, hr, ho⟩
        have H5 := Lib.hid (H1.out.went NE.out hz1 hx C4.out O4.out hr ho (tick_bd z n0 nm) ⟨s0, sm⟩)
        clear hr ho C4 O4
        obtain ⟨f, hf⟩ : ∃ f, tickE n m z = f := ⟨_, rfl⟩
        rw [hf]
        clear hf
        obtain ⟨n', hn'⟩ : ∃ n', tickN n m z = n' := ⟨_, rfl⟩
        rw [hn'] at H5
        clear hn' n0 nm H1
        have n0 := H5.out.n0
        have nm := H5.out.nm
        go_wp2_with fail
        refine (copy_yes H5.out.clk).mono ?_
        rintro e w6 ⟨rfl, hd, hb6⟩
        have D6 := Lib.hid hd
        have B6 := Lib.hid hb6
        clear hd hb6
        go_wp2_with fail
        refine (tick_any 1 D6.out n0 nm m9).mono ?_
        rintro e w7 ⟨rfl, hd, ho⟩
        have D7 := Lib.hid hd
        have O7 := Lib.hid ho
        clear hd ho
        go_wp2_with fail
        refine (stamp_any D7.out s0 sm m9).mono ?_
        rintro e w8 ⟨rfl, hd, ho⟩
        have H8 := Lib.hid (H5.out.copied B6.out O7.out ho)
        clear hd ho
        obtain ⟨r0, r1, r2, r3, r4, r5⟩ := H8.out.ref
        have hw : IntKind.i64.wrap (m - s) = m - s := IntWalk.i64_in _ (by omega)
        go_wp2_with fail
        go_quiet (first
          | (go_at_call 14; exact Calls.quiet_of_same ((now_yes (H8.out.clk.drewN _)).mono fun _ _ ⟨he, hw⟩ => ⟨he, hw.symm⟩))
          | (go_at_call 15; exact Calls.quiet_of (left_yes (H8.out.clk.drewN _) s0 sm m9)))
        clear hw
        go_wp2_with fail
        go_roundw
        case rel => exact ⟨k + 1, _, _, by omega, by go_num, H8.out.drewN _⟩
        case measure => simp [intOf]; omega
      · go_wp2_with fail
        refine (stamp_any H1.out.clk s0 sm m9).mono ?_
        rintro e w4 ⟨rfl, hc, ho⟩
        have C4 := Lib.hid hc
        have O4 := Lib.hid ho
        clear hc ho hz
        go_wp2_with fail
        refine (next_any (H1.out.ref.other O4.out NE.out.symm) s0 sm m9).mono ?_
        rintro e w5 ⟨rfl, hr, ho⟩
        have H5 := Lib.hid (H1.out.went NE.out hz1 hx C4.out O4.out hr ho ⟨n0, nm⟩ (st_bd s0 sm))
        clear hr ho C4 O4
        obtain ⟨f, hf⟩ : ∃ f, stE s m = f := ⟨_, rfl⟩
        obtain ⟨g, hg⟩ : ∃ g, stV s m = g := ⟨_, rfl⟩
        rw [hf, hg]
        clear hf hg
        obtain ⟨s', hs'⟩ : ∃ s', stS s m = s' := ⟨_, rfl⟩
        rw [hs'] at H5
        clear hs' s0 sm H1
        have s0 := H5.out.s0
        have sm := H5.out.sm
        go_wp2_with fail
        refine (copy_yes H5.out.clk).mono ?_
        rintro e w6 ⟨rfl, hd, hb6⟩
        have D6 := Lib.hid hd
        have B6 := Lib.hid hb6
        clear hd hb6
        go_wp2_with fail
        refine (tick_any 1 D6.out n0 nm m9).mono ?_
        rintro e w7 ⟨rfl, hd, ho⟩
        have D7 := Lib.hid hd
        have O7 := Lib.hid ho
        clear hd ho
        go_wp2_with fail
        refine (stamp_any D7.out s0 sm m9).mono ?_
        rintro e w8 ⟨rfl, hd, ho⟩
        have H8 := Lib.hid (H5.out.copied B6.out O7.out ho)
        clear hd ho
        obtain ⟨r0, r1, r2, r3, r4, r5⟩ := H8.out.ref
        have hw : IntKind.i64.wrap (m - s') = m - s' := IntWalk.i64_in _ (by omega)
        go_wp2_with fail
        go_quiet (first
          | (go_at_call 14; exact Calls.quiet_of_same ((now_yes (H8.out.clk.drewN _)).mono fun _ _ ⟨he, hw⟩ => ⟨he, hw.symm⟩))
          | (go_at_call 15; exact Calls.quiet_of (left_yes (H8.out.clk.drewN _) s0 sm m9)))
        clear hw
        go_wp2_with fail
        go_roundw
        case rel => exact ⟨k + 1, _, _, by omega, by go_num, H8.out.drewN _⟩
        case measure => simp [intOf]; omega
    · obtain rfl : k = L := by omega
      go_wp2_with fail
      go_ret
      exact ⟨rfl, hbe⟩
theorem does_walk (t : Int) (A : Option Addr) (L c : Nat) (zs : List Int) (w : World) (hm : L ≤ maxLen) (hin : Inp w.heap.size w A L c zs) :
    Calls Try.prog 3 #[.int .i64 t, .slice A L c] w fun e w' => e = .returned (.bool true) ∧ Below w.heap.size w w' := by
  by_cases h : 40 < L
  · exact does_long t A L c w h hm
  · exact does_short t A L c zs w h hin
end Go.Proofs.Ytcglklfkgecmhaa
