/- The walk of the law that places stand as they are put. -/
import Derived.Test.YthgcedhplbhiiaaB1
namespace Go.Proofs.Ythgcedhplbhiiaa
open Go Go.RowKit

theorem block_add' (a : Addr) (n : Nat) : (a.add n).block = a.block := by unfold Addr.add; split <;> rfl
/-- a list of numbers that came in -/
def InI (w : World) (A : Option Addr) (L : Nat) : Prop := ∀ i, i < L → ∃ ad z, A = some ad ∧ ad.block < w.heap.size ∧ w.cell? (ad.add i) = some (.int .i64 z)
theorem InI.at {w w' : World} {A : Option Addr} {L i : Nat} (h : InI w A L) (hb : Below w.heap.size w w') (hi : i < L) : ∃ ad z, A = some ad ∧ w'.cell? (ad.add i) = some (.int .i64 z) := by
  obtain ⟨ad, z, h1, h2, h3⟩ := h i hi
  exact ⟨ad, z, h1, by rw [hb.cell (p := ad.add i) (by rw [block_add']; exact h2)]; exact h3⟩
/-- two links, and two lists beside them -/
structure Bu (w W : World) (K b1 g1 b2 g2 r : Nat) (v : Value) (A : Option Addr) (c : Nat) (xs ys vs ts : List Nat) : Prop where
  o1 : One w W b1 g1 40 (sole r xs)
  o2 : One w W b2 g2 40 (sole r ys)
  row : W.ownsRow K 3 1 v vs.length (nats vs)
  rd : Rd W K A c ts
  dis : ∀ a, A = some a → v.ownBlock ≠ some a.block
  lt : b1 < K ∧ g1 < K ∧ b2 < K ∧ g2 < K
  kl : K ≤ W.heap.size
  ne : g1 ≠ b2 ∧ g1 ≠ g2 ∧ g2 ≠ b1
  wk : w.heap.size ≤ K
section
variable {w W W' : World} {K b1 g1 b2 g2 r c : Nat} {v u : Value} {A : Option Addr} {xs ys vs ts xs' ys' : List Nat} {e : Ending}
theorem Bu.below (h : Bu w W K b1 g1 b2 g2 r v A c xs ys vs ts) (hb : Below W.heap.size W W') : Bu w W' K b1 g1 b2 g2 r v A c xs ys vs ts :=
  ⟨h.o1.below hb, h.o2.below hb, row_below h.row hb, h.rd.below hb, h.dis, h.lt, Nat.le_trans h.kl hb.size, h.ne, h.wk⟩
theorem Bu.did1 (h : Bu w W K b1 g1 b2 g2 r v A c xs ys vs ts) (hd : Did W b1 g1 40 u (sole r xs') e W') : e = .returned u ∧ Bu w W' K b1 g1 b2 g2 r v A c xs' ys vs ts := by
  obtain ⟨h1, h2, ho⟩ := h.o1.did hd
  have hl := h.lt
  refine ⟨h1, h2, ⟨h.o2.ln.only ho (fun e => h.ne.1 e.symm) (fun e => h.ne.2.1 e.symm), h2.bel, h.o2.hb, h.o2.hg⟩, row_keep h.row fun g hg => ho.block g (h.row.lt g hg).2 (fun e => ?_), h.rd.only ho (fun k e => by rw [e]; exact hl.2.1), h.dis, h.lt, Nat.le_trans h.kl ho.size, h.ne, h.wk⟩
  have := (h.row.lt g hg).1
  have e' : g = g1 := e
  omega
theorem Bu.did2 (h : Bu w W K b1 g1 b2 g2 r v A c xs ys vs ts) (hd : Did W b2 g2 40 u (sole r ys') e W') : e = .returned u ∧ Bu w W' K b1 g1 b2 g2 r v A c xs ys' vs ts := by
  obtain ⟨h1, h2, ho⟩ := h.o2.did hd
  have hl := h.lt
  refine ⟨h1, ⟨h.o1.ln.only ho (fun e => h.ne.2.2 e.symm) (fun e => h.ne.2.1 e), h2.bel, h.o1.hb, h.o1.hg⟩, h2, row_keep h.row fun g hg => ho.block g (h.row.lt g hg).2 (fun e => ?_), h.rd.only ho (fun k e => by rw [e]; exact hl.2.2.2), h.dis, h.lt, Nat.le_trans h.kl ho.size, h.ne, h.wk⟩
  have := (h.row.lt g hg).1
  have e' : g = g2 := e
  omega
/-- one more is wanted -/
theorem Bu.want {w5 : World} {g' cap k x : Nat} {o : Obj} (h : Bu w W K b1 g1 b2 g2 r v A c xs ys vs ts) (hk : vs.length = k)
    (hown : w5.ownsRow K 3 1 (.slice (some ⟨g', 0, none⟩) (k + 1) cap) (k + 1) (nats vs ++ [.int .i64 (x : Int)])) (hgrow : (W.alloc o).grownBy w5 v.ownBlock) (hgo : v.ownBlock = some g' ∨ g' = W.heap.size + 1) :
    Bu w w5 K b1 g1 b2 g2 r (.slice (some ⟨g', 0, none⟩) (k + 1) cap) A c xs ys (vs ++ [x]) ts := by
  have ho : OnlyS (fun j => v.ownBlock = some j) W w5 := OnlyS.grown (w1 := W.alloc o) (OnlyS.of_below (box_below _ _)) hgrow (fun j hj => .inl hj)
  have hl := h.lt
  have hv : ∀ j, v.ownBlock = some j → K ≤ j := fun j hj => (h.row.lt j hj).1
  have hn : ∀ j, j < K → ¬ v.ownBlock = some j := fun j hj e => by have := hv j e; omega
  have hbel : Below w.heap.size w w5 := h.o1.bel.trans (ho.below (fun j hj => Nat.le_trans h.wk (hv j hj)) h.o1.bel.size)
  refine ⟨⟨h.o1.ln.only ho (hn _ hl.1) (hn _ hl.2.1), hbel, h.o1.hb, h.o1.hg⟩, ⟨h.o2.ln.only ho (hn _ hl.2.2.1) (hn _ hl.2.2.2), hbel, h.o2.hb, h.o2.hg⟩, ?_, ?_, ?_, h.lt, Nat.le_trans h.kl ho.size, h.ne, h.wk⟩
  · rw [nats_snoc, List.length_append, hk]; exact hown
  · refine ⟨h.rd.cap, h.rd.room, h.rd.nil, fun a ha => ?_⟩
    obtain ⟨g, rfl, k1, k2, k3⟩ := h.rd.at' a ha
    exact ⟨g, rfl, k1, Nat.lt_of_lt_of_le k2 ho.size, fun i hi => (World.cell?_of_block (w := W) (a := ⟨g, i, none⟩) (ho.block g k2 (fun e => h.dis _ ha e))).trans (k3 i hi)⟩
  · intro a ha e
    obtain rfl : g' = a.block := by simpa [Value.ownBlock] using e
    rcases hgo with q | q
    · exact h.dis a ha q
    · obtain ⟨g, rfl, _, k2, _⟩ := h.rd.at' a ha
      simp at q
      omega
/-- one more is put ahead of those that are turned -/
theorem Bu.turned {A' : Option Addr} {c' x : Nat} (h : Bu w W K b1 g1 b2 g2 r v A c xs ys vs ts) (hj : Joins W (x :: ts) A' c' W') : Bu w W' K b1 g1 b2 g2 r v A' c' xs ys vs (x :: ts) := by
  have h' := h.below hj.bel
  refine ⟨h'.o1, h'.o2, h'.row, hj.rd.weak h.kl, fun a ha e => ?_, h.lt, h'.kl, h.ne, h.wk⟩
  obtain ⟨g, rfl, k1, _, _⟩ := hj.rd.at' a ha
  have := (h.row.lt g e).2
  omega
end
theorem builds_long (A : Option Addr) (L c : Nat) (row : Int) (w : World) (h : 30 < L ∨ row < 0 ∨ 40 ≤ row) (hm : L ≤ maxLen) :
    Calls Try.prog 5 #[.slice A L c, .int .i64 row] w fun e w' => e = .returned (.bool true) ∧ Below w.heap.size w w' := by
  unfold maxLen at hm
  by_cases h1 : 30 < L
  · have h3 : decide ((30 : Int) < (L : Int)) = true := by simp; omega
    have h4 : (30 : Int) < (L : Int) := by omega
    go_enter Try.func5, Try.ntmps5
    go_wp2_with fail
    refine (awake_any _).mono ?_
    rintro e w1 ⟨rfl, hb1⟩
    go_wp2_with fail
    go_ret
    exact ⟨rfl, hb1⟩
  · have h3 : decide ((30 : Int) < (L : Int)) = false := by simp; omega
    have h4 : ¬ (30 : Int) < (L : Int) := by omega
    by_cases h2 : row < 0
    · have h5 : decide (row < 0) = true := by simpa using h2
      go_enter Try.func5, Try.ntmps5
      go_wp2_with fail
      refine (awake_any _).mono ?_
      rintro e w1 ⟨rfl, hb1⟩
      go_wp2_with fail
      go_ret
      exact ⟨rfl, hb1⟩
    · have h5 : decide (row < 0) = false := by simpa using h2
      have h6 : decide (40 ≤ row) = true := by simp; omega
      go_enter Try.func5, Try.ntmps5
      go_wp2_with fail
      refine (awake_any _).mono ?_
      rintro e w1 ⟨rfl, hb1⟩
      go_wp2_with fail
      go_ret
      exact ⟨rfl, hb1⟩
/-- the state at the loop's head -/
def Hb (w W : World) (K b1 g1 b2 g2 r : Nat) (v8 v7 : Value) : Prop := ∃ A c xs, v8 = .slice A xs.length c ∧ Bu w W K b1 g1 b2 g2 r v7 A c xs xs.reverse xs xs.reverse
set_option maxHeartbeats 8000000 in
set_option maxRecDepth 100000 in
theorem builds_short (A : Option Addr) (L c r : Nat) (w : World) (h : ¬ 30 < L) (hr : r < 40) (hin : InI w A L) :
    Calls Try.prog 5 #[.slice A L c, .int .i64 (r : Int)] w fun e w' => e = .returned (.bool true) ∧ Below w.heap.size w w' := by
  have I := Lib.hid hin
  clear hin
  have h3 : decide ((30 : Int) < (L : Int)) = false := by simp; omega
  have h4 : ¬ (30 : Int) < (L : Int) := by omega
  have h6 : decide (40 ≤ (r : Int)) = false := by simp; omega
  go_enter Try.func5, Try.ntmps5
  go_wp2_with fail
  refine (awake_any _).mono ?_
  rintro e w1 ⟨rfl, hb1⟩
  go_wp2_with fail
  refine (one_new (n := 40) (by omega) w w1 hb1).mono ?_
  rintro e w2 ⟨b1, g1, rfl, ho1, hb2, k1, k2⟩
  go_wp2_with fail
  refine (one_new (n := 40) (by omega) w w2 ho1.bel).mono ?_
  rintro e w3 ⟨b2, g2, rfl, ho2, hb3, k3, k4⟩
  rw [show cl 40 = 40 from rfl, ← sole_nil r] at ho1 ho2
  have H0 := Lib.hid (show Bu w w3 w3.heap.size b1 g1 b2 g2 r (.slice none 0 0) none 0 [] [] [] [] from by
    have q1 := ho1.ln.lt
    have q2 := ho2.ln.lt
    have q3 := hb3.size
    exact ⟨ho1.below hb3, ho2, World.ownsRow_nil _ _ _ _, Rd.nilq _ _, fun _ h => (by cases h), ⟨by omega, by omega, by omega, by omega⟩, Nat.le_refl _, ⟨by omega, by omega, by omega⟩, ho2.bel.size⟩)
  clear ho1 ho2 hb1 hb2 hb3 k1 k2 k3 k4
  generalize w3.heap.size = K at H0
  go_wp2_with fail
  go_loopw [31, 7, 8] (fun t v7 v8 wr => ∃ k : Nat, k ≤ L ∧ t = .int .i64 k ∧ Hb w wr K b1 g1 b2 g2 r v8 v7) (fun t _ _ _ => L - (intOf t).toNat)
  case atStart => exact ⟨0, by omega, rfl, none, 0, [], rfl, H0.out⟩
  case round =>
    obtain ⟨k, hk, rfl, A8, c8, xs, rfl, hbu⟩ := hrel
    have H := Lib.hid hbu
    clear hbu H0
    have hlen : xs.length ≤ 40 := by
      obtain ⟨_, _, _, _, _, hr⟩ := H.out.o1.ln
      have := hr.good.len (r := r) (by omega)
      rwa [sole_same] at this
    by_cases hlt : k < L
    · obtain ⟨ad, x, rfl, q0⟩ := I.out.at H.out.o1.bel hlt
      obtain ⟨A7, c7, rfl, -⟩ := row_slice H.out.row
      obtain ⟨q, hq⟩ := at_ex 40 (sole r xs) x
      have HC := Lib.hid (H.out.o1.ln.back hq (r : Int))
      obtain ⟨m, hm⟩ : ∃ m, xs.length = m := ⟨_, rfl⟩
      have HM := Lib.hid hm
      rw [hm] at H hlen ⊢
      clear hm
      cases hbk : backB 40 q (r : Int) x
      · have eL : backL 40 (sole r xs) q (r : Int) x = sole r xs := by unfold backL; rw [hbk]; rfl
        rw [hbk, eL] at HC
        clear hq hbk eL
        go_wp2_with fail
        refine HC.out.mono ?_
        intro e w1 hd
        obtain ⟨rfl, hbu⟩ := H.out.did1 hd
        have H1 := Lib.hid hbu
        clear hbu hd HC H q0
        go_wp2_with fail
        go_roundw
        case rel => exact ⟨k + 1, by omega, by go_num, A8, c8, xs, by rw [HM.out], H1.out⟩
        case measure => simp [intOf]; omega
      · have hbk2 := hbk
        unfold backB at hbk2
        rw [Bool.and_eq_true, Bool.and_eq_true] at hbk2
        obtain ⟨n, rfl, hn⟩ := has_yes hbk2.1.2
        have hqn : q = none := by cases q with | none => rfl | some p => simp at hbk2
        subst hqn
        have HO := Lib.hid (show ∀ k ∈ xs, (k : Int) ≠ (n : Int) from fun k hk => hq r (by omega) k (by rw [sole_same]; exact hk))
        rw [hbk, (sole_back (by omega) hn).2] at HC
        clear hq hbk hbk2
        go_wp2_with fail
        refine HC.out.mono ?_
        intro e w1 hd
        obtain ⟨rfl, hbu⟩ := H.out.did1 hd
        have H1 := Lib.hid hbu
        have hKw := hbu.kl
        obtain ⟨i0, hi, hz0, hz1, hz2⟩ := info_parts info3
        clear hbu hd HC H q0
        go_wp2_with (at_builtin; refine wpList_append_lies _ rfl _ _ 37 rfl K 3 i0 (.int .i64 0) 1 8 Try.underlying37 hi hz0 hz1 hz2 rfl (by decide) (.slice A7 m c7) m (nats xs) rfl ?a0 ⟨w1.heap.size, 0, none⟩ 1 1 [.int .i64 (n : Int)] rfl rfl (cells_nat w1 n) (one_nat _) (by decide) (by unfold maxLen; omega) (by omega) ?a2 (w1.heap.size + 1) (by simp) ?_)
        case a0 => have := H1.out.row; rw [HM.out] at this; exact this.alloc _
        case a2 => simp; omega
        intro g' cap w5 hown hgrow hgo hglt
        have H2 := Lib.hid (H1.out.want HM.out hown hgrow hgo)
        clear hown hgrow hgo hglt H1 hKw hi hz0 hz1 hz2
        have hrd := H2.out.rd
        obtain ⟨A', c', w6, hrun, hj⟩ := join_front hrd n (by simp [HM.out]; omega) 37
        have HR := Lib.hid hrun
        have H3 := Lib.hid (H2.out.turned hj)
        have hlr : xs.reverse.length = m := by simp [HM.out]
        rw [hlr] at HR
        clear hrd hrun hj hlr H2
        go_wp2_with (at_builtin; refine Lib.wpList_append_run _ rfl _ _ 37 37 rfl _ _ rfl rfl _ _ HR.out ?_)
        have HF := Lib.hid (H3.out.o2.ln.first (r : Int))
        rw [sole_list (by omega)] at HF
        have HOr := Lib.hid (show ∀ k ∈ xs.reverse, (k : Int) ≠ (n : Int) from fun k hk => HO.out k (by simpa using hk))
        have hq2 : At 40 (sole r xs.reverse) (n : Int) none := sole_out HOr.out
        have HRev := Lib.hid (show (xs ++ [n]).reverse = n :: xs.reverse by simp)
        have HE := Lib.hid (show (xs ++ [n]).length = m + 1 by simp [HM.out])
        clear HR HO
        cases hrv : xs.reverse with
        | nil =>
          rw [hrv] at HF hq2 H3 HRev
          have HB := Lib.hid (H3.out.o2.ln.back hq2 (r : Int))
          rw [(sole_back (l := []) (by omega) hn).1, (sole_back (by omega) hn).2] at HB
          rw [show vOf [] = .tuple #[.int .i64 0, .bool false] from rfl] at HF
          clear hrv hq2 HOr
          go_wp2_with fail
          refine HF.out.mono ?_
          rintro e w7 ⟨rfl, rfl⟩
          clear HF
          go_wp2_with fail
          refine HB.out.mono ?_
          intro e w7 hd
          obtain ⟨rfl, hbu⟩ := H3.out.did2 hd
          have H4 := Lib.hid hbu
          clear hbu hd HB H3
          go_wp2_with fail
          go_roundw
          case rel => exact ⟨k + 1, by omega, by go_num, A', c', xs ++ [n], by rw [HE.out], by rw [HRev.out]; exact H4.out⟩
          case measure => simp [intOf]; omega
        | cons y ys =>
          rw [hrv] at HF hq2 H3 HRev
          have hqa : At 40 (sole r (y :: ys)) (y : Int) (some (r, 0)) := sole_at (by omega) rfl
          have HB := Lib.hid (H3.out.o2.ln.ahead hqa hq2 (r : Int))
          rw [(sole_ahead (l := []) hn).1, (sole_ahead hn).2] at HB
          rw [show vOf (y :: ys) = .tuple #[.int .i64 (y : Int), .bool true] from rfl] at HF
          clear hrv hq2 hqa HOr
          go_wp2_with fail
          refine HF.out.mono ?_
          rintro e w7 ⟨rfl, rfl⟩
          clear HF
          go_wp2_with fail
          refine HB.out.mono ?_
          intro e w7 hd
          obtain ⟨rfl, hbu⟩ := H3.out.did2 hd
          have H4 := Lib.hid hbu
          clear hbu hd HB H3
          go_wp2_with fail
          go_roundw
          case rel => exact ⟨k + 1, by omega, by go_num, A', c', xs ++ [n], by rw [HE.out], by rw [HRev.out]; exact H4.out⟩
          case measure => simp [intOf]; omega
    · obtain rfl : k = L := by omega
      obtain ⟨A7, c7, rfl, hr7⟩ := Rd.of_row H.out.row rfl
      have HL1 := Lib.hid (H.out.o1.ln.list (r : Int))
      rw [sole_list (by omega)] at HL1
      have HR7 := Lib.hid hr7
      clear hr7
      obtain ⟨m, hm⟩ : ∃ m, xs.length = m := ⟨_, rfl⟩
      have HM := Lib.hid hm
      have hm2 : m ≤ 5000 := by omega
      have HM2 := Lib.hid (show xs.reverse.length = m by simp [hm])
      rw [hm] at H ⊢
      clear hm hlen
      go_wp2_with fail
      refine HL1.out.mono ?_
      rintro e w4 ⟨A1, c1, rfl, hrd1, hb4⟩
      have HS := Lib.hid (same_list hrd1 (HR7.out.below hb4) (by rw [HM.out]; exact hm2))
      rw [HM.out] at HS ⊢
      have H4 := Lib.hid (H.out.below hb4)
      clear HL1 H hrd1 hb4 HR7
      go_wp2_with fail
      refine HS.out.mono ?_
      rintro e w5 ⟨rfl, hb5⟩
      have H5 := Lib.hid (H4.out.below hb5)
      clear HS H4 hb5
      have HL2 := Lib.hid (H5.out.o2.ln.list (r : Int))
      rw [sole_list (by omega)] at HL2
      go_wp2_with fail
      refine HL2.out.mono ?_
      rintro e w6 ⟨A2, c2, rfl, hrd2, hb6⟩
      have H6 := Lib.hid (H5.out.below hb6)
      have HS := Lib.hid (same_list hrd2 H6.out.rd (by rw [HM2.out]; exact hm2))
      rw [HM2.out] at HS ⊢
      clear HL2 H5 hrd2 hb6
      go_wp2_with fail
      refine HS.out.mono ?_
      rintro e w7 ⟨rfl, hb7⟩
      have H7 := Lib.hid (H6.out.below hb7)
      have HN := Lib.hid (H7.out.o1.ln.len (r : Int))
      rw [sole_list (by omega), HM.out] at HN
      clear HS H6 hb7
      go_wp2_with fail
      refine HN.out.mono ?_
      rintro e w8 ⟨rfl, hb8⟩
      have H8 := Lib.hid (H7.out.below hb8)
      clear HN H7 hb8
      go_wp2_with fail
      go_ret
      exact ⟨rfl, H8.out.o1.bel⟩
theorem builds_walk (A : Option Addr) (L c : Nat) (row : Int) (w : World) (hm : L ≤ maxLen) (hin : InI w A L) :
    Calls Try.prog 5 #[.slice A L c, .int .i64 row] w fun e w' => e = .returned (.bool true) ∧ Below w.heap.size w w' := by
  by_cases h : 30 < L ∨ row < 0 ∨ 40 ≤ row
  · exact builds_long A L c row w h hm
  · obtain ⟨r, rfl⟩ : ∃ r : Nat, row = r := ⟨row.toNat, by omega⟩
    exact builds_short A L c r w (by omega) (by omega) hin
end Go.Proofs.Ythgcedhplbhiiaa
