/- The walk of the law on draws and rounds. -/
import Derived.Test.YtjaiahnibeieiaaD7
import Derived.Deep.AppendLies
namespace Go.Proofs.Ytjaiahnibeieiaa
open Go Go.RowKit

theorem draws_long (A : Option Addr) (L c s : Nat) (n many : Int) (w : World) (h : (300 : Int) < many ∨ 100 < L) (hm : L ≤ maxLen) :
    Calls Try.prog 3 #[.int .i64 n, .int .i64 many, .int .u64 (s : Int), .slice A L c] w fun e w' => e = .returned (.bool true) ∧ Below w.heap.size w w' := by
  unfold maxLen at hm
  by_cases h1 : (300 : Int) < many
  · clear h
    go_enter Try.func3, Try.ntmps3
    go_wp2_with fail
    refine (awake_any _).mono ?_
    rintro e w1 ⟨rfl, hb1⟩
    go_wp2_with fail
    go_ret
    exact ⟨rfl, hb1⟩
  · have h2 : (100 : Int) < (L : Int) := by omega
    clear h
    go_enter Try.func3, Try.ntmps3
    go_wp2_with fail
    refine (awake_any _).mono ?_
    rintro e w1 ⟨rfl, hb1⟩
    go_wp2_with fail
    go_ret
    exact ⟨rfl, hb1⟩
set_option maxHeartbeats 8000000 in
theorem draws_none (A : Option Addr) (L c s : Nat) (n many : Int) (w : World) (z : Nat → Int) (hz : Rf w A L z) (hs : s < 18446744073709551616) (h0 : ¬ (300 : Int) < many) (h3 : ¬ 100 < L) (hmay : mayB n many = false) :
    Calls Try.prog 3 #[.int .i64 n, .int .i64 many, .int .u64 (s : Int), .slice A L c] w fun e w' => e = .returned (.bool true) ∧ Below w.heap.size w w' := by
  have HR := fun W => Lib.hid (round_no W hmay)
  have HD := fun W => Lib.hid (drawn_no (s := s) W hmay)
  have HX := fun W => Lib.hid (next_any s W hs)
  have HY := fun W => Lib.hid (rnext_any s W hs)
  generalize nx s = sx at HX HY
  have HZ := Lib.hid hz
  have h4 : ¬ (100 : Int) < (L : Int) := by omega
  have hm3 : n < 1 ∨ 64 < n ∨ many < 0 := by
    unfold mayB at hmay
    simp at hmay
    omega
  clear hz hmay
  go_enter Try.func3, Try.ntmps3
  go_wp2_with fail
  refine (awake_any _).mono ?_
  rintro e w1 ⟨rfl, hb1⟩
  go_wp2_with fail
  refine (HR w1).out.mono ?_
  rintro e w2 ⟨rfl, rfl⟩
  go_wp2_with fail
  refine (HD w1).out.mono ?_
  rintro e w2 ⟨rfl, rfl⟩
  have HB := Lib.hid hb1
  clear hb1 HR HD
  by_cases e0 : n < 1
  · clear hm3
    go_wp2_with fail
    go_loopw [71, 12] (fun t v wr => wr = w1 ∧ t = .int .i64 0 ∧ v = .int .u64 (s : Int)) (fun _ _ _ => 0)
    case atStart => exact ⟨rfl, rfl, rfl⟩
    case round =>
      obtain ⟨rfl, rfl, rfl⟩ := hrel
      obtain ⟨i0, hi, hz0, hz1, hz2⟩ := info_parts info3
      go_wp2_with fail
      go_loopw [99, 14] (fun t v wr => ∃ k : Nat, k ≤ L ∧ t = .int .i64 k ∧ wr.ownsRow w.heap.size 3 1 v (valsT (plN z n k)).length (intsL (valsT (plN z n k))) ∧ Below w.heap.size w wr) (fun t _ _ => L - (intOf t).toNat)
      case atStart => exact ⟨0, by omega, rfl, World.ownsRow_nil _ _ _ _, HB.out⟩
      case round =>
        obtain ⟨k, hk, rfl, hrow, hbw⟩ := hrel
        clear HB
        have HRW := Lib.hid hrow
        have HBW := Lib.hid hbw
        obtain ⟨A4, c4, rfl, -⟩ := row_slice hrow
        have hlen : (valsT (plN z n k)).length ≤ 100 := by have := plN_length z n k; simp [valsT]; omega
        clear hrow hbw
        by_cases hkL : k < L
        · obtain ⟨ad, rfl, -, q⟩ := (HZ.out.below HBW.out) k hkL
          obtain ⟨m, hm⟩ : ∃ m, (valsT (plN z n k)).length = m := ⟨_, rfl⟩
          have HM := Lib.hid hm
          rw [hm] at HRW hlen ⊢
          clear hm
          by_cases hin : 0 ≤ z k ∧ z k < n
          · exact absurd hin (by omega)
          · have HN := Lib.hid (show valsT (plN z n (k + 1)) = valsT (plN z n k) by rw [plN_no hin])
            by_cases d1 : z k < 0
            · generalize z k = y at q d1
              clear hin
              go_wp2_with fail
              go_roundw
              case rel => exact ⟨k + 1, by omega, by go_num, by rw [HN.out, HM.out]; exact HRW.out, HBW.out⟩
              case measure => simp [intOf]; omega
            · have d2 : n ≤ z k := by omega
              generalize z k = y at q d1 d2
              clear hin
              go_wp2_with fail
              go_roundw
              case rel => exact ⟨k + 1, by omega, by go_num, by rw [HN.out, HM.out]; exact HRW.out, HBW.out⟩
              case measure => simp [intOf]; omega
        · obtain rfl : k = L := by omega
          have HCU := Lib.hid (cut_any (c := c) (n := n) wr (HZ.out.below HBW.out) (by omega))
          obtain ⟨m, hm⟩ : ∃ m, (valsT (plN z n k)).length = m := ⟨_, rfl⟩
          have HM := Lib.hid hm
          rw [hm] at HRW hlen ⊢
          clear hm
          go_wp2_with fail
          refine HCU.out.mono ?_
          rintro e w7 ⟨A7, c7, rfl, hr7, hb7⟩
          have hb7' := HBW.out.trans (hb7.mono HBW.out.size)
          obtain ⟨A8, c8, e8, hr8⟩ := row_rf (row_below HRW.out hb7) HM.out
          cases e8
          rw [HM.out] at hr7 ⊢
          have HS := Lib.hid (same_any (c1 := c7) (c2 := c4) hr7 hr8 (by omega))
          clear HCU hr7 hr8 hb7
          go_wp2_with fail
          refine HS.out.mono ?_
          rintro e w8 ⟨rfl, hb8⟩
          have hb8' := hb7'.trans (hb8.mono hb7'.size)
          clear hb7' hb8 HS
          go_wp2_with fail
          refine (HX w8).out.mono ?_
          rintro e w9 ⟨rfl, rfl⟩
          go_wp2_with fail
          refine (HY w8).out.mono ?_
          rintro e w9 ⟨rfl, rfl⟩
          go_wp2_with fail
          go_ret
          exact ⟨rfl, hb8'⟩
  · by_cases e1 : 64 < n
    · clear hm3
      go_wp2_with fail
      go_loopw [71, 12] (fun t v wr => wr = w1 ∧ t = .int .i64 0 ∧ v = .int .u64 (s : Int)) (fun _ _ _ => 0)
      case atStart => exact ⟨rfl, rfl, rfl⟩
      case round =>
        obtain ⟨rfl, rfl, rfl⟩ := hrel
        obtain ⟨i0, hi, hz0, hz1, hz2⟩ := info_parts info3
        go_wp2_with fail
        go_loopw [99, 14] (fun t v wr => ∃ k : Nat, k ≤ L ∧ t = .int .i64 k ∧ wr.ownsRow w.heap.size 3 1 v (valsT (plN z n k)).length (intsL (valsT (plN z n k))) ∧ Below w.heap.size w wr) (fun t _ _ => L - (intOf t).toNat)
        case atStart => exact ⟨0, by omega, rfl, World.ownsRow_nil _ _ _ _, HB.out⟩
        case round =>
          obtain ⟨k, hk, rfl, hrow, hbw⟩ := hrel
          clear HB
          have HRW := Lib.hid hrow
          have HBW := Lib.hid hbw
          obtain ⟨A4, c4, rfl, -⟩ := row_slice hrow
          have hlen : (valsT (plN z n k)).length ≤ 100 := by have := plN_length z n k; simp [valsT]; omega
          clear hrow hbw
          by_cases hkL : k < L
          · obtain ⟨ad, rfl, -, q⟩ := (HZ.out.below HBW.out) k hkL
            obtain ⟨m, hm⟩ : ∃ m, (valsT (plN z n k)).length = m := ⟨_, rfl⟩
            have HM := Lib.hid hm
            rw [hm] at HRW hlen ⊢
            clear hm
            by_cases hin : 0 ≤ z k ∧ z k < n
            · have HN := Lib.hid (show valsT (plN z n (k + 1)) = valsT (plN z n k) ++ [z k] by rw [plN_yes hin, valsT_snoc])
              have d1 : 0 ≤ z k := hin.1
              have d2 : z k < n := hin.2
              clear hin
              generalize z k = y at q HN d1 d2
              have hKw := HBW.out.size
              go_wp2_with (at_builtin; refine wpList_append_lies _ rfl _ _ 23 rfl w.heap.size 3 i0 (.int .i64 0) 1 8 Try.underlying23 hi hz0 hz1 hz2 rfl (by decide) (.slice A4 m c4) m (intsL (valsT (plN z n k))) rfl (HRW.out.alloc _) ⟨wr.heap.size, 0, none⟩ 1 1 [.int .i64 y] rfl rfl (new_int wr y) (one_int _) (by decide) (by unfold maxLen; omega) (by omega) ?a2 (wr.heap.size + 1) (by simp) ?_)
              case a2 => simp; omega
              intro g' cap w6 hown hgrow hgo hglt
              have HB6 := Lib.hid (show Below w.heap.size w w6 from HBW.out.trans ((OnlyS.grown (S := fun j => w.heap.size ≤ j) (w1 := wr.alloc (.cells #[.int .i64 y] 3)) (OnlyS.of_below (box_below wr _)) hgrow (fun j hj => .inl (HRW.out.lt j hj).1)).below (fun j hj => hj) HBW.out.size))
              have HO := Lib.hid hown
              clear hown hgrow hgo hglt
              go_wp2_with fail
              go_roundw
              case rel => exact ⟨k + 1, by omega, by go_num, by rw [HN.out, ints_snoc, List.length_append, HM.out]; exact HO.out, HB6.out⟩
              case measure => simp [intOf]; omega
            · have HN := Lib.hid (show valsT (plN z n (k + 1)) = valsT (plN z n k) by rw [plN_no hin])
              by_cases d1 : z k < 0
              · generalize z k = y at q d1
                clear hin
                go_wp2_with fail
                go_roundw
                case rel => exact ⟨k + 1, by omega, by go_num, by rw [HN.out, HM.out]; exact HRW.out, HBW.out⟩
                case measure => simp [intOf]; omega
              · have d2 : n ≤ z k := by omega
                generalize z k = y at q d1 d2
                clear hin
                go_wp2_with fail
                go_roundw
                case rel => exact ⟨k + 1, by omega, by go_num, by rw [HN.out, HM.out]; exact HRW.out, HBW.out⟩
                case measure => simp [intOf]; omega
          · obtain rfl : k = L := by omega
            have HCU := Lib.hid (cut_any (c := c) (n := n) wr (HZ.out.below HBW.out) (by omega))
            obtain ⟨m, hm⟩ : ∃ m, (valsT (plN z n k)).length = m := ⟨_, rfl⟩
            have HM := Lib.hid hm
            rw [hm] at HRW hlen ⊢
            clear hm
            go_wp2_with fail
            refine HCU.out.mono ?_
            rintro e w7 ⟨A7, c7, rfl, hr7, hb7⟩
            have hb7' := HBW.out.trans (hb7.mono HBW.out.size)
            obtain ⟨A8, c8, e8, hr8⟩ := row_rf (row_below HRW.out hb7) HM.out
            cases e8
            rw [HM.out] at hr7 ⊢
            have HS := Lib.hid (same_any (c1 := c7) (c2 := c4) hr7 hr8 (by omega))
            clear HCU hr7 hr8 hb7
            go_wp2_with fail
            refine HS.out.mono ?_
            rintro e w8 ⟨rfl, hb8⟩
            have hb8' := hb7'.trans (hb8.mono hb7'.size)
            clear hb7' hb8 HS
            go_wp2_with fail
            refine (HX w8).out.mono ?_
            rintro e w9 ⟨rfl, rfl⟩
            go_wp2_with fail
            refine (HY w8).out.mono ?_
            rintro e w9 ⟨rfl, rfl⟩
            go_wp2_with fail
            go_ret
            exact ⟨rfl, hb8'⟩
    · have e2 : many < 0 := by omega
      clear hm3
      go_wp2_with fail
      go_loopw [71, 12] (fun t v wr => wr = w1 ∧ t = .int .i64 0 ∧ v = .int .u64 (s : Int)) (fun _ _ _ => 0)
      case atStart => exact ⟨rfl, rfl, rfl⟩
      case round =>
        obtain ⟨rfl, rfl, rfl⟩ := hrel
        obtain ⟨i0, hi, hz0, hz1, hz2⟩ := info_parts info3
        go_wp2_with fail
        go_loopw [99, 14] (fun t v wr => ∃ k : Nat, k ≤ L ∧ t = .int .i64 k ∧ wr.ownsRow w.heap.size 3 1 v (valsT (plN z n k)).length (intsL (valsT (plN z n k))) ∧ Below w.heap.size w wr) (fun t _ _ => L - (intOf t).toNat)
        case atStart => exact ⟨0, by omega, rfl, World.ownsRow_nil _ _ _ _, HB.out⟩
        case round =>
          obtain ⟨k, hk, rfl, hrow, hbw⟩ := hrel
          clear HB
          have HRW := Lib.hid hrow
          have HBW := Lib.hid hbw
          obtain ⟨A4, c4, rfl, -⟩ := row_slice hrow
          have hlen : (valsT (plN z n k)).length ≤ 100 := by have := plN_length z n k; simp [valsT]; omega
          clear hrow hbw
          by_cases hkL : k < L
          · obtain ⟨ad, rfl, -, q⟩ := (HZ.out.below HBW.out) k hkL
            obtain ⟨m, hm⟩ : ∃ m, (valsT (plN z n k)).length = m := ⟨_, rfl⟩
            have HM := Lib.hid hm
            rw [hm] at HRW hlen ⊢
            clear hm
            by_cases hin : 0 ≤ z k ∧ z k < n
            · have HN := Lib.hid (show valsT (plN z n (k + 1)) = valsT (plN z n k) ++ [z k] by rw [plN_yes hin, valsT_snoc])
              have d1 : 0 ≤ z k := hin.1
              have d2 : z k < n := hin.2
              clear hin
              generalize z k = y at q HN d1 d2
              have hKw := HBW.out.size
              go_wp2_with (at_builtin; refine wpList_append_lies _ rfl _ _ 23 rfl w.heap.size 3 i0 (.int .i64 0) 1 8 Try.underlying23 hi hz0 hz1 hz2 rfl (by decide) (.slice A4 m c4) m (intsL (valsT (plN z n k))) rfl (HRW.out.alloc _) ⟨wr.heap.size, 0, none⟩ 1 1 [.int .i64 y] rfl rfl (new_int wr y) (one_int _) (by decide) (by unfold maxLen; omega) (by omega) ?a2 (wr.heap.size + 1) (by simp) ?_)
              case a2 => simp; omega
              intro g' cap w6 hown hgrow hgo hglt
              have HB6 := Lib.hid (show Below w.heap.size w w6 from HBW.out.trans ((OnlyS.grown (S := fun j => w.heap.size ≤ j) (w1 := wr.alloc (.cells #[.int .i64 y] 3)) (OnlyS.of_below (box_below wr _)) hgrow (fun j hj => .inl (HRW.out.lt j hj).1)).below (fun j hj => hj) HBW.out.size))
              have HO := Lib.hid hown
              clear hown hgrow hgo hglt
              go_wp2_with fail
              go_roundw
              case rel => exact ⟨k + 1, by omega, by go_num, by rw [HN.out, ints_snoc, List.length_append, HM.out]; exact HO.out, HB6.out⟩
              case measure => simp [intOf]; omega
            · have HN := Lib.hid (show valsT (plN z n (k + 1)) = valsT (plN z n k) by rw [plN_no hin])
              by_cases d1 : z k < 0
              · generalize z k = y at q d1
                clear hin
                go_wp2_with fail
                go_roundw
                case rel => exact ⟨k + 1, by omega, by go_num, by rw [HN.out, HM.out]; exact HRW.out, HBW.out⟩
                case measure => simp [intOf]; omega
              · have d2 : n ≤ z k := by omega
                generalize z k = y at q d1 d2
                clear hin
                go_wp2_with fail
                go_roundw
                case rel => exact ⟨k + 1, by omega, by go_num, by rw [HN.out, HM.out]; exact HRW.out, HBW.out⟩
                case measure => simp [intOf]; omega
          · obtain rfl : k = L := by omega
            have HCU := Lib.hid (cut_any (c := c) (n := n) wr (HZ.out.below HBW.out) (by omega))
            obtain ⟨m, hm⟩ : ∃ m, (valsT (plN z n k)).length = m := ⟨_, rfl⟩
            have HM := Lib.hid hm
            rw [hm] at HRW hlen ⊢
            clear hm
            go_wp2_with fail
            refine HCU.out.mono ?_
            rintro e w7 ⟨A7, c7, rfl, hr7, hb7⟩
            have hb7' := HBW.out.trans (hb7.mono HBW.out.size)
            obtain ⟨A8, c8, e8, hr8⟩ := row_rf (row_below HRW.out hb7) HM.out
            cases e8
            rw [HM.out] at hr7 ⊢
            have HS := Lib.hid (same_any (c1 := c7) (c2 := c4) hr7 hr8 (by omega))
            clear HCU hr7 hr8 hb7
            go_wp2_with fail
            refine HS.out.mono ?_
            rintro e w8 ⟨rfl, hb8⟩
            have hb8' := hb7'.trans (hb8.mono hb7'.size)
            clear hb7' hb8 HS
            go_wp2_with fail
            refine (HX w8).out.mono ?_
            rintro e w9 ⟨rfl, rfl⟩
            go_wp2_with fail
            refine (HY w8).out.mono ?_
            rintro e w9 ⟨rfl, rfl⟩
            go_wp2_with fail
            go_ret
            exact ⟨rfl, hb8'⟩
set_option maxHeartbeats 8000000 in
theorem draws_main (A : Option Addr) (L c s N M : Nat) (n : Int) (w : World) (z : Nat → Int) (hz : Rf w A L z) (hs : s < 18446744073709551616) (h0 : M ≤ 300) (h3 : ¬ 100 < L) (h1 : 1 ≤ N) (h2 : N ≤ 64) (hnN : n = (N : Int)) :
    Calls Try.prog 3 #[.int .i64 n, .int .i64 (M : Int), .int .u64 (s : Int), .slice A L c] w fun e w' => e = .returned (.bool true) ∧ Below w.heap.size w w' := by
  have HR := fun W => Lib.hid (round_yes (M := M) W h1 h2 (by omega))
  have HD := fun W => Lib.hid (drawn_yes (M := M) W h1 h2 (by omega) hs)
  have HX := fun W => Lib.hid (next_any s W hs)
  have HY := fun W => Lib.hid (rnext_any s W hs)
  generalize nx s = sx at HX HY
  have HZ := Lib.hid hz
  have h4 : ¬ (100 : Int) < (L : Int) := by omega
  have h5 : ¬ (300 : Int) < (M : Int) := by omega
  subst hnN
  clear hz
  go_enter Try.func3, Try.ntmps3
  go_wp2_with fail
  refine (awake_any _).mono ?_
  rintro e w1 ⟨rfl, hb1⟩
  go_wp2_with fail
  refine (HR w1).out.mono ?_
  rintro e w2 ⟨g1, rfl, ha1, hb2⟩
  have hb2' := hb1.trans (hb2.mono hb1.size)
  go_wp2_with fail
  refine (HD w2).out.mono ?_
  rintro e w3 ⟨g2, rfl, ha2, hb3⟩
  have HB := Lib.hid (hb2'.trans (hb3.mono hb2'.size))
  have HA1 := Lib.hid (ha1.below hb3)
  have HA2 := Lib.hid ha2
  clear hb1 hb2 hb2' hb3 ha1 ha2 HR HD
  go_wp2_with fail
  go_loopw [71, 12] (fun t v wr => ∃ k : Nat, k ≤ M ∧ t = .int .i64 k ∧ v = .int .u64 (seedN s k : Int) ∧ ∃ j, wr = w3.drewN j) (fun t _ _ => M - (intOf t).toNat)
  case atStart => exact ⟨0, by omega, rfl, rfl, 0, rfl⟩
  case round =>
    obtain ⟨k, hk, rfl, rfl, j, rfl⟩ := hrel
    by_cases hlt : k < M
    · have q1 : (w3.drewN j).cell? ⟨g1, k, none⟩ = some (.int .i64 ((k % N : Nat) : Int)) := HA1.out.at' k hlt
      have q2 : (w3.drewN j).cell? ⟨g2, k, none⟩ = some (.int .i64 ((seedN s (k + 1) % N : Nat) : Int)) := HA2.out.at' k hlt
      generalize hX : w3.drewN j = X at q1 q2 ⊢
      have HXX := Lib.hid hX
      clear hX
      have HN := Lib.hid (rnext_any (seedN s k) X (seedN_lt hs k))
      rw [show nx (seedN s k) = seedN s (k + 1) from rfl] at HN
      have hy := seedN_lt hs (k + 1)
      obtain ⟨y, hyy⟩ : ∃ y, seedN s (k + 1) = y := ⟨_, rfl⟩
      have HSY := Lib.hid hyy
      rw [hyy] at HN q2 hy
      clear hyy
      generalize seedN s k = y0 at HN ⊢
      have hN0 : ¬ (N : Int) = 0 := by omega
      have hm1 : ((k : Int)).tmod (N : Int) = ((k % N : Nat) : Int) := by rw [Int.tmod_eq_emod_of_nonneg (by omega)]; simp
      have hr1 : k % N < N := Nat.mod_lt _ (by omega)
      have hr : y % N < N := Nat.mod_lt _ (by omega)
      have hm : ((y : Int)).tmod (N : Int) = ((y % N : Nat) : Int) := by rw [Int.tmod_eq_emod_of_nonneg (by omega)]; simp
      have hu : IntKind.u64.wrap (N : Int) = (N : Int) := by rw [IntKind.wrap_u64]; omega
      have hw : IntKind.u64.wrap ((y % N : Nat) : Int) = ((y % N : Nat) : Int) := by rw [IntKind.wrap_u64]; omega
      generalize y % N = r at hr hm hw q2
      generalize k % N = r1 at hr1 hm1 q1
      go_wp2_with (go_at_call 10; ((with_reducible refine HN.out.mono ?_); rintro e w' ⟨rfl, rfl⟩))
      go_quiet (fail)
      have HE := Lib.hid (show X.drewN nq = w3.drewN (j + nq) by rw [← HXX.out]; simp [World.drewN]; omega)
      generalize X.drewN nq = Y at HE ⊢
      clear q1 q2 HN
      go_wp2_with fail
      go_roundw
      case rel => exact ⟨k + 1, by omega, by go_num, by rw [HSY.out], j + nq, HE.out⟩
      case measure => simp [intOf]; omega
    · obtain rfl : k = M := by omega
      have HB := Lib.hid (HB.out.trans ((drew_below w3 j).mono HB.out.size))
      generalize w3.drewN j = w4 at HB ⊢
      clear HA1 HA2
      generalize seedN s k = y0
      obtain ⟨i0, hi, hz0, hz1, hz2⟩ := info_parts info3
      go_wp2_with fail
      go_loopw [99, 14] (fun t v wr => ∃ k : Nat, k ≤ L ∧ t = .int .i64 k ∧ wr.ownsRow w.heap.size 3 1 v (valsT (plN z (N : Int) k)).length (intsL (valsT (plN z (N : Int) k))) ∧ Below w.heap.size w wr) (fun t _ _ => L - (intOf t).toNat)
      case atStart => exact ⟨0, by omega, rfl, World.ownsRow_nil _ _ _ _, HB.out⟩
      case round =>
        obtain ⟨k, hk, rfl, hrow, hbw⟩ := hrel
        clear HB
        have HRW := Lib.hid hrow
        have HBW := Lib.hid hbw
        obtain ⟨A4, c4, rfl, -⟩ := row_slice hrow
        have hlen : (valsT (plN z (N : Int) k)).length ≤ 100 := by have := plN_length z (N : Int) k; simp [valsT]; omega
        clear hrow hbw
        by_cases hkL : k < L
        · obtain ⟨ad, rfl, -, q⟩ := (HZ.out.below HBW.out) k hkL
          obtain ⟨m, hm⟩ : ∃ m, (valsT (plN z (N : Int) k)).length = m := ⟨_, rfl⟩
          have HM := Lib.hid hm
          rw [hm] at HRW hlen ⊢
          clear hm
          by_cases hin : 0 ≤ z k ∧ z k < (N : Int)
          · have HN := Lib.hid (show valsT (plN z (N : Int) (k + 1)) = valsT (plN z (N : Int) k) ++ [z k] by rw [plN_yes hin, valsT_snoc])
            have d1 : 0 ≤ z k := hin.1
            have d2 : z k < (N : Int) := hin.2
            clear hin
            generalize z k = y at q HN d1 d2
            have hKw := HBW.out.size
            go_wp2_with (at_builtin; refine wpList_append_lies _ rfl _ _ 23 rfl w.heap.size 3 i0 (.int .i64 0) 1 8 Try.underlying23 hi hz0 hz1 hz2 rfl (by decide) (.slice A4 m c4) m (intsL (valsT (plN z (N : Int) k))) rfl (HRW.out.alloc _) ⟨wr.heap.size, 0, none⟩ 1 1 [.int .i64 y] rfl rfl (new_int wr y) (one_int _) (by decide) (by unfold maxLen; omega) (by omega) ?a2 (wr.heap.size + 1) (by simp) ?_)
            case a2 => simp; omega
            intro g' cap w6 hown hgrow hgo hglt
            have HB6 := Lib.hid (show Below w.heap.size w w6 from HBW.out.trans ((OnlyS.grown (S := fun j => w.heap.size ≤ j) (w1 := wr.alloc (.cells #[.int .i64 y] 3)) (OnlyS.of_below (box_below wr _)) hgrow (fun j hj => .inl (HRW.out.lt j hj).1)).below (fun j hj => hj) HBW.out.size))
            have HO := Lib.hid hown
            clear hown hgrow hgo hglt
            go_wp2_with fail
            go_roundw
            case rel => exact ⟨k + 1, by omega, by go_num, by rw [HN.out, ints_snoc, List.length_append, HM.out]; exact HO.out, HB6.out⟩
            case measure => simp [intOf]; omega
          · have HN := Lib.hid (show valsT (plN z (N : Int) (k + 1)) = valsT (plN z (N : Int) k) by rw [plN_no hin])
            by_cases d1 : z k < 0
            · generalize z k = y at q d1
              clear hin
              go_wp2_with fail
              go_roundw
              case rel => exact ⟨k + 1, by omega, by go_num, by rw [HN.out, HM.out]; exact HRW.out, HBW.out⟩
              case measure => simp [intOf]; omega
            · have d2 : (N : Int) ≤ z k := by omega
              generalize z k = y at q d1 d2
              clear hin
              go_wp2_with fail
              go_roundw
              case rel => exact ⟨k + 1, by omega, by go_num, by rw [HN.out, HM.out]; exact HRW.out, HBW.out⟩
              case measure => simp [intOf]; omega
        · obtain rfl : k = L := by omega
          have HCU := Lib.hid (cut_any (c := c) (n := (N : Int)) wr (HZ.out.below HBW.out) (by omega))
          obtain ⟨m, hm⟩ : ∃ m, (valsT (plN z (N : Int) k)).length = m := ⟨_, rfl⟩
          have HM := Lib.hid hm
          rw [hm] at HRW hlen ⊢
          clear hm
          go_wp2_with fail
          refine HCU.out.mono ?_
          rintro e w7 ⟨A7, c7, rfl, hr7, hb7⟩
          have hb7' := HBW.out.trans (hb7.mono HBW.out.size)
          obtain ⟨A8, c8, e8, hr8⟩ := row_rf (row_below HRW.out hb7) HM.out
          cases e8
          rw [HM.out] at hr7 ⊢
          have HS := Lib.hid (same_any (c1 := c7) (c2 := c4) hr7 hr8 (by omega))
          clear HCU hr7 hr8 hb7
          go_wp2_with fail
          refine HS.out.mono ?_
          rintro e w8 ⟨rfl, hb8⟩
          have hb8' := hb7'.trans (hb8.mono hb7'.size)
          clear hb7' hb8 HS
          go_wp2_with fail
          refine (HX w8).out.mono ?_
          rintro e w9 ⟨rfl, rfl⟩
          go_wp2_with fail
          refine (HY w8).out.mono ?_
          rintro e w9 ⟨rfl, rfl⟩
          go_wp2_with fail
          go_ret
          exact ⟨rfl, hb8'⟩
theorem draws_walk (A : Option Addr) (L c : Nat) (n many : Int) (s : Nat) (w : World) (z : Nat → Int) (hs : s < 18446744073709551616) (hm : L ≤ maxLen) (hz : Rf w A L z) :
    Calls Try.prog 3 #[.int .i64 n, .int .i64 many, .int .u64 (s : Int), .slice A L c] w fun e w' => e = .returned (.bool true) ∧ Below w.heap.size w w' := by
  by_cases h : (300 : Int) < many ∨ 100 < L
  · exact draws_long A L c s n many w h hm
  · cases hmay : mayB n many with
    | false => exact draws_none A L c s n many w z hz hs (by omega) (by omega) hmay
    | true =>
      obtain ⟨N, M, hn, rfl, k1, k2, k3⟩ := may_yes hmay
      exact draws_main A L c s N M n w z hz hs (by omega) (by omega) k1 k2 hn
end Go.Proofs.Ytjaiahnibeieiaa
