/- The walk of the law that each place is in one row at most, once, and that what isn't cut keeps its order. -/
import Derived.Test.YthgcedhplbhiiaaN1
import Derived.Test.YthgcedhplbhiiaaM3
namespace Go.Proofs.Ythgcedhplbhiiaa
open Go Go.RowKit

/-- a deed of a list that came in -/
structure DeedAt (w : World) (ad : Addr) (i : Nat) (k r t x : Int) : Prop where
  c0 : w.cell? (ad.add (i * 4)) = some (.int .i64 k)
  c1 : w.cell? ⟨(ad.add (i * 4)).block, (ad.add (i * 4)).off + 1, none⟩ = some (.int .i64 r)
  c2 : w.cell? ⟨(ad.add (i * 4)).block, (ad.add (i * 4)).off + 2, none⟩ = some (.int .i64 t)
  c3 : w.cell? ⟨(ad.add (i * 4)).block, (ad.add (i * 4)).off + 3, none⟩ = some (.int .i64 x)
def InD (w : World) (A : Option Addr) (L : Nat) : Prop := ∀ i, i < L → ∃ ad k r t x, A = some ad ∧ ad.block < w.heap.size ∧ DeedAt w ad i k r t x
theorem InD.at {w w' : World} {A : Option Addr} {L i : Nat} (h : InD w A L) (hb : Below w.heap.size w w') (hi : i < L) : ∃ ad k r t x, A = some ad ∧ DeedAt w' ad i k r t x := by
  obtain ⟨ad, k, r, t, x, h1, h2, h4⟩ := h i hi
  refine ⟨ad, k, r, t, x, h1, ⟨?_, ?_, ?_, ?_⟩⟩
  · rw [hb.cell (p := ad.add (i * 4)) (by rw [block_add']; exact h2)]; exact h4.c0
  · rw [hb.cell (p := ⟨(ad.add (i * 4)).block, (ad.add (i * 4)).off + 1, none⟩) (by show (ad.add (i * 4)).block < _; rw [block_add']; exact h2)]; exact h4.c1
  · rw [hb.cell (p := ⟨(ad.add (i * 4)).block, (ad.add (i * 4)).off + 2, none⟩) (by show (ad.add (i * 4)).block < _; rw [block_add']; exact h2)]; exact h4.c2
  · rw [hb.cell (p := ⟨(ad.add (i * 4)).block, (ad.add (i * 4)).off + 3, none⟩) (by show (ad.add (i * 4)).block < _; rw [block_add']; exact h2)]; exact h4.c3
theorem order_long (n : Int) (A : Option Addr) (M c : Nat) (i : Int) (w : World) (h : 40 < M ∨ 30 < n) (hm : M ≤ maxLen) :
    Calls Try.prog 4 #[.int .i64 n, .slice A M c, .int .i64 i] w fun e w' => e = .returned (.bool true) ∧ Below w.heap.size w w' := by
  unfold maxLen at hm
  by_cases h1 : 40 < M
  · have h2 : (40 : Int) < (M : Int) := by omega
    have h3 : decide ((40 : Int) < (M : Int)) = true := by simp; omega
    clear h
    set_option maxRecDepth 100000 in
    go_enter Try.func4, Try.ntmps4
    go_wp2_with fail
    refine (awake_any _).mono ?_
    rintro e w1 ⟨rfl, hb1⟩
    go_wp2_with fail
    go_ret
    exact ⟨rfl, hb1⟩
  · have h2 : ¬ (40 : Int) < (M : Int) := by omega
    have h3 : 30 < n := by omega
    have h4 : decide ((40 : Int) < (M : Int)) = false := by simp; omega
    have h5 : decide (30 < n) = true := by simpa using h3
    clear h
    set_option maxRecDepth 100000 in
    go_enter Try.func4, Try.ntmps4
    go_wp2_with fail
    refine (awake_any _).mono ?_
    rintro e w1 ⟨rfl, hb1⟩
    go_wp2_with fail
    go_ret
    exact ⟨rfl, hb1⟩
theorem cl_max {n : Int} (h : ¬ 30 < n) : (if 0 > n then 0 else n) = (cl n : Int) := by
  unfold cl
  by_cases h0 : n < 0
  · rw [if_pos h0, if_pos h0]; rfl
  · rw [if_neg h0, if_neg h0, if_neg (by omega)]; omega
def Some (w W : World) (b g N : Nat) : Prop := ∃ L, One w W b g N L
theorem rowV_is (q : Spot) : rowV q = .tuple #[.int .i64 (rowI q), .bool q.isSome] := by
  cases q with
  | none => rfl
  | some p => rfl
theorem Ln.good {W : World} {b g N : Nat} {L : Nat → List Nat} (h : Ln W b g N L) : Good N L := by
  obtain ⟨_, _, _, _, _, hr⟩ := h
  exact hr.good
/-- what is wanted so far -/
def Wt (w6 W : World) (i : Int) (ws : List Nat) (v : Value) (j : Nat) : Prop := Below w6.heap.size w6 W ∧ W.ownsRow w6.heap.size 3 1 v (keepL i (ws.take j)).length (nats (keepL i (ws.take j)))
theorem Wt.start (w6 : World) (i : Int) (ws : List Nat) : Wt w6 w6 i ws (.slice none 0 0) 0 := by
  refine ⟨Below.refl _ _, ?_⟩
  rw [List.take_zero]
  exact World.ownsRow_nil _ _ _ _
theorem take_next {ws : List Nat} {j : Nat} (h : j < ws.length) : ws.take (j + 1) = ws.take j ++ [ws[j]] := List.take_succ_eq_append_getElem h
theorem Wt.skip {w6 W : World} {i : Int} {ws : List Nat} {v : Value} {j : Nat} (h : Wt w6 W i ws v j) (hj : j < ws.length) (e : (ws[j] : Int) = i) : Wt w6 W i ws v (j + 1) := by
  unfold Wt at h ⊢
  rw [take_next hj, keepL_snoc_no e]
  exact h
theorem Wt.put {w6 W w5 : World} {i : Int} {ws : List Nat} {v : Value} {j g' cap k : Nat} {o : Obj} (h : Wt w6 W i ws v j) (hj : j < ws.length) (e : (ws[j] : Int) ≠ i) (hk : (keepL i (ws.take j)).length = k)
    (hown : w5.ownsRow w6.heap.size 3 1 (.slice (some ⟨g', 0, none⟩) (k + 1) cap) (k + 1) (nats (keepL i (ws.take j)) ++ [.int .i64 (ws[j] : Int)])) (hgrow : (W.alloc o).grownBy w5 v.ownBlock) : Wt w6 w5 i ws (.slice (some ⟨g', 0, none⟩) (k + 1) cap) (j + 1) := by
  have ho : OnlyS (fun j => v.ownBlock = some j) W w5 := OnlyS.grown (w1 := W.alloc o) (OnlyS.of_below (box_below _ _)) hgrow (fun j hj => .inl hj)
  refine ⟨h.1.trans (ho.below (fun q hq => (h.2.lt q hq).1) h.1.size), ?_⟩
  rw [take_next hj, keepL_snoc_yes e, nats_snoc, List.length_append, hk]
  exact hown
/-- whom the map has met -/
def Mt (w7 W : World) (mb : Nat) (L : Nat → List Nat) (r j : Nat) : Prop :=
  Below w7.heap.size w7 W ∧ ∃ ids : List Nat, MapAt W mb ids.length ids ∧ ids.length ≤ 30 * r + j ∧ ∀ x ∈ ids, (∃ s, s < r ∧ x ∈ L s) ∨ x ∈ (L r).take j
theorem Mt.start (w7 : World) (L : Nat → List Nat) : Mt w7 (w7.alloc (.map #[] 0)) w7.heap.size L 0 0 :=
  ⟨box_below _ _, [], MapAt.made w7, by simp, by simp⟩
theorem Mt.below {w7 W W' : World} {mb r j : Nat} {L : Nat → List Nat} (h : Mt w7 W mb L r j) (hb : Below W.heap.size W W') : Mt w7 W' mb L r j := by
  obtain ⟨h1, ids, h2, h3, h4⟩ := h
  exact ⟨h1.trans (hb.mono h1.size), ids, h2.keep (hb.block mb h2.lt), h3, h4⟩
theorem Mt.lt {w7 W : World} {mb r j : Nat} {L : Nat → List Nat} (h : Mt w7 W mb L r j) : mb < W.heap.size := by
  obtain ⟨_, ids, h2, _⟩ := h
  exact h2.lt
theorem Mt.nextRow {w7 W : World} {mb r j : Nat} {L : Nat → List Nat} (h : Mt w7 W mb L r j) (hj : (L r).length ≤ 30) (hj2 : j ≤ (L r).length) : Mt w7 W mb L (r + 1) 0 := by
  obtain ⟨h1, ids, h2, h3, h4⟩ := h
  refine ⟨h1, ids, h2, by omega, fun x hx => .inl ?_⟩
  rcases h4 x hx with ⟨s, hs, hm⟩ | hm
  · exact ⟨s, by omega, hm⟩
  · exact ⟨r, by omega, List.mem_of_mem_take hm⟩
theorem Mt.meet {w7 W : World} {mb r j N : Nat} {L : Nat → List Nat} (h : Mt w7 W mb L r j) (hg : Good N L) (hN : N ≤ 30) (hr : r < N) (hj : j < (L r).length) (hmb : w7.heap.size ≤ mb) :
    (Instr.lookup 45 (.map (some mb)) (.int .i64 ((L r)[j] : Int)) false).run Try.prog W = .ok (.bool false) W ∧
    ∃ w', (Instr.mapUpdate 45 (.map (some mb)) (.int .i64 ((L r)[j] : Int)) (.bool true)).run Try.prog W = .ok () w' ∧ Mt w7 w' mb L r (j + 1) ∧ OnlyS (· = mb) W w' := by
  obtain ⟨h1, ids, h2, h3, h4⟩ := h
  have hlr := hg.len hr
  have hmem : (L r)[j] ∈ L r := List.getElem_mem hj
  have hlt := hg.lt r hr _ hmem
  have hnot : (L r)[j] ∉ ids := by
    intro hx
    rcases h4 _ hx with ⟨s, hs, hm⟩ | hm
    · have := hg.one s r (by omega) hr _ hm hmem
      omega
    · obtain ⟨i, hi, e⟩ := List.getElem_of_mem hm
      rw [List.length_take] at hi
      rw [List.getElem_take] at e
      have := List.pairwise_iff_getElem.1 (hg.nd r hr) i j (by omega) hj (by omega)
      exact this e
  have hl := h2.look (i := (L r)[j]) (by omega)
  rw [decide_eq_false hnot] at hl
  obtain ⟨w', hrun, hm, hgr⟩ := h2.put (i := (L r)[j]) (by omega) hnot (by omega)
  have ho : OnlyS (· = mb) W w' := OnlyS.grown (OnlyS.refl (· = mb) W) hgr (fun k e => .inl (by cases e; rfl))
  refine ⟨hl, w', hrun, ⟨h1.trans (ho.below (fun k e => by rw [e]; exact hmb) h1.size), (L r)[j] :: ids, hm, by simp; omega, fun x hx => ?_⟩, ho⟩
  rw [take_next hj]
  rcases List.mem_cons.1 hx with rfl | hx
  · exact .inr (List.mem_append_right _ (List.mem_singleton.2 rfl))
  · rcases h4 x hx with q | q
    · exact .inl q
    · exact .inr (List.mem_append_left _ q)
set_option maxHeartbeats 16000000 in
set_option maxRecDepth 100000 in
theorem order_short (n : Int) (A : Option Addr) (M c : Nat) (i : Int) (w : World) (h : ¬ 40 < M) (h' : ¬ 30 < n) (hin : InD w A M) :
    Calls Try.prog 4 #[.int .i64 n, .slice A M c, .int .i64 i] w fun e w' => e = .returned (.bool true) ∧ Below w.heap.size w w' := by
  have I := Lib.hid hin
  clear hin
  have hL : ¬ (40 : Int) < (M : Int) := by omega
  have hLd : decide ((40 : Int) < (M : Int)) = false := by simp; omega
  have hNd : decide (30 < n) = false := by simpa using h'
  have hmax : ∀ ts ty W, (Builtin.max_ ts ty #[.int .i64 n, .int .i64 0]).run Try.prog W = .ok (.int .i64 (cl n : Int)) W := fun ts ty W => by rw [← cl_max h']; exact run_max_int2 _ _ _ _ _ _ _
  have HMax := Lib.hid hmax
  have hN30 : cl n ≤ 30 := by unfold cl; split <;> (try split) <;> omega
  clear hmax
  go_enter Try.func4, Try.ntmps4
  go_wp2_with fail
  refine (awake_any _).mono ?_
  rintro e w1 ⟨rfl, hb1⟩
  go_wp2_with fail
  refine (one_new (by omega) w w1 hb1).mono ?_
  rintro e w2 ⟨b, g, rfl, ho, -⟩
  generalize cl n = N at HMax hN30 ho
  have H0 := Lib.hid (show Some w w2 b g N from ⟨_, ho⟩)
  clear ho hb1
  go_wp2_with fail
  go_loopw [40] (fun t wr => ∃ k : Nat, k ≤ M ∧ t = .int .i64 k ∧ Some w wr b g N) (fun t _ => M - (intOf t).toNat)
  case atStart => exact ⟨0, by omega, rfl, H0.out⟩
  case round =>
    obtain ⟨k, hk, rfl, L, ho⟩ := hrel
    have H := Lib.hid ho
    clear ho H0
    by_cases hlt : k < M
    · obtain ⟨ad, kd, r, t, x, rfl, ⟨c0, c1, c2, c3⟩⟩ := I.out.at H.out.bel hlt
      have H1 := Lib.hid (H.out.below (box_below wr (.cells #[.int .i64 kd, .int .i64 r, .int .i64 t, .int .i64 x] 29)))
      obtain ⟨q, hq⟩ := at_ex N L x
      clear H
      by_cases hk0 : kd = 0
      · subst hk0
        have HC := Lib.hid (H1.out.ln.back hq r)
        clear hq
        go_wp2_with fail
        refine HC.out.mono ?_
        intro e w3 hd
        obtain ⟨rfl, ho, -⟩ := H1.out.did hd
        have H2 := Lib.hid ho
        clear ho hd HC H1 c0 c1 c2 c3
        go_wp2_with fail
        go_roundw
        case rel => exact ⟨k + 1, by omega, by go_num, _, H2.out⟩
        case measure => simp [intOf]; omega
      · have hkd : (kd == 0) = false := by simpa using hk0
        obtain ⟨qa, hqa⟩ := at_ex N L t
        have HC := Lib.hid (H1.out.ln.ahead hqa hq r)
        clear hq hqa hk0
        go_wp2_with fail
        refine HC.out.mono ?_
        intro e w3 hd
        obtain ⟨rfl, ho, -⟩ := H1.out.did hd
        have H2 := Lib.hid ho
        clear ho hd HC H1 c0 c1 c2 c3
        go_wp2_with fail
        go_roundw
        case rel => exact ⟨k + 1, by omega, by go_num, _, H2.out⟩
        case measure => simp [intOf]; omega
    · obtain rfl : k = M := by omega
      clear I
      obtain ⟨q, hq⟩ := at_ex N L i
      have hgd := H.out.ln.good
      have HR := Lib.hid (H.out.ln.rowIs hq)
      rw [rowV_is] at HR
      have HK := Lib.hid (cut_list hgd hq)
      have HOut := Lib.hid (cut_out hgd hq)
      have HSm := Lib.hid (fun (x : Nat) hx e => cut_some (x := x) hq (rowI q) hx e)
      have HQ := Lib.hid hq
      have hlen := listOf_len hgd (rowI q)
      clear hq hgd
      generalize rowI q = ri at *
      obtain ⟨isb, hisb⟩ : ∃ isb, q.isSome = isb := ⟨_, rfl⟩
      rw [hisb] at HR HSm
      have HIs := Lib.hid hisb
      clear hisb
      go_wp2_with fail
      refine HR.out.mono ?_
      rintro e w3 ⟨rfl, rfl⟩
      clear HR
      have HLs := Lib.hid (H.out.ln.list ri)
      obtain ⟨ws, hws⟩ : ∃ ws, listOf N L ri = ws := ⟨_, rfl⟩
      rw [hws] at HLs HK HSm hlen
      clear hws
      go_wp2_with fail
      refine HLs.out.mono ?_
      rintro e w4 ⟨A4, c4, rfl, hrd, hb4⟩
      have H4 := Lib.hid (H.out.below hb4)
      have hlt4 := H.out.ln.lt
      have HRd := Lib.hid hrd
      clear HLs H hrd hb4
      have HC := Lib.hid (H4.out.ln.cut HQ.out)
      rw [HIs.out] at HC
      obtain ⟨m, hm⟩ : ∃ m, ws.length = m := ⟨_, rfl⟩
      have HMl := Lib.hid hm
      rw [hm] at hlen ⊢
      clear hm
      go_wp2_with fail
      refine HC.out.mono ?_
      intro e w5 hd
      obtain ⟨rfl, ho5, hon5⟩ := H4.out.did hd
      have H5 := Lib.hid ho5
      have HRd5 := Lib.hid (HRd.out.only hon5 (fun k e => by rw [e]; exact hlt4.2.1))
      clear hd ho5 hon5 HC H4 HRd
      have HC := Lib.hid (H5.out.ln.cut HOut.out)
      go_wp2_with fail
      refine HC.out.mono ?_
      intro e w6 hd
      obtain ⟨rfl, ho6, hon6⟩ := H5.out.did hd
      have H6 := Lib.hid ho6
      have HRd6 := Lib.hid (HRd5.out.only hon6 (fun k e => by rw [e]; exact hlt4.2.1))
      rw [show cutL (cutL L q) none = cutL L q from rfl] at H6
      rw [show (none : Spot).isSome = false from rfl]
      clear hd ho6 hon6 HC H5 HRd5 HOut HQ hlt4 HIs
      obtain ⟨L2, hL2⟩ : ∃ L2, cutL L q = L2 := ⟨_, rfl⟩
      rw [hL2] at H6 HK
      clear hL2
      go_wp2_with fail
      go_loopw [83, 13] (fun t v wr => ∃ j : Nat, j ≤ m ∧ t = .int .i64 j ∧ Wt w6 wr i ws v j) (fun t _ _ => m - (intOf t).toNat)
      case atStart => exact ⟨0, by omega, rfl, Wt.start _ _ _⟩
      case round =>
        obtain ⟨j, hj, rfl, hwt⟩ := hrel
        have HW := Lib.hid hwt
        clear hwt
        by_cases hjm : j < m
        · have hjl : j < ws.length := by rw [HMl.out]; exact hjm
          obtain ⟨g4, rfl, q4⟩ := (HRd6.out.below HW.out.1).cell hjl
          by_cases hx : (ws[j] : Int) = i
          · have HS := Lib.hid (HW.out.skip hjl hx)
            obtain rfl := HSm.out ws[j] (List.getElem_mem hjl) hx
            rw [hx] at q4
            clear hx hjl HW
            go_wp2_with fail
            go_roundw
            case rel => exact ⟨j + 1, by omega, by go_num, HS.out⟩
            case measure => simp [intOf]; omega
          · have HX := Lib.hid hx
            have hxb : ((ws[j] : Int) != i) = true := by simpa using hx
            obtain ⟨A7, c7, hv7, -⟩ := row_slice HW.out.2
            have hkl := keepL_len i (ws.take j)
            have htl : (ws.take j).length ≤ j := List.length_take_le _ _
            obtain ⟨kk, hkk⟩ : ∃ kk, (keepL i (ws.take j)).length = kk := ⟨_, rfl⟩
            have HKk := Lib.hid hkk
            rw [hkk] at hkl hv7
            subst hv7
            have HJ := Lib.hid hjl
            have HQ4 := Lib.hid q4
            obtain ⟨x, hxe⟩ : ∃ x : Nat, ws[j]'hjl = x := ⟨_, rfl⟩
            have HXe := Lib.hid hxe
            rw [hxe] at q4 hxb
            obtain ⟨i0, hi, hz0, hz1, hz2⟩ := info_parts info3
            have hs6 := HW.out.1.size
            clear hx hkk hxe HQ4
            go_wp2_with (at_builtin; refine wpList_append_lies _ rfl _ _ 37 rfl w6.heap.size 3 i0 (.int .i64 0) 1 8 Try.underlying37 hi hz0 hz1 hz2 rfl (by decide) (.slice A7 kk c7) kk (nats (keepL i (ws.take j))) rfl ?a0 ⟨wr.heap.size, 0, none⟩ 1 1 [.int .i64 (x : Int)] rfl rfl (cells_nat wr x) (one_nat _) (by decide) (by unfold maxLen; omega) (by omega) ?a2 (wr.heap.size + 1) (by simp) ?_)
            case a0 => have := HW.out.2; rw [HKk.out] at this; exact this.alloc _
            case a2 => simp; omega
            intro g' cap w5 hown hgrow hgo hglt
            rw [← HXe.out] at hown hgrow
            have HS := Lib.hid (HW.out.put HJ.out HX.out HKk.out hown hgrow)
            clear hown hgrow hgo hglt hi hz0 hz1 hz2 q4 HW
            go_wp2_with fail
            go_roundw
            case rel => exact ⟨j + 1, by omega, by go_num, HS.out⟩
            case measure => simp [intOf]; omega
        · obtain rfl : j = m := by omega
          obtain ⟨w7, rfl⟩ : ∃ w7, w7 = wr := ⟨_, rfl⟩
          have htk : keepL i (ws.take j) = keepL i ws := by rw [List.take_of_length_le (by rw [HMl.out]; exact Nat.le_refl _)]
          have hown := HW.out.2
          rw [htk, ← HK.out] at hown
          obtain ⟨A7, c7, rfl, hr7⟩ := Rd.of_row hown rfl
          have HR7 := Lib.hid hr7
          have H7 := Lib.hid (H6.out.below HW.out.1)
          have hgd := H7.out.ln.good
          have HG := Lib.hid hgd
          have hl5 : (listOf N L2 ri).length ≤ 30 := Nat.le_trans (listOf_len hgd ri) hN30
          obtain ⟨m2, hm2⟩ : ∃ m2, (listOf N L2 ri).length = m2 := ⟨_, rfl⟩
          have HM2 := Lib.hid hm2
          rw [hm2] at hl5 ⊢
          have hmm := @run_makeMap Try.prog
          have hmx := HMax.out
          have M0 := Lib.hid (Mt.start w7 L2)
          clear HW htk hown hr7 H6 HRd6 HK HSm HMl hm2 hgd HMax
          go_wp2_with fail
          clear hmm hmx
          obtain ⟨mb, hmb⟩ : ∃ mb, w7.heap.size = mb := ⟨_, rfl⟩
          have HMb := Lib.hid (show w7.heap.size ≤ mb by omega)
          rw [hmb] at M0 ⊢
          clear hmb
          generalize w7.alloc (.map #[] 0) = w8 at M0 ⊢
          go_loopw [102] (fun t w9 => ∃ r : Nat, r ≤ N ∧ t = .int .i64 r ∧ Mt w7 w9 mb L2 r 0) (fun t _ => N - (intOf t).toNat)
          case atStart => exact ⟨0, by omega, rfl, M0.out⟩
          case round =>
            obtain ⟨w9, rfl⟩ : ∃ w9, w9 = wr := ⟨_, rfl⟩
            obtain ⟨r, hr, rfl, hmt⟩ := hrel
            have HT := Lib.hid hmt
            clear hmt M0
            by_cases hrN : r < N
            · have H9 := Lib.hid (H7.out.below HT.out.1)
              have HLs := Lib.hid (H9.out.ln.list (r : Int))
              rw [show listOf N L2 (r : Int) = L2 r by unfold listOf; rw [has_is, decide_eq_true hrN, if_pos rfl, Int.toNat_natCast]] at HLs
              have hlr := HG.out.len hrN
              go_wp2_with fail
              refine HLs.out.mono ?_
              rintro e w10 ⟨A10, c10, rfl, hrd, hb10⟩
              have HRd := Lib.hid hrd
              have HT10 := Lib.hid (HT.out.below hb10)
              have hmbl := HT.out.lt
              clear hrd HLs HT H9 hb10
              generalize w9.heap.size = K10 at HRd hmbl
              obtain ⟨m10, hm10⟩ : ∃ m10, (L2 r).length = m10 := ⟨_, rfl⟩
              have HM10 := Lib.hid hm10
              rw [hm10] at hlr ⊢
              clear hm10
              go_wp2_with fail
              go_loopw [109] (fun t w11 => ∃ y : Nat, y ≤ m10 ∧ t = .int .i64 y ∧ Mt w7 w11 mb L2 r y ∧ Rd w11 K10 A10 c10 (L2 r)) (fun t _ => m10 - (intOf t).toNat)
              case atStart => exact ⟨0, by omega, rfl, HT10.out, HRd.out⟩
              case round =>
                obtain ⟨w11, rfl⟩ : ∃ w11, w11 = wr := ⟨_, rfl⟩
                obtain ⟨y, hy, rfl, hmt, hrd⟩ := hrel
                have HT11 := Lib.hid hmt
                have HR11 := Lib.hid hrd
                clear hmt hrd HT10 HRd
                by_cases hym : y < m10
                · have hyl : y < (L2 r).length := by rw [HM10.out]; exact hym
                  obtain ⟨g10, rfl, q10⟩ := HR11.out.cell hyl
                  obtain ⟨hlook, w12, hup, hmt, hon⟩ := HT11.out.meet HG.out hN30 hrN hyl HMb.out
                  have HT12 := Lib.hid hmt
                  have HR12 := Lib.hid (HR11.out.only hon (fun k e => by rw [e]; exact hmbl))
                  generalize (((L2 r)[y]'hyl : Nat) : Int) = x at q10 hlook hup
                  clear hmt hon HT11 HR11
                  go_wp2_with fail
                  go_roundw
                  case rel => exact ⟨y + 1, by omega, by go_num, HT12.out, HR12.out⟩
                  case measure => simp [intOf]; omega
                · obtain rfl : y = m10 := by omega
                  have HT12 := Lib.hid (HT11.out.nextRow (by rw [HM10.out]; omega) (by rw [HM10.out]; exact Nat.le_refl _))
                  clear HT11 HR11
                  go_wp2_with fail
                  go_roundw
                  case rel => exact ⟨r + 1, by omega, by go_num, HT12.out⟩
                  case measure => simp [intOf]; omega
            · obtain rfl : r = N := by omega
              have H9 := Lib.hid (H7.out.below HT.out.1)
              have HR9 := Lib.hid (HR7.out.below HT.out.1)
              clear HT H7 HR7
              go_wp2_with fail
              refine (rown _ _).mono ?_
              rintro e w' ⟨rfl, rfl⟩
              go_wp2_with fail
              refine (firstn _ _).mono ?_
              rintro e w' ⟨rfl, rfl⟩
              go_wp2_with fail
              refine (nextn _ _).mono ?_
              rintro e w' ⟨rfl, rfl⟩
              have HLs := Lib.hid (H9.out.ln.list ri)
              go_wp2_with fail
              refine HLs.out.mono ?_
              rintro e w10 ⟨A10, c10, rfl, hrd, hb10⟩
              have H10 := Lib.hid (H9.out.below hb10)
              have HS := Lib.hid (same_list hrd (HR9.out.below hb10) (by rw [HM2.out]; omega))
              rw [HM2.out] at HS ⊢
              clear HLs H9 HR9 hrd hb10
              go_wp2_with fail
              refine HS.out.mono ?_
              rintro e w11 ⟨rfl, hb11⟩
              have H11 := Lib.hid (H10.out.below hb11)
              clear HS H10 hb11
              go_wp2_with (first
                | (go_at_call 9; ((with_reducible refine (backn _ _ _).mono ?_); rintro e w' ⟨rfl, rfl⟩))
                | (go_at_call 11; ((with_reducible refine (aheadn _ _ _ _).mono ?_); rintro e w' ⟨rfl, rfl⟩))
                | (go_at_call 13; ((with_reducible refine (cutn_any _ _).mono ?_); rintro e w' ⟨rfl, rfl⟩)))
              refine (lenn _ _).mono ?_
              rintro e w12 ⟨rfl, hb12⟩
              have H12 := Lib.hid (H11.out.below hb12)
              clear H11 hb12
              go_wp2_with fail
              go_ret
              exact ⟨rfl, H12.out.bel⟩
theorem order_walk (n : Int) (A : Option Addr) (M c : Nat) (i : Int) (w : World) (hm : M ≤ maxLen) (hin : InD w A M) :
    Calls Try.prog 4 #[.int .i64 n, .slice A M c, .int .i64 i] w fun e w' => e = .returned (.bool true) ∧ Below w.heap.size w w' := by
  by_cases h : 40 < M ∨ 30 < n
  · exact order_long n A M c i w h hm
  · exact order_short n A M c i w (by omega) (by omega) hin
end Go.Proofs.Ythgcedhplbhiiaa
