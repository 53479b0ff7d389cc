/- The law of the order: there is one just if nobody is on a ring, and the ring that is told is one. -/
import Derived.Test.YtgefponjlliaaaaBa
import Derived.Test.YtgefponjlliaaaaHo
namespace Go.Proofs.Ytgefponjlliaaaa
open Go Go.RowKit Go.Shelf
set_option maxRecDepth 100000

theorem order_long (A : Option Addr) (n c : Nat) (w : World) (h : 60 < n) :
    Calls Try.prog 4 #[.slice A n c] w fun e w' => e = .returned (.bool true) ∧ Below w.heap.size w w' := by
  have HA := Lib.hid (awake_any w)
  have q1 : (60 : Int) < (n : Int) := by omega
  have q1' : decide ((60 : Int) < (n : Int)) = true := by simp; omega
  go_enter Try.func4, Try.ntmps4
  go_wp2_with fail
  refine HA.out.mono ?_
  rintro e w1 ⟨rfl, hb1⟩
  have HB1 := Lib.hid hb1
  clear hb1
  go_wp2_with fail
  go_ret
  exact ⟨rfl, HB1.out⟩
theorem undrew {W w : World} (h : Below W.drew.heap.size W.drew w) : Below W.heap.size W w := ⟨h.os, h.tape, h.output, h.size, h.block⟩
/-- the order's answer in one word: whether there is one, and a row that is empty if there is none -/
structure Told (l : List Es.Ed) (W : World) (w' : World) (is : Bool) (A : Option Addr) (c : Nat) (xs : List Int) : Prop where
  ls : Is.Ls w' A c xs
  yes : is = true → Cy.Topo l xs ∧ xs.length = (Cy.nodesC l).length
  no : is = false → xs = [] ∧ A = none ∧ c = 0
  iff : is = true ↔ ∀ x, ¬ Cy.Pl (Cy.EI l) x x
  bel : Below W.heap.size W w'
theorem Orders.told {l : List Es.Ed} {W w' : World} {e : Ending} (h : Orders l W e w') : ∃ is A c xs, e = .returned (.tuple #[.slice A xs.length c, .bool is]) ∧ Told l W w' is A c xs := by
  obtain ⟨hb, full, ht, ⟨h1, rfl⟩ | ⟨h1, v, rfl, hr⟩⟩ := h
  · refine ⟨false, none, 0, [], rfl, ⟨⟨Nat.zero_le _, by unfold maxLen; omega, fun _ => rfl, fun a h => (nomatch h)⟩, fun h => (nomatch h), fun _ => ⟨rfl, rfl, rfl⟩, ⟨fun h => (nomatch h), fun h => ?_⟩, hb⟩⟩
    have := ht.whole.2 h
    omega
  · obtain ⟨A, c, rfl, hls⟩ := hr.ls
    exact ⟨true, A, c, full, rfl, ⟨hls, fun _ => ⟨ht, h1⟩, fun h => (nomatch h), ⟨fun _ => ht.whole.1 h1, fun _ => rfl⟩, hb⟩⟩
set_option maxHeartbeats 8000000 in
theorem order_walk (A : Option Addr) (n c : Nat) (l : List Es.Ed) (w : World) (_hm : n ≤ maxLen) (hn : l.length = n) (hl : Es.Ls w A c l) :
    Calls Try.prog 4 #[.slice A n c] w fun e w' => e = .returned (.bool true) ∧ Below w.heap.size w w' := by
  by_cases h60 : 60 < n
  · exact order_long A n c w h60
  have HA := Lib.hid (awake_any w)
  have HL := Lib.hid hl
  have HN := Lib.hid hn
  have q1 : ¬ (60 : Int) < (n : Int) := by omega
  have q1' : decide ((60 : Int) < (n : Int)) = false := by simp; omega
  clear hl hn
  go_enter Try.func4, Try.ntmps4
  go_wp2_with fail
  refine HA.out.mono ?_
  rintro e w1 ⟨rfl, hb1⟩
  have HL1 := Lib.hid (HL.out.below hb1)
  have HB1 := Lib.hid hb1
  have HFi := Lib.hid (find_any HL1.out (by rw [HN.out]; omega))
  rw [HN.out] at HFi
  clear hb1 HA HL
  go_wp2_with fail
  refine HFi.out.mono ?_
  rintro e w2 ⟨v2, rg, rfl, hr2, hrg, hb2⟩
  obtain ⟨A2, c2, rfl, hls2⟩ := hr2.ls
  have HL2 := Lib.hid (HL1.out.below hb2)
  have HB2 := Lib.hid (HB1.out.trans (hb2.mono HB1.out.size))
  have HLs := Lib.hid hls2
  have HRg := Lib.hid hrg
  have hgl := hrg.len
  have hgn := Cy.nodesC_len l
  rw [HN.out] at hgn
  obtain ⟨t, ht⟩ : ∃ t, rg.length = t := ⟨_, rfl⟩
  have HT := Lib.hid ht
  have HOr := Lib.hid (order_any HL2.out (by rw [HN.out]; omega))
  rw [HN.out] at HOr
  rw [ht] at hgl ⊢
  clear hr2 hrg hb2 hls2 ht HFi HL1 HB1
  go_wp2_with fail
  refine HOr.out.mono ?_
  rintro e w3 h3
  obtain ⟨is, A3, c3, ord, rfl, htd⟩ := h3.told
  have HTd := Lib.hid htd
  have HL3 := Lib.hid (HL2.out.below htd.bel)
  have HB3 := Lib.hid (HB2.out.trans (htd.bel.mono HB2.out.size))
  have HLs3 := Lib.hid (HLs.out.below htd.bel)
  have HOn := Lib.hid (onC_any HL3.out (by rw [HN.out]; omega))
  rw [HN.out] at HOn
  obtain ⟨m, hm⟩ : ∃ m, ord.length = m := ⟨_, rfl⟩
  have HM := Lib.hid hm
  rw [hm]
  clear htd hm h3 HOr HL2 HB2 HLs
  go_wp2_with fail
  refine HOn.out.mono ?_
  rintro e w4 ⟨v4, on, rfl, hr4, hon, hb4⟩
  obtain ⟨A4, c4, rfl, hls4⟩ := hr4.ls
  have HO := Lib.hid hon
  have HL4 := Lib.hid (HL3.out.below hb4)
  have HB4 := Lib.hid (HB3.out.trans (hb4.mono HB3.out.size))
  have HLs4 := Lib.hid (HLs3.out.below hb4)
  have HOl4 := Lib.hid (HTd.out.ls.below hb4)
  obtain ⟨q, hq⟩ : ∃ q, on.length = q := ⟨_, rfl⟩
  have hq0 : q = 0 ↔ ∀ x, ¬ Cy.Pl (Cy.EI l) x x := by
    constructor
    · intro h x hx
      have := (hon.mem x).2 hx
      rw [List.length_eq_zero_iff.1 (hq.trans h)] at this
      simp at this
    · intro h
      rw [← hq]
      cases on with
      | nil => rfl
      | cons x on => exact absurd ((hon.mem x).1 (List.mem_cons_self ..)) (h x)
  have ht0 : t = 0 ↔ ∀ x, ¬ Cy.Pl (Cy.EI l) x x := by
    have h := HRg.out
    rw [← HT.out]
    cases h with
    | none hno => exact ⟨fun _ => hno, fun _ => rfl⟩
    | some h1 h2 h3 =>
      constructor
      · intro h; rw [h3.length] at h; omega
      · intro h; exact absurd h1 (h _)
  have HCh := Lib.hid HTd.out.iff
  rw [hq]
  clear hr4 hon hb4 hls4 HOn HL3 HB3 HLs3
  cases is with
  | false =>
    have hno : ¬ ∀ x, ¬ Cy.Pl (Cy.EI l) x x := fun h => by have := HCh.out.2 h; cases this
    have hqp : q ≠ 0 := fun h => hno (hq0.1 h)
    have htp : t ≠ 0 := fun h => hno (ht0.1 h)
    have e1 : ((q : Int) == 0) = false := by simp; omega
    have e2 : (0 : Int) < (q : Int) := by omega
    have e3 : (0 : Int) < (t : Int) := by omega
    have e2' : decide (0 < q) = true := by simp; omega
    have e3' : decide (0 < t) = true := by simp; omega
    have hm0 : m = 0 := by rw [← HM.out, (HTd.out.no rfl).1]; rfl
    subst hm0
    have hn6 : t ≤ 1000 := by have := hgn; omega
    have HIn := Lib.hid (show ∃ s0 m0, Cy.Gr l s0 m0 s0 rg ∧ ∀ x, Cy.Pl (Cy.EI l) x x → s0 ≤ x from by
      have h := HRg.out
      cases h with
      | none h => exact absurd h hno
      | some h1 h2 h3 => exact ⟨_, _, h3, h2⟩)
    clear hno hq0 ht0
    go_wp2_with fail
    go_loopw [43] (fun u wr => ∃ k : Nat, k ≤ t ∧ u = .int .i64 k ∧ Below w4.heap.size w4 wr) (fun u _ => t - (intOf u).toNat)
    case atStart => exact ⟨0, Nat.zero_le _, rfl, Below.refl _ _⟩
    case round =>
      obtain ⟨k, hk, rfl, hb⟩ := hrel
      have HB := Lib.hid hb
      have HBw := Lib.hid (HB4.out.trans (hb.mono HB4.out.size))
      clear hb
      by_cases hkt : k < t
      · have hkr : k < rg.length := by rw [HT.out]; exact hkt
        obtain ⟨j, hj⟩ : ∃ j, (k + 1) % t = j := ⟨_, rfl⟩
        have hjt : j < t := by rw [← hj]; exact Nat.mod_lt _ (by omega)
        have hjr : j < rg.length := by rw [HT.out]; exact hjt
        have hrem : (IntKind.i64.wrap ((k : Int) + 1)).tmod (t : Int) = (j : Int) := by
          rw [IntWalk.i64_in _ (by omega), ← hj, show (k : Int) + 1 = ((k + 1 : Nat) : Int) by omega]
          rfl
        have hls := HLs4.out.below HB.out
        obtain ⟨a2, ha2, z0⟩ := hls.here hkr
        subst ha2
        obtain ⟨a3, ha3, z1⟩ := hls.here hjr
        cases ha3
        obtain ⟨a4, ha4, z2⟩ := hls.here (i := 0) (by omega)
        cases ha4
        obtain ⟨x, hx⟩ : ∃ x, rg[k] = x := ⟨_, rfl⟩
        obtain ⟨y, hy⟩ : ∃ y, rg[j] = y := ⟨_, rfl⟩
        obtain ⟨x0, hx0⟩ : ∃ x, rg[0] = x := ⟨_, rfl⟩
        rw [hx] at z0
        rw [hy] at z1
        rw [hx0] at z2
        have z3 : wr.cell? a2 = some (.int .i64 x0) := by simpa [Addr.add] using z2
        have HFr := Lib.hid (fun (v : World) (hv : Below wr.heap.size wr v) => from_any (HL4.out.below (HB.out.trans (hv.mono HB.out.size))) (by rw [HN.out]; omega) x)
        have HLk := Lib.hid (fun (v : World) (hv : Below wr.heap.size wr v) => hls.below hv)
        simp only [HN.out] at HFr
        obtain ⟨s0, m0, hgr, hle⟩ := HIn.out
        have hs0 : x0 = s0 := by
          have h := hgr.head
          rw [List.getElem?_eq_getElem (by omega), hx0] at h
          exact Option.some.inj h
        have HY := Lib.hid (show decide (y ∈ Cy.fromC x l) = true from by
          rw [decide_eq_true_iff, Cy.mem_fromC]
          have h := hgr.edges k hkr
          rw [hx] at h
          by_cases hk1 : k + 1 < rg.length
          · rw [dif_pos hk1] at h
            have : j = k + 1 := by rw [← hj]; exact Nat.mod_eq_of_lt (by rw [← HT.out]; exact hk1)
            subst this
            rw [hy] at h
            exact h
          · rw [dif_neg hk1] at h
            have : j = 0 := by
              rw [← hj, show k + 1 = t by rw [HT.out] at hk1; omega]
              exact Nat.mod_self t
            subst this
            rw [← hs0, ← hx0, hy] at h
            exact h)
        have HX := Lib.hid (show decide (x ∈ rg.take k) = false from by
          rw [decide_eq_false_iff_not]
          intro h
          obtain ⟨i, hi, e⟩ := List.mem_take_iff_getElem.1 h
          have h3 := List.pairwise_iff_getElem.1 hgr.nodup i k (by omega) hkr (by omega)
          exact h3 (e.trans hx.symm))
        have hxx : decide (x < x0) = false := by
          have h1 := hle x (hgr.on x (hx ▸ List.getElem_mem hkr))
          simp; omega
        have HTk := Lib.hid (show (rg.take k).length = k by rw [List.length_take]; omega)
        have HFl := Lib.hid (show (Od.can Is.ltI (fromL x l)).length ≤ 1000 from by have h := Cy.fromC_len x l; rw [HN.out] at h; exact Nat.le_trans h (by omega))
        obtain ⟨p, hp⟩ : ∃ p, (Cy.fromC x l).length = p := ⟨_, rfl⟩
        have HP := Lib.hid hp
        have hk8 : k ≤ 1000 := by omega
        have ht0 : 0 < t := by omega
        have hkc : k ≤ c2 := by have := hls.cap; omega
        clear hgr hle hs0 hx hy hx0 hj hjr hkr hls hp
        go_wp2_with fail
        go_region_law (first
          | (go_simp; go_at_call 17; refine (HFr.out _ (Below.refl _ _).drew).mono ?_; rintro e w5 ⟨v5, rfl, hr5, hb5⟩; obtain ⟨A5, c5, rfl, hls5⟩ := hr5.ls; have hb6 := undrew hb5; have HHa := Lib.hid (has_any hls5 (by have := HFl.out; omega) y); rw [HY.out, show (Od.can Is.ltI (fromL x l)).length = p from HP.out] at HHa; rw [show (Od.can Is.ltI (fromL x l)).length = p from HP.out]; have HHb := Lib.hid (has_any ((HLk.out _ hb6).head k) (by rw [HTk.out]; omega) x); rw [HX.out, HTk.out] at HHb; have j1 := (hb6.cell (cell_lt z1)).trans z1; have j2 := (hb6.cell (cell_lt z2)).trans z2; have j3 := (hb6.cell (cell_lt z3)).trans z3; have HB6 := Lib.hid (HB.out.trans (hb6.mono HB.out.size)); clear hr5 hb5 hls5 hb6)
          | (go_simp; go_at_call 16; with_reducible refine HHa.out.mono ?_; rintro e w6 ⟨rfl, rfl⟩)
          | (go_simp; go_at_call 16; with_reducible refine HHb.out.mono ?_; rintro e w6 ⟨rfl, rfl⟩))
        all_goals
          go_wp2_with fail
          go_roundw
          case rel => exact ⟨k + 1, by omega, by go_num, HB6.out⟩
          case measure => simp [intOf]; omega
      · obtain rfl : k = t := by omega
        go_wp2_with fail
        go_ret
        exact ⟨rfl, HBw.out⟩
  | true =>
    have hno := HCh.out.1 rfl
    obtain rfl := hq0.2 hno
    obtain rfl := ht0.2 hno
    clear hno hq0 ht0
    obtain ⟨hT, hfl⟩ := HTd.out.yes rfl
    have HTopo := Lib.hid hT
    have hfl2 : m = (Cy.nodesC l).length := by rw [← HM.out]; exact hfl
    have HFl := Lib.hid hfl2
    have hm8 : m ≤ 1000 := by omega
    have HNd := Lib.hid (fun (x : World) (hx : Below w4.heap.size w4 x) => nodes_any (HL4.out.below hx) (by rw [HN.out]; omega))
    simp only [HN.out] at HNd
    clear hT hfl hfl2
    go_wp2_with fail
    go_loopw [43] (fun u wr => u = .int .i64 0 ∧ w4 = wr) (fun _ _ => 0)
    case atStart => exact ⟨rfl, rfl⟩
    case round =>
      obtain ⟨rfl, rfl⟩ := hrel
      go_wp2_with fail
      go_loopw [83] (fun u v => ∃ k : Nat, k ≤ m ∧ u = .int .i64 k ∧ Below w4.heap.size w4 v) (fun u _ => m - (intOf u).toNat)
      case atStart => exact ⟨0, Nat.zero_le _, rfl, Below.refl _ _⟩
      case round =>
        obtain ⟨k, hk, rfl, hb⟩ := hrel
        have HB := Lib.hid hb
        have HBw := Lib.hid (HB4.out.trans (hb.mono HB4.out.size))
        clear hb
        by_cases hkm : k < m
        · have hko : k < ord.length := by rw [HM.out]; exact hkm
          have hls := HOl4.out.below HB.out
          obtain ⟨a2, ha2, z0⟩ := hls.here hko
          subst ha2
          obtain ⟨x, hx⟩ : ∃ x, ord[k] = x := ⟨_, rfl⟩
          rw [hx] at z0
          have HFr := Lib.hid (from_any (HL4.out.below HB.out) (by rw [HN.out]; omega) x)
          rw [HN.out] at HFr
          have HTk := Lib.hid (show (ord.take k).length = k by rw [List.length_take]; omega)
          have HX := Lib.hid (fun y (hy : y ∈ Cy.fromC x l) => show decide (y ∈ ord.take k) = true from by
            rw [decide_eq_true_iff]
            exact (HTopo.out.nxt k hko).rdy.all y (by rw [hx]; exact Cy.mem_fromC.1 hy))
          have hkc : k ≤ c3 := by have := hls.cap; rw [HM.out] at this; omega
          have HLk := Lib.hid hls
          clear hx hko hls
          go_wp2_with fail
          refine HFr.out.mono ?_
          rintro e w5 ⟨v5, rfl, hr5, hb5⟩
          obtain ⟨A5, c5, rfl, hls5⟩ := hr5.ls
          have HLs5 := Lib.hid hls5
          have HLk5 := Lib.hid (HLk.out.below hb5)
          have HB6 := Lib.hid (HB.out.trans (hb5.mono HB.out.size))
          have hfl := Cy.fromC_len x l
          rw [HN.out] at hfl
          obtain ⟨fr, hfr⟩ : ∃ fr, Od.can Is.ltI (fromL x l) = fr := ⟨_, rfl⟩
          have HFr' := Lib.hid hfr
          rw [show Cy.fromC x l = fr from hfr] at hfl HX
          rw [hfr] at HLs5
          rw [hfr]
          obtain ⟨p, hp⟩ : ∃ p, fr.length = p := ⟨_, rfl⟩
          have HP := Lib.hid hp
          rw [hp] at hfl ⊢
          clear hr5 hls5 hb5 hfr hp HFr
          go_wp2_with fail
          go_loopw [92] (fun u v => ∃ j : Nat, j ≤ p ∧ u = .int .i64 j ∧ w5 = v) (fun u _ => p - (intOf u).toNat)
          case atStart => exact ⟨0, Nat.zero_le _, rfl, rfl⟩
          case round =>
            obtain ⟨j, hj, rfl, rfl⟩ := hrel
            by_cases hjp : j < p
            · have hjs : j < fr.length := by rw [HP.out]; exact hjp
              obtain ⟨a3, ha3, z1⟩ := HLs5.out.here hjs
              subst ha3
              obtain ⟨y, hy⟩ : ∃ y, fr[j] = y := ⟨_, rfl⟩
              rw [hy] at z1
              have HH := Lib.hid (has_any (HLk5.out.head k) (by rw [HTk.out]; omega) y)
              rw [HX.out y (hy ▸ List.getElem_mem hjs), HTk.out] at HH
              clear hjs hy
              go_wp2_with fail
              refine HH.out.mono ?_
              rintro e w6 ⟨rfl, rfl⟩
              go_wp2_with fail
              go_roundw
              case rel => exact ⟨j + 1, by omega, by go_num, trivial⟩
              case measure => simp [intOf]; omega
            · obtain rfl : j = p := by omega
              go_wp2_with fail
              go_roundw
              case rel => exact ⟨k + 1, by omega, by go_num, HB6.out⟩
              case measure => simp [intOf]; omega
        · obtain rfl : k = m := by omega
          have HNx := Lib.hid (HNd.out _ HB.out)
          go_wp2_with fail
          refine HNx.out.mono ?_
          rintro e w6 ⟨v6, rfl, hr6, hb6⟩
          obtain ⟨A6, c6, rfl, -⟩ := hr6.ls
          rw [show (Od.can Is.ltI (nodesL l)).length = k from HFl.out.symm]
          have HBz := Lib.hid (HBw.out.trans (hb6.mono HBw.out.size))
          clear hr6 hb6 HNx
          go_wp2_with fail
          go_ret
          exact ⟨by simp, HBz.out⟩
end Go.Proofs.Ytgefponjlliaaaa
