/- The order that is told: the walk. -/
import Derived.Test.YtgefponjlliaaaaHn
namespace Go.Proofs.Ytgefponjlliaaaa
open Go Go.RowKit Go.Shelf
set_option maxRecDepth 100000

set_option maxHeartbeats 16000000 in
theorem order_any {W : World} {A : Option Addr} {c : Nat} {l : List Es.Ed} (hr : Es.Ls W A c l) (hl : l.length ≤ 400) : Calls Try.prog 7 #[.slice A l.length c] W (Orders l W) := by
  have HW := Lib.hid (ways_any hr (by omega))
  have HL := Lib.hid hl
  obtain ⟨ln, hln⟩ : ∃ ln, l.length = ln := ⟨_, rfl⟩
  rw [hln] at HW ⊢
  clear hr hl hln
  go_enter Try.func7, Try.ntmps7
  go_wp2_with fail
  refine scope_ranked 0 (fun N a' w' => ∃ B nums to bt full n b4 b5 gm br K, Ow B l nums to bt full n b4 b5 ∧ Below W.heap.size W B ∧ Oj B to nums full n gm br K (.slice A ln c) b4 b5 N a' w') rfl ?_ ?_
  · intro hpass
    have HQ := Lib.hid hpass
    clear hpass
    go_wp2_with fail
    refine HW.out.mono ?_
    rintro e w1 ⟨A1, n1, c1, A2, n2, c2, nums, to, rfl, hn1, hn2, hls, htl, hwy, hb1⟩
    obtain rfl : n2 = n1 := by rw [hn1, hn2]; exact hwy.len
    have hx := box_below w1 (.cells #[.slice A1 n2 c1, .slice A2 n2 c2] 37)
    have HO := Lib.hid (hwy.okw HL.out)
    have HLs := Lib.hid (hls.below hx)
    have HTl := Lib.hid (htl.below hx)
    have HWy := Lib.hid hwy
    have HB1 := Lib.hid (hb1.trans (hx.mono hb1.size))
    have HN := Lib.hid hn1
    have HN2 := Lib.hid hn2
    have HBk := Lib.hid (back_any (A1 := A1) (n1 := n2) (c1 := c1) HTl.out HO.out)
    rw [← hn2] at HBk
    have HC := Lib.hid (show (w1.alloc (.cells #[.slice A1 n2 c1, .slice A2 n2 c2] 37)).cell? ⟨w1.heap.size, 0, none⟩ = some (.slice A1 n2 c1) ∧ (w1.alloc (.cells #[.slice A1 n2 c1, .slice A2 n2 c2] 37)).cell? ⟨w1.heap.size, 1, none⟩ = some (.slice A2 n2 c2) ∧ w1.heap.size < (w1.alloc (.cells #[.slice A1 n2 c1, .slice A2 n2 c2] 37)).heap.size from ⟨by simp [go_sem], by simp [go_sem], by simp⟩)
    have hnl : n2 ≤ 800 := by rw [hn2]; exact HO.out.len
    clear hls htl hwy hb1 hn1 hn2 hx HW
    go_wp2_with fail
    have hw1 : w1.heap.size < (w1.alloc (.cells #[.slice A1 n2 c1, .slice A2 n2 c2] 37)).heap.size := by simp
    generalize w1.alloc (.cells #[.slice A1 n2 c1, .slice A2 n2 c2] 37) = w2 at *
    refine HBk.out.mono ?_
    rintro e w3 ⟨gb, bt, rfl, htb, -, htr, hb3⟩
    have HTb := Lib.hid htb
    have HTr := Lib.hid htr
    have HB3 := Lib.hid hb3
    have hmk := fun w => mk_ints w n2 (by omega)
    have z1 := (hb3.cell (p := ⟨w1.heap.size, 1, none⟩) HC.out.2.2).trans HC.out.2.1
    have hw3 : w1.heap.size < w3.heap.size := cell_lt z1
    have hw3a : w1.heap.size < w3.heap.size + 1 := by omega
    have hw3b : w1.heap.size < w3.heap.size + 1 + 1 := by omega
    clear htb htr hb3 HBk
    go_wp2_with fail
    obtain ⟨full, hT⟩ := Cy.Topo.exists l
    have HOw := Lib.hid (show Ow (w3.alloc (.cells #[.slice A1 n2 c1, .slice (some ⟨gb, 0, none⟩) n2 n2] 37)) l nums to bt full n2 w1.heap.size w3.heap.size from by
      have hbx := box_below w3 (.cells #[.slice A1 n2 c1, .slice (some ⟨gb, 0, none⟩) n2 n2] 37)
      have hb2 := HB3.out.trans (hbx.mono HB3.out.size)
      exact ⟨⟨A1, c1, A2, c2, gb, (hb2.cell (p := ⟨w1.heap.size, 0, none⟩) hw1).trans HC.out.1, (hb2.cell (p := ⟨w1.heap.size, 1, none⟩) hw1).trans HC.out.2.1, HLs.out.below hb2, HTl.out.below hb2, by simp [go_sem], HTb.out.below hbx⟩, HN.out, HN2.out, HWy.out, HO.out, HO.out.back HTr.out, HTr.out, hT⟩)
    have HTo := Lib.hid (HTl.out.below (HB3.out.trans ((box_below w3 (.cells #[.slice A1 n2 c1, .slice (some ⟨gb, 0, none⟩) n2 n2] 37)).mono HB3.out.size)))
    have HBW := Lib.hid (show Below W.heap.size W (w3.alloc (.cells #[.slice A1 n2 c1, .slice (some ⟨gb, 0, none⟩) n2 n2] 37)) from HB1.out.trans ((HB3.out.trans ((box_below w3 _).mono HB3.out.size)).mono HB1.out.size))
    have HSt := Lib.hid (om_start (w3.alloc (.cells #[.slice A1 n2 c1, .slice (some ⟨gb, 0, none⟩) n2 n2] 37)) n2)
    rw [show (w3.alloc (.cells #[.slice A1 n2 c1, .slice (some ⟨gb, 0, none⟩) n2 n2] 37)).heap.size = w3.heap.size + 1 by simp] at HSt
    generalize w3.alloc (.cells #[.slice A1 n2 c1, .slice (some ⟨gb, 0, none⟩) n2 n2] 37) = B at *
    generalize (B.alloc (.cells (madeCells #[.int .i64 0] n2) 3)).alloc (.cells #[.slice none 0 0] 42) = w5 at *
    obtain ⟨gm, hgm⟩ : ∃ gm, w3.heap.size + 1 = gm := ⟨_, rfl⟩
    rw [hgm] at HSt ⊢
    obtain ⟨br, hbr⟩ : ∃ br, gm + 1 = br := ⟨_, rfl⟩
    rw [hbr] at HSt ⊢
    obtain ⟨b4, hb4⟩ : ∃ b, w1.heap.size = b := ⟨_, rfl⟩
    rw [hb4] at HOw ⊢
    obtain ⟨b5, hb5⟩ : ∃ b, w3.heap.size = b := ⟨_, rfl⟩
    rw [hb5] at HOw ⊢
    clear hT hmk z1 hw3 hw3a hw3b hgm hbr hb4 hb5 HC hw1 HB3 HTb HTr HLs HTl HWy HB1
    go_loopw [25] (fun t wr => ∃ (k : Nat) (H : List Nat) (f : Nat → Nat) (v : Value), k ≤ n2 ∧ t = .int .i64 k ∧ Of to k H f ∧ Om B n2 gm br (br + 1) f H [] (.slice none 0 0) v wr) (fun t _ => n2 - (intOf t).toNat)
    case atStart => exact ⟨0, [], _, _, Nat.zero_le _, rfl, ⟨List.nodup_nil, fun i => by simp, fun i hi => by omega⟩, HSt.out⟩
    case round =>
      obtain ⟨k, H, f, v, hk, rfl, hof, hom⟩ := hrel
      have HOf := Lib.hid hof
      have HOm := Lib.hid hom
      have hfew := hof.few
      by_cases hkn : k < n2
      · obtain ⟨a2, A3, c3, ha2, y2, hls3⟩ := (HTo.out.below hom.bel).row (i := k) (by rw [← HN2.out]; exact hkn)
        subst ha2
        obtain ⟨p, hp⟩ : ∃ p, (Cy.nx to k).length = p := ⟨_, rfl⟩
        rw [hp] at y2
        have hpm : p ≤ 400 := by rw [← hp]; exact HO.out.deg k
        have zm := hom.arr.at' k hkn
        have zf := hom.arr.fz k
        have zl := hom.arr.lt
        have hput := hom.put k p
        have HPut := Lib.hid hput
        have zn := hput.arr.at' k hkn
        by_cases hp0 : p = 0
        · subst hp0
          have HAdd := Lib.hid (add_any hput.hq hput.hp (by omega) k)
          have HNil := Lib.hid (List.length_eq_zero_iff.1 hp)
          clear hof hom hput hls3 hp zn
          go_wp2_with fail
          refine HAdd.out.mono ?_
          rintro e w6 ⟨rfl, v', H', hs, hh, hperm⟩
          have HR := Lib.hid (And.intro (HOf.out.none HNil.out hperm) (HPut.out.hs hs hh))
          clear hs hh hperm HAdd
          go_wp2_with fail
          go_roundw
          case rel => exact ⟨k + 1, H', _, v', by omega, by go_num, HR.out.1, HR.out.2⟩
          case measure => simp [intOf]; omega
        · have HR := Lib.hid (show Of to (k + 1) H (Cy.upd f k p) by
            rw [← hp]
            exact HOf.out.some fun e => hp0 (by rw [← hp, e]; rfl))
          have hpb : ((p : Int) == 0) = false := by simp; omega
          clear hof hom hput hls3 hp zn
          go_wp2_with fail
          go_roundw
          case rel => exact ⟨k + 1, H, _, v, by omega, by go_num, HR.out, HPut.out⟩
          case measure => simp [intOf]; omega
      · obtain rfl : k = n2 := by omega
        have HOg := Lib.hid (show Og B to nums full k gm br (br + 1) k [] H f (.slice none 0 0) v wr from
          ⟨HOm.out, Cy.Oi.start HOf.out.nd (fun i => by rw [← HN2.out]; exact HOf.out.mem i) (fun i hi => HOf.out.is i (by rw [HN2.out]; exact hi)), by simp [Cy.Beg, Cy.numl], by simp⟩)
        clear hof hom
        go_wp2
        rename_i hK
        refine wp_label ?_
        refine hK _ _ ?_
        exact HQ.out _ _ _ ⟨B, nums, to, bt, full, k, b4, b5, gm, br, br + 1, HOw.out, HBW.out, Oj.mk' HOg.out⟩
  · rintro N a' wr ⟨B, nums, to, bt, full, n, b4, b5, gm, br, K, how, hBW, O, H, f, vo, v, u1, u8, u9, u11, u12, u13, u14, u15, u16, u17, u18, u19, u20, u21, u22, u23, u24, u25, u26, u27, u28, u29, u30, u31, u32, u33, u34, u35, u36, u37, u38, u39, u40, u41, u42, u43, u44, u45, u46, u47, u48, u49, u50, u51, u52, u53, u54, u55, u56, u57, u58, u59, u60, u61, u62, u63, u64, u65, u66, u67, u68, u69, u70, u71, u72, u73, u74, u75, u76, u77, u78, u79, u80, u81, u82, u83, u84, rfl, hg⟩
    have HOw := Lib.hid how
    have HBW := Lib.hid hBW
    have HOg := Lib.hid hg
    have hom := hg.om
    obtain ⟨A1, c1, A2, c2, gb, x0, x1, hls, htl, x5, htb⟩ := how.mem
    have HLs := Lib.hid hls
    have HTb := Lib.hid htb
    have HX := Lib.hid (And.intro x0 x5)
    obtain ⟨Av, cv, hv, -⟩ := hom.hq.row.ls
    rw [ints_length] at hv
    subst hv
    have hfew := hg.oi.few
    have hfewO := hg.oi.fewO
    rw [← how.n2] at hfew hfewO
    have hn8 : n ≤ 800 := by rw [how.n2]; exact how.ok.len
    have z7 := hom.hq.cell
    have HLen := Lib.hid (fun m w => len_any Av m cv w)
    have y1 := (hom.bel.cell (p := ⟨b4, 1, none⟩) (cell_lt x1)).trans x1
    cases H with
    | nil =>
      have hstop := hg.oi.stop how.wy
      have hfull := hg.beg.end' how.topo hstop
      obtain ⟨Ao, co, hvo, -⟩ := hom.ord.ls
      rw [Cy.numl_length] at hvo
      subst hvo
      have hnn : n = (Cy.nodesC l).length := by rw [how.n1, how.wy.nums']
      have hfl : full.length = O.length := by rw [← hfull, Cy.numl_length]
      simp only [List.length_nil] at z7
      obtain ⟨q, hq⟩ : ∃ q, O.length = q := ⟨_, rfl⟩
      rw [hq] at hfl
      simp only [hq]
      have HBel := Lib.hid (hBW.trans (hom.bel.mono hBW.size))
      by_cases hlt : q < n
      · have HF := Lib.hid (show Orders l W (.returned (.tuple #[.slice none 0 0, .bool false])) wr from ⟨HBel.out, full, how.topo, .inl ⟨by omega, rfl⟩⟩)
        clear how hg hom hls htl htb x0 x1 x5 hstop hfull hnn hfl hBW
        go_wp2_with fail
        refine (HLen.out 0 wr).mono ?_
        rintro e w1 ⟨rfl, rfl⟩
        go_wp2_with fail
        simp only [Exit.jump]
        exact bodyPost_ret (results_tmp2 (t := 2) (u := 3) rfl _ _ _) rfl HF.out
      · have HF := Lib.hid (show Orders l W (.returned (.tuple #[.slice Ao q co, .bool true])) wr from ⟨HBel.out, full, how.topo, .inr ⟨by omega, _, rfl, by
          have h1 := hom.ord
          rw [hfull, hq] at h1
          exact row_base h1 (by have h2 := hom.ge; have h3 := HBel.out.size; have h4 := hBW.size; omega)⟩⟩)
        clear how hg hom hls htl htb x0 x1 x5 hstop hfull hnn hfl hBW
        go_wp2_with fail
        refine (HLen.out 0 wr).mono ?_
        rintro e w1 ⟨rfl, rfl⟩
        go_wp2_with fail
        simp only [Exit.jump]
        exact bodyPost_ret (results_tmp2 (t := 2) (u := 3) rfl _ _ _) rfl HF.out
    | cons h H =>
      have HTk := Lib.hid (take_any hom.hq hom.hp (by omega) (by simp))
      obtain ⟨p, hp⟩ : ∃ p, H.length = p := ⟨_, rfl⟩
      simp only [List.length_cons, hp] at z7 HTk HOg hfew ⊢
      have hp0 : ((p : Int) + 1 == 0) = false := by simp; omega
      clear how hg hom hls htl htb x0 x1 x5 hBW hp
      go_wp2_with fail
      refine (HLen.out (p + 1) wr).mono ?_
      rintro e w1 ⟨rfl, rfl⟩
      go_wp2_with fail
      refine HTk.out.mono ?_
      rintro e w2 ⟨a, v', H', rfl, hs, htook⟩
      have ha : a ∈ h :: H := htook.perm.mem_iff.2 (List.mem_cons_self ..)
      have hnx := HOg.out.oi.nxt HOw.out.wy ha htook.le
      have hao := (HOg.out.oi.all ha).1
      have han : a < n := by rw [HOw.out.n2]; exact hao
      have hal : a < nums.length := by rw [← HOw.out.n1]; exact han
      have hom2 := HOg.out.om.hs hs htook.hp
      have hoi2 := HOg.out.oi.pop HOw.out.tr htook.perm
      have HBeg := Lib.hid (HOg.out.beg.next HOw.out.topo hnx)
      have hfew2 := hoi2.fewO
      rw [← HOw.out.n2, List.length_append, List.length_singleton] at hfew2
      obtain ⟨Ao, q, co, A', c', w3, rfl, hq, hrun, hom3⟩ := hom2.tell (by rw [Cy.numl_length]; omega) (nums.getD a 0)
      rw [← Cy.numl_snoc] at hom3
      rw [Cy.numl_length] at hq
      have y0 := (hom2.bel.cell (p := ⟨b4, 0, none⟩) (cell_lt HX.out.1)).trans HX.out.1
      obtain ⟨an, ha1, y2⟩ := (HLs.out.below hom2.bel).here hal
      subst ha1
      rw [← HOw.out.wy.num hal] at y2
      have y5 := (hom3.bel.cell (p := ⟨b5, 1, none⟩) (cell_lt HX.out.2)).trans HX.out.2
      obtain ⟨ab, Ab, cb, hab, y6B, hlsb⟩ := HTb.out.row (i := a) (by rw [HOw.out.tr.len, ← HOw.out.n2]; exact han)
      cases hab
      obtain ⟨r, hr⟩ : ∃ r, (Cy.nx bt a).length = r := ⟨_, rfl⟩
      have HLsb := Lib.hid hlsb
      rw [hr, add_at] at y6B
      have y6 := (hom3.bel.cell (p := ⟨gb, a, none⟩) (cell_lt y6B)).trans y6B
      have hrm : r ≤ 400000 := by rw [← hr]; exact HOw.out.okb.deg a
      have HR := Lib.hid hr
      have HOm3 := Lib.hid hom3
      have HOi2 := Lib.hid hoi2
      have hqm : q ≤ 800 := by omega
      have HN := Lib.hid (show N + O.length = n ∧ O.length + 1 ≤ n from ⟨HOg.out.cnt, hfew2⟩)
      clear hs htook ha hnx hao hal hom2 hoi2 hom3 hlsb hr hfew2 hq HTk HLs y6B
      generalize nums.getD a 0 = num at *
      go_wp2_with (at_builtin; refine Lib.wpList_append_run _ rfl _ _ _ _ rfl _ _ rfl rfl _ _ hrun ?_)
      go_loopw [67] (fun t w => ∃ (m : Nat) (H : List Nat) (f : Nat → Nat) (v : Value), m ≤ r ∧ t = .int .i64 m ∧ Om B n gm br K f H (Cy.numl nums (O ++ [a])) (.slice A' (q + 1) c') v w ∧ Cy.Oi to (O ++ [a]) H f ((Cy.nx bt a).drop m)) (fun t _ => r - (intOf t).toNat)
      case atStart => exact ⟨0, H', f, v', Nat.zero_le _, rfl, HOm3.out, by simpa using HOi2.out⟩
      case round =>
        obtain ⟨m, H2, f2, v2, hm, rfl, hom, hoi⟩ := hrel
        have HOm := Lib.hid hom
        by_cases hmr : m < r
        · have hml : m < (Cy.nx bt a).length := by rw [HR.out]; exact hmr
          obtain ⟨i, hi⟩ : ∃ i, (Cy.nx bt a)[m] = i := ⟨_, rfl⟩
          rw [List.drop_eq_getElem_cons hml, hi] at hoi
          obtain ⟨hf1, hsome, hnone⟩ := hoi.low
          have HSome := Lib.hid hsome
          have HNone := Lib.hid hnone
          have hin : i < n := by rw [HOw.out.n2]; exact (hoi.out i (List.mem_cons_self ..)).2
          have hfew := hoi.few
          rw [← HOw.out.n2] at hfew
          have hlsi := HLsb.out.below hom.bel
          obtain ⟨ai2, hai2, y9⟩ := hlsi.here (i := m) (by rw [ints_length]; exact hml)
          subst hai2
          rw [ints_get, hi] at y9
          obtain ⟨y, hy⟩ : ∃ y, f2 i = y + 1 := ⟨f2 i - 1, by omega⟩
          have hy4 : y ≤ 500000 := by
            have h1 := hoi.miss i (hoi.out i (List.mem_cons_self ..)).2
            have h2 : Cy.opn to (O ++ [a]) i ≤ (Cy.nx to i).length := List.countP_le_length
            have h3 := HOw.out.ok.deg i
            have h4 : (i :: (Cy.nx bt a).drop (m + 1)).count i ≤ (i :: (Cy.nx bt a).drop (m + 1)).length := List.count_le_length
            have h5 : ((Cy.nx bt a).drop (m + 1)).length ≤ r := by rw [List.length_drop, HR.out]; omega
            rw [List.length_cons] at h4
            omega
          have zm := hom.arr.at' i hin
          have zf := hom.arr.fz i
          have zl := hom.arr.lt
          rw [hy] at zm HSome HNone
          rw [show ((y + 1 : Nat) : Int) = (y : Int) + 1 by omega] at zm
          simp only [Nat.add_sub_cancel] at HSome HNone
          have hput := hom.put i y
          have HPut := Lib.hid hput
          have zn : (wr.setCell ⟨gm, i, none⟩ (.int .i64 (y : Int))).cell? ⟨gm, i, none⟩ = some (.int .i64 (y : Int)) := cell_near zm
          by_cases hy0 : y = 0
          · subst hy0
            have HAdd := Lib.hid (add_any hput.hq hput.hp (by omega) i)
            clear hom hput hsome hnone hoi hlsi hml hi hf1 hy
            go_wp2_with fail
            refine HAdd.out.mono ?_
            rintro e w6 ⟨rfl, v', H', hs, hh, hperm⟩
            have HR2 := Lib.hid (And.intro (HNone.out (by simp) H' hperm) (HPut.out.hs hs hh))
            clear hs hh hperm HAdd
            go_wp2_with fail
            go_roundw
            case rel => exact ⟨m + 1, H', _, v', by omega, by go_num, HR2.out.2, HR2.out.1⟩
            case measure => simp [intOf]; omega
          · have hoi2 := HSome.out (by omega)
            have hyb : ((y : Int) == 0) = false := by simp; omega
            have HR2 := Lib.hid hoi2
            clear hom hput hsome hnone hoi hlsi hml hi hf1 hy hoi2
            go_wp2_with fail
            go_roundw
            case rel => exact ⟨m + 1, H2, _, v2, by omega, by go_num, HPut.out, HR2.out⟩
            case measure => simp [intOf]; omega
        · obtain rfl : m = r := by omega
          have hdrop : (Cy.nx bt a).drop m = [] := List.drop_eq_nil_of_le (by rw [HR.out]; omega)
          rw [hdrop] at hoi
          have HOg2 := Lib.hid (show Og B to nums full n gm br K (N - 1) (O ++ [a]) H2 f2 (.slice A' (q + 1) c') v2 wr from ⟨hom, hoi, HBeg.out, by have := HN.out.1; have := HN.out.2; simp; omega⟩)
          have hN1 : N - 1 < N := by have := HN.out.1; have := HN.out.2; omega
          clear hom hoi hdrop
          go_wp2_with fail
          refine wp_goto ?_
          exact ⟨rfl, N - 1, hN1, B, nums, to, bt, full, n, b4, b5, gm, br, K, HOw.out, HBW.out, Oj.mk' HOg2.out⟩
end Go.Proofs.Ytgefponjlliaaaa
