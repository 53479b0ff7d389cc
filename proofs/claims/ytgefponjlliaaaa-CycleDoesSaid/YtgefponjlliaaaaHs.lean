/- The document's ring, walked. -/
import Derived.Test.YtgefponjlliaaaaHr
namespace Go.Proofs.Ytgefponjlliaaaa
open Go Go.RowKit Go.Shelf
set_option maxRecDepth 100000

/-- the ways that go on from one, to the first so many -/
def part (q fr : List Int) (i : Nat) : List (List Int) := ((fr.take i).filter fun y => decide (y ∉ q)).map fun y => q ++ [y]
theorem part_yes {q fr : List Int} {i : Nat} {y : Int} (h : i < fr.length) (e : fr[i] = y) (hy : y ∉ q) : part q fr (i + 1) = part q fr i ++ [q ++ [y]] := by
  unfold part
  rw [List.take_succ_eq_append_getElem h, e, List.filter_append, List.map_append, List.filter_cons_of_pos (by simpa using hy)]
  rfl
theorem part_no {q fr : List Int} {i : Nat} {y : Int} (h : i < fr.length) (e : fr[i] = y) (hy : y ∈ q) : part q fr (i + 1) = part q fr i := by
  unfold part
  rw [List.take_succ_eq_append_getElem h, e, List.filter_append, List.map_append, List.filter_cons_of_neg (by simpa using hy)]
  simp
theorem part_all {l : List Es.Ed} {q : List Int} {n : Nat} (h : (Cy.fromC (Cy.lst q) l).length = n) : part q (Cy.fromC (Cy.lst q) l) n = Cy.kids l q := by
  unfold part Cy.kids
  rw [List.take_of_length_le (by omega)]
theorem part_len (q fr : List Int) (i : Nat) : (part q fr i).length ≤ (part q fr fr.length).length := by
  unfold part
  rw [List.length_map, List.length_map, List.take_of_length_le (Nat.le_refl _)]
  exact List.Sublist.length_le (List.Sublist.filter _ (List.take_sublist ..))
/-- of so many rows -/
def prev (l : List Es.Ed) (rows : List (List Int)) (j : Nat) : List (List Int) := (rows.take j).flatMap (Cy.kids l)
theorem prev_succ {l : List Es.Ed} {rows : List (List Int)} {j : Nat} {q : List Int} (h : j < rows.length) (e : rows[j] = q) : prev l rows (j + 1) = prev l rows j ++ Cy.kids l q := by
  unfold prev
  rw [List.take_succ_eq_append_getElem h, e, List.flatMap_append]
  simp
theorem prev_len {l : List Es.Ed} {rows : List (List Int)} (j : Nat) : (prev l rows j).length ≤ (rows.flatMap (Cy.kids l)).length := by
  have h : rows.flatMap (Cy.kids l) = prev l rows j ++ (rows.drop j).flatMap (Cy.kids l) := by
    unfold prev
    rw [← List.flatMap_append, List.take_append_drop]
  rw [h, List.length_append]
  omega
/-- the ring as the document has it: a list that is read -/
def RRings (l : List Es.Ed) (W : World) (e : Ending) (w' : World) : Prop := ∃ A c r, e = .returned (.slice A r.length c) ∧ Is.Ls w' A c r ∧ Cy.Ringed l r ∧ Below W.heap.size W w'
/-- how far the document's search may have come: the ring has so many edges and stands there among its rows -/
structure Srch (l : List Es.Ed) (s : Int) (N a : Nat) (r : List Int) : Prop where
  gr : Cy.Gr l s N s r
  few : ∀ k, (Cy.lay l s k).length ≤ 162
  here : ∃ h : a < (Cy.lay l s N).length, (Cy.lay l s N)[a] = r
  ahead : ∀ j (h : j < (Cy.lay l s N).length), j < a → ¬ Cy.EI l (Cy.lst (Cy.lay l s N)[j]) s
theorem Srch.exists {l : List Es.Ed} {s : Int} {N : Nat} {r : List Int} (hl : l.length ≤ 14) (h : Cy.Gr l s N s r) : ∃ a, Srch l s N a r := by
  obtain ⟨A, B, e, hA⟩ := Cy.lay_ring h
  have hlen : (Cy.lay l s N).length = A.length + (B.length + 1) := by rw [e]; simp
  refine ⟨A.length, h, fun k => Cy.lay_few (Nat.le_trans (Od.can_len _) hl) k, ⟨by omega, by simp [e]⟩, fun j hj hja => ?_⟩
  have e2 : (Cy.lay l s N)[j] = A[j] := by simp [e, List.getElem_append_left hja]
  rw [e2]
  exact hA _ (List.getElem_mem hja)
/-- a row that leads on to the beginning is the ring -/
theorem Srch.found {l : List Es.Ed} {s : Int} {N a k j : Nat} {r q : List Int} (h : Srch l s N a r) (hk : k ≤ N) (hj : k = N → j ≤ a) (hjl : j < (Cy.lay l s k).length) (hq : (Cy.lay l s k)[j] = q) (he : Cy.EI l (Cy.lst q) s) : q = r := by
  rcases Nat.eq_or_lt_of_le hk with e | e
  · subst e
    have h1 := hj rfl
    rcases Nat.eq_or_lt_of_le h1 with e2 | e2
    · subst e2
      obtain ⟨h3, h4⟩ := h.here
      rw [← hq, h4]
    · exact absurd (hq ▸ he) (h.ahead j hjl e2)
  · exact absurd he (Cy.lay_no h.gr e (hq ▸ List.getElem_mem hjl))
/-- a row that doesn't is passed -/
theorem Srch.pass {l : List Es.Ed} {s : Int} {N a k j : Nat} {r q : List Int} (h : Srch l s N a r) (hj : k = N → j ≤ a) (hjl : j < (Cy.lay l s k).length) (hq : (Cy.lay l s k)[j] = q) (he : ¬ Cy.EI l (Cy.lst q) s) : k = N → j + 1 ≤ a := fun e => by
  subst e
  have h1 := hj rfl
  rcases Nat.eq_or_lt_of_le h1 with e2 | e2
  · subst e2
    obtain ⟨h3, h4⟩ := h.here
    obtain ⟨m, hm⟩ : ∃ m, r.length = m + 1 := ⟨_, h.gr.length⟩
    have h5 := h.gr.edges k (by have := h.gr.length; omega)
    rw [dif_neg (by have := h.gr.length; omega)] at h5
    have h6 : Cy.lst q = r[k]'(by have := h.gr.length; omega) := by
      rw [← hq, h4]
      have h7 := h.gr.length
      have h8 : r ≠ [] := by intro e; rw [e] at h7; simp at h7
      unfold Cy.lst
      rw [List.getLastD_eq_getLast?, List.getLast?_eq_getElem?]
      have h9 : r.length - 1 = k := by omega
      rw [h9, List.getElem?_eq_getElem (by omega)]
      rfl
    exact absurd (h6 ▸ h5) he
  · omega
set_option maxHeartbeats 8000000 in
theorem rring_any {W : World} {A : Option Addr} {c : Nat} {l : List Es.Ed} (hr : Es.Ls W A c l) (hl : l.length ≤ 14) : Calls Try.prog 13 #[.slice A l.length c] W (RRings l W) := by
  have HO := Lib.hid (ron_any hr (by omega))
  have HL14 := Lib.hid hl
  obtain ⟨n, hn⟩ : ∃ n, l.length = n := ⟨_, rfl⟩
  have hFr := fun (v : World) (hv : Below W.heap.size W v) (x : Int) => rfrom_any (hr.below hv) (by omega) x
  have hNd := fun (v : World) (hv : Below W.heap.size W v) => rnodes_any (hr.below hv) (by omega)
  rw [hn] at hl HO ⊢
  simp only [hn] at hFr hNd
  have HFr := Lib.hid hFr
  have HNd := Lib.hid hNd
  have HN := Lib.hid hn
  clear hr hn hFr hNd
  go_enter Try.func13, Try.ntmps13
  go_wp2_with fail
  refine HO.out.mono ?_
  rintro e w1 ⟨v1, on, rfl, hr1, hon, hb1⟩
  obtain ⟨A1, c1, rfl, hls1⟩ := hr1.ls
  have HB1 := Lib.hid hb1
  have HOn := Lib.hid hon
  cases on with
  | nil =>
    have HF := Lib.hid (show RRings l W (.returned (.slice none 0 0)) w1 from ⟨none, 0, [], rfl, ⟨Nat.le_refl _, by unfold maxLen; omega, fun _ => rfl, fun a h => (nomatch h)⟩, .none fun x hx => by
      have := (hon.mem x).2 hx
      simp at this, hb1⟩)
    simp only [List.length_nil]
    clear hr1 hls1 hon hb1 HO
    go_wp2_with fail
    go_ret
    exact HF.out
  | cons s on =>
    have hs := (hon.mem s).1 (List.mem_cons_self ..)
    obtain ⟨N, r, hgr⟩ := Cy.Gr.exists hs
    obtain ⟨a, hsr⟩ := Srch.exists HL14.out hgr
    have HSr := Lib.hid hsr
    have HRg := Lib.hid (show Cy.Ringed l r from .some hs (fun x hx => by
      have h1 := (hon.mem x).2 hx
      rcases List.mem_cons.1 h1 with q | q
      · rw [q]; exact Int.le_refl _
      · have h2 := (List.pairwise_cons.1 hon.asc).1 x q
        simp only [Is.ltI, decide_eq_true_iff] at h2
        omega) hgr)
    have HGn := Lib.hid (show N + 1 ≤ (Cy.nodesC l).length from by
      have := HRg.out.len
      rw [hgr.length] at this
      exact this)
    obtain ⟨a1, ha1, y0⟩ := hls1.here (i := 0) (by simp)
    subst ha1
    simp only [List.getElem_cons_zero] at y0
    have y0' : w1.cell? a1 = some (.int .i64 s) := by simpa [Addr.add] using y0
    obtain ⟨p, hp⟩ : ∃ p, on.length = p := ⟨_, rfl⟩
    simp only [List.length_cons]
    rw [hp]
    have hp0 : ((p : Int) + 1 == 0) = false := by simp; omega
    have hx1 := box_below w1 (.cells #[.int .i64 s] 3)
    have hx2 := box_below (w1.alloc (.cells #[.int .i64 s] 3)) (.cells #[.slice (some ⟨w1.heap.size, 0, none⟩) 1 1] 24)
    have hx := hx1.trans (hx2.mono hx1.size)
    have y2 := (hx.cell (cell_lt y0')).trans y0'
    have HRl := Lib.hid (show Rl ((w1.alloc (.cells #[.int .i64 s] 3)).alloc (.cells #[.slice (some ⟨w1.heap.size, 0, none⟩) 1 1] 24)) (some ⟨w1.heap.size + 1, 0, none⟩) (Cy.lay l s 0) from fun i hi => by
      obtain rfl : i = 0 := by simpa [Cy.lay] using hi
      refine ⟨_, some ⟨w1.heap.size, 0, none⟩, 1, rfl, ?_, ⟨(Is.box_ls w1 s).below hx2, fun a ha => ⟨w1.heap.size, by cases ha; rfl⟩⟩⟩
      rw [add_at]
      have h9 := heap_new' (w1.alloc (.cells #[.int .i64 s] 3)) (.cells #[.slice (some ⟨w1.heap.size, 0, none⟩) 1 1] 24)
      rw [show (w1.alloc (.cells #[.int .i64 s] 3)).heap.size = w1.heap.size + 1 by simp] at h9
      rw [cell_of_row _ _ _ _ _ _ h9]
      rfl)
    have HB2 := Lib.hid (HB1.out.trans (hx.mono HB1.out.size))
    have HNx := Lib.hid (HNd.out _ HB2.out)
    clear hr1 hls1 hon hb1 HO hs hgr hsr y0 hp hx1 hx2 hx
    go_wp2_with fail
    generalize (w1.alloc (.cells #[.int .i64 s] 3)).alloc (.cells #[.slice (some ⟨w1.heap.size, 0, none⟩) 1 1] 24) = w2 at *
    refine HNx.out.mono ?_
    rintro e w3 ⟨v3, rfl, hr3, hb3⟩
    obtain ⟨A3, c3, rfl, -⟩ := hr3.ls
    obtain ⟨m, hm⟩ : ∃ m, (Od.can Is.ltI (nodesL l)).length = m := ⟨_, rfl⟩
    have HM := Lib.hid (show (Cy.nodesC l).length = m from hm)
    rw [hm]
    have hmn := Cy.nodesC_len l
    rw [HM.out, HN.out] at hmn
    have HB3 := Lib.hid (HB2.out.trans (hb3.mono HB2.out.size))
    have HRl3 := Lib.hid (HRl.out.below hb3)
    have y3 := (hb3.cell (cell_lt y2)).trans y2
    have hNm : N + 1 ≤ m := by rw [← HM.out]; exact HGn.out
    clear hr3 hb3 hm HNx HRl HB1 y2 y0'
    go_wp2_with fail
    go_loopw [4, 23] (fun u t wr => ∃ (k : Nat) (A4 : Option Addr) (c4 : Nat), k ≤ N ∧ t = .int .i64 k ∧ u = .slice A4 (Cy.lay l s k).length c4 ∧ Rl wr A4 (Cy.lay l s k) ∧ Below w3.heap.size w3 wr) (fun _ t _ => m - (intOf t).toNat)
    case atStart => exact ⟨0, _, 1, Nat.zero_le _, rfl, rfl, HRl3.out, Below.refl _ _⟩
    case round =>
      obtain ⟨k, A4, c4, hk, rfl, rfl, hrl, hb⟩ := hrel
      have HRl4 := Lib.hid hrl
      obtain ⟨wo, rfl⟩ : ∃ w, w = wr := ⟨_, rfl⟩
      have HB4 := Lib.hid hb
      have hkm : k < m := by omega
      have hJ := HSr.out.few k
      obtain ⟨J, hJe⟩ : ∃ J, (Cy.lay l s k).length = J := ⟨_, rfl⟩
      have HJ := Lib.hid hJe
      have HNext := Lib.hid (show ∀ j, (prev l (Cy.lay l s k) j).length ≤ 162 from fun j => Nat.le_trans (prev_len j) (HSr.out.few (k + 1)))
      rw [hJe] at hJ ⊢
      clear hrl hb hJe
      go_wp2_with fail
      go_loopw [5, 27] (fun u t v => ∃ j : Nat, j ≤ J ∧ t = .int .i64 j ∧ Rr v wo.heap.size u (prev l (Cy.lay l s k) j) ∧ Below wo.heap.size wo v ∧ (k = N → j ≤ a)) (fun _ t _ => J - (intOf t).toNat)
      case atStart => exact ⟨0, Nat.zero_le _, rfl, by simpa [prev] using Rr.nil _ _, Below.refl _ _, fun _ => Nat.zero_le _⟩
      case round =>
        obtain ⟨j, hj, rfl, hrr, hb, hja⟩ := hrel
        have HRr := Lib.hid hrr
        have HB5 := Lib.hid hb
        obtain ⟨A5, c5, rfl, -⟩ := hrr.rl
        by_cases hjJ : j < J
        · have hjl : j < (Cy.lay l s k).length := by rw [HJ.out]; exact hjJ
          obtain ⟨q, hq⟩ : ∃ q, (Cy.lay l s k)[j] = q := ⟨_, rfl⟩
          have HQe := Lib.hid (show ∃ h : j < (Cy.lay l s k).length, (Cy.lay l s k)[j] = q from ⟨hjl, hq⟩)
          have hway := Cy.lay_way (hq ▸ List.getElem_mem hjl : q ∈ Cy.lay l s k)
          have hql := hway.len
          have HWay := Lib.hid hway
          have hprev := HNext.out j
          have hprev1 := HNext.out (j + 1)
          rw [prev_succ hjl hq, List.length_append] at hprev1
          have HPs := Lib.hid (prev_succ (l := l) hjl hq)
          obtain ⟨a4, Aq, cq, ha4, z0', hl0⟩ := HRl4.out j hjl
          subst ha4
          rw [hq, hql] at z0'
          rw [hq] at hl0
          have z0 := (hb.cell (cell_lt z0')).trans z0'
          have hgq : ∃ g, Aq = some ⟨g, 0, none⟩ := by
            cases Aq with
            | none => have := congrArg List.length hl0.ls.empty; rw [hql] at this; simp at this
            | some a => obtain ⟨g, rfl⟩ := hl0.off a rfl; exact ⟨g, rfl⟩
          obtain ⟨gq, rfl⟩ := hgq
          have HLq := Lib.hid hl0.ls
          obtain ⟨aq, haq, z1⟩ := (hl0.ls.below hb).here (i := k) (by omega)
          cases haq
          have hlst : q[k]'(by omega) = Cy.lst q := by
            unfold Cy.lst
            have h9 : q.length - 1 = k := by omega
            rw [List.getLastD_eq_getLast?, List.getLast?_eq_getElem?, h9, List.getElem?_eq_getElem (by omega)]
            rfl
          rw [add_at, hlst] at z1
          have hk9 : k ≤ 1000 := by omega
          have hkc : k + 1 ≤ cq := by have := hl0.ls.cap; omega
          have hkc2 : k < cq := by omega
          have hdec : (k : Int) + 1 - 1 = (k : Int) := by omega
          have HBw := Lib.hid (HB3.out.trans ((HB4.out.trans (hb.mono HB4.out.size)).mono HB3.out.size))
          have HFx := Lib.hid (HFr.out wr HBw.out (Cy.lst q))
          have HKw := Lib.hid hb.size
          have HQn := Lib.hid (show q ≠ [] from fun e => by rw [e] at hql; simp at hql)
          have HQl := Lib.hid hql
          have HPv := Lib.hid (And.intro hprev hprev1)
          have HJa := Lib.hid hja
          clear hrr hb hja hjl hq hway hprev hprev1 z0' hl0 hlst hql
          go_wp2_with fail
          refine HFx.out.mono ?_
          rintro e w5 ⟨v5, rfl, hr5, hb5⟩
          have hr5' : Is.Row w5 wr.heap.size v5 (Cy.fromC (Cy.lst q) l) := hr5
          obtain ⟨fr, hfr⟩ : ∃ fr, Cy.fromC (Cy.lst q) l = fr := ⟨_, rfl⟩
          have HFe := Lib.hid hfr
          have hfl9 : fr.length ≤ n := by rw [← hfr]; have h := Cy.fromC_len (Cy.lst q) l; rw [HN.out] at h; exact h
          rw [show Od.can Is.ltI (fromL (Cy.lst q) l) = fr from hfr] at hr5
          obtain ⟨Af, cf, rfl, hls5⟩ := hr5.ls
          have HLs5 := Lib.hid hls5
          have HAp := Lib.hid (show ∀ x : Addr, Af = some x → (Value.slice A5 (prev l (Cy.lay l s k) j).length c5).ownBlock ≠ some x.block ∧ x.block < w5.heap.size from fun x hx => by
            subst hx
            have h1 := hr5.lt x.block rfl
            obtain ⟨vs, h2, -⟩ := HRr.out.own
            exact ⟨fun e => by have := (h2.lt _ e).2; omega, h1.2⟩)
          have HRr5 := Lib.hid (HRr.out.below hb5)
          have HB6 := Lib.hid (HB5.out.trans (hb5.mono HB5.out.size))
          obtain ⟨p9, hp9⟩ : ∃ p, fr.length = p := ⟨_, rfl⟩
          have HP9 := Lib.hid hp9
          rw [hp9] at hfl9 ⊢
          clear hr5 hr5' hls5 hb5 hfr hp9 HFx
          go_wp2_with fail
          go_loopw [5, 40] (fun u t v => ∃ i : Nat, i ≤ p9 ∧ t = .int .i64 i ∧ Rr v wo.heap.size u (prev l (Cy.lay l s k) j ++ part q fr i) ∧ Below wo.heap.size wo v ∧ Is.Ls v Af cf fr ∧ (∀ x : Addr, Af = some x → u.ownBlock ≠ some x.block ∧ x.block < v.heap.size) ∧ s ∉ fr.take i) (fun _ t _ => p9 - (intOf t).toNat)
          case atStart => exact ⟨0, Nat.zero_le _, rfl, by simpa [part] using HRr5.out, HB6.out, HLs5.out, HAp.out, by simp⟩
          case round =>
            obtain ⟨i, hi, rfl, hrr, hb, hlf, hap, hsn⟩ := hrel
            have HRr7 := Lib.hid hrr
            have HB7 := Lib.hid hb
            have HAp7 := Lib.hid hap
            have HLf := Lib.hid hlf
            have HSn := Lib.hid hsn
            have HBw7 := Lib.hid (HB3.out.trans ((HB4.out.trans (hb.mono HB4.out.size)).mono HB3.out.size))
            obtain ⟨A7, c7, rfl, -⟩ := hrr.rl
            by_cases hip : i < p9
            · have his : i < fr.length := by rw [HP9.out]; exact hip
              obtain ⟨af, haf, z2⟩ := hlf.here his
              subst haf
              obtain ⟨y, hy⟩ : ∃ y, fr[i] = y := ⟨_, rfl⟩
              rw [hy] at z2
              have hyE : Cy.EI l (Cy.lst q) y := by
                rw [← hy]
                exact Cy.mem_fromC.1 (HFe.out ▸ List.getElem_mem his)
              have z3 := ((HB4.out.trans (hb.mono HB4.out.size)).cell (cell_lt y3)).trans y3
              by_cases hys : y = s
              · obtain ⟨hj9, hq9⟩ := HQe.out
                have hqr := HSr.out.found hk HJa.out hj9 hq9 (hys ▸ hyE)
                have HF := Lib.hid (show RRings l W (.returned (.slice (some ⟨gq, 0, none⟩) (k + 1) cq)) wr from ⟨_, cq, q, by rw [HQl.out], HLq.out.below hb, by rw [hqr]; exact HRg.out, HBw7.out⟩)
                have hyb : (y == s) = true := by simpa using hys
                clear hrr hb hlf hap hsn his hy hyE hys hqr hj9 hq9
                go_wp2_with fail
                go_ret
                exact HF.out
              · have hyb : (y == s) = false := by simpa using hys
                have HSn2 := Lib.hid (show s ∉ fr.take (i + 1) from by
                  rw [List.take_succ_eq_append_getElem his, hy, List.mem_append]
                  rintro (h | h)
                  · exact hsn h
                  · have h2 : s = y := by simpa using h
                    exact hys h2.symm)
                have HHas := Lib.hid (has_any (HLq.out.below hb) (by rw [HQl.out]; omega) y)
                rw [HQl.out] at HHas
                have hlen7 : (prev l (Cy.lay l s k) j ++ part q fr i).length ≤ 162 := by
                  have h1 := part_len q fr i
                  have h2 := part_all (l := l) (q := q) rfl
                  rw [HFe.out] at h2
                  rw [h2] at h1
                  have := HPv.out.2
                  rw [List.length_append]
                  omega
                obtain ⟨z, hz⟩ : ∃ z, (prev l (Cy.lay l s k) j ++ part q fr i).length = z := ⟨_, rfl⟩
                have HZ := Lib.hid hz
                rw [hz] at hlen7 ⊢
                by_cases hyq : y ∈ q
                · have hd : decide (y ∈ q) = true := by simpa using hyq
                  have HRr8 := Lib.hid (show Rr wr wo.heap.size (.slice A7 z c7) (prev l (Cy.lay l s k) j ++ part q fr (i + 1)) from by
                    rw [part_no his hy hyq, ← hz]
                    exact hrr)
                  have HAp8 := Lib.hid (show ∀ x : Addr, some af = some x → (Value.slice A7 z c7).ownBlock ≠ some x.block ∧ x.block < wr.heap.size from by rw [← hz]; exact hap)
                  rw [hd] at HHas
                  clear hrr hb hlf hap hsn his hy hyE hys hz hyq
                  go_wp2_with fail
                  refine HHas.out.mono ?_
                  rintro e w8 ⟨rfl, rfl⟩
                  go_wp2_with fail
                  go_roundw
                  case rel => exact ⟨i + 1, by omega, by go_num, HRr8.out, HB7.out, HLf.out, HAp8.out, HSn2.out⟩
                  case measure => simp [intOf]; omega
                · have hd : decide (y ∈ q) = false := by simpa using hyq
                  rw [hd] at HHas
                  have hbx := box_below wr (.cells #[.int .i64 y] 3)
                  obtain ⟨A8, c8, w8, hrun1, hrow8, hb8⟩ := Is.Ls.grow (g := gq) ((HLq.out.below hb).below hbx) (k := k + 1) (by rw [HQl.out]; exact Nat.le_refl _) (Is.box_ls wr y) (m := 1) rfl (by omega) (q := k + 1 + 1) rfl (by omega) 24
                  have hbw8 := hbx.trans (hb8.mono hbx.size)
                  have hqy : q.take (k + 1) = q := List.take_of_length_le (by rw [HQl.out]; exact Nat.le_refl _)
                  rw [hqy] at hrow8
                  have hlq : (q ++ [y]).length = k + 1 + 1 := by rw [List.length_append, HQl.out]; rfl
                  have hL8 : Is.L0 w8 A8 c8 (q ++ [y]) := by
                    obtain ⟨A', c', hv, hl0⟩ := hrow8.l0
                    injection hv with e1 e2 e3
                    subst e1; subst e3
                    exact hl0
                  have hown7 : ∀ x, (Value.slice A7 z c7).ownBlock = some x → x < wr.heap.size := fun x hx => by
                    obtain ⟨vs, h2, -⟩ := hrr.own
                    rw [hz] at h2
                    exact (h2.lt x hx).2
                  have hsz8 : wr.heap.size ≤ w8.heap.size := hbw8.size
                  obtain ⟨A9, c9, w9, hrun2, hrr9, hb9, ho9, hown9⟩ := Rr.put (hrr.below hbw8) (Nat.le_trans hb.size hsz8) (by rw [hz]; omega) hL8 hlq fun x hx => by
                    subst hx
                    have h1 := hrow8.lt x.block rfl
                    rw [hz]
                    exact ⟨fun e => by have := hown7 _ e; have := hbx.size; omega, h1.2⟩
                  rw [hz] at hrun2 hrr9 ho9 hown9
                  have HRr9 := Lib.hid (show Rr w9 wo.heap.size (.slice A9 (z + 1) c9) (prev l (Cy.lay l s k) j ++ part q fr (i + 1)) from by
                    rw [part_yes his hy hyq, ← List.append_assoc]
                    exact hrr9)
                  have HB9 := Lib.hid (hb.trans ((hbw8.mono hb.size).trans hb9))
                  have HLf9 := Lib.hid ((hlf.below hbw8).only' ho9 fun x hx e => by
                    have h1 := (hap x hx).1
                    rw [hz] at h1
                    exact h1 e)
                  have HAp9 := Lib.hid (show ∀ x : Addr, some af = some x → (Value.slice A9 (z + 1) c9).ownBlock ≠ some x.block ∧ x.block < w9.heap.size from fun x hx => by
                    have h1 := hap x hx
                    rw [hz] at h1
                    refine ⟨fun e => ?_, by have := ho9.size; omega⟩
                    rcases hown9 with h2 | h2
                    · exact h1.1 (h2 ▸ e)
                    · have := h2 _ e; omega)
                  clear hrr hb hlf hap hsn his hy hyE hys hz hyq hbx hrow8 hb8 hbw8 hqy hlq hL8 hown7 hsz8 hrr9 hb9 ho9 hown9
                  go_wp2_with fail
                  refine HHas.out.mono ?_
                  rintro e w10 ⟨rfl, rfl⟩
                  go_wp2_with (at_builtin; first | (refine Lib.wpList_append_run _ rfl _ _ _ _ rfl _ _ rfl rfl _ _ hrun1 ?_) | (refine Lib.wpList_append_run _ rfl _ _ _ _ rfl _ _ rfl rfl _ _ hrun2 ?_))
                  go_roundw
                  case rel => exact ⟨i + 1, by omega, by go_num, HRr9.out, HB9.out, HLf9.out, HAp9.out, HSn2.out⟩
                  case measure => simp [intOf]; omega
            · obtain rfl : i = p9 := by omega
              have HRr10 := Lib.hid (show Rr wr wo.heap.size (.slice A7 (prev l (Cy.lay l s k) j ++ part q fr i).length c7) (prev l (Cy.lay l s k) (j + 1)) from by
                have h2 := part_all (l := l) (q := q) (n := i) (by rw [HFe.out]; exact HP9.out)
                rw [HFe.out] at h2
                rw [HPs.out, ← h2]
                exact hrr)
              have HJa2 := Lib.hid (show k = N → j + 1 ≤ a from by
                obtain ⟨hj9, hq9⟩ := HQe.out
                refine HSr.out.pass HJa.out hj9 hq9 fun e => ?_
                have h1 := Cy.mem_fromC.2 e
                rw [HFe.out] at h1
                rw [List.take_of_length_le (by rw [HP9.out]; exact Nat.le_refl _)] at hsn
                exact hsn h1)
              clear hrr hb hlf hap hsn
              go_wp2_with fail
              go_roundw
              case rel => exact ⟨j + 1, by omega, by go_num, HRr10.out, HB7.out, HJa2.out⟩
              case measure => simp [intOf]; omega
        · obtain rfl : j = J := by omega
          have hkN : k < N := by
            rcases Nat.eq_or_lt_of_le hk with e | e
            · have h1 := hja e
              obtain ⟨h2, -⟩ := HSr.out.here
              have h3 := HJ.out
              rw [e] at h3
              omega
            · exact e
          have hall : prev l (Cy.lay l s k) j = Cy.lay l s (k + 1) := by
            unfold prev
            rw [List.take_of_length_le (by rw [HJ.out]; exact Nat.le_refl _)]
            rfl
          obtain ⟨A6, c6, hv6, hrl6⟩ := hrr.rl
          rw [hall] at hv6 hrl6
          have HR6 := Lib.hid hrl6
          have HB6 := Lib.hid (HB4.out.trans (hb.mono HB4.out.size))
          injection hv6 with e1 e2 e3
          subst e1; subst e3
          have HV6 := Lib.hid hall
          clear hrr hb hja hall hrl6
          go_wp2_with fail
          go_roundw
          case rel => exact ⟨k + 1, A5, c5, by omega, by go_num, by rw [HV6.out], HR6.out, HB6.out⟩
          case measure => simp [intOf]; omega
end Go.Proofs.Ytgefponjlliaaaa
