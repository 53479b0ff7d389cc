/- The document's answers: who is reached, who is on a ring. -/
import Derived.Test.YtgefponjlliaaaaBb
import Derived.Test.YtgefponjlliaaaaPI
namespace Go.Proofs.Ytgefponjlliaaaa
open Go Go.RowKit Go.Shelf
set_option maxRecDepth 100000

/-- a list at its block's beginning -/
structure Is.L0 (W : World) (A : Option Addr) (c : Nat) (xs : List Int) : Prop where
  ls : Is.Ls W A c xs
  off : ∀ a, A = some a → ∃ g, a = ⟨g, 0, none⟩
theorem Is.Row.l0 {W : World} {K : Nat} {v : Value} {xs : List Int} (h : Is.Row W K v xs) : ∃ A c, v = .slice A xs.length c ∧ Is.L0 W A c xs := by
  obtain ⟨A, c, rfl, hls⟩ := h.ls
  refine ⟨A, c, rfl, hls, fun a ha => ?_⟩
  rcases h.2 with ⟨h1, _⟩ | ⟨g, cap, cur, h1, _⟩
  · injection h1 with h1; subst h1; cases ha
  · injection h1 with h1; subst h1; cases ha; exact ⟨g, rfl⟩
theorem Is.L0.below {W W' : World} {A : Option Addr} {c : Nat} {xs : List Int} (h : Is.L0 W A c xs) (hb : Below W.heap.size W W') : Is.L0 W' A c xs := ⟨h.ls.below hb, h.off⟩
/-- what is put behind a list without room: it is copied, or nothing is put there -/
theorem Is.L0.full {W : World} {g c p m c2 : Nat} {A : Option Addr} {xs ys : List Int} (h : Is.Ls W (some ⟨g, 0, none⟩) c xs) (hp : xs.length = p) (hs : Is.Ls W A c2 ys) (hm : ys.length = m) (hl : p + m ≤ 1000000) (ty : TypeId) :
    ∃ A' c' w', (Builtin.append_ #[24, 24] ty #[.slice (some ⟨g, 0, none⟩) p p, .slice A m c2]).run Try.prog W = .ok (.slice A' (p + m) c') w' ∧ Is.L0 w' A' c' (xs ++ ys) ∧ Below W.heap.size W w' := by
  rcases Nat.eq_zero_or_pos m with h0 | h0
  · subst h0
    obtain rfl := List.length_eq_zero_iff.1 hm
    obtain ⟨i0, hi, hz0, hz1, hz2⟩ := info_parts Is.info3
    have hrun := run_append_nothing (P := Try.prog) W 24 24 ty 3 i0 Try.underlying24 hi (some ⟨g, 0, none⟩) p p (Nat.le_refl _) (.slice A 0 c2) (by rw [hz1]; exact hs.src)
    refine ⟨some ⟨g, 0, none⟩, p, W, hrun, ⟨?_, fun a ha => ⟨g, by cases ha; rfl⟩⟩, Below.refl _ _⟩
    rw [List.append_nil]
    exact ⟨by omega, by unfold maxLen; omega, fun e => (nomatch e), h.at'⟩
  · obtain ⟨A', c', w', hrun, hrow, hb⟩ := Is.Ls.grow (g := g) h (k := p) (by omega) hs hm h0 rfl hl ty
    rw [List.take_of_length_le (by omega)] at hrow
    obtain ⟨A2, c3, hv, hl0⟩ := hrow.l0
    injection hv with e1 e2 e3
    subst e1; subst e3
    exact ⟨A', c', w', hrun, hl0, hb⟩
/-- so far gone through: those, and to whom an edge goes from the first of them -/
def mor (l : List Es.Ed) (out : List Int) (j : Nat) : List Int := out ++ (out.take j).flatMap fun x => Cy.fromC x l
theorem mor_succ {l : List Es.Ed} {out : List Int} {j : Nat} (h : j < out.length) : mor l out (j + 1) = mor l out j ++ Cy.fromC out[j] l := by
  unfold mor
  rw [List.take_succ_eq_append_getElem h, List.flatMap_append, List.append_assoc]
  simp
theorem mor_len {l : List Es.Ed} {out : List Int} (hl : l.length ≤ 400) : ∀ j, (mor l out j).length ≤ out.length + j * 400
  | 0 => by simp [mor]
  | j + 1 => by
    have h := mor_len (out := out) hl j
    rcases Nat.lt_or_ge j out.length with q | q
    · rw [mor_succ q, List.length_append]
      have := Cy.fromC_len out[j] l
      omega
    · unfold mor at h ⊢
      rw [List.take_of_length_le q] at h
      rw [List.take_of_length_le (by omega)]
      omega
set_option maxHeartbeats 8000000 in
theorem rreach_any {W : World} {A : Option Addr} {c : Nat} {l : List Es.Ed} (hr : Es.Ls W A c l) (hl : l.length ≤ 400) (fr : Int) : Calls Try.prog 15 #[.slice A l.length c, .int .i64 fr] W (Risn (Cy.Pl (Cy.EI l) fr) W) := by
  have HR := Lib.hid hr
  obtain ⟨n, hn⟩ : ∃ n, l.length = n := ⟨_, rfl⟩
  have hFr := fun (v : World) (hv : Below W.heap.size W v) (x : Int) => rfrom_any (hr.below hv) (by omega) x
  rw [hn] at hl ⊢
  simp only [hn] at hFr
  have HFr := Lib.hid hFr
  have HN := Lib.hid hn
  have HAll := Lib.hid (Cy.rnds_all (l := l) (fr := fr))
  have HF0 := Lib.hid (hFr W (Below.refl _ _) fr)
  clear hr hn hFr
  go_enter Try.func15, Try.ntmps15
  go_wp2_with fail
  refine HF0.out.mono ?_
  rintro e w1 ⟨v1, rfl, hr1, hb1⟩
  have HR1 := Lib.hid (show Is.Row w1 W.heap.size v1 (Cy.rnds l fr 0) from hr1)
  have HB1 := Lib.hid hb1
  obtain ⟨A1, c1, rfl, -⟩ := hr1.ls
  clear hr1 hb1 HF0
  go_wp2_with fail
  go_loopw [5, 14] (fun u t wr => ∃ k : Nat, k ≤ n ∧ t = .int .i64 k ∧ Is.Row wr W.heap.size u (Cy.rnds l fr k) ∧ Below W.heap.size W wr) (fun _ t _ => n - (intOf t).toNat)
  case atStart => exact ⟨0, Nat.zero_le _, rfl, HR1.out, HB1.out⟩
  case round =>
    obtain ⟨k, hk, rfl, hrow, hb⟩ := hrel
    have HRow := Lib.hid hrow
    have HB := Lib.hid hb
    obtain ⟨A5, c5, rfl, hl0⟩ := hrow.l0
    have hfew := Cy.rnds_few (l := l) (fr := fr) k
    rw [HN.out] at hfew
    obtain ⟨m, hm⟩ : ∃ m, (Cy.rnds l fr k).length = m := ⟨_, rfl⟩
    have HM := Lib.hid hm
    have HL0 := Lib.hid hl0
    rw [hm] at hfew ⊢
    clear hrow hb hl0 hm
    by_cases hkn : k < n
    · go_wp2_with fail
      go_loopw [6, 19] (fun u t v => ∃ (j : Nat) (A6 : Option Addr) (c6 : Nat), j ≤ m ∧ t = .int .i64 j ∧ u = .slice A6 (mor l (Cy.rnds l fr k) j).length c6 ∧ Is.L0 v A6 c6 (mor l (Cy.rnds l fr k) j) ∧ Below wr.heap.size wr v) (fun _ t _ => m - (intOf t).toNat)
      case atStart => exact ⟨0, A5, c5, Nat.zero_le _, rfl, by simp [mor, HM.out], by simpa [mor] using HL0.out, Below.refl _ _⟩
      case round =>
        obtain ⟨j, A6, c6, hj, rfl, rfl, hl6, hb6⟩ := hrel
        have hml := mor_len (l := l) (out := Cy.rnds l fr k) (by rw [HN.out]; exact hl) j
        rw [HM.out] at hml
        have HL6 := Lib.hid hl6
        have HB6 := Lib.hid hb6
        have HBw := Lib.hid (HB.out.trans (hb6.mono HB.out.size))
        obtain ⟨p, hp⟩ : ∃ p, (mor l (Cy.rnds l fr k) j).length = p := ⟨_, rfl⟩
        have HP := Lib.hid hp
        by_cases hjm : j < m
        · have hjo : j < (Cy.rnds l fr k).length := by rw [HM.out]; exact hjm
          obtain ⟨a5, ha5, z0⟩ := (HL0.out.below hb6).ls.here hjo
          subst ha5
          have hsu := mor_succ (l := l) hjo
          obtain ⟨x, hx⟩ : ∃ x, (Cy.rnds l fr k)[j] = x := ⟨_, rfl⟩
          rw [hx] at z0 hsu
          have HSu := Lib.hid hsu
          have h6 : ∃ g, A6 = some ⟨g, 0, none⟩ := by
            cases A6 with
            | none =>
              have := congrArg List.length hl6.ls.empty
              unfold mor at this
              rw [List.length_append] at this
              simp at this
              rw [this.1] at hjo
              simp at hjo
            | some a => obtain ⟨g, rfl⟩ := hl6.off a rfl; exact ⟨g, rfl⟩
          obtain ⟨g6, rfl⟩ := h6
          have hcap := hl6.ls.cap
          have HFx := Lib.hid (HFr.out wr.drew HBw.out.drew x)
          rw [hp] at hcap hml ⊢
          have HLs6 := Lib.hid (show Is.Ls wr (some ⟨g6, 0, none⟩) c6 (mor l (Cy.rnds l fr k) j) from hl6.ls)
          have HFl := Lib.hid (show (Od.can Is.ltI (fromL x l)).length ≤ 400 from by have h := Cy.fromC_len x l; rw [HN.out] at h; exact Nat.le_trans h (by omega))
          obtain ⟨q, hq⟩ : ∃ q, (Od.can Is.ltI (fromL x l)).length = q := ⟨_, rfl⟩
          have HQ := Lib.hid hq
          have hp9 : p ≤ 200000 := by omega
          clear hl6 hb6 hjo hsu hx hp hq
          go_wp2_with fail
          go_region_law (first
            | (go_simp; go_at_call 25; refine HFx.out.mono ?_; rintro e w5 ⟨v5, rfl, hr5, hb5⟩; obtain ⟨B5, d5, rfl, hls5⟩ := hr5.ls; have hb6 := undrew hb5; obtain ⟨A7, c7, w7, hrun, hl7, hb7⟩ := Is.L0.full (HLs6.out.below hb6) HP.out hls5 HQ.out (by have := HFl.out; rw [HQ.out] at this; omega) 24; rw [show (Od.can Is.ltI (fromL x l)).length = q from HQ.out]; have HRun := Lib.hid hrun; have HL7 := Lib.hid hl7; have HB7 := Lib.hid (hb6.trans (hb7.mono hb6.size)); clear hr5 hb5 hls5 hb6 hrun hl7 hb7)
            | (refine step_append ?h1 (.tmp 28) (.tmp 31) 24 ?h2 (.slice (some ⟨g6, 0, none⟩) p p) (.slice B5 q d5) ?h3 ?h4 _ _ HRun.out ?_; rotate_right; (case h1 => rfl); (case h2 => rfl); (case h3 => kernel_rfl); (case h4 => kernel_rfl)))
          all_goals
            go_wp2_with fail
            go_roundw
            case rel => exact ⟨j + 1, A7, c7, by omega, by go_num, by rw [HSu.out, List.length_append, HP.out, show (Cy.fromC x l).length = q from HQ.out], by rw [HSu.out]; exact HL7.out, HB6.out.trans (HB7.out.mono HB6.out.size)⟩
            case measure => simp [intOf]; omega
        · obtain rfl : j = m := by omega
          have HNu := Lib.hid (Is.numbers_any hl6.ls (by omega))
          rw [hp] at HNu ⊢
          clear hl6 hb6 hp
          go_wp2_with fail
          refine HNu.out.mono ?_
          rintro e w6 ⟨v6, rfl, hr6, hb7⟩
          have HR6 := Lib.hid (show Is.Row w6 W.heap.size v6 (Cy.rnds l fr (k + 1)) from by
            have e9 : Cy.rnds l fr (k + 1) = Od.can Is.ltI (mor l (Cy.rnds l fr k) j) := by
              show Cy.rnd l (Cy.rnds l fr k) = _
              unfold Cy.rnd mor
              rw [List.take_of_length_le (by rw [HM.out]; exact Nat.le_refl _)]
            rw [e9]
            exact row_base hr6 HBw.out.size)
          have HB7 := Lib.hid (HBw.out.trans (hb7.mono HBw.out.size))
          clear hr6 hb7
          go_wp2_with fail
          go_roundw
          case rel => exact ⟨k + 1, by omega, by go_num, HR6.out, HB7.out⟩
          case measure => simp [intOf]; omega
    · obtain rfl : k = n := by omega
      have HF := Lib.hid (show Risn (Cy.Pl (Cy.EI l) fr) W (.returned (.slice A5 m c5)) wr from ⟨_, Cy.rnds l fr k, rfl, by rw [← HM.out]; exact HRow.out, by
        have h := HAll.out
        rw [HN.out] at h
        exact h, HB.out⟩)
      go_wp2_with fail
      go_ret
      exact HF.out
theorem rises_part {l : List Es.Ed} {p : Int → Prop} [DecidablePred p] (hp : ∀ x, p x → x ∈ Cy.nodesC l) : Cy.Rises p ((Cy.nodesC l).filter fun x => decide (p x)) := by
  refine ⟨List.Pairwise.filter _ (Cy.nodesC_asc l), fun x => ?_⟩
  rw [List.mem_filter]
  constructor
  · rintro ⟨_, h⟩; simpa using h
  · exact fun h => ⟨hp x h, by simpa using h⟩
open Classical in
/-- of the first so many numbers those that are on a ring -/
noncomputable def onf (l : List Es.Ed) (k : Nat) : List Int := ((Cy.nodesC l).take k).filter fun x => decide (Cy.Pl (Cy.EI l) x x)
open Classical in
theorem onf_yes {l : List Es.Ed} {k : Nat} (h : k < (Cy.nodesC l).length) (hx : Cy.Pl (Cy.EI l) (Cy.nodesC l)[k] (Cy.nodesC l)[k]) : onf l (k + 1) = onf l k ++ [(Cy.nodesC l)[k]] := by
  unfold onf
  rw [List.take_succ_eq_append_getElem h, List.filter_append, List.filter_cons_of_pos (by simpa using hx)]
  rfl
open Classical in
theorem onf_no {l : List Es.Ed} {k : Nat} (h : k < (Cy.nodesC l).length) (hx : ¬ Cy.Pl (Cy.EI l) (Cy.nodesC l)[k] (Cy.nodesC l)[k]) : onf l (k + 1) = onf l k := by
  unfold onf
  rw [List.take_succ_eq_append_getElem h, List.filter_append, List.filter_cons_of_neg (by simpa using hx), List.filter_nil, List.append_nil]
open Classical in
theorem onf_all (l : List Es.Ed) : Cy.Rises (fun x => Cy.Pl (Cy.EI l) x x) (onf l (Cy.nodesC l).length) := by
  have h := rises_part (l := l) (p := fun x => Cy.Pl (Cy.EI l) x x) fun x hx => (Cy.pl_node hx).1
  unfold onf
  rw [List.take_of_length_le (Nat.le_refl _)]
  exact h
theorem onf_len (l : List Es.Ed) (k : Nat) : (onf l k).length ≤ k := by
  unfold onf
  refine Nat.le_trans (List.length_filter_le ..) ?_
  rw [List.length_take]
  exact Nat.min_le_left ..
set_option maxHeartbeats 8000000 in
theorem ron_any {W : World} {A : Option Addr} {c : Nat} {l : List Es.Ed} (hr : Es.Ls W A c l) (hl : l.length ≤ 400) : Calls Try.prog 11 #[.slice A l.length c] W (Risn (fun x => Cy.Pl (Cy.EI l) x x) W) := by
  have HR := Lib.hid hr
  have HN0 := Lib.hid (rnodes_any hr (by omega))
  obtain ⟨n, hn⟩ : ∃ n, l.length = n := ⟨_, rfl⟩
  have hRe := fun (v : World) (hv : Below W.heap.size W v) (x : Int) => rreach_any (hr.below hv) hl x
  rw [hn] at hl HN0 ⊢
  simp only [hn] at hRe
  have HRe := Lib.hid hRe
  have HN := Lib.hid hn
  clear hr hn hRe
  go_enter Try.func11, Try.ntmps11
  go_wp2_with fail
  refine HN0.out.mono ?_
  rintro e w1 ⟨v1, rfl, hr1, hb1⟩
  obtain ⟨A1, c1, rfl, hls1⟩ := hr1.ls
  have HB1 := Lib.hid hb1
  have HLs := Lib.hid (show Is.Ls w1 A1 c1 (Cy.nodesC l) from hls1)
  obtain ⟨m, hm⟩ : ∃ m, (Od.can Is.ltI (nodesL l)).length = m := ⟨_, rfl⟩
  have HM := Lib.hid (show (Cy.nodesC l).length = m from hm)
  have hmn := Cy.nodesC_len l
  rw [HM.out, HN.out] at hmn
  rw [hm]
  clear hr1 hb1 hls1 hm HN0
  go_wp2_with fail
  go_loopw [3, 9] (fun u t wr => ∃ k : Nat, k ≤ m ∧ t = .int .i64 k ∧ Is.Row wr w1.heap.size u (onf l k) ∧ Below w1.heap.size w1 wr) (fun _ t _ => m - (intOf t).toNat)
  case atStart => exact ⟨0, Nat.zero_le _, rfl, by rw [show onf l 0 = [] from by simp [onf]]; exact World.ownsRow_nil _ _ _ _, Below.refl _ _⟩
  case round =>
    obtain ⟨k, hk, rfl, hrow, hb⟩ := hrel
    have HRow := Lib.hid hrow
    have HB := Lib.hid hb
    have HBw := Lib.hid (HB1.out.trans (hb.mono HB1.out.size))
    obtain ⟨A3, c3, rfl, -⟩ := hrow.ls
    have hol := onf_len l k
    obtain ⟨p, hp⟩ : ∃ p, (onf l k).length = p := ⟨_, rfl⟩
    have HP := Lib.hid hp
    rw [hp] at hol ⊢
    by_cases hkm : k < m
    · have hkn : k < (Cy.nodesC l).length := by rw [HM.out]; exact hkm
      obtain ⟨a1, ha1, z0⟩ := (HLs.out.below hb).here hkn
      subst ha1
      obtain ⟨x, hx⟩ : ∃ x, (Cy.nodesC l)[k] = x := ⟨_, rfl⟩
      rw [hx] at z0
      have HRx := Lib.hid (HRe.out wr HBw.out x)
      have HYes := Lib.hid (fun h => by have h1 := onf_yes (l := l) hkn (by rw [hx]; exact h); rw [hx] at h1; exact h1)
      have HNo := Lib.hid (fun h => onf_no (l := l) hkn (by rw [hx]; exact h))
      clear hrow hb hkn hx hp
      go_wp2_with fail
      refine HRx.out.mono ?_
      rintro e w5 ⟨v5, xs, rfl, hr5, hs5, hb5⟩
      obtain ⟨A5, c5, rfl, hls5⟩ := hr5.ls
      have hxl := hs5.len (l := l) fun y hy => (Cy.pl_node hy).2
      rw [HN.out] at hxl
      have HHas := Lib.hid (has_any hls5 (by omega) x)
      obtain ⟨q, hq⟩ : ∃ q, xs.length = q := ⟨_, rfl⟩
      rw [hq] at HHas ⊢
      have HB5 := Lib.hid (HB.out.trans (hb5.mono HB.out.size))
      have HRow5 := Lib.hid (row_below HRow.out hb5)
      have HMe := Lib.hid (hs5.mem x)
      clear hr5 hls5 hs5 hb5 hq
      go_wp2_with fail
      refine HHas.out.mono ?_
      rintro e w6 ⟨rfl, rfl⟩
      by_cases hin : x ∈ xs
      · have hd : decide (x ∈ xs) = true := by simpa using hin
        obtain ⟨v7, w7, hrun, hrow7, hgr, hown⟩ := Is.Row.app2 (row_below HRow5.out (box_below w5 (.cells #[.int .i64 x] 3))) (ys := [x]) (Is.box_ls w5 x) (by simp [HP.out]; omega) (by have := HB5.out.size; simp; omega) 24
        have hbx := box_below w5 (.cells #[.int .i64 x] 3)
        have hB7 := Is.Row.app_below (row_below HRow5.out hbx) hgr (by have := HB5.out.size; simp; omega)
        obtain ⟨A7, c7, rfl, -⟩ := hrow7.ls
        have HR7 := Lib.hid (show Is.Row w7 w1.heap.size (.slice A7 (onf l k ++ [x]).length c7) (onf l (k + 1)) from by rw [HYes.out (HMe.out.1 hin)]; exact hrow7)
        have HB7 := Lib.hid (HB5.out.trans ((hbx.mono HB5.out.size).trans hB7))
        have hlen : (onf l k ++ [x]).length = p + 1 := by rw [List.length_append, HP.out]; rfl
        rw [HP.out, hlen] at hrun
        rw [hlen] at HR7
        simp only [List.length_singleton] at hrun
        clear hrow7 hgr hown hbx hB7 hin hlen
        rw [hd]
        go_wp2_with (at_builtin; refine Lib.wpList_append_run _ rfl _ _ _ _ rfl _ _ rfl rfl _ _ hrun ?_)
        go_roundw
        case rel => exact ⟨k + 1, by omega, by go_num, HR7.out, HB7.out⟩
        case measure => simp [intOf]; omega
      · have hd : decide (x ∈ xs) = false := by simpa using hin
        have HR7 := Lib.hid (show Is.Row w5 w1.heap.size (.slice A3 p c3) (onf l (k + 1)) from by
          rw [HNo.out fun h => hin (HMe.out.2 h), ← HP.out]
          exact HRow5.out)
        clear hin
        rw [hd]
        go_wp2_with fail
        go_roundw
        case rel => exact ⟨k + 1, by omega, by go_num, HR7.out, HB5.out⟩
        case measure => simp [intOf]; omega
    · obtain rfl : k = m := by omega
      have HF := Lib.hid (show Risn (fun x => Cy.Pl (Cy.EI l) x x) W (.returned (.slice A3 p c3)) wr from ⟨_, onf l k, rfl, by
        rw [← HP.out]
        exact row_base HRow.out HB1.out.size, by rw [← HM.out]; exact onf_all l, HBw.out⟩)
      clear hrow hb hp
      go_wp2_with fail
      go_ret
      exact HF.out
end Go.Proofs.Ytgefponjlliaaaa
