/- The document's order. -/
import Derived.Test.YtgefponjlliaaaaHp
namespace Go.Proofs.Ytgefponjlliaaaa
open Go Go.RowKit Go.Shelf
set_option maxRecDepth 100000

/-- one round of the document's order: nobody yet who may stand next, or the one is put there -/
structure Fnd (l : List Es.Ed) (full : List Int) (k j : Nat) (f : Bool) (out : List Int) : Prop where
  no : f = false → out = full.take k ∧ ∀ i, i < j → ∀ h : i < (Cy.nodesC l).length, ¬ Cy.Rdy l out (Cy.nodesC l)[i]
  yes : f = true → k < full.length ∧ out = full.take (k + 1)
theorem Fnd.start {l : List Es.Ed} {full : List Int} {k : Nat} : Fnd l full k 0 false (full.take k) := ⟨fun _ => ⟨rfl, fun i h => by omega⟩, fun h => nomatch h⟩
theorem Fnd.stay {l : List Es.Ed} {full out : List Int} {k j : Nat} (h : Fnd l full k j true out) : Fnd l full k (j + 1) true out := ⟨fun h => (nomatch h), h.yes⟩
theorem Fnd.pass {l : List Es.Ed} {full out : List Int} {k j : Nat} {x : Int} (h : Fnd l full k j false out) (hj : j < (Cy.nodesC l).length) (hx : (Cy.nodesC l)[j] = x) (hr : ¬ Cy.Rdy l out x) : Fnd l full k (j + 1) false out := by
  refine ⟨fun _ => ⟨(h.no rfl).1, fun i hi hil => ?_⟩, fun h => nomatch h⟩
  rcases Nat.lt_or_ge i j with q | q
  · exact (h.no rfl).2 i q hil
  · obtain rfl : i = j := by omega
    rw [hx]; exact hr
theorem Fnd.take {l : List Es.Ed} {full out : List Int} {k j : Nat} {x : Int} (ht : Cy.Topo l full) (h : Fnd l full k j false out) (hj : j < (Cy.nodesC l).length) (hx : (Cy.nodesC l)[j] = x) (hr : Cy.Rdy l out x) : Fnd l full k (j + 1) true (out ++ [x]) := by
  refine ⟨fun h => (nomatch h), fun _ => ?_⟩
  obtain ⟨h1, h2⟩ := h.no rfl
  have hn : Cy.Nxt l out x := ⟨hr, fun y hy => by
    obtain ⟨i, hi, e⟩ := List.getElem_of_mem hy.node
    rcases Nat.lt_or_ge i j with q | q
    · exact absurd (e ▸ hy) (h2 i q hi)
    · rcases Nat.eq_or_lt_of_le q with q | q
      · subst q; rw [← hx, ← e]; exact Int.le_refl _
      · have := Cy.asc_lt (Cy.nodesC_asc l) hj hi q
        rw [← hx, ← e]; omega⟩
  rw [h1] at hn
  obtain ⟨hk, e⟩ := ht.at hn
  exact ⟨hk, by rw [h1, List.take_succ_eq_append_getElem hk, e]⟩
/-- nobody found: it ends there -/
theorem Fnd.ended {l : List Es.Ed} {full out : List Int} {k : Nat} (ht : Cy.Topo l full) (h : Fnd l full k (Cy.nodesC l).length false out) (hk : k ≤ full.length) : full.length = k := by
  obtain ⟨h1, h2⟩ := h.no rfl
  rcases Nat.lt_or_ge k full.length with q | q
  · have hr := (ht.nxt k q).rdy
    obtain ⟨i, hi, e⟩ := List.getElem_of_mem hr.node
    exact absurd (by rw [h1, e]; exact hr) (h2 i hi hi)
  · omega
set_option maxHeartbeats 8000000 in
theorem rorder_any {W : World} {A : Option Addr} {c : Nat} {l : List Es.Ed} (hr : Es.Ls W A c l) (hl : l.length ≤ 400) : Calls Try.prog 8 #[.slice A l.length c] W (Orders l W) := by
  obtain ⟨full, hT⟩ := Cy.Topo.exists l
  have HT := Lib.hid hT
  have hfl := hT.len
  have HN0 := Lib.hid (rnodes_any hr (by omega))
  obtain ⟨n, hn⟩ : ∃ n, l.length = n := ⟨_, rfl⟩
  have hFr := fun (v : World) (hv : Below W.heap.size W v) (x : Int) => rfrom_any (hr.below hv) (by omega) x
  rw [hn] at hl HN0 ⊢
  simp only [hn] at hFr
  have HFr := Lib.hid hFr
  have HN := Lib.hid hn
  clear hr hn hFr hT
  go_enter Try.func8, Try.ntmps8
  go_wp2_with fail
  refine HN0.out.mono ?_
  rintro e w1 ⟨v1, rfl, hr1, hb1⟩
  obtain ⟨A1, c1, rfl, hls1⟩ := hr1.ls
  have HB1 := Lib.hid hb1
  have HLs := Lib.hid (show Is.Ls w1 A1 c1 (Cy.nodesC l) from hls1)
  obtain ⟨m, hm⟩ : ∃ m, (Od.can Is.ltI (nodesL l)).length = m := ⟨_, rfl⟩
  have HM := Lib.hid (show (Cy.nodesC l).length = m from hm)
  have hmn := Cy.nodesC_len l
  rw [HM.out, HN.out] at hmn
  rw [HM.out] at hfl
  rw [hm]
  clear hr1 hb1 hls1 hm HN0
  go_wp2_with fail
  go_loopw [4, 16] (fun u t wr => ∃ k : Nat, k ≤ m ∧ t = .int .i64 k ∧ k ≤ full.length ∧ Is.Row wr w1.heap.size u (full.take k) ∧ Below w1.heap.size w1 wr) (fun _ t _ => m - (intOf t).toNat)
  case atStart => exact ⟨0, Nat.zero_le _, rfl, Nat.zero_le _, by rw [List.take_zero]; exact World.ownsRow_nil _ _ _ _, Below.refl _ _⟩
  case round =>
    obtain ⟨k, hk, rfl, hkf, hrow, hb⟩ := hrel
    have HRow := Lib.hid hrow
    have HB := Lib.hid hb
    have HBw := Lib.hid (HB1.out.trans (hb.mono HB1.out.size))
    obtain ⟨A4, c4, rfl, -⟩ := hrow.ls
    by_cases hkm : k < m
    · clear hrow hb
      go_wp2_with fail
      go_loopw [4, 6, 20] (fun u f t v => ∃ (j : Nat) (fb : Bool) (out : List Int), j ≤ m ∧ t = .int .i64 j ∧ f = .bool fb ∧ Is.Row v w1.heap.size u out ∧ Below w1.heap.size w1 v ∧ Fnd l full k j fb out) (fun _ _ t _ => m - (intOf t).toNat)
      case atStart => exact ⟨0, false, _, Nat.zero_le _, rfl, rfl, HRow.out, HB.out, Fnd.start⟩
      case round =>
        obtain ⟨j, fb, out, hj, rfl, rfl, hrow, hb, hfn⟩ := hrel
        have HRow := Lib.hid hrow
        have HB := Lib.hid hb
        have HBw := Lib.hid (HB1.out.trans (hb.mono HB1.out.size))
        have HFn := Lib.hid hfn
        obtain ⟨A4, c4, rfl, hls4⟩ := hrow.ls
        have hol : out.length ≤ full.length := by
          cases fb with
          | false => rw [(hfn.no rfl).1, List.length_take]; exact Nat.min_le_right ..
          | true => rw [(hfn.yes rfl).2, List.length_take]; exact Nat.min_le_right ..
        by_cases hjm : j < m
        · have hjn : j < (Cy.nodesC l).length := by rw [HM.out]; exact hjm
          obtain ⟨a1, ha1, z0⟩ := (HLs.out.below hb).here hjn
          subst ha1
          obtain ⟨x, hx⟩ : ∃ x, (Cy.nodesC l)[j] = x := ⟨_, rfl⟩
          rw [hx] at z0
          have HJ := Lib.hid (show ∃ h : j < (Cy.nodesC l).length, (Cy.nodesC l)[j] = x from ⟨hjn, hx⟩)
          have HFx := Lib.hid (HFr.out wr HBw.out x)
          have HHas := Lib.hid (fun (v : World) (hv : Below wr.heap.size wr v) (y : Int) => has_any (hls4.below hv) (by omega) y)
          have HHx := Lib.hid (has_any hls4 (by omega) x)
          obtain ⟨p, hp⟩ : ∃ p, out.length = p := ⟨_, rfl⟩
          have HP := Lib.hid hp
          simp only [hp] at HHas HHx
          rw [hp] at hol ⊢
          clear hrow hb hls4 hjn hx hp hfn
          cases fb with
          | true =>
            go_wp2_with fail
            refine HFx.out.mono ?_
            rintro e w5 ⟨v5, rfl, hr5, hb5⟩
            obtain ⟨A5, c5, rfl, hls5⟩ := hr5.ls
            obtain ⟨fr, hfr⟩ : ∃ fr, Od.can Is.ltI (fromL x l) = fr := ⟨_, rfl⟩
            have HFr9 := Lib.hid (show ∀ y, y ∈ fr ↔ Cy.EI l x y from fun y => by rw [← hfr]; exact Cy.mem_fromC)
            have hfl9 : fr.length ≤ n := by rw [← hfr]; have h := Cy.fromC_len x l; rw [HN.out] at h; exact h
            rw [hfr] at hls5 ⊢
            have HLs5 := Lib.hid hls5
            obtain ⟨q, hq⟩ : ∃ q, fr.length = q := ⟨_, rfl⟩
            have HQ := Lib.hid hq
            have HB5 := Lib.hid (HB.out.trans (hb5.mono HB.out.size))
            have HRow5 := Lib.hid (row_below HRow.out hb5)
            have HHas5 := Lib.hid (fun y => HHas.out w5 hb5 y)
            rw [hq] at hfl9 ⊢
            clear hr5 hls5 hb5 hfr hq HFx HHas
            go_wp2_with fail
            go_loopw [9, 36] (fun u t v => ∃ i : Nat, i ≤ q ∧ t = .int .i64 i ∧ u = .bool false ∧ w5 = v) (fun _ t _ => q - (intOf t).toNat)
            case atStart => exact ⟨0, Nat.zero_le _, rfl, rfl, rfl⟩
            case round =>
              obtain ⟨i, hi, rfl, rfl, rfl⟩ := hrel
              by_cases hiq : i < q
              · have his : i < fr.length := by rw [HQ.out]; exact hiq
                obtain ⟨a5, ha5, z1⟩ := HLs5.out.here his
                subst ha5
                generalize fr[i] = y at z1
                clear his
                go_wp2_with fail
                go_roundw
                case rel => exact ⟨i + 1, by omega, by go_num, rfl, trivial⟩
                case measure => simp [intOf]; omega
              · obtain rfl : i = q := by omega
                have HRk := Lib.hid (show Is.Row w5 w1.heap.size (.slice A4 p c4) out from by rw [← HP.out]; exact HRow5.out)
                go_wp2_with fail
                go_roundw
                case rel => exact ⟨j + 1, true, out, by omega, by go_num, rfl, HRk.out, HB5.out, HFn.out.stay⟩
                case measure => simp [intOf]; omega
          | false =>
            go_wp2_with fail
            refine HHx.out.mono ?_
            rintro e w3 ⟨rfl, rfl⟩
            go_wp2_with fail
            obtain ⟨b0, hb0⟩ : ∃ b, (!decide (x ∈ out)) = b := ⟨_, rfl⟩
            rw [hb0]
            have HB0 := Lib.hid (show b0 = true ↔ x ∉ out from by rw [← hb0]; simp)
            clear hb0 HHx
            refine HFx.out.mono ?_
            rintro e w5 ⟨v5, rfl, hr5, hb5⟩
            obtain ⟨A5, c5, rfl, hls5⟩ := hr5.ls
            obtain ⟨fr, hfr⟩ : ∃ fr, Od.can Is.ltI (fromL x l) = fr := ⟨_, rfl⟩
            have HFr9 := Lib.hid (show ∀ y, y ∈ fr ↔ Cy.EI l x y from fun y => by rw [← hfr]; exact Cy.mem_fromC)
            have hfl9 : fr.length ≤ n := by rw [← hfr]; have h := Cy.fromC_len x l; rw [HN.out] at h; exact h
            rw [hfr] at hls5 ⊢
            have HLs5 := Lib.hid hls5
            obtain ⟨q, hq⟩ : ∃ q, fr.length = q := ⟨_, rfl⟩
            have HQ := Lib.hid hq
            have HB5 := Lib.hid (HB.out.trans (hb5.mono HB.out.size))
            have HRow5 := Lib.hid (row_below HRow.out hb5)
            have HHas5 := Lib.hid (fun y => HHas.out w5 hb5 y)
            rw [hq] at hfl9 ⊢
            clear hr5 hls5 hb5 hfr hq HFx HHas
            go_wp2_with fail
            go_loopw [9, 36] (fun u t v => ∃ (i : Nat) (mb : Bool), i ≤ q ∧ t = .int .i64 i ∧ u = .bool mb ∧ (mb = true ↔ b0 = true ∧ ∀ y ∈ fr.take i, y ∈ out) ∧ w5 = v) (fun _ t _ => q - (intOf t).toNat)
            case atStart => exact ⟨0, b0, Nat.zero_le _, rfl, rfl, by simp, rfl⟩
            case round =>
              obtain ⟨i, mb, hi, rfl, rfl, hmb, rfl⟩ := hrel
              have HMb := Lib.hid hmb
              by_cases hiq : i < q
              · have his : i < fr.length := by rw [HQ.out]; exact hiq
                obtain ⟨a5, ha5, z1⟩ := HLs5.out.here his
                subst ha5
                obtain ⟨y, hy⟩ : ∃ y, fr[i] = y := ⟨_, rfl⟩
                have HTk := Lib.hid (show fr.take (i + 1) = fr.take i ++ [y] from by rw [List.take_succ_eq_append_getElem his, hy])
                rw [hy] at z1
                clear his hy hmb
                cases mb with
                | false =>
                  have HM2 := Lib.hid (show (false = true ↔ b0 = true ∧ ∀ z ∈ fr.take (i + 1), z ∈ out) from ⟨fun h => (nomatch h), fun h => HMb.out.2 ⟨h.1, fun z hz => h.2 z (by rw [HTk.out]; exact List.mem_append.2 (.inl hz))⟩⟩)
                  go_wp2_with fail
                  go_roundw
                  case rel => exact ⟨i + 1, false, by omega, by go_num, rfl, HM2.out, trivial⟩
                  case measure => simp [intOf]; omega
                | true =>
                  have HH := Lib.hid (HHas5.out y)
                  have HM2 := Lib.hid (show (decide (y ∈ out) = true ↔ b0 = true ∧ ∀ z ∈ fr.take (i + 1), z ∈ out) from by
                    obtain ⟨h1, h2⟩ := HMb.out.1 rfl
                    rw [HTk.out, decide_eq_true_iff]
                    constructor
                    · intro h
                      refine ⟨h1, fun z hz => ?_⟩
                      rcases List.mem_append.1 hz with hz | hz
                      · exact h2 z hz
                      · obtain rfl : z = y := by simpa using hz
                        exact h
                    · exact fun h => h.2 y (by simp))
                  generalize decide (y ∈ out) = d at *
                  go_wp2_with fail
                  refine HH.out.mono ?_
                  rintro e w6 ⟨rfl, rfl⟩
                  go_wp2_with fail
                  go_roundw
                  case rel => exact ⟨i + 1, d, by omega, by go_num, rfl, HM2.out, trivial⟩
                  case measure => simp [intOf]; omega
              · obtain rfl : i = q := by omega
                have HRd := Lib.hid (show mb = true ↔ Cy.Rdy l out x from by
                  rw [HMb.out, HB0.out, List.take_of_length_le (by rw [HQ.out]; exact Nat.le_refl _)]
                  constructor
                  · rintro ⟨h1, h2⟩
                    obtain ⟨hj9, hx9⟩ := HJ.out
                    exact ⟨hx9 ▸ List.getElem_mem hj9, h1, fun y e => h2 y ((HFr9.out y).2 e)⟩
                  · rintro ⟨_, h1, h2⟩
                    exact ⟨h1, fun y hy => h2 y ((HFr9.out y).1 hy)⟩)
                clear hmb
                cases mb with
                | false =>
                  have HRk := Lib.hid (show Is.Row w5 w1.heap.size (.slice A4 p c4) out from by rw [← HP.out]; exact HRow5.out)
                  have HFn2 := Lib.hid (HFn.out.pass HJ.out.1 HJ.out.2 fun h => by have := HRd.out.2 h; cases this)
                  go_wp2_with fail
                  go_roundw
                  case rel => exact ⟨j + 1, false, out, by omega, by go_num, rfl, HRk.out, HB5.out, HFn2.out⟩
                  case measure => simp [intOf]; omega
                | true =>
                  have HFn2 := Lib.hid (HFn.out.take HT.out HJ.out.1 HJ.out.2 (HRd.out.1 rfl))
                  have hbx := box_below w5 (.cells #[.int .i64 x] 3)
                  obtain ⟨v7, w7, hrun, hrow7, hgr, hown⟩ := Is.Row.app2 (row_below HRow5.out hbx) (ys := [x]) (Is.box_ls w5 x) (by simp [HP.out]; omega) (by have := HB5.out.size; simp; omega) 24
                  have hB7 := Is.Row.app_below (row_below HRow5.out hbx) hgr (by have := HB5.out.size; simp; omega)
                  obtain ⟨A7, c7, rfl, -⟩ := hrow7.ls
                  have hlen : (out ++ [x]).length = p + 1 := by rw [List.length_append, HP.out]; rfl
                  rw [HP.out, hlen] at hrun
                  rw [hlen] at hrow7
                  simp only [List.length_singleton] at hrun
                  have HR7 := Lib.hid hrow7
                  have HB7 := Lib.hid (HB5.out.trans ((hbx.mono HB5.out.size).trans hB7))
                  clear hrow7 hgr hown hbx hB7 hlen
                  go_wp2_with (at_builtin; refine Lib.wpList_append_run _ rfl _ _ _ _ rfl _ _ rfl rfl _ _ hrun ?_)
                  go_roundw
                  case rel => exact ⟨j + 1, true, out ++ [x], by omega, by go_num, rfl, HR7.out, HB7.out, HFn2.out⟩
                  case measure => simp [intOf]; omega
        · obtain rfl : j = m := by omega
          clear hls4
          cases fb with
          | true =>
            have HRk := Lib.hid (show k + 1 ≤ full.length ∧ Is.Row wr w1.heap.size (.slice A4 out.length c4) (full.take (k + 1)) from ⟨(HFn.out.yes rfl).1, by rw [← (HFn.out.yes rfl).2]; exact HRow.out⟩)
            clear hrow hb hfn
            go_wp2_with fail
            go_roundw
            case rel => exact ⟨k + 1, by omega, by go_num, HRk.out.1, HRk.out.2, HB.out⟩
            case measure => simp [intOf]; omega
          | false =>
            have HF := Lib.hid (show Orders l W (.returned (.tuple #[.slice none 0 0, .bool false])) wr from ⟨HBw.out, full, HT.out, .inl ⟨by
              have h1 := HFn.out
              rw [← HM.out] at h1
              rw [h1.ended HT.out hkf, HM.out]
              exact hkm, rfl⟩⟩)
            clear hrow hb hfn
            go_wp2_with fail
            exact bodyPost_ret (results_tmp2 (t := 2) (u := 3) rfl _ _ _) rfl HF.out
    · obtain rfl : k = m := by omega
      have hfk : full.length = k := by omega
      have HF := Lib.hid (show Orders l W (.returned (.tuple #[.slice A4 (full.take k).length c4, .bool true])) wr from ⟨HBw.out, full, HT.out, .inr ⟨by rw [HM.out]; exact hfk, _, rfl, by
        have h1 := HRow.out
        rw [List.take_of_length_le (by omega)] at h1 ⊢
        exact row_base h1 HB1.out.size⟩⟩)
      clear hrow hb
      go_wp2_with fail
      exact bodyPost_ret (results_tmp2 (t := 2) (u := 3) rfl _ _ _) rfl HF.out
end Go.Proofs.Ytgefponjlliaaaa
