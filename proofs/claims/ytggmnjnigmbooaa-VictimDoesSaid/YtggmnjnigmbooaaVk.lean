/- The walk of the document's All. -/
import Derived.Test.YtggmnjnigmbooaaVi
import Derived.Test.YtggmnjnigmbooaaVj
import Derived.Deep.CutRange
import Derived.Deep.DeepCutAuto
namespace Go.Proofs.Ytggmnjnigmbooaa
open Go Go.RowKit Go.Shelf
set_option maxRecDepth 100000

/-- a row of edges of one's own, made since -/
structure Es.Kp (W : World) (l : List Es.Ed) (v : Value) (w1 : World) : Prop where
  row : Es.Row w1 W.heap.size v l
  bel : Below W.heap.size W w1
theorem Es.Kp.nil (W : World) : Es.Kp W [] (.slice none 0 0) W := ⟨World.ownsRow_nil _ _ _ _, Below.refl _ _⟩
theorem Es.Kp.below {W W' w2 : World} {l : List Es.Ed} {v : Value} (h : Es.Kp W l v W') (hb : Below W'.heap.size W' w2) : Es.Kp W l v w2 := ⟨row_below h.row hb, h.bel.trans (hb.mono h.bel.size)⟩
/-- one more -/
theorem Es.Kp.put {W w : World} {l : List Es.Ed} {v : Value} {tx who : Int} {q : Nat} (h : Es.Kp W l v w) (hq : l.length = q) (hl : q ≤ 5000) :
    ∃ A' c' w2, (Builtin.append_ #[24, 24] 24 #[v, .slice (some ⟨w.heap.size, 0, none⟩) 1 1]).run Try.prog (w.alloc (.cells #[.int .i64 tx, .int .i64 who] 34)) = .ok (.slice A' (q + 1) c') w2 ∧ Es.Kp W (l ++ [(tx, who)]) (.slice A' (q + 1) c') w2 := by
  have hx := box_below w (.cells #[.int .i64 tx, .int .i64 who] 34)
  have hr : Es.Row (w.alloc (.cells #[.int .i64 tx, .int .i64 who] 34)) W.heap.size v l := row_below h.row hx
  obtain ⟨v', w2, hrun, hrow2, hg2, -⟩ := hr.app (Es.box_ls w (tx, who)) (by simp; omega) (Nat.le_trans h.bel.size hx.size) 24
  have hab := Es.Row.app_below hr hg2 (Nat.le_trans h.bel.size hx.size)
  obtain ⟨A', c', rfl, -⟩ := hrow2.ls
  have hlen : (l ++ [(tx, who)]).length = q + 1 := by simp [hq]
  rw [hlen] at hrun
  refine ⟨A', c', w2, hrun, by unfold Es.Row; rw [hlen]; unfold Es.Row at hrow2; rw [hlen] at hrow2; exact hrow2, (h.bel.trans (hx.mono h.bel.size)).trans hab⟩
/-- what stands at a place of the document's copy: in range, or 0 -/
theorem atL_cases {w : World} {b : Addr} {c : Nat} {st : List Int} (h : Is.Ls w (some b) c st) (i : Int) :
    (i < 0 ∧ atL st i = 0) ∨ (¬ i < 0 ∧ (st.length : Int) ≤ i ∧ atL st i = 0) ∨ ∃ k : Nat, i = (k : Int) ∧ k < st.length ∧ w.cell? (b.add k) = some (.int .i64 (atL st i)) := by
  by_cases h0 : i < 0
  · exact .inl ⟨h0, atL_neg h0⟩
  by_cases h1 : (st.length : Int) ≤ i
  · exact .inr (.inl ⟨h0, h1, atL_off h1⟩)
  · obtain ⟨k, rfl⟩ : ∃ k : Nat, i = (k : Int) := ⟨i.toNat, by omega⟩
    have hk : k < st.length := by omega
    obtain ⟨a, ha, z⟩ := h.here hk
    cases ha
    exact .inr (.inr ⟨k, rfl, hk, by rw [z, atL_at hk]⟩)
set_option maxHeartbeats 8000000 in
theorem rall_any {W : World} {A A2 : Option Addr} {c c2 : Nat} {l : List Es.Ed} {st : List Int} (hr : Es.Ls W A c l) (hs : Is.Ls W A2 c2 st) (hl : l.length ≤ 5000) (hl2 : st.length ≤ 1000) (p : Int) :
    Calls Try.prog 15 #[.int .i64 p, .slice A l.length c, .slice A2 st.length c2] W (Es.Rows W (allL p st l)) := by
  obtain ⟨w1, hcopy, hs1, hb1⟩ := copied hs hl2
  have hmk := mk_stamps W (st.length + 1) (by omega)
  have HR := Lib.hid (hr.below hb1)
  have HS := Lib.hid hs1
  have HB1 := Lib.hid hb1
  obtain ⟨n, hn⟩ : ∃ n, l.length = n := ⟨_, rfl⟩
  obtain ⟨n2, hn2⟩ : ∃ n, st.length = n := ⟨_, rfl⟩
  rw [hn] at hl ⊢
  rw [hn2] at hl2 hcopy hmk ⊢
  rw [Int.natCast_succ] at hmk
  have HN := Lib.hid hn
  have HN2 := Lib.hid hn2
  clear hr hs hs1 hb1 hn hn2
  go_enter Try.func15, Try.ntmps15
  go_wp2_with fail
  go_loopw [27, 8] (fun t v wr => ∃ j : Nat, j ≤ n ∧ t = .int .i64 j ∧ Es.Kp w1 (allL p st (l.take j)) v wr) (fun t _ _ => n - (intOf t).toNat)
  case atStart => exact ⟨0, by omega, rfl, Es.Kp.nil w1⟩
  case round =>
    obtain ⟨j, hj, rfl, hk⟩ := hrel
    have K0 := Lib.hid hk
    obtain ⟨A0, c0', ev, -⟩ := hk.row.ls
    subst ev
    obtain ⟨q, hq⟩ : ∃ q, (allL p st (l.take j)).length = q := ⟨_, rfl⟩
    have HQ := Lib.hid hq
    rw [hq] at K0 ⊢
    clear hk hq
    by_cases hjn : j < n
    · have hjl : j < l.length := by rw [HN.out]; exact hjn
      have hql : q ≤ j := by rw [← HQ.out]; exact allL_len j (Nat.le_of_lt hjl)
      obtain ⟨a, rfl, hh⟩ := (HR.out.below K0.out.bel).here hjl
      obtain ⟨c0, c1⟩ := hh
      obtain ⟨⟨x, y⟩, hx⟩ : ∃ x, l[j] = x := ⟨_, rfl⟩
      have HE := Lib.hid (show allL p st (l.take (j + 1)) = stepL p st (allL p st (l.take j)) (x, y) by rw [allL_succ hjl, hx])
      rw [hx] at c0 c1
      simp only at c0 c1
      obtain ⟨s, hs⟩ : ∃ s, atL st x = s := ⟨_, rfl⟩
      obtain ⟨t, ht⟩ : ∃ t, atL st y = t := ⟨_, rfl⟩
      obtain ⟨f, hf⟩ : ∃ f, judge p s t = f := ⟨_, rfl⟩
      obtain ⟨tx, htx⟩ : ∃ tx, (if f = 2 then y else x) = tx := ⟨_, rfl⟩
      have hf3 := judge_some p s t
      rw [hf] at hf3
      have HE2 := Lib.hid (show allL p st (l.take (j + 1)) = if f = 0 ∨ tx ∈ (allL p st (l.take j)).map (·.1) then allL p st (l.take j) else allL p st (l.take j) ++ [(tx, f)] by
        rw [HE.out]
        unfold stepL
        simp only [hs, ht, hf]
        rcases hf3 with h | h | h
        · rw [if_pos (.inl h), if_pos (.inl h)]
        · rw [show gTx (x, y) f = tx by rw [← htx, h]; rfl]
        · rw [show gTx (x, y) f = tx by rw [← htx, h]; rfl])
      have hb1 := box_below wr (.cells #[.int .i64 x, .int .i64 y] 34)
      have K1 := Lib.hid (K0.out.below hb1)
      have HAx := atL_cases (HS.out.below K1.out.bel) x
      have HAy := atL_cases (HS.out.below K1.out.bel) y
      rw [hs, HN2.out] at HAx
      rw [ht, HN2.out] at HAy
      have HJ := Lib.hid (fun X : World => hf ▸ rjudge_any p s t X)
      obtain ⟨Y, hY⟩ : ∃ Y, wr.alloc (.cells #[.int .i64 x, .int .i64 y] 34) = Y := ⟨_, rfl⟩
      have z0 : Y.cell? ⟨wr.heap.size, 0, none⟩ = some (.int .i64 x) := by rw [← hY]; simp [go_sem]
      have z1 : Y.cell? ⟨wr.heap.size, 1, none⟩ = some (.int .i64 y) := by rw [← hY]; simp [go_sem]
      rw [hY] at K1 HAx HAy
      clear hx hjl hs ht hf hf3 hb1 K0
      obtain ⟨b, hb⟩ : ∃ b : Bool, b = decide (0 ≤ x ∧ x < (n2 : Int)) := ⟨_, rfl⟩
      obtain ⟨b', hb'⟩ : ∃ b : Bool, b = decide (0 ≤ y ∧ y < (n2 : Int)) := ⟨_, rfl⟩
      have HAx := Lib.hid (show (b = false ∧ x < 0 ∧ s = 0) ∨ (b = false ∧ ¬ x < 0 ∧ (n2 : Int) ≤ x ∧ s = 0) ∨ (b = true ∧ ∃ k : Nat, x = (k : Int) ∧ k < n2 ∧ Y.cell? ⟨W.heap.size, k, none⟩ = some (.int .i64 s)) by
        rw [hb]
        rcases HAx with ⟨h1, h2⟩ | ⟨h1, h2, h3⟩ | ⟨k, h1, h2, h3⟩
        · exact .inl ⟨decide_eq_false (by omega), h1, h2⟩
        · exact .inr (.inl ⟨decide_eq_false (by omega), h1, h2, h3⟩)
        · exact .inr (.inr ⟨decide_eq_true (by omega), k, h1, h2, by rw [← add_at]; exact h3⟩))
      have HAy := Lib.hid (show (b' = false ∧ y < 0 ∧ t = 0) ∨ (b' = false ∧ ¬ y < 0 ∧ (n2 : Int) ≤ y ∧ t = 0) ∨ (b' = true ∧ ∃ k : Nat, y = (k : Int) ∧ k < n2 ∧ Y.cell? ⟨W.heap.size, k, none⟩ = some (.int .i64 t)) by
        rw [hb']
        rcases HAy with ⟨h1, h2⟩ | ⟨h1, h2, h3⟩ | ⟨k, h1, h2, h3⟩
        · exact .inl ⟨decide_eq_false (by omega), h1, h2⟩
        · exact .inr (.inl ⟨decide_eq_false (by omega), h1, h2, h3⟩)
        · exact .inr (.inr ⟨decide_eq_true (by omega), k, h1, h2, by rw [← add_at]; exact h3⟩))
      have HTx := Lib.hid htx
      clear htx hb hb'
      go_upto_region 8 with (fail)
      go_cut [40] (fun sv wx => sv = .bool b ∧ wx = Y)
      case first =>
        rcases HAx.out with ⟨rfl, q1, -⟩ | ⟨rfl, q1, q2, -⟩ | ⟨rfl, k, rfl, q1, -⟩
        · go_wp2_with fail
          go_meet
          exact ⟨by first | rfl | (simp; omega), rfl⟩
        · go_wp2_with fail
          go_meet
          exact ⟨by first | rfl | (simp; omega), rfl⟩
        · go_wp2_with fail
          go_meet
          exact ⟨by first | rfl | (simp; omega), rfl⟩
      obtain ⟨rfl, hwc⟩ := hcut
      obtain rfl : Y = wc := hwc.symm
      clear hwc
      go_upto_if 40 with (fail)
      go_cut [11] (fun sv wx => sv = .int .i64 s ∧ wx = Y)
      case first =>
        rcases HAx.out with ⟨rfl, q1, rfl⟩ | ⟨rfl, q1, q2, rfl⟩ | ⟨rfl, k, rfl, q1, q2⟩
        · go_wp2_with fail
          go_meet
          exact ⟨rfl, rfl⟩
        · go_wp2_with fail
          go_meet
          exact ⟨rfl, rfl⟩
        · go_wp2_with fail
          go_meet
          exact ⟨rfl, rfl⟩
      obtain ⟨rfl, hwc⟩ := hcut
      obtain rfl : Y = wc := hwc.symm
      clear hwc
      go_upto_region 10 with (fail)
      go_cut [55] (fun sv wx => sv = .bool b' ∧ wx = Y)
      case first =>
        rcases HAy.out with ⟨rfl, q1, -⟩ | ⟨rfl, q1, q2, -⟩ | ⟨rfl, k, rfl, q1, -⟩
        · go_wp2_with fail
          go_meet
          exact ⟨by first | rfl | (simp; omega), rfl⟩
        · go_wp2_with fail
          go_meet
          exact ⟨by first | rfl | (simp; omega), rfl⟩
        · go_wp2_with fail
          go_meet
          exact ⟨by first | rfl | (simp; omega), rfl⟩
      obtain ⟨rfl, hwc⟩ := hcut
      obtain rfl : Y = wc := hwc.symm
      clear hwc
      go_upto_if 55 with (fail)
      go_cut [12] (fun sv wx => sv = .int .i64 t ∧ wx = Y)
      case first =>
        rcases HAy.out with ⟨rfl, q1, rfl⟩ | ⟨rfl, q1, q2, rfl⟩ | ⟨rfl, k, rfl, q1, q2⟩
        · go_wp2_with fail
          go_meet
          exact ⟨rfl, rfl⟩
        · go_wp2_with fail
          go_meet
          exact ⟨rfl, rfl⟩
        · go_wp2_with fail
          go_meet
          exact ⟨rfl, rfl⟩
      obtain ⟨rfl, hwc⟩ := hcut
      obtain rfl : Y = wc := hwc.symm
      clear hwc
      go_wp2_with fail
      refine (HJ.out _).mono ?_
      rintro e w' ⟨rfl, hw'⟩
      obtain rfl : Y = w' := hw'.symm
      clear hw'
      clear HAx HAy HJ c0 c1
      go_upto_if 68 with (fail)
      go_cut [14] (fun sv wx => sv = .int .i64 tx ∧ wx = Y)
      case first =>
        by_cases h2 : f = 2
        · have h3 := HTx.out
          rw [if_pos h2] at h3
          subst h3
          go_wp2_with fail
          go_meet
          exact ⟨rfl, rfl⟩
        · have h3 := HTx.out
          rw [if_neg h2] at h3
          subst h3
          go_wp2_with fail
          go_meet
          exact ⟨rfl, rfl⟩
      obtain ⟨rfl, hwc⟩ := hcut
      obtain rfl : Y = wc := hwc.symm
      clear hwc
      obtain ⟨out, hout⟩ : ∃ out, allL p st (l.take j) = out := ⟨_, rfl⟩
      rw [hout] at K1 HE2 HQ
      obtain ⟨A9, c9, hv9, hls⟩ := K1.out.row.ls
      rw [HQ.out] at hv9
      obtain ⟨rfl, rfl⟩ : A0 = A9 ∧ c0' = c9 := by cases hv9; exact ⟨rfl, rfl⟩
      have HLs := Lib.hid hls
      clear hls hv9 HTx hout
      obtain ⟨wo, rfl⟩ : ∃ wo, wo = wr := ⟨_, rfl⟩
      go_wp2_with fail
      go_loopw [75, 15] (fun i v wr => ∃ k : Nat, k ≤ q ∧ i = .int .i64 k ∧ v = .bool (decide (f = 0 ∨ tx ∈ (out.take k).map (·.1))) ∧ Below Y.heap.size Y wr) (fun i _ _ => q - (intOf i).toNat)
      case atStart => exact ⟨0, Nat.zero_le _, rfl, by by_cases h : f = 0 <;> simp [h], Below.refl _ _⟩
      case round =>
        obtain ⟨k, hk, rfl, rfl, hb⟩ := hrel
        have HB := Lib.hid hb
        clear hb
        by_cases hkq : k < q
        · have hko : k < out.length := by rw [HQ.out]; exact hkq
          obtain ⟨a1, ha1, d0, d1⟩ := (HLs.out.below HB.out).here hko
          subst ha1
          obtain ⟨⟨u, v⟩, huv⟩ : ∃ x, out[k] = x := ⟨_, rfl⟩
          have HT := Lib.hid (show (out.take (k + 1)).map (·.1) = (out.take k).map (·.1) ++ [u] by rw [List.take_succ_eq_append_getElem hko, List.map_append, huv]; rfl)
          rw [huv] at d0 d1
          simp only at d0 d1
          have hbx := box_below wr (.cells #[.int .i64 u, .int .i64 v] 34)
          have HBx := Lib.hid (HB.out.trans (hbx.mono HB.out.size))
          obtain ⟨r, hr⟩ : ∃ r, decide (f = 0 ∨ tx ∈ (out.take k).map (·.1)) = r := ⟨_, rfl⟩
          have HRr := Lib.hid hr
          rw [hr]
          clear hbx huv hko hr
          cases r with
          | true =>
            have HN1 := Lib.hid (show decide (f = 0 ∨ tx ∈ (out.take (k + 1)).map (·.1)) = true by
              rw [HT.out, decide_eq_true_iff, List.mem_append]
              rcases of_decide_eq_true HRr.out with h | h
              · exact .inl h
              · exact .inr (.inl h))
            go_wp2_with fail
            go_roundw
            case rel => exact ⟨k + 1, by omega, by go_num, by rw [HN1.out], HBx.out⟩
            case measure => simp [intOf]; omega
          | false =>
            by_cases hu : u = tx
            · subst hu
              have HN1 := Lib.hid (show decide (f = 0 ∨ u ∈ (out.take (k + 1)).map (·.1)) = true by
                rw [HT.out, decide_eq_true_iff, List.mem_append]
                exact .inr (.inr (List.mem_singleton.2 rfl)))
              go_wp2_with fail
              go_roundw
              case rel => exact ⟨k + 1, by omega, by go_num, by rw [HN1.out], HBx.out⟩
              case measure => simp [intOf]; omega
            · have HN1 := Lib.hid (show decide (f = 0 ∨ tx ∈ (out.take (k + 1)).map (·.1)) = false by
                rw [HT.out, decide_eq_false_iff_not, List.mem_append]
                have h0 := of_decide_eq_false HRr.out
                rintro (h | h | h)
                · exact h0 (.inl h)
                · exact h0 (.inr h)
                · exact hu (List.mem_singleton.1 h).symm)
              have hu' : (u == tx) = false := by simpa using hu
              go_wp2_with fail
              go_roundw
              case rel => exact ⟨k + 1, by omega, by go_num, by rw [HN1.out], HBx.out⟩
              case measure => simp [intOf]; omega
        · obtain rfl : q = k := by omega
          obtain ⟨wi, rfl⟩ : ∃ wi, wi = wr := ⟨_, rfl⟩
          have HO := Lib.hid (show (out.take q).map (·.1) = out.map (·.1) by rw [List.take_of_length_le (Nat.le_of_eq HQ.out)])
          obtain ⟨r, hr⟩ : ∃ r, decide (f = 0 ∨ tx ∈ (out.take q).map (·.1)) = r := ⟨_, rfl⟩
          have HRr := Lib.hid hr
          rw [hr]
          have K2 := Lib.hid (K1.out.below HB.out)
          clear hr hkq hk
          cases r with
          | true =>
            have HZ := Lib.hid (show Es.Kp w1 (allL p st (l.take (j + 1))) (.slice A0 q c0') wi by
              rw [HE2.out, if_pos (by rw [← HO.out]; exact of_decide_eq_true HRr.out)]
              exact K2.out)
            go_wp2_with fail
            go_roundw
            case rel => exact ⟨j + 1, by omega, by go_num, HZ.out⟩
            case measure => simp [intOf]; omega
          | false =>
            obtain ⟨A', c', w9, hrun, hk9⟩ := K2.out.put (tx := tx) (who := f) HQ.out (by omega)
            have HZ := Lib.hid (show Es.Kp w1 (allL p st (l.take (j + 1))) (.slice A' (q + 1) c') w9 by
              rw [HE2.out, if_neg (by rw [← HO.out]; exact of_decide_eq_false HRr.out)]
              exact hk9)
            clear hk9
            go_wp2_with (at_builtin; refine Lib.wpList_append_run _ rfl _ _ _ _ rfl _ _ rfl rfl _ _ hrun ?_)
            go_roundw
            case rel => exact ⟨j + 1, by omega, by go_num, HZ.out⟩
            case measure => simp [intOf]; omega
    · obtain rfl : j = n := by omega
      have HE := Lib.hid (show allL p st (l.take j) = allL p st l by rw [List.take_of_length_le (Nat.le_of_eq HN.out)])
      have HZ := Lib.hid (show Es.Row wr W.heap.size (.slice A0 q c0') (allL p st l) ∧ Below W.heap.size W wr from ⟨by rw [← HE.out]; exact row_base K0.out.row HB1.out.size, HB1.out.trans (K0.out.bel.mono HB1.out.size)⟩)
      clear K0 HE
      go_wp2_with fail
      go_ret
      exact ⟨_, rfl, HZ.out.1, HZ.out.2⟩
end Go.Proofs.Ytggmnjnigmbooaa
