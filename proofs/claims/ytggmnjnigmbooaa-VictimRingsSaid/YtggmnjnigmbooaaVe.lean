/- The walk of All. -/
import Derived.Test.YtggmnjnigmbooaaVd
namespace Go.Proofs.Ytggmnjnigmbooaa
open Go Go.RowKit Go.Shelf
set_option maxRecDepth 100000

@[go_sem] theorem mk40 (W : World) : (Instr.makeMap 40 none).run Try.prog W = .ok (.map (some W.heap.size)) (W.alloc (.map #[] 0)) := by
  simp [Instr.makeMap, newObj]
  rfl
theorem wf0 : wf64 0 := by decide
set_option maxHeartbeats 4000000 in
theorem all_any {W : World} {A A2 : Option Addr} {c c2 : Nat} {l : List Es.Ed} {st : List Int} (hr : Es.Ls W A c l) (hw : ∀ e ∈ l, wf64 e.1 ∧ wf64 e.2) (hs : Is.Ls W A2 c2 st) (hl : l.length ≤ 5000) (p : Int) :
    Calls Try.prog 14 #[.int .i64 p, .slice A l.length c, .slice A2 st.length c2] W (Es.Rows W (allL p st l)) := by
  have HR := Lib.hid hr
  have HS := Lib.hid hs
  have HW := Lib.hid hw
  have HAt := Lib.hid (fun (X : World) (hX : Below W.heap.size W X) (i : Int) => atS_any (hs.below hX) i)
  obtain ⟨n, hn⟩ : ∃ n, l.length = n := ⟨_, rfl⟩
  obtain ⟨n2, hn2⟩ : ∃ n, st.length = n := ⟨_, rfl⟩
  rw [hn] at hl ⊢
  rw [hn2] at HAt ⊢
  have HN := Lib.hid hn
  clear hr hs hw hn hn2
  go_enter Try.func14, Try.ntmps14
  go_wp2_with fail
  go_loopw [19, 8] (fun t v wr => ∃ j : Nat, j ≤ n ∧ t = .int .i64 j ∧ Al W p st l j v wr) (fun t _ _ => n - (intOf t).toNat)
  case atStart => exact ⟨0, by omega, rfl, Al.start⟩
  case round =>
    obtain ⟨j, hj, rfl, hk⟩ := hrel
    have K0 := Lib.hid hk
    obtain ⟨A0, c0', ev, -⟩ := hk.row.ls
    subst ev
    obtain ⟨q, hq⟩ : ∃ q, (allL p st (l.take j)).length = q := ⟨_, rfl⟩
    have HQ := Lib.hid hq
    rw [hq] at K0 ⊢
    clear hk hq
    by_cases hjn : j < n
    · have hjl : j < l.length := by rw [HN.out]; exact hjn
      obtain ⟨a, rfl, hh⟩ := (HR.out.below K0.out.bel).here hjl
      obtain ⟨c0, c1⟩ := hh
      obtain ⟨⟨x, y⟩, hx⟩ : ∃ x, l[j] = x := ⟨_, rfl⟩
      have HWx := Lib.hid (hx ▸ HW.out _ (List.getElem_mem hjl))
      have HE := Lib.hid (show allL p st (l.take (j + 1)) = stepL p st (allL p st (l.take j)) (x, y) by rw [allL_succ hjl, hx])
      rw [hx] at c0 c1
      simp only at c0 c1 HWx
      have hb1 := box_below wr (.cells #[.int .i64 x, .int .i64 y] 34)
      have K1 := Lib.hid (K0.out.below hb1)
      obtain ⟨s, hs⟩ : ∃ s, atL st x = s := ⟨_, rfl⟩
      obtain ⟨t, ht⟩ : ∃ t, atL st y = t := ⟨_, rfl⟩
      obtain ⟨f, hf⟩ : ∃ f, judge p s t = f := ⟨_, rfl⟩
      obtain ⟨tx, htx⟩ : ∃ tx, gTx (x, y) f = tx := ⟨_, rfl⟩
      obtain ⟨g, hg⟩ : ∃ g, gB f = g := ⟨_, rfl⟩
      have HWt := Lib.hid (show wf64 tx by
        rw [← htx]
        unfold gTx
        split
        · exact HWx.out.1
        · split
          · exact HWx.out.2
          · exact wf0)
      have hf3 := judge_some p s t
      rw [hf] at hf3
      have HGB := Lib.hid (show (f = 0 ∧ g = false) ∨ (f ≠ 0 ∧ g = true) by
        rw [← hg]
        unfold gB
        rcases hf3 with h | h | h <;> subst h <;> decide)
      have HE2 := Lib.hid (show allL p st (l.take (j + 1)) = if f = 0 ∨ tx ∈ (allL p st (l.take j)).map (·.1) then allL p st (l.take j) else allL p st (l.take j) ++ [(tx, f)] by
        rw [HE.out]
        unfold stepL
        simp only [hs, ht, hf, htx])
      obtain ⟨Y, hY⟩ : ∃ Y, wr.alloc (.cells #[.int .i64 x, .int .i64 y] 34) = Y := ⟨_, rfl⟩
      have z0 : Y.cell? ⟨wr.heap.size, 0, none⟩ = some (.int .i64 x) := by rw [← hY]; simp [go_sem]
      have z1 : Y.cell? ⟨wr.heap.size, 1, none⟩ = some (.int .i64 y) := by rw [← hY]; simp [go_sem]
      have zl : wr.heap.size < Y.heap.size := by rw [← hY]; simp
      rw [hY] at K1
      have HAx := Lib.hid (show ∀ k, Calls Try.prog 18 #[.slice A2 n2 c2, .int .i64 x] (Y.drewN k) fun e w' => e = .returned (.int .i64 s) ∧ w' = Y.drewN k from fun k => hs ▸ HAt.out _ (K1.out.bel.trans ((drew_below Y k).mono K1.out.bel.size)) x)
      have HAy := Lib.hid (show ∀ k, Calls Try.prog 18 #[.slice A2 n2 c2, .int .i64 y] (Y.drewN k) fun e w' => e = .returned (.int .i64 t) ∧ w' = Y.drewN k from fun k => ht ▸ HAt.out _ (K1.out.bel.trans ((drew_below Y k).mono K1.out.bel.size)) y)
      have HJ := Lib.hid (show ∀ k, Calls Try.prog 11 #[.int .i64 p, .int .i64 s, .int .i64 t] (Y.drewN k) fun e w' => e = .returned (.int .i64 f) ∧ w' = Y.drewN k from fun k => hf ▸ judge_any p s t (Y.drewN k))
      have HG := Lib.hid (show ∀ k, Calls Try.prog 19 #[.agg #[.int .i64 x, .int .i64 y], .int .i64 f] (Y.drewN k) fun e w' => e = .returned (.tuple #[.int .i64 tx, .bool g]) ∧ Below (Y.drewN k).heap.size (Y.drewN k) w' from fun k => by
        have := giver_any (x, y) f (Y.drewN k)
        rw [htx, hg] at this
        exact this)
      clear hx hjl hs ht hf htx hg hf3 hb1 K0
      go_wp2_with fail
      go_quiet (first | (go_at_call 18; with_reducible exact Calls.quiet_of_same (HAx.out _)) | (go_at_call 18; with_reducible exact Calls.quiet_of_same (HAy.out _)) | (go_at_call 11; with_reducible exact Calls.quiet_of_same (HJ.out _)))
      clear c0 c1 hY HAx HAy HJ
      have HGn := Lib.hid (HG.out nq)
      have HKn := Lib.hid (K1.out.below (drew_below Y nq))
      clear HG K1
      go_wp2_with fail
      refine HGn.out.mono ?_
      rintro e w6 ⟨rfl, hb6⟩
      have HK6 := Lib.hid (HKn.out.below hb6)
      have hlook := HK6.out.look HWt.out
      obtain ⟨r, hr⟩ : ∃ r, decide (tx ∈ (allL p st (l.take j)).map (·.1)) = r := ⟨_, rfl⟩
      rw [hr] at hlook
      have HK7 := Lib.hid (HK6.out.below (box_below w6 (.cells #[] 44)))
      have skip : (f = 0 ∨ r = true) → Al W p st l (j + 1) (.slice A0 q c0') (w6.alloc (.cells #[] 44)) := fun h => HK7.out.skip (by
        rw [HE2.out]
        rcases h with h | h
        · rw [if_pos (.inl h)]
        · rw [if_pos (.inr (of_decide_eq_true (hr.trans h)))])
      have put : f ≠ 0 → r = false → ∃ w1 A' c' w2, (Instr.mapUpdate 40 (.map (some W.heap.size)) (.int .i64 tx) (.agg #[])).run Try.prog (w6.alloc (.cells #[] 44)) = .ok () w1 ∧
          (Builtin.append_ #[24, 24] 24 #[.slice A0 q c0', .slice (some ⟨w1.heap.size, 0, none⟩) 1 1]).run Try.prog (w1.alloc (.cells #[.int .i64 tx, .int .i64 f] 34)) = .ok (.slice A' (q + 1) c') w2 ∧
          Al W p st l (j + 1) (.slice A' (q + 1) c') w2 := fun h1 h2 => HK7.out.put HWt.out (by omega) (by rw [HN.out]; exact hj) HQ.out (by
        rw [HE2.out, if_neg]
        rintro (h | h)
        · exact h1 h
        · have := decide_eq_true h
          rw [hr, h2] at this
          cases this)
      have HSk := Lib.hid skip
      have HPu := Lib.hid put
      clear hb6 HGn HKn z0 z1 zl hr skip put HE HE2 HAt HWx HW
      cases r with
      | true =>
        have hdone := Lib.hid (HSk.out (.inr rfl))
        clear HSk HPu
        go_wp2_with fail
        go_roundw
        case rel => exact ⟨j + 1, by omega, by go_num, hdone.out⟩
        case measure => simp [intOf]; omega
      | false =>
        cases g with
        | false =>
          have hdone := Lib.hid (HSk.out (.inl (by have := HGB.out; simpa using this)))
          clear HSk HPu
          go_wp2_with fail
          go_roundw
          case rel => exact ⟨j + 1, by omega, by go_num, hdone.out⟩
          case measure => simp [intOf]; omega
        | true =>
          obtain ⟨w8, A', c', w9, hput, hrun, hk9⟩ := HPu.out (by have := HGB.out; simpa using this) rfl
          have HK9 := Lib.hid hk9
          clear hk9 HSk HPu
          go_wp2_with (at_builtin; refine Lib.wpList_append_run _ rfl _ _ _ _ rfl _ _ rfl rfl _ _ hrun ?_)
          go_roundw
          case rel => exact ⟨j + 1, by omega, by go_num, HK9.out⟩
          case measure => simp [intOf]; omega
    · obtain rfl : j = n := by omega
      have HE := Lib.hid (show allL p st (l.take j) = allL p st l by rw [List.take_of_length_le (Nat.le_of_eq HN.out)])
      have HZ := Lib.hid (show Es.Row wr W.heap.size (.slice A0 q c0') (allL p st l) ∧ Below W.heap.size W wr from ⟨by rw [← HE.out]; exact row_base K0.out.row (Nat.le_succ _), K0.out.bel⟩)
      clear K0 HE
      go_wp2_with fail
      go_ret
      exact ⟨_, rfl, HZ.out.1, HZ.out.2⟩
end Go.Proofs.Ytggmnjnigmbooaa
