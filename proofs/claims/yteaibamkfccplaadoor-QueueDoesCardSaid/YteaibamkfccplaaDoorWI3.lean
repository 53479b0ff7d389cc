/- A request is put where it would wait: the document's answer. -/
import Derived.Test.YteaibamkfccplaaDoorWI2
namespace Go.Proofs.YteaibamkfccplaaDoor.Ws
open Go Go.RowKit Go.Shelf

section
variable {ops : Array Oper} {o : Oper} {a : Act} {w : World} {K : Act → World → Prop} {Q : Exit → Act → World → Prop} {E : Prop}
/-- append of requests in a region that draws: to nothing, and to a row of one's own -/
theorem step_nil {base c n : Nat} {A : Option Addr} {ys : List Wt} (hg : o.guard = none) (s x : Operand) (hop : o.op = Op.call { callee := Callee.builtin Builtin.append, args := #[s, x], argTypes := #[26, 26] })
    (hs : a.eval s = .slice none 0 0) (hx : a.eval x = .slice A n c) (hl : Ls w A c ys) (hn : ys.length = n) (hle : n ≤ 1000) (hb : base ≤ w.heap.size)
    (hK : ∀ A' c' w', Row w' base (.slice A' n c') ys → Below w.heap.size w w' → K (a.put o.dst (.slice A' n c')) w') :
    if Region.wanted o (yielded ops a.tmps) = true then Oper.wp Tryd.prog o a w K Q else E := by
  subst hn
  obtain ⟨v', w', hrun, hrow, hgr, -⟩ := (show Row w base (.slice none 0 0) [] from World.ownsRow_nil _ _ _ _).app hl (by simpa using hle) hb o.type
  obtain ⟨A', c', rfl, -⟩ := hrow.ls
  have hw : Region.wanted o (yielded ops a.tmps) = true := by simp [Region.wanted, hg]
  rw [if_pos hw]
  unfold Oper.wp
  simp [execOp, hop, resolve, invoke, builtin, hs, hx, hrun, Result.andThen]
  exact hK _ _ _ hrow ⟨hgr.os, hgr.tape, hgr.output, hgr.size, fun k hk => hgr.block k hk (by simp [Value.ownBlock])⟩
theorem step_row {base c c0 n m q : Nat} {A A0 : Option Addr} {xs ys : List Wt} (hg : o.guard = none) (s x : Operand) (hop : o.op = Op.call { callee := Callee.builtin Builtin.append, args := #[s, x], argTypes := #[26, 26] })
    (hs : a.eval s = .slice A0 m c0) (hx : a.eval x = .slice A n c) (hr : Row w base (.slice A0 m c0) xs) (hl : Ls w A c ys) (hm : xs.length = m) (hn : ys.length = n) (hq : m + n = q) (hle : q ≤ 1000) (hb : base ≤ w.heap.size)
    (hK : ∀ A' c' w', Row w' base (.slice A' q c') (xs ++ ys) → Below base w w' → K (a.put o.dst (.slice A' q c')) w') :
    if Region.wanted o (yielded ops a.tmps) = true then Oper.wp Tryd.prog o a w K Q else E := by
  subst hn
  subst hm
  subst hq
  obtain ⟨v', w', hrun, hrow, hgr, -⟩ := hr.app hl hle hb o.type
  obtain ⟨A', c', rfl, -⟩ := hrow.ls
  have hw : Region.wanted o (yielded ops a.tmps) = true := by simp [Region.wanted, hg]
  rw [if_pos hw]
  unfold Oper.wp
  simp [execOp, hop, resolve, invoke, builtin, hs, hx, hrun, Result.andThen]
  have := hK A' c' w' (by rw [← List.length_append]; exact hrow) (hr.app_below hgr hb)
  exact this
end
/-- a request in its box, and what was there at first -/
abbrev SB (B : Nat) (tx m : Int) (cv ii : Bool) (w1 w' : World) : Prop :=
  w'.cell? ⟨B, 0, none⟩ = some (.int .i64 tx) ∧ w'.cell? ⟨B, 1, none⟩ = some (.int .i64 m) ∧ w'.cell? ⟨B, 2, none⟩ = some (.bool cv) ∧ w'.cell? ⟨B, 3, none⟩ = some (.bool ii) ∧ Below w1.heap.size w1 w'
section
variable {B : Nat} {tx m : Int} {cv ii : Bool} {w1 w w' : World}
theorem sb_of (h : S4 B tx m cv ii w1) (hb : Below w1.heap.size w1 w') : SB B tx m cv ii w1 w' := by
  obtain ⟨h0, h1, h2, h3⟩ := s4_below h hb
  exact ⟨h0, h1, h2, h3, hb⟩
theorem sb_drew (h : S4 B tx m cv ii w1) : SB B tx m cv ii w1 w1.drew := sb_of h (drew_below _ 1)
theorem sb_box {o : Obj} (h : S4 B tx m cv ii w1) : SB B tx m cv ii w1 (w1.alloc o).drew := sb_of h ((box_below w1 o).trans ((drew_below (w1.alloc o) 1).mono (by simp)))
theorem sb_bel (h : SB B tx m cv ii w1 w) : Below w1.heap.size w1 w := h.2.2.2.2
theorem sb_alloc {o : Obj} (h : S4 B tx m cv ii w1) (hb : SB B tx m cv ii w1 w) : SB B tx m cv ii w1 (w.alloc o) := sb_of h ((sb_bel hb).trans ((box_below w o).mono (sb_bel hb).size))
theorem sb_full (h : S4 B tx m cv ii w1) (hb : SB B tx m cv ii w1 w) (hf : Below w.heap.size w w') : SB B tx m cv ii w1 w' := sb_of h ((sb_bel hb).trans (hf.mono (sb_bel hb).size))
theorem sb_app (h : S4 B tx m cv ii w1) (hb : SB B tx m cv ii w1 w) (hf : Below w1.heap.size w w') : SB B tx m cv ii w1 w' := sb_of h ((sb_bel hb).trans hf)
end
section
variable {W W' : World} {A : Option Addr} {c K : Nat} {xs : List Wt}
set_option maxHeartbeats 4000000 in
theorem rinsert_any (hr : Ls W A c xs) (hl : xs.length ≤ 500) (x : Wt) : Calls Tryd.prog 37 #[.slice A xs.length c, wv x] W (Lists W (ins x xs)) := by
  have hx := box_below W (.cells #[.int .i64 x.1, .int .i64 x.2.1, .bool x.2.2.1, .bool x.2.2.2] 60)
  have hbx := box_ls W x
  have HP := Lib.hid (rplace_any (hr.below hx) (by omega) x.2.2.1)
  have hle := plN_le (fun y => y.2.2.1 || !x.2.2.1) xs
  have HI := Lib.hid (show ins x xs = xs.take (plc x.2.2.1 xs) ++ [x] ++ xs.drop (plc x.2.2.1 xs) from rfl)
  change plc x.2.2.1 xs ≤ _ at hle
  generalize plc x.2.2.1 xs = k at *
  have H1 := Lib.hid (hr.head k)
  have H3 := Lib.hid (hr.tl hle)
  obtain ⟨SA, hSA⟩ : ∃ SA, tlA A c k = SA := ⟨_, rfl⟩
  have HSA := Lib.hid hSA
  rw [hSA] at H3
  have hcap := hr.cap
  have hroom : c ≤ 9223372036854775807 := by have := hr.room; unfold maxLen at this; omega
  obtain ⟨n, hn⟩ : ∃ n, xs.length = n := ⟨_, rfl⟩
  rw [hn] at hle hl hcap HP ⊢
  have HN := Lib.hid hn
  obtain ⟨tx, m, cv, ii⟩ := x
  simp only at hx hbx HP
  have HX := Lib.hid hx
  have HR := Lib.hid hr
  have hkc : (k : Int) ≤ (c : Int) := by omega
  have L1 := Lib.hid (H1.out.below HX.out)
  have L3 := Lib.hid (H3.out.below HX.out)
  have N1 := Lib.hid (show (xs.take k).length = k by rw [List.length_take, HN.out]; omega)
  have N3 := Lib.hid (show (xs.drop k).length = n - k by rw [List.length_drop, HN.out])
  have HIL := Lib.hid (show (ins (tx, m, cv, ii) xs).length = n + 1 by rw [HI.out, List.length_append, List.length_append, N1.out, N3.out]; simp; omega)
  obtain ⟨ad, had, e0, e1, e2, e3⟩ := hbx.here (i := 0) (by simp)
  cases had
  simp only [List.getElem_cons_zero, Nat.zero_mul, add_at, Nat.zero_add] at e0 e1 e2 e3
  have hs4 : S4 W.heap.size tx m cv ii (W.alloc (.cells #[.int .i64 tx, .int .i64 m, .bool cv, .bool ii] 60)) := ⟨e0, e1, e2, e3⟩
  have HS4 := Lib.hid hs4
  have HL1 := Lib.hid (show (xs.take k ++ [(tx, m, cv, ii)]).length = k + 1 by rw [List.length_append, N1.out]; rfl)
  have HSZ := Lib.hid (show Below W.heap.size W (W.alloc (.cells #[.int .i64 tx, .int .i64 m, .bool cv, .bool ii] 60)) from HX.out)
  clear hr hx hbx hSA hn H1 H3 e0 e1 e2 e3 hs4
  cases A with
  | none =>
    obtain rfl : c = 0 := HR.out.nil rfl
    obtain rfl : n = 0 := by omega
    obtain rfl : k = 0 := by omega
    obtain rfl : SA = none := by rw [← HSA.out]; rfl
    go_enter Tryd.func37, Tryd.ntmps37
    go_wp2_with (go_at_call 34; ((with_reducible refine HP.out.mono ?_); rintro e w' ⟨rfl, rfl⟩))
    generalize W.heap.size = Bx at HS4 ⊢
    generalize W.alloc (.cells #[.int .i64 tx, .int .i64 m, .bool cv, .bool ii] 60) = w1 at *
    go_region_held3 (SB Bx tx m cv ii w1) (first | exact sb_drew HS4.out | exact sb_box HS4.out | exact sb_alloc HS4.out hsa | assumption | fail) (first
          | (refine step_nil (base := w1.heap.size) (A := none) (c := 0) (n := 0) (ys := xs.take 0) ?h1 (.const (.slice none 0 0)) (.tmp 12) ?h2 ?h3 ?h4 ?h5 N1.out ?h6 ?h7 ?_; rotate_right; (case h1 => rfl); (case h2 => rfl); (case h3 => kernel_rfl); (case h4 => kernel_rfl); (case h5 => first | exact L1.out.below (drew_below w1 1) | exact (L1.out.below (box_below w1 _)).drewN 1); (case h6 => omega); (case h7 => first | exact Nat.le_refl _ | simp); intro A1 c1 wa hra hba; have hsa : SB Bx tx m cv ii w1 wa := (by first | exact sb_full HS4.out (sb_drew HS4.out) hba | exact sb_full HS4.out (sb_box HS4.out) hba))
          | (refine step_row (base := w1.heap.size) (A := some ⟨wa.heap.size, 0, none⟩) (A0 := A1) (c0 := c1) (c := 1) (n := 1) (m := 0) (q := 0 + 1) (xs := xs.take 0) (ys := [(tx, m, cv, ii)]) ?h1 (.tmp 13) (.tmp 15) ?h2 ?h3 ?h4 ?h5 ?h6 N1.out rfl rfl ?h7 ?h8 ?_; rotate_right; (case h1 => rfl); (case h2 => rfl); (case h3 => kernel_rfl); (case h4 => kernel_rfl); (case h5 => exact row_below hra (box_below _ _)); (case h6 => exact box_ls wa (tx, m, cv, ii)); (case h7 => omega); (case h8 => exact (sb_bel (sb_alloc HS4.out hsa)).size); intro A2 c2 wb hrb hbb; have hsb : SB Bx tx m cv ii w1 wb := sb_app HS4.out (sb_alloc HS4.out hsa) hbb)
          | (refine step_row (base := w1.heap.size) (A := some ⟨w1.heap.size, 0, none⟩) (A0 := A1) (c0 := c1) (c := 1) (n := 1) (m := 0) (q := 0 + 1) (xs := xs.take 0) (ys := [(tx, m, cv, ii)]) ?h1 (.tmp 13) (.tmp 15) ?h2 ?h3 ?h4 ?h5 ?h6 N1.out rfl rfl ?h7 ?h8 ?_; rotate_right; (case h1 => rfl); (case h2 => rfl); (case h3 => kernel_rfl); (case h4 => kernel_rfl); (case h5 => exact hra); (case h6 => exact ((box_ls w1 (tx, m, cv, ii)).drewN 1).below hba); (case h7 => omega); (case h8 => exact (sb_bel hsa).size); intro A2 c2 wb hrb hbb; have hsb : SB Bx tx m cv ii w1 wb := sb_app HS4.out hsa hbb)
          | (refine step_row (base := w1.heap.size) (A := none) (A0 := A2) (c0 := c2) (c := 0) (n := 0) (m := 0 + 1) (q := 1) (xs := xs.take 0 ++ [(tx, m, cv, ii)]) (ys := xs.drop 0) ?h1 (.tmp 16) (.tmp 19) ?h2 ?h3 ?h4 ?h5 ?h6 ?h9 N3.out ?h10 ?h7 ?h8 ?_; rotate_right; (case h1 => rfl); (case h2 => rfl); (case h3 => kernel_rfl); (case h4 => kernel_rfl); (case h5 => exact hrb); (case h6 => exact L3.out.below (sb_bel hsb)); (case h7 => omega); (case h8 => exact (sb_bel hsb).size); (case h9 => exact HL1.out); (case h10 => omega); intro A3 c3 wc hrc hbc; have hsc : SB Bx tx m cv ii w1 wc := sb_app HS4.out hsb hbc) | fail)
    all_goals
      obtain ⟨A4, c4, hv, hls⟩ := (show ∃ A c, Value.slice A3 (1) c3 = .slice A (ins (tx, m, cv, ii) xs).length c ∧ Ls wc A c (ins (tx, m, cv, ii) xs) by rw [HI.out]; exact hrc.ls)
      have HB := Lib.hid (HSZ.out.trans ((sb_bel hsc).mono HSZ.out.size))
      have HV := Lib.hid hv
      have HL := Lib.hid hls
      clear hv hls hra hba hrb hbb hrc hbc hsa hsb hsc
      go_wp2_with fail
      go_ret
      exact ⟨A4, c4, by rw [← HV.out]; rfl, HL.out, HB.out⟩
  | some a =>
    by_cases hck : c = k
    · obtain rfl : n = c := by omega
      obtain rfl : k = n := by omega
      obtain rfl : SA = some a := by rw [← HSA.out]; unfold tlA; rw [if_pos rfl]
      replace L3 := Lib.hid L3.out
      rw [Nat.sub_self] at L3 N3
      clear hck
      go_enter Tryd.func37, Tryd.ntmps37
      go_wp2_with (go_at_call 34; ((with_reducible refine HP.out.mono ?_); rintro e w' ⟨rfl, rfl⟩))
      generalize W.heap.size = Bx at HS4 ⊢
      generalize W.alloc (.cells #[.int .i64 tx, .int .i64 m, .bool cv, .bool ii] 60) = w1 at *
      go_region_held3 (SB Bx tx m cv ii w1) (first | exact sb_drew HS4.out | exact sb_box HS4.out | exact sb_alloc HS4.out hsa | assumption | fail) (first
            | (refine step_nil (base := w1.heap.size) (A := some a) (c := k) (n := k) (ys := xs.take k) ?h1 (.const (.slice none 0 0)) (.tmp 12) ?h2 ?h3 ?h4 ?h5 N1.out ?h6 ?h7 ?_; rotate_right; (case h1 => rfl); (case h2 => rfl); (case h3 => kernel_rfl); (case h4 => kernel_rfl); (case h5 => first | exact L1.out.below (drew_below w1 1) | exact (L1.out.below (box_below w1 _)).drewN 1); (case h6 => omega); (case h7 => first | exact Nat.le_refl _ | simp); intro A1 c1 wa hra hba; have hsa : SB Bx tx m cv ii w1 wa := (by first | exact sb_full HS4.out (sb_drew HS4.out) hba | exact sb_full HS4.out (sb_box HS4.out) hba))
            | (refine step_row (base := w1.heap.size) (A := some ⟨wa.heap.size, 0, none⟩) (A0 := A1) (c0 := c1) (c := 1) (n := 1) (m := k) (q := k + 1) (xs := xs.take k) (ys := [(tx, m, cv, ii)]) ?h1 (.tmp 13) (.tmp 15) ?h2 ?h3 ?h4 ?h5 ?h6 N1.out rfl rfl ?h7 ?h8 ?_; rotate_right; (case h1 => rfl); (case h2 => rfl); (case h3 => kernel_rfl); (case h4 => kernel_rfl); (case h5 => exact row_below hra (box_below _ _)); (case h6 => exact box_ls wa (tx, m, cv, ii)); (case h7 => omega); (case h8 => exact (sb_bel (sb_alloc HS4.out hsa)).size); intro A2 c2 wb hrb hbb; have hsb : SB Bx tx m cv ii w1 wb := sb_app HS4.out (sb_alloc HS4.out hsa) hbb)
            | (refine step_row (base := w1.heap.size) (A := some ⟨w1.heap.size, 0, none⟩) (A0 := A1) (c0 := c1) (c := 1) (n := 1) (m := k) (q := k + 1) (xs := xs.take k) (ys := [(tx, m, cv, ii)]) ?h1 (.tmp 13) (.tmp 15) ?h2 ?h3 ?h4 ?h5 ?h6 N1.out rfl rfl ?h7 ?h8 ?_; rotate_right; (case h1 => rfl); (case h2 => rfl); (case h3 => kernel_rfl); (case h4 => kernel_rfl); (case h5 => exact hra); (case h6 => exact ((box_ls w1 (tx, m, cv, ii)).drewN 1).below hba); (case h7 => omega); (case h8 => exact (sb_bel hsa).size); intro A2 c2 wb hrb hbb; have hsb : SB Bx tx m cv ii w1 wb := sb_app HS4.out hsa hbb)
            | (refine step_row (base := w1.heap.size) (A := some a) (A0 := A2) (c0 := c2) (c := 0) (n := 0) (m := k + 1) (q := k + 1) (xs := xs.take k ++ [(tx, m, cv, ii)]) (ys := xs.drop k) ?h1 (.tmp 16) (.tmp 19) ?h2 ?h3 ?h4 ?h5 ?h6 ?h9 N3.out ?h10 ?h7 ?h8 ?_; rotate_right; (case h1 => rfl); (case h2 => rfl); (case h3 => kernel_rfl); (case h4 => kernel_rfl); (case h5 => exact hrb); (case h6 => exact L3.out.below (sb_bel hsb)); (case h7 => omega); (case h8 => exact (sb_bel hsb).size); (case h9 => exact HL1.out); (case h10 => omega); intro A3 c3 wc hrc hbc; have hsc : SB Bx tx m cv ii w1 wc := sb_app HS4.out hsb hbc) | fail)
      all_goals
        obtain ⟨A4, c4, hv, hls⟩ := (show ∃ A c, Value.slice A3 (k + 1) c3 = .slice A (ins (tx, m, cv, ii) xs).length c ∧ Ls wc A c (ins (tx, m, cv, ii) xs) by rw [HI.out]; exact hrc.ls)
        have HB := Lib.hid (HSZ.out.trans ((sb_bel hsc).mono HSZ.out.size))
        have HV := Lib.hid hv
        have HL := Lib.hid hls
        clear hv hls hra hba hrb hbb hrc hbc hsa hsb hsc
        go_wp2_with fail
        go_ret
        exact ⟨A4, c4, by rw [← HV.out]; rfl, HL.out, HB.out⟩
    · obtain rfl : SA = some (a.add (k * 4)) := by rw [← HSA.out]; unfold tlA; rw [if_neg hck]; rfl
      go_enter Tryd.func37, Tryd.ntmps37
      go_wp2_with (go_at_call 34; ((with_reducible refine HP.out.mono ?_); rintro e w' ⟨rfl, rfl⟩))
      generalize W.heap.size = Bx at HS4 ⊢
      generalize W.alloc (.cells #[.int .i64 tx, .int .i64 m, .bool cv, .bool ii] 60) = w1 at *
      go_region_held3 (SB Bx tx m cv ii w1) (first | exact sb_drew HS4.out | exact sb_box HS4.out | exact sb_alloc HS4.out hsa | assumption | fail) (first
            | (refine step_nil (base := w1.heap.size) (A := some a) (c := c) (n := k) (ys := xs.take k) ?h1 (.const (.slice none 0 0)) (.tmp 12) ?h2 ?h3 ?h4 ?h5 N1.out ?h6 ?h7 ?_; rotate_right; (case h1 => rfl); (case h2 => rfl); (case h3 => kernel_rfl); (case h4 => kernel_rfl); (case h5 => first | exact L1.out.below (drew_below w1 1) | exact (L1.out.below (box_below w1 _)).drewN 1); (case h6 => omega); (case h7 => first | exact Nat.le_refl _ | simp); intro A1 c1 wa hra hba; have hsa : SB Bx tx m cv ii w1 wa := (by first | exact sb_full HS4.out (sb_drew HS4.out) hba | exact sb_full HS4.out (sb_box HS4.out) hba))
            | (refine step_row (base := w1.heap.size) (A := some ⟨wa.heap.size, 0, none⟩) (A0 := A1) (c0 := c1) (c := 1) (n := 1) (m := k) (q := k + 1) (xs := xs.take k) (ys := [(tx, m, cv, ii)]) ?h1 (.tmp 13) (.tmp 15) ?h2 ?h3 ?h4 ?h5 ?h6 N1.out rfl rfl ?h7 ?h8 ?_; rotate_right; (case h1 => rfl); (case h2 => rfl); (case h3 => kernel_rfl); (case h4 => kernel_rfl); (case h5 => exact row_below hra (box_below _ _)); (case h6 => exact box_ls wa (tx, m, cv, ii)); (case h7 => omega); (case h8 => exact (sb_bel (sb_alloc HS4.out hsa)).size); intro A2 c2 wb hrb hbb; have hsb : SB Bx tx m cv ii w1 wb := sb_app HS4.out (sb_alloc HS4.out hsa) hbb)
            | (refine step_row (base := w1.heap.size) (A := some ⟨w1.heap.size, 0, none⟩) (A0 := A1) (c0 := c1) (c := 1) (n := 1) (m := k) (q := k + 1) (xs := xs.take k) (ys := [(tx, m, cv, ii)]) ?h1 (.tmp 13) (.tmp 15) ?h2 ?h3 ?h4 ?h5 ?h6 N1.out rfl rfl ?h7 ?h8 ?_; rotate_right; (case h1 => rfl); (case h2 => rfl); (case h3 => kernel_rfl); (case h4 => kernel_rfl); (case h5 => exact hra); (case h6 => exact ((box_ls w1 (tx, m, cv, ii)).drewN 1).below hba); (case h7 => omega); (case h8 => exact (sb_bel hsa).size); intro A2 c2 wb hrb hbb; have hsb : SB Bx tx m cv ii w1 wb := sb_app HS4.out hsa hbb)
            | (refine step_row (base := w1.heap.size) (A := some (a.add (k * 4))) (A0 := A2) (c0 := c2) (c := (c - k)) (n := (n - k)) (m := k + 1) (q := n + 1) (xs := xs.take k ++ [(tx, m, cv, ii)]) (ys := xs.drop k) ?h1 (.tmp 16) (.tmp 19) ?h2 ?h3 ?h4 ?h5 ?h6 ?h9 N3.out ?h10 ?h7 ?h8 ?_; rotate_right; (case h1 => rfl); (case h2 => rfl); (case h3 => kernel_rfl); (case h4 => kernel_rfl); (case h5 => exact hrb); (case h6 => exact L3.out.below (sb_bel hsb)); (case h7 => omega); (case h8 => exact (sb_bel hsb).size); (case h9 => exact HL1.out); (case h10 => omega); intro A3 c3 wc hrc hbc; have hsc : SB Bx tx m cv ii w1 wc := sb_app HS4.out hsb hbc) | fail)
      all_goals
        obtain ⟨A4, c4, hv, hls⟩ := (show ∃ A c, Value.slice A3 (n + 1) c3 = .slice A (ins (tx, m, cv, ii) xs).length c ∧ Ls wc A c (ins (tx, m, cv, ii) xs) by rw [HI.out]; exact hrc.ls)
        have HB := Lib.hid (HSZ.out.trans ((sb_bel hsc).mono HSZ.out.size))
        have HV := Lib.hid hv
        have HL := Lib.hid hls
        clear hv hls hra hba hrb hbb hrc hbc hsa hsb hsc
        go_wp2_with fail
        go_ret
        exact ⟨A4, c4, by rw [← HV.out]; rfl, HL.out, HB.out⟩
end
end Go.Proofs.YteaibamkfccplaaDoor.Ws
