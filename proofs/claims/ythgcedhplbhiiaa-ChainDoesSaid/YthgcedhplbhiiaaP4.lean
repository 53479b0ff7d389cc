/- A place is put ahead of another one of the document's. -/
import Derived.Test.YthgcedhplbhiiaaP3
namespace Go.Proofs.Ythgcedhplbhiiaa
open Go Go.RowKit
section
variable {W W' : World} {bx gx K N : Nat} {L L' : Nat → List Nat} {i j : Int} {q qa : Spot}
theorem ahead_no1 {row : Int} (h : At N L j qa) (hb : backB N q row i = false) : aheadB N qa q row i = false := by
  cases qa with
  | none => rfl
  | some p =>
    obtain ⟨r, k⟩ := p
    unfold aheadB sameRow
    by_cases e : (r : Int) = row
    · subst e
      unfold backB at hb
      rw [has_is, decide_eq_true h.1, Bool.true_and] at hb
      simp only [beq_self_eq_true, Bool.true_and]
      exact hb
    · simp [e]
theorem ahead_same {row : Int} (e : aheadB N qa q row i = false) : aheadL N L qa q row i = L := by unfold aheadL; rw [e]; rfl
set_option maxHeartbeats 4000000 in
theorem Rf.ahead_no (h : Rf W bx gx K N L) (ha : At N L j qa) (hq : At N L i q) (row : Int) (e : aheadB N qa q row i = false) : Calls Try.prog 12 #[wp bx, .int .i64 row, .int .i64 j, .int .i64 i] W (RDid W bx gx K N (.bool false) L) := by
  have HA := Lib.hid (h.at ha)
  have HF := Lib.hid (h.free hq row)
  have H := Lib.hid h
  cases hb : backB N q row i
  · rw [hb] at HF
    obtain ⟨x, y, hv⟩ : ∃ x y : Int, atV qa = .tuple #[.int .i64 x, .int .i64 y] := by
      cases qa with
      | none => exact ⟨_, _, rfl⟩
      | some p => exact ⟨_, _, rfl⟩
    rw [hv] at HA
    clear h ha hq e hb hv
    go_enter Try.func12, Try.ntmps12
    go_wp2_with (first
      | (go_at_call 16; ((with_reducible refine HA.out.mono ?_); rintro e w' ⟨rfl, rfl⟩))
      | (go_at_call 27; ((with_reducible refine HF.out.mono ?_); rintro e w' ⟨rfl, rfl⟩)))
    go_ret
    exact RDid.same H.out _
  · rw [hb] at HF
    obtain ⟨x, y, hv, hx⟩ : ∃ x y : Int, atV qa = .tuple #[.int .i64 x, .int .i64 y] ∧ (x != row) = true := by
      unfold backB at hb
      rw [Bool.and_eq_true, Bool.and_eq_true] at hb
      obtain ⟨r, rfl, hr⟩ := has_yes hb.1.1
      cases qa with
      | none => exact ⟨-1, -1, rfl, by simp⟩
      | some p =>
        obtain ⟨r', k⟩ := p
        refine ⟨_, _, rfl, ?_⟩
        unfold aheadB sameRow at e
        rw [hb.1.2, hb.2, Bool.and_true, Bool.and_true] at e
        simp only [bne, e]
        rfl
    rw [hv] at HA
    clear h ha hq e hb hv
    go_enter Try.func12, Try.ntmps12
    go_wp2_with (first
      | (go_at_call 16; ((with_reducible refine HA.out.mono ?_); rintro e w' ⟨rfl, rfl⟩))
      | (go_at_call 27; ((with_reducible refine HF.out.mono ?_); rintro e w' ⟨rfl, rfl⟩)))
    go_ret
    exact RDid.same H.out _
set_option maxHeartbeats 4000000 in
theorem Rf.ahead_yes (h : Rf W bx gx K N L) {r k x : Nat} (ha : At N L j (some (r, k))) (hq : At N L (x : Int) none) (hx : x < N) : Calls Try.prog 12 #[wp bx, .int .i64 (r : Int), .int .i64 j, .int .i64 (x : Int)] W (RDid W bx gx K N (.bool true) (upd L r ((L r).take k ++ x :: (L r).drop k))) := by
  have HA := Lib.hid (h.at ha)
  rw [show atV (some (r, k)) = .tuple #[.int .i64 (r : Int), .int .i64 (k : Int)] from rfl] at HA
  have HF := Lib.hid (h.free hq (r : Int))
  obtain ⟨n0, rfl, hm, hr, hL, hkl⟩ := at_mem ha
  rw [show backB N none (r : Int) (x : Int) = true by unfold backB; rw [has_is, has_is, decide_eq_true hr, decide_eq_true hx]; rfl] at HF
  have hgd : Good N (upd L r ((L r).take k ++ ([x] ++ (L r).drop k))) := h.good.put hr hx (fun s hs hm => hq s hs x hm rfl) (by simp)
  rw [show x :: (L r).drop k = [x] ++ (L r).drop k from rfl]
  have hnb := h.nb
  have hlr := h.good.len hr
  obtain ⟨A, c, q2, hrd⟩ := h.rows r hr
  obtain ⟨g, rfl, -⟩ := hrd.cell hkl
  have q1 := h.c1
  have hbl := h.lt
  have hgl := h.gl
  have hcap := hrd.cap
  have hroom := hrd.room
  have f2 := h.fz r
  have hB1 : Below W.heap.size W (W.drew.alloc (.cells #[.int .i64 (x : Int)] 3)) := (drew1_below W).trans (box_below W.drew _)
  have hl1 : ((L r).take k).length = k := by rw [List.length_take]; omega
  obtain ⟨A5, c5, w5, hrun5, hj5⟩ := join_some (W := W.drew.alloc (.cells #[.int .i64 (x : Int)] 3)) (l1 := [x]) (l2 := (L r).drop k) (Rd.lit W.drew x) ((hrd.below hB1).drops (k := k)) (by rw [List.length_drop]; omega) (by simp; omega) (c - k) 37
  have hB5 : Below W.heap.size W w5 := hB1.trans (hj5.bel.mono hB1.size)
  obtain ⟨A6, c6, w6, hrun6, hj6⟩ := join_some (W := w5) (l1 := (L r).take k) (l2 := [x] ++ (L r).drop k) ((hrd.below hB5).takes (Nat.le_of_lt hkl)) hj5.rd.from (by simp) (by rw [hl1]; simp; omega) c5 37
  have hB6 : Below W.heap.size W w6 := hB5.trans (hj6.bel.mono hB5.size)
  have h5 := h.below hB5
  have h6 := h.below hB6
  obtain ⟨A1, c1, r2, -⟩ := h6.rows r hr
  have r1 := h6.c1
  have rf := h6.fz r
  have s1 := h5.c1
  have HS := Lib.hid (h.store hB6 hr (hj6.rd.weak (Nat.le_trans h.kw hB5.size)) hgd (.bool true))
  have HR5 := Lib.hid hrun5
  have HR6 := Lib.hid hrun6
  have e1 : ([x] ++ (L r).drop k).length = 1 + ((L r).length - k) := by simp; omega
  rw [List.length_append, hl1, e1] at HS
  rw [hl1, e1] at HR6
  rw [List.length_drop, show [x].length = 1 from rfl] at HR5
  have w1 : W.drew.heap.size = W.heap.size := rfl
  rw [w1] at HR5
  have H6l := Lib.hid h6.lt
  obtain ⟨n, hn⟩ : ∃ n, (L r).length = n := ⟨_, rfl⟩
  rw [hn] at HR5 HR6 q2 hlr hcap r2 HS hkl
  generalize upd L r ((L r).take k ++ ([x] ++ (L r).drop k)) = L2 at *
  clear h ha hq hgd hrd hrun5 hj5 hrun6 hj6 hB1 hB5 hB6 h5 h6 hn hl1 e1 w1 hm hL
  have q4 : k ≤ c := by omega
  have q5 : ¬ c = k := by omega
  have q6 : k ≤ n := by omega
  unfold maxLen at hroom
  go_enter Try.func12, Try.ntmps12
  go_wp2_with (first
    | (go_at_call 16; ((with_reducible refine HA.out.mono ?_); rintro e w' ⟨rfl, rfl⟩))
    | (go_at_call 27; ((with_reducible refine HF.out.mono ?_); rintro e w' ⟨rfl, rfl⟩)))
  go_region_law (first
    | (refine step_append_run ?h1 (.tmp 49) (.tmp 52) 37 ?h2 (.slice (some ⟨W.heap.size, 0, none⟩) 1 1) (.slice (some ⟨g, k, none⟩) (n - k) (c - k)) ?h3 ?h4 _ _ HR5.out ?_; rotate_right; (case h1 => rfl); (case h2 => rfl); (case h3 => kernel_rfl); (case h4 => kernel_rfl))
    | (refine step_append_run ?h1 (.tmp 47) (.tmp 53) 37 ?h2 (.slice (some ⟨g, 0, none⟩) k k) (.slice A5 (1 + (n - k)) c5) ?h3 ?h4 _ _ HR6.out ?_; rotate_right; (case h1 => rfl); (case h2 => rfl); (case h3 => kernel_rfl); (case h4 => kernel_rfl)))
  all_goals
    go_wp2
    go_ret
    exact HS.out
theorem Rf.ahead (h : Rf W bx gx K N L) (ha : At N L j qa) (hq : At N L i q) (row : Int) : Calls Try.prog 12 #[wp bx, .int .i64 row, .int .i64 j, .int .i64 i] W (RDid W bx gx K N (.bool (aheadB N qa q row i)) (aheadL N L qa q row i)) := by
  cases e : aheadB N qa q row i
  · rw [ahead_same e]
    exact h.ahead_no ha hq row e
  · have e2 := e
    unfold aheadB at e2
    rw [Bool.and_eq_true, Bool.and_eq_true] at e2
    obtain ⟨x, rfl, hx⟩ := has_yes e2.1.2
    have hqn : q = none := by cases q with | none => rfl | some p => simp at e2
    subst hqn
    cases qa with
    | none => simp [sameRow] at e2
    | some p =>
      obtain ⟨r, k⟩ := p
      obtain rfl : (r : Int) = row := by simpa [sameRow] using e2.1.1
      have eL : aheadL N L (some (r, k)) none (r : Int) (x : Int) = upd L r ((L r).take k ++ x :: (L r).drop k) := by unfold aheadL; rw [e]; simp
      rw [eL]
      exact h.ahead_yes ha hq hx
end
end Go.Proofs.Ythgcedhplbhiiaa
