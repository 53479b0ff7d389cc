/- What the calls of links answer, and leave, by where numbers are among the rows. -/
import Derived.Test.YthgcedhplbhiiaaA4
namespace Go.Proofs.Ythgcedhplbhiiaa
open Go Go.RowKit

/-- what a call that may change these links alone leaves -/
def Did (W : World) (b g N : Nat) (v : Value) (L : Nat → List Nat) (e : Ending) (w' : World) : Prop := e = .returned v ∧ Ln w' b g N L ∧ OnlyS (· = g) W w'
/-- the first one of a list, or none -/
def vOf : List Nat → Value
  | [] => .tuple #[.int .i64 0, .bool false]
  | x :: _ => .tuple #[.int .i64 (x : Int), .bool true]
def rowV : Spot → Value
  | none => .tuple #[.int .i64 0, .bool false]
  | some (r, _) => .tuple #[.int .i64 (r : Int), .bool true]
def nextV (L : Nat → List Nat) : Spot → Value
  | none => vOf []
  | some (r, k) => vOf ((L r).drop (k + 1))
section
variable {W W' : World} {b g N c : Nat} {L : Nat → List Nat} {rw : Nat → Int} {pv nx : Nat → Nat} {i : Int} {q qa : Spot}
theorem orNone_be {l : List Nat} {N r : Nat} (h : ∀ k ∈ l, k < N) : orNone N (be l (N + r)) = vOf l := by
  cases l with
  | nil => show orNone N (N + r) = _; unfold orNone; rw [if_neg (by omega)]; rfl
  | cons x l => show orNone N x = _; unfold orNone; rw [if_pos (h x (by simp))]; rfl
theorem Rings.yes (h : Rings N L rw pv nx) {r k : Nat} (hq : At N L i (some (r, k))) : ∃ n : Nat, i = n ∧ n < N ∧ rw n = r ∧ inB N rw i = true ∧ freeB N rw i = false := by
  obtain ⟨n, rfl, hm, hr, -, -⟩ := at_mem hq
  obtain ⟨h1, h2⟩ := h.mem r hr n hm
  refine ⟨n, rfl, h1, h2, in_yes h1 (by omega), free_no fun k e hk => ?_⟩
  obtain rfl : n = k := by omega
  omega
theorem Rings.no (h : Rings N L rw pv nx) (hq : At N L i none) : inB N rw i = false ∧ freeB N rw i = hasB N i := by
  have hk : ∀ k : Nat, i = k → k < N → rw k = -1 := fun k e hk => h.out k hk fun r hr hm => hq r hr k hm e.symm
  refine ⟨in_no hk, ?_⟩
  cases hb : hasB N i
  · unfold freeB; rw [hb]; rfl
  · obtain ⟨k, rfl, hk2⟩ := has_yes hb
    exact free_yes hk2 (hk k rfl hk2)
theorem Did.same (h : Ln W b g N L) (v : Value) : Did W b g N v L (.returned v) W := ⟨rfl, h, OnlyS.refl _ _⟩
/-- whether there is such a free place, by where it is -/
theorem Rings.freeIs (h : Rings N L rw pv nx) (hq : At N L i q) : freeB N rw i = (hasB N i && q.isNone) := by
  cases q with
  | none => rw [(h.no hq).2]; simp
  | some p =>
    obtain ⟨n, -, -, -, -, h5⟩ := h.yes hq
    rw [h5]; simp
theorem Ln.back (h : Ln W b g N L) (hq : At N L i q) (row : Int) : Calls Try.prog 9 #[wp b, .int .i64 row, .int .i64 i] W (Did W b g N (.bool (backB N q row i)) (backL N L q row i)) := by
  have HN := Lib.hid h
  obtain ⟨c, rw, pv, nx, h, hr⟩ := h
  have hF := Lib.hid (h.free i)
  rw [hr.freeIs hq] at hF
  have hH := Lib.hid (h.has row)
  cases h1 : hasB N row
  · rw [h1] at hH
    rw [show backL N L q row i = L by unfold backL backB; rw [h1]; rfl, show backB N q row i = false by unfold backB; rw [h1]; rfl]
    clear h hr h1 hF hq
    go_enter Try.func9, Try.ntmps9
    go_wp2_with (go_at_call 23; ((with_reducible refine hH.out.mono ?_); rintro e w' ⟨rfl, rfl⟩))
    go_ret
    exact Did.same HN.out _
  · rw [h1] at hH
    cases h2 : (hasB N i && q.isNone)
    · rw [h2] at hF
      have e2 : backB N q row i = false := by unfold backB; rw [h1, Bool.true_and]; exact h2
      rw [show backL N L q row i = L by unfold backL; rw [e2]; rfl, e2]
      clear h hr h1 h2 hq e2
      go_enter Try.func9, Try.ntmps9
      go_wp2_with (first
        | (go_at_call 23; ((with_reducible refine hH.out.mono ?_); rintro e w' ⟨rfl, rfl⟩))
        | (go_at_call 24; ((with_reducible refine hF.out.mono ?_); rintro e w' ⟨rfl, rfl⟩)))
      go_ret
      exact Did.same HN.out _
    · rw [h2] at hF
      have e2 : backB N q row i = true := by unfold backB; rw [h1, Bool.true_and]; exact h2
      rw [Bool.and_eq_true] at h2
      obtain ⟨r, rfl, hrN⟩ := has_yes h1
      obtain ⟨j, rfl, hjN⟩ := has_yes h2.1
      have hqn : q = none := by cases q with | none => rfl | some p => simp at h2
      subst hqn
      have eL : backL N L none (r : Int) (j : Int) = upd L r (L r ++ [j]) := by unfold backL; rw [e2]; simp
      obtain ⟨p1, p2, p3, p4, -, -⟩ := hr.put hrN hjN (fun s hs hm => hq s hs j hm rfl) (pre := L r) (post := []) (by simp) (t := N + r) rfl
      have hLy := Lib.hid (h.lay (t := N + r) (i := j) p3 (by omega) p4)
      rw [Int.natCast_add] at hLy
      have hHd := Lib.hid (h.head hrN)
      have hnb := h.nb
      have HP := Lib.hid p1
      rw [eL, e2]
      clear h hr h1 h2 hq e2 eL p1 p2 p3 p4
      go_enter Try.func9, Try.ntmps9
      go_wp2_with (first
        | (go_at_call 23; ((with_reducible refine hH.out.mono ?_); rintro e w' ⟨rfl, rfl⟩))
        | (go_at_call 24; ((with_reducible refine hF.out.mono ?_); rintro e w' ⟨rfl, rfl⟩))
        | (go_at_call 26; ((with_reducible refine hHd.out.mono ?_); rintro e w' ⟨rfl, rfl⟩))
        | (go_at_call 25; ((with_reducible refine hLy.out.mono ?_); rintro e w' ⟨rfl, hl, ho⟩)))
      go_ret
      exact ⟨rfl, ⟨c, _, _, _, hl, HP.out⟩, ho⟩
theorem Ln.cut (h : Ln W b g N L) (hq : At N L i q) : Calls Try.prog 13 #[wp b, .int .i64 i] W (Did W b g N (.bool q.isSome) (cutL L q)) := by
  have HN := h
  obtain ⟨c, rw, pv, nx, h, hr⟩ := h
  cases q with
  | none =>
    refine (h.cut_no (hr.no hq).1).mono ?_
    rintro e w' ⟨rfl, rfl⟩
    exact Did.same HN _
  | some p =>
    obtain ⟨r, k⟩ := p
    obtain ⟨n, rfl, hm, hrN, hL, -⟩ := at_mem hq
    obtain ⟨-, -, b3, b4, b5, b6⟩ := hr.beside hrN hL
    refine (h.cut_yes b6 (by omega) b3 b4).mono ?_
    rintro e w' ⟨rfl, hl, ho⟩
    exact ⟨rfl, ⟨c, _, _, _, hl, hr.cut hrN hL⟩, ho⟩
theorem Ln.rowIs (h : Ln W b g N L) (hq : At N L i q) : Calls Try.prog 15 #[wp b, .int .i64 i] W fun e w' => e = .returned (rowV q) ∧ W = w' := by
  obtain ⟨c, rw, pv, nx, h, hr⟩ := h
  have HI := Lib.hid (h.in i)
  cases q with
  | none =>
    rw [(hr.no hq).1] at HI
    rw [show rowV none = .tuple #[.int .i64 0, .bool false] from rfl]
    clear h hr hq
    go_enter Try.func15, Try.ntmps15
    go_wp2_with (go_at_call 28; ((with_reducible refine HI.out.mono ?_); rintro e w' ⟨rfl, rfl⟩))
    go_ret2
    exact ⟨rfl, rfl⟩
  | some p =>
    obtain ⟨r, k⟩ := p
    obtain ⟨n, rfl, hn, hrw, h4, -⟩ := hr.yes hq
    rw [h4] at HI
    rw [show rowV (some (r, k)) = .tuple #[.int .i64 (r : Int), .bool true] from rfl]
    have hnb := h.nb
    have hn2 : n < 2 * N := by omega
    have q0 := h.c0
    have q1 := h.r0 n hn2
    rw [hrw] at q1
    clear h hr hq hrw h4
    generalize 2 * N = M at *
    go_enter Try.func15, Try.ntmps15
    go_wp2_with (go_at_call 28; ((with_reducible refine HI.out.mono ?_); rintro e w' ⟨rfl, rfl⟩))
    go_ret2
    exact ⟨rfl, rfl⟩
theorem Ln.first (h : Ln W b g N L) (row : Int) : Calls Try.prog 17 #[wp b, .int .i64 row] W fun e w' => e = .returned (vOf (listOf N L row)) ∧ W = w' := by
  obtain ⟨c, rw, pv, nx, h, hr⟩ := h
  have hH := Lib.hid (h.has row)
  cases h1 : hasB N row
  · rw [h1] at hH
    rw [show vOf (listOf N L row) = .tuple #[.int .i64 0, .bool false] by unfold listOf; rw [h1]; rfl]
    clear h hr h1
    go_enter Try.func17, Try.ntmps17
    go_wp2_with (go_at_call 23; ((with_reducible refine hH.out.mono ?_); rintro e w' ⟨rfl, rfl⟩))
    go_ret2
    exact ⟨rfl, rfl⟩
  · rw [h1] at hH
    obtain ⟨r, rfl, hrN⟩ := has_yes h1
    have hl : listOf N L (r : Int) = L r := by unfold listOf; rw [h1]; simp
    have hb := h.behind (k := N + r) (by omega)
    rw [hr.head hrN, orNone_be (hr.good.lt r hrN), Int.natCast_add] at hb
    have hB := Lib.hid hb
    have hHd := Lib.hid (h.head hrN)
    have hnb := h.nb
    rw [hl]
    clear h hr h1 hb hl
    generalize L r = l at *
    cases l with
    | nil =>
      rw [show vOf [] = .tuple #[.int .i64 0, .bool false] from rfl] at hB ⊢
      go_enter Try.func17, Try.ntmps17
      go_wp2_with (first
        | (go_at_call 23; ((with_reducible refine hH.out.mono ?_); rintro e w' ⟨rfl, rfl⟩))
        | (go_at_call 26; ((with_reducible refine hHd.out.mono ?_); rintro e w' ⟨rfl, rfl⟩))
        | (go_at_call 29; ((with_reducible refine hB.out.mono ?_); rintro e w' ⟨rfl, rfl⟩)))
      go_ret2
      exact ⟨rfl, rfl⟩
    | cons x l =>
      rw [show vOf (x :: l) = .tuple #[.int .i64 (x : Int), .bool true] from rfl] at hB ⊢
      go_enter Try.func17, Try.ntmps17
      go_wp2_with (first
        | (go_at_call 23; ((with_reducible refine hH.out.mono ?_); rintro e w' ⟨rfl, rfl⟩))
        | (go_at_call 26; ((with_reducible refine hHd.out.mono ?_); rintro e w' ⟨rfl, rfl⟩))
        | (go_at_call 29; ((with_reducible refine hB.out.mono ?_); rintro e w' ⟨rfl, rfl⟩)))
      go_ret2
      exact ⟨rfl, rfl⟩
/-- what is behind a place of a row -/
theorem Ln.behind (h : Ln W b g N L) {r k n : Nat} (hr : r < N) (hn : (L r)[k]? = some n) : Calls Try.prog 29 #[wp b, .int .i64 (n : Int)] W fun e w' => e = .returned (vOf ((L r).drop (k + 1))) ∧ W = w' := by
  obtain ⟨c, rw, pv, nx, h, hg⟩ := h
  have hq : At N L (n : Int) (some (r, k)) := ⟨hr, n, hn, rfl⟩
  obtain ⟨n', e, hm, -, hL, -⟩ := at_mem hq
  obtain rfl : n = n' := by omega
  obtain ⟨-, b2, -, -, -, b6⟩ := hg.beside hr hL
  have hb := h.behind (k := n) (by omega)
  rw [b2, orNone_be (fun k hk => hg.good.lt r hr k (by rw [hL]; exact List.mem_append_right _ (List.mem_cons_of_mem _ hk)))] at hb
  exact hb
theorem Ln.next (h : Ln W b g N L) (hq : At N L i q) : Calls Try.prog 19 #[wp b, .int .i64 i] W fun e w' => e = .returned (nextV L q) ∧ W = w' := by
  have HN := h
  obtain ⟨c, rw, pv, nx, h, hr⟩ := h
  have HI := Lib.hid (h.in i)
  cases q with
  | none =>
    rw [(hr.no hq).1] at HI
    rw [show nextV L none = .tuple #[.int .i64 0, .bool false] from rfl]
    clear h hr hq HN
    go_enter Try.func19, Try.ntmps19
    go_wp2_with (go_at_call 28; ((with_reducible refine HI.out.mono ?_); rintro e w' ⟨rfl, rfl⟩))
    go_ret2
    exact ⟨rfl, rfl⟩
  | some p =>
    obtain ⟨r, k⟩ := p
    obtain ⟨n, rfl, hn, hrw, h4, -⟩ := hr.yes hq
    rw [h4] at HI
    obtain ⟨hrN, n', hn', e⟩ := hq
    obtain rfl : n = n' := by omega
    have hB := Lib.hid (HN.behind hrN hn')
    rw [show nextV L (some (r, k)) = vOf ((L r).drop (k + 1)) from rfl]
    have hnb := h.nb
    clear h hr hrw h4 HN hn' e
    generalize (L r).drop (k + 1) = l at *
    cases l with
    | nil =>
      rw [show vOf [] = .tuple #[.int .i64 0, .bool false] from rfl] at hB ⊢
      go_enter Try.func19, Try.ntmps19
      go_wp2_with (first
        | (go_at_call 28; ((with_reducible refine HI.out.mono ?_); rintro e w' ⟨rfl, rfl⟩))
        | (go_at_call 29; ((with_reducible refine hB.out.mono ?_); rintro e w' ⟨rfl, rfl⟩)))
      go_ret2
      exact ⟨rfl, rfl⟩
    | cons x l =>
      rw [show vOf (x :: l) = .tuple #[.int .i64 (x : Int), .bool true] from rfl] at hB ⊢
      go_enter Try.func19, Try.ntmps19
      go_wp2_with (first
        | (go_at_call 28; ((with_reducible refine HI.out.mono ?_); rintro e w' ⟨rfl, rfl⟩))
        | (go_at_call 29; ((with_reducible refine hB.out.mono ?_); rintro e w' ⟨rfl, rfl⟩)))
      go_ret2
      exact ⟨rfl, rfl⟩
theorem Ln.ahead (h : Ln W b g N L) {j : Int} (ha : At N L j qa) (hq : At N L i q) (row : Int) : Calls Try.prog 11 #[wp b, .int .i64 row, .int .i64 j, .int .i64 i] W (Did W b g N (.bool (aheadB N qa q row i)) (aheadL N L qa q row i)) := by
  have HN := Lib.hid h
  obtain ⟨c, rw, pv, nx, h, hr⟩ := h
  have hF := Lib.hid (h.free i)
  rw [hr.freeIs hq] at hF
  have HI := Lib.hid (h.in j)
  cases qa with
  | none =>
    rw [(hr.no ha).1] at HI
    rw [show aheadL N L none q row i = L by unfold aheadL aheadB sameRow; rfl, show aheadB N none q row i = false by unfold aheadB sameRow; rfl]
    clear h hr hF hq ha
    go_enter Try.func11, Try.ntmps11
    go_wp2_with (go_at_call 28; ((with_reducible refine HI.out.mono ?_); rintro e w' ⟨rfl, rfl⟩))
    go_ret
    exact Did.same HN.out _
  | some p =>
    obtain ⟨r, k⟩ := p
    obtain ⟨n, rfl, hn, hrw, h4, -⟩ := hr.yes ha
    rw [h4] at HI
    have hnb := h.nb
    have hn2 : n < 2 * N := by omega
    have q0 := h.c0
    have q1 := h.r0 n hn2
    rw [hrw] at q1
    by_cases hrow : (r : Int) = row
    · subst hrow
      cases h2 : (hasB N i && q.isNone)
      · rw [h2] at hF
        have e2 : aheadB N (some (r, k)) q (r : Int) i = false := by unfold aheadB sameRow; simp only [beq_self_eq_true, Bool.true_and]; exact h2
        rw [show aheadL N L (some (r, k)) q (r : Int) i = L by unfold aheadL; rw [e2]; rfl, e2]
        clear h hr h2 hq ha e2 hrw h4
        generalize 2 * N = M at *
        go_enter Try.func11, Try.ntmps11
        go_wp2_with (first
          | (go_at_call 28; ((with_reducible refine HI.out.mono ?_); rintro e w' ⟨rfl, rfl⟩))
          | (go_at_call 24; ((with_reducible refine hF.out.mono ?_); rintro e w' ⟨rfl, rfl⟩)))
        go_ret
        exact Did.same HN.out _
      · rw [h2] at hF
        have e2 : aheadB N (some (r, k)) q (r : Int) i = true := by unfold aheadB sameRow; simp only [beq_self_eq_true, Bool.true_and]; exact h2
        rw [Bool.and_eq_true] at h2
        obtain ⟨x, rfl, hxN⟩ := has_yes h2.1
        have hqn : q = none := by cases q with | none => rfl | some p => simp at h2
        subst hqn
        have eL : aheadL N L (some (r, k)) none (r : Int) (x : Int) = upd L r ((L r).take k ++ x :: (L r).drop k) := by unfold aheadL; rw [e2]; simp
        obtain ⟨n', en, hm, hrN, hL, hkl⟩ := at_mem ha
        obtain rfl : n = n' := by omega
        obtain ⟨n'', hn'', en2⟩ := ha.2
        obtain rfl : n = n'' := by omega
        have hdk : (L r).drop k = n :: (L r).drop (k + 1) := by
          rw [List.drop_eq_getElem_cons hkl]
          obtain ⟨_, e3⟩ := List.getElem?_eq_some_iff.1 hn''
          rw [e3]
        obtain ⟨p1, p2, p3, p4, -, -⟩ := hr.put hrN hxN (fun s hs hm => hq s hs x hm rfl) (pre := (L r).take k) (post := (L r).drop k) (by simp) (t := n) (by rw [hdk]; rfl)
        have hLy := Lib.hid (h.lay (t := n) (i := x) p3 (by omega) p4)
        have HP := Lib.hid p1
        rw [eL, e2]
        clear h hr h2 hq ha e2 eL p1 p2 p3 p4 hrw h4 hL hdk hn'' en en2 hm
        generalize upd L r ((L r).take k ++ x :: (L r).drop k) = L' at *
        generalize 2 * N = M at *
        go_enter Try.func11, Try.ntmps11
        go_wp2_with (first
          | (go_at_call 28; ((with_reducible refine HI.out.mono ?_); rintro e w' ⟨rfl, rfl⟩))
          | (go_at_call 24; ((with_reducible refine hF.out.mono ?_); rintro e w' ⟨rfl, rfl⟩))
          | (go_at_call 25; ((with_reducible refine hLy.out.mono ?_); rintro e w' ⟨rfl, hl, ho⟩)))
        go_ret
        exact ⟨rfl, ⟨c, _, _, _, hl, HP.out⟩, ho⟩
    · have e2 : aheadB N (some (r, k)) q row i = false := by unfold aheadB sameRow; simp [hrow]
      rw [show aheadL N L (some (r, k)) q row i = L by unfold aheadL; rw [e2]; rfl, e2]
      have d : ((r : Int) != row) = true := by simpa using hrow
      clear h hr hq ha e2 hrw h4 hF hrow
      generalize 2 * N = M at *
      go_enter Try.func11, Try.ntmps11
      go_wp2_with (go_at_call 28; ((with_reducible refine HI.out.mono ?_); rintro e w' ⟨rfl, rfl⟩))
      go_ret
      exact Did.same HN.out _
end
end Go.Proofs.Ythgcedhplbhiiaa
