/- A place of the document's is cut. -/
import Derived.Test.YthgcedhplbhiiaaP2
namespace Go.Proofs.Ythgcedhplbhiiaa
open Go Go.RowKit
section
variable {W W' : World} {bx gx K N : Nat} {L L' : Nat → List Nat} {i : Int} {q qa : Spot}
theorem Rd.takes {A : Option Addr} {c k : Nat} {l : List Nat} (h : Rd W K A c l) (hk : k ≤ l.length) : Rd W K A (l.take k).length (l.take k) := by
  refine ⟨Nat.le_refl _, ?_, fun e => ?_, fun a ha => ?_⟩
  · rw [List.length_take]; exact Nat.le_trans (Nat.min_le_right _ _) (Nat.le_trans h.cap h.room)
  · have := (h.nil e).1; subst this; simp
  · obtain ⟨g, rfl, h1, h2, h3⟩ := h.at' a ha
    refine ⟨g, rfl, h1, h2, fun j hj => ?_⟩
    rw [List.length_take] at hj
    rw [h3 j (by omega), List.getElem_take]
theorem Rd.drops {g c k : Nat} {l : List Nat} (h : Rd W K (some ⟨g, 0, none⟩) c l) : From W (some ⟨g, k, none⟩) (l.drop k) := fun j hj => by
  rw [List.length_drop] at hj
  obtain ⟨g', e, h3⟩ := h.cell (i := k + j) (by omega)
  cases e
  exact ⟨g, k, rfl, by rw [h3, List.getElem_drop]⟩
theorem join_any {g sc : Nat} {sa : Addr} {l1 l2 : List Nat} (h : Rd W K (some ⟨g, 0, none⟩) l1.length l1) (hs : From W (some sa) l2) (hl : l1.length + l2.length ≤ 20000) (hK : K ≤ W.heap.size) (ty : TypeId) :
    ∃ A' c' w', (Builtin.append_ #[37, 37] ty #[.slice (some ⟨g, 0, none⟩) l1.length l1.length, .slice (some sa) l2.length sc]).run Try.prog W = .ok (.slice A' (l1.length + l2.length) c') w' ∧ Rd w' K A' c' (l1 ++ l2) ∧ Below W.heap.size W w' := by
  cases l2 with
  | nil => exact ⟨_, _, _, join_none sc ty, by rw [List.append_nil]; exact h, Below.refl _ _⟩
  | cons x l2 =>
    obtain ⟨A', c', w', hr, hj⟩ := join_some h hs (by simp) hl sc ty
    exact ⟨A', c', w', hr, hj.rd.weak hK, hj.bel⟩
set_option maxHeartbeats 4000000 in
theorem Rf.cut (h : Rf W bx gx K N L) (hq : At N L i q) : Calls Try.prog 14 #[wp bx, .int .i64 i] W (RDid W bx gx K N (.bool q.isSome) (cutL L q)) := by
  have HA := Lib.hid (h.at hq)
  have H := Lib.hid h
  cases q with
  | none =>
    rw [show atV none = .tuple #[.int .i64 (-1), .int .i64 (-1)] from rfl] at HA
    rw [show (none : Spot).isSome = false from rfl, show cutL L none = L from rfl]
    clear h hq
    go_enter Try.func14, Try.ntmps14
    go_wp2_with (go_at_call 16; ((with_reducible refine HA.out.mono ?_); rintro e w' ⟨rfl, rfl⟩))
    go_ret
    exact RDid.same H.out _
  | some p =>
    obtain ⟨r, k⟩ := p
    rw [show atV (some (r, k)) = .tuple #[.int .i64 (r : Int), .int .i64 (k : Int)] from rfl] at HA
    rw [show (some (r, k) : Spot).isSome = true from rfl, show cutL L (some (r, k)) = upd L r ((L r).take k ++ (L r).drop (k + 1)) from rfl]
    obtain ⟨n0, rfl, hm, hr, hL, hkl⟩ := at_mem hq
    have hgd : Good N (upd L r ((L r).take k ++ (L r).drop (k + 1))) := h.good.cut hL
    have hnb := h.nb
    have hlr := h.good.len hr
    obtain ⟨A, c, q2, hrd⟩ := h.rows r hr
    obtain ⟨g, rfl, -⟩ := hrd.cell hkl
    have q1 := h.c1
    have hbl := h.lt
    have hgl := h.gl
    have hcap := hrd.cap
    have hroom := hrd.room
    have f2 := h.fz r
    have hd := drew1_below W
    have hl1 : ((L r).take k).length = k := by rw [List.length_take]; omega
    have hrun : ∃ sa : Addr, ∃ sc : Nat, ∃ A' c' w6, (sa = if c = k + 1 then ⟨g, 0, none⟩ else ⟨g, k + 1, none⟩) ∧ sc = c - (k + 1) ∧ (Builtin.append_ #[37, 37] 37 #[.slice (some ⟨g, 0, none⟩) k k, .slice (some sa) ((L r).length - (k + 1)) sc]).run Try.prog W.drew = .ok (.slice A' (k + ((L r).length - (k + 1))) c') w6 ∧ Rd w6 K A' c' ((L r).take k ++ (L r).drop (k + 1)) ∧ Below W.heap.size W w6 := by
      by_cases hc : c = k + 1
      · have hdn : (L r).drop (k + 1) = [] := List.drop_eq_nil_of_le (by omega)
        obtain ⟨A', c', w', h1, h2, h3⟩ := join_any (sc := c - (k + 1)) (sa := ⟨g, 0, none⟩) ((hrd.below hd).takes (Nat.le_of_lt hkl)) (show From W.drew _ ((L r).drop (k + 1)) by rw [hdn]; exact fun j hj => by simp at hj) (by rw [hl1, List.length_drop]; omega) h.kw 37
        rw [hl1, List.length_drop] at h1
        exact ⟨_, _, A', c', w', by rw [if_pos hc], rfl, h1, h2, hd.trans h3⟩
      · obtain ⟨A', c', w', h1, h2, h3⟩ := join_any (sc := c - (k + 1)) ((hrd.below hd).takes (Nat.le_of_lt hkl)) ((hrd.below hd).drops (k := k + 1)) (by rw [hl1, List.length_drop]; omega) h.kw 37
        rw [hl1, List.length_drop] at h1
        exact ⟨_, _, A', c', w', by rw [if_neg hc], rfl, h1, h2, hd.trans h3⟩
    obtain ⟨sa, sc, A', c', w6, hsa, hsc, hrun, hrd6, hB6⟩ := hrun
    have h6 := h.below hB6
    obtain ⟨A1, c1, r2, -⟩ := h6.rows r hr
    have r1 := h6.c1
    have rf := h6.fz r
    have HS := Lib.hid (h.store hB6 hr hrd6 hgd (.bool true))
    rw [List.length_append, hl1, List.length_drop] at HS
    have HR := Lib.hid hrun
    have H6l := Lib.hid h6.lt
    obtain ⟨n, hn⟩ : ∃ n, (L r).length = n := ⟨_, rfl⟩
    rw [hn] at HR q2 hlr hcap r2 HS hkl
    generalize upd L r ((L r).take k ++ (L r).drop (k + 1)) = L2 at *
    clear h hq hgd hrd hrun hrd6 hB6 h6 hn H hd hl1 hm hL
    have q3 : IntKind.i64.wrap ((k : Int) + 1) = ((k + 1 : Nat) : Int) := by rw [Int.natCast_succ]; exact IntWalk.i64_in _ (by omega)
    have q4 : k ≤ c := by omega
    have q5 : k + 1 ≤ n := by omega
    have q6 : (0 : Int) ≤ (k : Int) + 1 := by omega
    have q7 : (k : Int) + 1 ≤ (n : Int) := by omega
    have q8 : (k : Int) ≤ (k : Int) + 1 := by omega
    unfold maxLen at hroom
    by_cases hc : c = k + 1
    · rw [if_pos hc] at hsa
      subst hsa hsc hc
      obtain rfl : n = k + 1 := by omega
      rw [Nat.sub_self, Nat.add_zero] at HR HS
      go_enter Try.func14, Try.ntmps14
      go_wp2_with (go_at_call 16; ((with_reducible refine HA.out.mono ?_); rintro e w' ⟨rfl, rfl⟩))
      go_region_law (first
        | (refine step_append_run ?h1 (.tmp 31) (.tmp 35) 37 ?h2 (.slice (some ⟨g, 0, none⟩) k k) (.slice (some ⟨g, 0, none⟩) 0 0) ?h3 ?h4 _ _ HR.out ?_; rotate_right; (case h1 => rfl); (case h2 => rfl); (case h3 => kernel_rfl); (case h4 => kernel_rfl)))
      all_goals
        clear q3
        go_wp2
        go_ret
        exact HS.out
    · rw [if_neg hc] at hsa
      subst hsa hsc
      go_enter Try.func14, Try.ntmps14
      go_wp2_with (go_at_call 16; ((with_reducible refine HA.out.mono ?_); rintro e w' ⟨rfl, rfl⟩))
      go_region_law (first
        | (refine step_append_run ?h1 (.tmp 31) (.tmp 35) 37 ?h2 (.slice (some ⟨g, 0, none⟩) k k) (.slice (some ⟨g, k + 1, none⟩) (n - (k + 1)) (c - (k + 1))) ?h3 ?h4 _ _ HR.out ?_; rotate_right; (case h1 => rfl); (case h2 => rfl); (case h3 => kernel_rfl); (case h4 => kernel_rfl)))
      all_goals
        clear q3
        go_wp2
        go_ret
        exact HS.out
end
end Go.Proofs.Ythgcedhplbhiiaa
