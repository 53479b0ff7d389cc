/- Plain facts: what is left when one is cut. -/
import Derived.Test.YthgcedhplbhiiaaM2
namespace Go.Proofs.Ythgcedhplbhiiaa

/-- all but one -/
def keepL (i : Int) (l : List Nat) : List Nat := l.filter fun x => !((x : Int) == i)
theorem keepL_none {i : Int} {l : List Nat} (h : ∀ x ∈ l, (x : Int) ≠ i) : keepL i l = l := by
  unfold keepL
  refine List.filter_eq_self.2 fun x hx => ?_
  simpa using h x hx
theorem keepL_snoc_yes {i : Int} {l : List Nat} {x : Nat} (h : (x : Int) ≠ i) : keepL i (l ++ [x]) = keepL i l ++ [x] := by
  unfold keepL
  rw [List.filter_append, List.filter_cons_of_pos (by simpa using h), List.filter_nil]
theorem keepL_snoc_no {i : Int} {l : List Nat} {x : Nat} (h : (x : Int) = i) : keepL i (l ++ [x]) = keepL i l := by
  unfold keepL
  rw [List.filter_append, List.filter_cons_of_neg (by simpa using h), List.filter_nil, List.append_nil]
theorem keepL_len (i : Int) (l : List Nat) : (keepL i l).length ≤ l.length := List.length_filter_le _ _
/-- the row of a place, as a number -/
def rowI : Spot → Int
  | none => 0
  | some (r, _) => (r : Int)
section
variable {N : Nat} {L : Nat → List Nat} {i : Int} {q : Spot}
theorem list_none (hq : At N L i none) (row : Int) : ∀ x ∈ listOf N L row, (x : Int) ≠ i := by
  intro x hx
  unfold listOf at hx
  cases hb : hasB N row
  · rw [hb] at hx; simp at hx
  · rw [hb] at hx
    obtain ⟨k, rfl, hk⟩ := has_yes hb
    simp only [if_true, Int.toNat_natCast] at hx
    exact hq k hk x hx
theorem cut_list (hg : Good N L) (hq : At N L i q) : listOf N (cutL L q) (rowI q) = keepL i (listOf N L (rowI q)) := by
  cases q with
  | none => rw [keepL_none (list_none hq _)]; rfl
  | some p =>
    obtain ⟨r, k⟩ := p
    obtain ⟨n, rfl, hm, hr, hL, -⟩ := at_mem hq
    have e1 : ∀ M : Nat → List Nat, listOf N M (rowI (some (r, k))) = M r := fun M => by
      unfold listOf rowI
      rw [has_is, decide_eq_true hr, if_pos rfl, Int.toNat_natCast]
    rw [e1, e1]
    have hnd := hg.nd r hr
    rw [hL, List.nodup_append] at hnd
    obtain ⟨n1, n2, n3⟩ := hnd
    have e2 : keepL (n : Int) (L r) = (L r).take k ++ (L r).drop (k + 1) := by
      conv => lhs; rw [hL]
      unfold keepL
      rw [List.filter_append, List.filter_cons_of_neg (by simp)]
      congr 1
      · refine List.filter_eq_self.2 fun x hx => ?_
        have := n3 x hx n (by simp)
        simp; omega
      · refine List.filter_eq_self.2 fun x hx => ?_
        have : x ≠ n := fun e => (List.nodup_cons.1 n2).1 (by rw [← e]; exact hx)
        simp; omega
    rw [e2]
    show upd L r ((L r).take k ++ (L r).drop (k + 1)) r = _
    exact upd_same _ _ _
theorem cut_out (hg : Good N L) (hq : At N L i q) : At N (cutL L q) i none := by
  cases q with
  | none => exact hq
  | some p =>
    obtain ⟨r, k⟩ := p
    obtain ⟨n, rfl, hm, hr, hL, -⟩ := at_mem hq
    have hnd := hg.nd r hr
    rw [hL, List.nodup_append] at hnd
    obtain ⟨n1, n2, n3⟩ := hnd
    intro s hs x hx
    show (x : Int) ≠ (n : Int)
    by_cases e : s = r
    · subst e
      have hx' : x ∈ (L s).take k ++ (L s).drop (k + 1) := by
        have : cutL L (some (s, k)) s = (L s).take k ++ (L s).drop (k + 1) := upd_same _ _ _
        rwa [this] at hx
      rcases List.mem_append.1 hx' with h | h
      · have := n3 x h n (by simp); omega
      · have : x ≠ n := fun e => (List.nodup_cons.1 n2).1 (by rw [← e]; exact h)
        omega
    · have : cutL L (some (r, k)) s = L s := upd_other e
      rw [this] at hx
      intro e2
      have e3 : x = n := by omega
      subst e3
      exact e (hg.one s r hs hr x hx hm)
theorem cut_some {x : Nat} (hq : At N L i q) (row : Int) (hx : x ∈ listOf N L row) (e : (x : Int) = i) : q.isSome = true := by
  cases q with
  | none => exact absurd e (list_none hq row x hx)
  | some p => rfl
end
end Go.Proofs.Ythgcedhplbhiiaa
