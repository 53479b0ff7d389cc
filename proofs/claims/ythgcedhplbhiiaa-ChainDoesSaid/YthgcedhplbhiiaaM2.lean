/- Plain facts: where a number is among rows, and what is put and cut. -/
import Derived.Test.YthgcedhplbhiiaaM1
namespace Go.Proofs.Ythgcedhplbhiiaa

/-- a row and a place in it, or none -/
abbrev Spot := Option (Nat × Nat)
/-- where a number is -/
def At (N : Nat) (L : Nat → List Nat) (i : Int) : Spot → Prop
  | none => ∀ r, r < N → ∀ k ∈ L r, (k : Int) ≠ i
  | some (r, k) => r < N ∧ ∃ n, (L r)[k]? = some n ∧ i = (n : Int)
theorem at_ex (N : Nat) (L : Nat → List Nat) (i : Int) : ∃ q, At N L i q := by
  by_cases h : ∃ r, r < N ∧ ∃ k ∈ L r, (k : Int) = i
  · obtain ⟨r, hr, k, hk, e⟩ := h
    obtain ⟨j, hj⟩ := List.getElem?_of_mem hk
    exact ⟨some (r, j), hr, k, hj, e.symm⟩
  · exact ⟨none, fun r hr k hk e => h ⟨r, hr, k, hk, e⟩⟩
theorem at_mem {N : Nat} {L : Nat → List Nat} {i : Int} {r k : Nat} (h : At N L i (some (r, k))) : ∃ n : Nat, i = (n : Int) ∧ n ∈ L r ∧ r < N ∧ L r = (L r).take k ++ n :: (L r).drop (k + 1) ∧ k < (L r).length := by
  obtain ⟨hr, n, hn, e⟩ := h
  obtain ⟨hk, hn'⟩ := List.getElem?_eq_some_iff.1 hn
  refine ⟨n, e, List.mem_of_getElem? hn, hr, ?_, hk⟩
  rw [← hn', List.getElem_cons_drop, List.take_append_drop]
/-- a list that is good: numbers below N, each once, in one row -/
structure Good (N : Nat) (L : Nat → List Nat) : Prop where
  lt : ∀ r, r < N → ∀ k ∈ L r, k < N
  nd : ∀ r, r < N → (L r).Nodup
  one : ∀ r s, r < N → s < N → ∀ k, k ∈ L r → k ∈ L s → r = s
theorem Rings.good {N : Nat} {L : Nat → List Nat} {rw : Nat → Int} {pv nx : Nat → Nat} (h : Rings N L rw pv nx) : Good N L :=
  ⟨fun r hr k hk => (h.mem r hr k hk).1, h.nd, fun _ _ hr hs _ h1 h2 => h.one hr hs h1 h2⟩
theorem nodup_len {l : List Nat} {N : Nat} (hn : l.Nodup) (hl : ∀ k ∈ l, k < N) : l.length ≤ N := by
  induction N generalizing l with
  | zero =>
    cases l with
    | nil => simp
    | cons x l => have := hl x (by simp); omega
  | succ N ih =>
    have h1 : (l.erase N).length ≤ N := ih (hn.erase N) (fun k hk => by
      have h2 := (List.Nodup.mem_erase_iff hn).1 hk
      have := hl k h2.2
      omega)
    by_cases hm : N ∈ l
    · rw [List.length_erase_of_mem hm] at h1; omega
    · rw [List.erase_of_not_mem hm] at h1; omega
theorem Good.len {N : Nat} {L : Nat → List Nat} (h : Good N L) {r : Nat} (hr : r < N) : (L r).length ≤ N := nodup_len (h.nd r hr) (h.lt r hr)
theorem Good.uniq {N : Nat} {L : Nat → List Nat} {i : Int} {r k r' k' n : Nat} (h : Good N L) (hq : At N L i (some (r, k))) (hr' : r' < N) (hn : (L r')[k']? = some n) (e : (n : Int) = i) : r' = r ∧ k' = k := by
  obtain ⟨hr, m, hm, e2⟩ := hq
  obtain rfl : m = n := by omega
  obtain rfl := h.one r' r hr' hr m (List.mem_of_getElem? hn) (List.mem_of_getElem? hm)
  refine ⟨rfl, ?_⟩
  obtain ⟨h1, e1⟩ := List.getElem?_eq_some_iff.1 hn
  obtain ⟨h2, e2⟩ := List.getElem?_eq_some_iff.1 hm
  have hp := List.pairwise_iff_getElem.1 (h.nd r' hr')
  rcases Nat.lt_trichotomy k' k with q | q | q
  · exact absurd (e1.trans e2.symm) (hp k' k h1 h2 q)
  · exact q
  · exact absurd (e2.trans e1.symm) (hp k k' h2 h1 q)
/-- whether there is a place of that number -/
def hasB (N : Nat) (i : Int) : Bool := decide (0 ≤ i) && decide (i < (N : Int))
theorem has_neg {N : Nat} {i : Int} (h : i < 0) : hasB N i = false := by unfold hasB; rw [decide_eq_false (by omega)]; rfl
theorem has_is {N : Nat} {k : Nat} : hasB N (k : Int) = decide (k < N) := by unfold hasB; simp
theorem has_yes {N : Nat} {i : Int} (h : hasB N i = true) : ∃ k : Nat, i = k ∧ k < N := by
  unfold hasB at h
  simp at h
  exact ⟨i.toNat, by omega, by omega⟩
/-- what is put behind all -/
def backB (N : Nat) (q : Spot) (row i : Int) : Bool := hasB N row && hasB N i && q.isNone
def backL (N : Nat) (L : Nat → List Nat) (q : Spot) (row i : Int) : Nat → List Nat := if backB N q row i then upd L row.toNat (L row.toNat ++ [i.toNat]) else L
/-- what is put ahead of another one -/
def sameRow (qa : Spot) (row : Int) : Bool := match qa with | some (r, _) => (r : Int) == row | none => false
def aheadB (N : Nat) (qa q : Spot) (row i : Int) : Bool := sameRow qa row && hasB N i && q.isNone
def aheadL (N : Nat) (L : Nat → List Nat) (qa q : Spot) (row i : Int) : Nat → List Nat := if aheadB N qa q row i then (match qa with | some (r, k) => upd L r ((L r).take k ++ i.toNat :: (L r).drop k) | none => L) else L
/-- what is cut -/
def cutL (L : Nat → List Nat) (q : Spot) : Nat → List Nat := match q with | some (r, k) => upd L r ((L r).take k ++ (L r).drop (k + 1)) | none => L
/-- the row of a number, or none -/
def listOf (N : Nat) (L : Nat → List Nat) (row : Int) : List Nat := if hasB N row then L row.toNat else []
theorem listOf_len {N : Nat} {L : Nat → List Nat} (h : Good N L) (row : Int) : (listOf N L row).length ≤ N := by
  unfold listOf
  cases hb : hasB N row
  · simp
  · obtain ⟨k, rfl, hk⟩ := has_yes hb
    simp only [if_true, Int.toNat_natCast]
    exact h.len hk
end Go.Proofs.Ythgcedhplbhiiaa
