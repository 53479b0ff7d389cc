/- How much what is below each node lets one do, in a map. -/
import Derived.Test.YthjlapcccmbhbaaWe
import Derived.StillTailTactics
namespace Go.Proofs.Ythjlapcccmbhbaa.Lk
open Go Go.RowKit Go.Shelf Pa
set_option maxRecDepth 100000

/-- how much these let one do at most -/
def topL (xs : List Hd) : Nat := xs.foldl (fun m x => max m (reN (kn x.2))) 0
theorem top_snoc (xs : List Hd) (x : Hd) : topL (xs ++ [x]) = max (topL xs) (reN (kn x.2)) := by unfold topL; rw [List.foldl_append]; rfl
/-- how much those below a node let one do at most -/
def mxL (xs : List Hd) (p : Pt) : Nat := topL (fitL (fun x => belB x p) xs)
theorem mx_snoc (xs : List Hd) (x : Hd) (p : Pt) : mxL (xs ++ [x]) p = if belB x.1 p then max (mxL xs p) (reN (kn x.2)) else mxL xs p := by
  unfold mxL
  rw [fit_snoc]
  split
  · rw [top_snoc]
  · rw [List.append_nil]
theorem top_le (xs : List Hd) : topL xs ≤ 3 := by
  have : ∀ (xs : List Hd) (m : Nat), m ≤ 3 → xs.foldl (fun m x => max m (reN (kn x.2))) m ≤ 3 := by
    intro xs
    induction xs with
    | nil => intro m h; exact h
    | cons x xs ih =>
      intro m h
      have := reN_le (kn x.2)
      exact ih _ (Nat.max_le.2 ⟨h, this⟩)
  exact this xs 0 (by omega)
theorem mx_le (xs : List Hd) (p : Pt) : mxL xs p ≤ 3 := top_le _
/-- the first t of those above -/
def ancB (q : Pt) : Nat → Pt → Bool
  | 0, _ => false
  | t + 1, p => eqP (cutP q (q.e - 1 - t)) p || ancB q t p
theorem anc_iff (q p : Pt) : ∀ t, ancB q t p = true ↔ ∃ j : Nat, j < t ∧ cutP q (q.e - 1 - j) = p
  | 0 => by simp [ancB]
  | t + 1 => by
    unfold ancB
    rw [Bool.or_eq_true, anc_iff q p t, eqP_iff]
    constructor
    · rintro (h | ⟨j, hj, h⟩)
      · exact ⟨t, by omega, h⟩
      · exact ⟨j, by omega, h⟩
    · rintro ⟨j, hj, h⟩
      by_cases e : j = t
      · subst e; exact .inl h
      · exact .inr ⟨j, by omega, h⟩
theorem anc_all {q : Pt} (hq : rightB q = true) {t : Nat} (ht : (t : Int) = q.e - 1) (p : Pt) : ancB q t p = belB q p := by
  have hd := right_depth hq
  rw [Bool.eq_iff_iff, anc_iff]
  unfold belB wiB
  simp only [Bool.and_eq_true, Bool.not_eq_true', decide_eq_true_eq]
  constructor
  · rintro ⟨j, hj, rfl⟩
    have hr := cut_right (j := q.e - 1 - j) hq (by omega) (by omega)
    refine ⟨?_, ⟨⟨hq, hr⟩, ?_⟩, ?_⟩
    · apply eqP_ne
      intro e
      have := congrArg Pt.e e
      simp only [cutP] at this
      omega
    · show q.e - 1 - j ≤ q.e
      omega
    · exact eqP_self _
  · rintro ⟨h1, ⟨⟨-, hr⟩, hle⟩, h2⟩
    have h3 := (eqP_iff _ _).1 h2
    have hd2 := right_depth hr
    have hne : p.e ≠ q.e := by
      intro e
      rw [e, cut_self hq] at h3
      rw [h3, eqP_self] at h1
      cases h1
    refine ⟨(q.e - 1 - p.e).toNat, by omega, ?_⟩
    rw [show q.e - 1 - ((q.e - 1 - p.e).toNat : Int) = p.e by omega]
    exact h3
theorem anc_none {q : Pt} (hq : ¬ (rightB q = true ∧ q.e ≠ 1)) (p : Pt) : belB q p = false := by
  cases h : belB q p
  · rfl
  · exfalso
    have hr := bel_right h
    have he : q.e = 1 := by
      by_cases e : q.e = 1
      · exact e
      · exact absurd ⟨hr, e⟩ hq
    rw [← anc_all hr (t := 0) (by omega)] at h
    cases h
/-- the depth of the node in a box -/
def depthAt (w : World) (p : Value) : Nat :=
  match p with
  | .pointer (some a) => match w.cell? ⟨a.block, 4, none⟩ with
    | some (.int _ n) => n.toNat
    | _ => 0
  | _ => 0
def goesOn (i : Value) (k : Nat) : Nat := match i with
  | .bool true => k
  | _ => 0
theorem depth_is {w : World} {B : Nat} {p : Pt} (h : PtAt w B p) : depthAt w (.pointer (some ⟨B, 0, none⟩)) = p.e.toNat := by
  unfold depthAt
  simp only
  rw [h.c4]
/-- what the first t nodes above have come to -/
def ancF (xs : List Hd) (x : Hd) (t : Nat) (p : Pt) : Nat := if ancB x.1 t p then max (mxL xs p) (reN (kn x.2)) else mxL xs p
/-- the node above that comes next, and whether there is one -/
def nextP (q : Pt) (t : Nat) : Pt := if (t : Int) < q.e - 1 then cutP q (q.e - 1 - t) else ⟨0, 0, 0, 0, 0⟩
theorem next_up {q : Pt} (hq : rightB q = true) (t : Nat) (ht : (t : Int) < q.e - 1) : upV (cutP q (q.e - 1 - t)) = .tuple #[(nextP q (t + 1)).v, .bool (decide (((t + 1 : Nat) : Int) < q.e - 1))] := by
  have hd := right_depth hq
  have hr := cut_right (j := q.e - 1 - t) hq (by omega) (by omega)
  unfold upV nextP
  have he : (cutP q (q.e - 1 - t)).e = q.e - 1 - t := rfl
  rw [he]
  by_cases h : q.e - 1 - (t : Int) = 1
  · rw [if_neg (fun k => k.2 h), if_neg (by omega), decide_eq_false (by omega)]
  · rw [if_pos ⟨hr, h⟩, if_pos (by omega), decide_eq_true (by omega), cut_cut q (by omega)]
    rw [show q.e - 1 - ((t + 1 : Nat) : Int) = q.e - 1 - t - 1 by omega]
end Go.Proofs.Ythjlapcccmbhbaa.Lk
