/- Plain facts on nodes: what two have in common, by the document and by the program. -/
import Derived.Test.YtmlljgijbffepaaF7
import Derived.Test.YtmlljgijbffepaaM3
namespace Go.Proofs.Ytmlljgijbffepaa
open Go

theorem last_none {q : Pt} (hq : rightB q = false) : ∀ (ps : List Pt) (z : Pt), lastL q ps z = z
  | [], _ => rfl
  | t :: ts, z => by
    rw [lastL, if_neg (by rw [wi_any, show wiB q t = false by simp [wiB, hq]]; exact Bool.false_ne_true)]
    exact last_none hq ts z
theorem last_com {p q : Pt} (hp : rightB p = true) (hq : rightB q = true) : ∀ k : Nat, (k : Int) ≤ p.e → lastV (lastL q (waysL p k) ⟨0, 0, 0, 0, 0⟩) = optV (comL p q (min k q.e.toNat))
  | 0, _ => by rw [Nat.zero_min]; rfl
  | k + 1, h => by
    have ih := last_com hp hq k (by omega)
    have hd := right_depth hq
    have hr : rightB (cutP p ((k : Nat) + 1)) = true := cut_right hp (by omega) (by omega)
    have he : (cutP p ((k : Nat) + 1)).e = (k : Nat) + 1 := rfl
    rw [waysL, lastL_snoc, wi_any]
    by_cases hk : ((k : Nat) : Int) + 1 ≤ q.e
    · have hw : wiB q (cutP p ((k : Nat) + 1)) = eqP (cutP p ((k : Nat) + 1)) (cutP q ((k : Nat) + 1)) := by
        unfold wiB
        rw [hq, hr, he, decide_eq_true hk, eqP_comm]; rfl
      rw [hw, show min (k + 1) q.e.toNat = k + 1 by omega]
      rw [show min k q.e.toNat = k by omega] at ih
      cases hh : eqP (cutP p ((k : Nat) + 1)) (cutP q ((k : Nat) + 1))
      · rw [comL_miss hh, if_neg Bool.false_ne_true]; exact ih
      · rw [comL_hit hh, if_pos rfl]
        unfold lastV optV
        rw [he, decide_eq_true (by omega : (0 : Int) < ((k : Nat) : Int) + 1)]
    · have hw : wiB q (cutP p ((k : Nat) + 1)) = false := by
        unfold wiB
        rw [he, decide_eq_false hk]; simp
      rw [hw, if_neg Bool.false_ne_true, show min (k + 1) q.e.toNat = min k q.e.toNat by omega]
      exact ih
theorem com_same (p q : Pt) : lastV (lastL q (waysP p) ⟨0, 0, 0, 0, 0⟩) = comV p q := by
  cases hp : rightB p
  · rw [show waysP p = [] by simp [waysP, hp], show comV p q = optV none by simp [comV, hp]]; rfl
  · cases hq : rightB q
    · rw [last_none hq, show comV p q = optV none by simp [comV, hq]]; rfl
    · have hd := right_depth hp
      rw [show waysP p = waysL p p.e.toNat by simp [waysP, hp], last_com hp hq _ (by omega), show comV p q = optV (comL p q (min p.e.toNat q.e.toNat)) by simp [comV, hp, hq]]
end Go.Proofs.Ytmlljgijbffepaa
