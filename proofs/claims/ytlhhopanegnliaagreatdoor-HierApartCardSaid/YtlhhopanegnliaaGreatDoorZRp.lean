import Derived.Test.YtlhhopanegnliaaGreatDoorPa
import Derived.BigQuiet
namespace Go.Proofs.YtlhhopanegnliaaGreatDoor.Pa
open Go Go.RowKit
set_option maxRecDepth 100000

theorem cmpL_me : ∀ l : List Int, cmpL l l = 0
  | [] => rfl
  | a :: l => by rw [cmpL, if_neg (by omega), if_neg (by omega)]; exact cmpL_me l
theorem less_self (p : Pt) : lessB p p = false := by
  unfold lessB
  rw [cmpL_me]
  simp
theorem cmpL_zero : ∀ l q : List Int, cmpL l q = 0 → l = q
  | [], [], _ => rfl
  | [], _ :: _, h => by simp [cmpL] at h
  | _ :: _, [], h => by simp [cmpL] at h
  | x :: r, y :: q, h => by
    rw [cmpL] at h
    split at h
    · omega
    · split at h
      · omega
      · have := cmpL_zero r q h
        have hxy : x = y := by omega
        rw [this, hxy]
def LRel (l q : List Int) (k : Nat) : Prop := k ≤ l.length ∧ k ≤ q.length ∧ cmpL (l.drop k) (q.drop k) = cmpL l q

end Go.Proofs.YtlhhopanegnliaaGreatDoor.Pa
