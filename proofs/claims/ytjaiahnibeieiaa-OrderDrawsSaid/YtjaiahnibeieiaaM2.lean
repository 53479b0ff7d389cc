/- Plain facts: how often a number was told, and where last; how far it is to the same one again, and what that says of windows. -/
import Derived.Test.YtjaiahnibeieiaaD1
namespace Go.Proofs.Ytjaiahnibeieiaa

theorem upd_same (f : Nat → Int) (k : Nat) (x : Int) : upd f k x k = x := if_pos rfl
theorem upd_other (f : Nat → Int) {k i : Nat} (x : Int) (h : i ≠ k) : upd f k x i = f i := if_neg h
/-- where each was told last -/
def lastF (f : Nat → Int) (ps : List Told) : Nat → Int := ps.foldl (fun f p => upd f p.2.toNat (p.1 : Int)) f
def lastP (ps : List Told) : Nat → Int := lastF (fun _ => -1) ps
theorem lastF_snoc (f : Nat → Int) (ps : List Told) (p : Told) : lastF f (ps ++ [p]) = upd (lastF f ps) p.2.toNat (p.1 : Int) := by simp [lastF, List.foldl_append]
theorem lastP_snoc (ps : List Told) (p : Told) : lastP (ps ++ [p]) = upd (lastP ps) p.2.toNat (p.1 : Int) := lastF_snoc _ _ _
/-- how often each was told -/
def cntP (ps : List Told) : Nat → Int := ps.foldl (fun f p => upd f p.2.toNat (f p.2.toNat + 1)) (fun _ => 0)
theorem cntP_snoc (ps : List Told) (p : Told) : cntP (ps ++ [p]) = upd (cntP ps) p.2.toNat (cntP ps p.2.toNat + 1) := by simp [cntP, List.foldl_append]
/-- how far it was to each -/
def gp (f : Nat → Int) : List Told → List Int
  | [] => []
  | p :: r => ((p.1 : Int) - f p.2.toNat) :: gp (upd f p.2.toNat (p.1 : Int)) r
theorem gp_snoc (ps : List Told) (p : Told) : ∀ f, gp f (ps ++ [p]) = gp f ps ++ [(p.1 : Int) - lastF f ps p.2.toNat] := by
  induction ps with
  | nil => intro f; rfl
  | cons q r ih =>
    intro f
    show _ :: gp _ (r ++ [p]) = _ :: (gp _ r ++ _)
    rw [ih]
    rfl
def gapP (ps : List Told) : List Int := gp (fun _ => -1) ps
theorem gapP_snoc (ps : List Told) (p : Told) : gapP (ps ++ [p]) = gapP ps ++ [(p.1 : Int) - lastP ps p.2.toNat] := gp_snoc _ _ _
/-- how far it is to the end -/
def tl (L : Nat) (f : Nat → Int) : Nat → List Int
  | 0 => []
  | k + 1 => tl L f k ++ [(L : Int) - f k]
theorem tl_split (L : Nat) (f : Nat → Int) {i j : Nat} (h : i ≤ j) : ∃ r, tl L f j = tl L f i ++ r := by
  induction j with
  | zero => obtain rfl : i = 0 := by omega
            exact ⟨[], by simp⟩
  | succ j ih =>
    by_cases e : i = j + 1
    · subst e; exact ⟨[], by simp⟩
    · obtain ⟨r, hr⟩ := ih (by omega)
      exact ⟨r ++ [(L : Int) - f j], by show tl L f j ++ _ = _; rw [hr, List.append_assoc]⟩
theorem mem_tl {L : Nat} {f : Nat → Int} {N : Nat} {g : Int} : g ∈ tl L f N ↔ ∃ k, k < N ∧ g = (L : Int) - f k := by
  induction N with
  | zero => simp [tl]
  | succ N ih =>
    show g ∈ tl L f N ++ [(L : Int) - f N] ↔ _
    rw [List.mem_append, ih, List.mem_singleton]
    constructor
    · rintro (⟨k, hk, e⟩ | e)
      · exact ⟨k, by omega, e⟩
      · exact ⟨N, by omega, e⟩
    · rintro ⟨k, hk, e⟩
      by_cases h : k = N
      · subst h; exact .inr e
      · exact .inl ⟨k, by omega, e⟩
/-- all of them -/
def gapsL (z : Nat → Int) (L N : Nat) : List Int := gapP (plN z N L) ++ tl L (lastP (plN z N L)) N
/-- where x is last of the first j -/
def lastN (z : Nat → Int) : Nat → Int → Int
  | 0, _ => -1
  | j + 1, x => if z j = x then (j : Int) else lastN z j x
def cntN (z : Nat → Int) : Nat → Int → Int
  | 0, _ => 0
  | j + 1, x => if z j = x then cntN z j x + 1 else cntN z j x
section
variable {z : Nat → Int}
theorem lastN_lt (j : Nat) (x : Int) : -1 ≤ lastN z j x ∧ lastN z j x < (j : Int) := by
  induction j with
  | zero => show (-1 : Int) ≤ -1 ∧ (-1 : Int) < ((0 : Nat) : Int); omega
  | succ j ih =>
    show -1 ≤ (if z j = x then (j : Int) else lastN z j x) ∧ (if z j = x then (j : Int) else lastN z j x) < _
    split <;> omega
theorem lastN_none {j : Nat} {x : Int} (i : Nat) (h1 : lastN z j x < (i : Int)) (h2 : i < j) : z i ≠ x := by
  induction j with
  | zero => omega
  | succ j ih =>
    have h1' : (if z j = x then (j : Int) else lastN z j x) < (i : Int) := h1
    split at h1'
    · omega
    · rename_i hne
      by_cases e : i = j
      · subst e; exact hne
      · exact ih h1' (by omega)
theorem lastN_some {j : Nat} {x : Int} {i : Nat} (h : z i = x) (h2 : i < j) : (i : Int) ≤ lastN z j x := by
  by_cases e : lastN z j x < (i : Int)
  · exact absurd h (lastN_none i e h2)
  · omega
theorem cntN_le (j : Nat) (x : Int) : 0 ≤ cntN z j x ∧ cntN z j x ≤ (j : Int) := by
  induction j with
  | zero => exact ⟨Int.le_refl _, Int.le_refl _⟩
  | succ j ih =>
    show 0 ≤ (if z j = x then cntN z j x + 1 else cntN z j x) ∧ (if z j = x then cntN z j x + 1 else cntN z j x) ≤ _
    split <;> omega
theorem lastP_plN {N x : Nat} (j : Nat) (hx : x < N) : lastP (plN z N j) x = lastN z j (x : Int) := by
  induction j with
  | zero => rfl
  | succ j ih =>
    show _ = if z j = (x : Int) then (j : Int) else lastN z j (x : Int)
    by_cases h : 0 ≤ z j ∧ z j < (N : Int)
    · rw [plN_yes h, lastP_snoc]
      by_cases e : z j = (x : Int)
      · rw [if_pos e]
        show upd _ (z j).toNat _ x = _
        rw [e, Int.toNat_natCast, upd_same]
      · rw [if_neg e, upd_other _ _ (by show x ≠ (z j).toNat; omega), ih]
    · rw [plN_no h, if_neg (by omega), ih]
theorem cntP_plN {N x : Nat} (j : Nat) (hx : x < N) : cntP (plN z N j) x = cntN z j (x : Int) := by
  induction j with
  | zero => rfl
  | succ j ih =>
    show _ = if z j = (x : Int) then cntN z j (x : Int) + 1 else cntN z j (x : Int)
    by_cases h : 0 ≤ z j ∧ z j < (N : Int)
    · rw [plN_yes h, cntP_snoc]
      by_cases e : z j = (x : Int)
      · rw [if_pos e]
        show upd _ (z j).toNat (cntP _ (z j).toNat + 1) x = _
        rw [e, Int.toNat_natCast, upd_same, ih]
      · rw [if_neg e, upd_other _ _ (by show x ≠ (z j).toNat; omega), ih]
    · rw [plN_no h, if_neg (by omega), ih]
theorem mem_gapP {N : Nat} {g : Int} (j : Nat) : g ∈ gapP (plN z N j) ↔ ∃ i, i < j ∧ (0 ≤ z i ∧ z i < (N : Int)) ∧ g = (i : Int) - lastN z i (z i) := by
  induction j with
  | zero => simp [plN, gapP, gp]
  | succ j ih =>
    by_cases h : 0 ≤ z j ∧ z j < (N : Int)
    · rw [plN_yes h, gapP_snoc, List.mem_append, ih, List.mem_singleton]
      have e : lastP (plN z N j) (z j).toNat = lastN z j (z j) := by
        rw [lastP_plN j (by omega), show (((z j).toNat : Nat) : Int) = z j by omega]
      show _ ∨ g = (j : Int) - lastP (plN z N j) (z j).toNat ↔ _
      rw [e]
      clear e
      constructor
      · rintro (⟨i, hi, hq, e⟩ | e)
        · exact ⟨i, by omega, hq, e⟩
        · exact ⟨j, by omega, h, e⟩
      · rintro ⟨i, hi, hq, e⟩
        by_cases hij : i = j
        · subst hij; exact .inr e
        · exact .inl ⟨i, by omega, hq, e⟩
    · rw [plN_no h, ih]
      constructor
      · rintro ⟨i, hi, hq, e⟩
        exact ⟨i, by omega, hq, e⟩
      · rintro ⟨i, hi, hq, e⟩
        by_cases hij : i = j
        · subst hij; exact absurd hq h
        · exact ⟨i, by omega, hq, e⟩
theorem mem_gapsL {L N : Nat} {g : Int} : g ∈ gapsL z L N ↔ (∃ i, i < L ∧ (0 ≤ z i ∧ z i < (N : Int)) ∧ g = (i : Int) - lastN z i (z i)) ∨ ∃ x : Nat, x < N ∧ g = (L : Int) - lastN z L (x : Int) := by
  unfold gapsL
  rw [List.mem_append, mem_gapP, mem_tl]
  constructor
  · rintro (h | ⟨k, hk, e⟩)
    · exact .inl h
    · rw [lastP_plN L hk] at e
      exact .inr ⟨k, hk, e⟩
  · rintro (h | ⟨k, hk, e⟩)
    · exact .inl h
    · exact .inr ⟨k, hk, by rw [lastP_plN L hk]; exact e⟩
theorem gapsL_le {L N : Nat} {g : Int} (h : g ∈ gapsL z L N) : 1 ≤ g ∧ g ≤ (L : Int) + 1 := by
  rcases mem_gapsL.1 h with ⟨i, hi, -, e⟩ | ⟨x, hx, e⟩
  · have := lastN_lt (z := z) i (z i); omega
  · have := lastN_lt (z := z) L (x : Int); omega
/-- each number is in each window -/
def Wins (z : Nat → Int) (L N w : Nat) : Prop := ∀ x : Nat, x < N → ∀ a : Nat, a + w ≤ L → ∃ i, a ≤ i ∧ i < a + w ∧ z i = (x : Int)
theorem wins_iff {L N w : Nat} : (∀ g ∈ gapsL z L N, g ≤ (w : Int)) ↔ Wins z L N w := by
  constructor
  · intro h x hx a ha
    by_cases hex : ∃ i, a ≤ i ∧ i < a + w ∧ z i = (x : Int)
    · exact hex
    · exfalso
      have hno : ∀ i, a ≤ i → i < a + w → z i ≠ (x : Int) := fun i h1 h2 e => hex ⟨i, h1, h2, e⟩
      have h0 : ∀ k, k ≤ a + w → lastN z k (x : Int) < (a : Int) := by
        intro k
        induction k with
        | zero => intro _; show (-1 : Int) < a; omega
        | succ k ih =>
          intro hk
          show (if z k = (x : Int) then (k : Int) else lastN z k (x : Int)) < _
          split
          · rename_i e
            by_cases hka : a ≤ k
            · exact absurd e (hno k hka (by omega))
            · omega
          · exact ih (by omega)
      have h1 : ∀ k, a + w + k ≤ L → lastN z (a + w + k) (x : Int) < (a : Int) := by
        intro k
        induction k with
        | zero => intro _; exact h0 _ (Nat.le_refl _)
        | succ k ih =>
          intro hk
          have q := ih (by omega)
          show (if z (a + w + k) = (x : Int) then ((a + w + k : Nat) : Int) else lastN z (a + w + k) (x : Int)) < _
          split
          · rename_i e
            have := h _ (mem_gapsL.2 (.inl ⟨a + w + k, by omega, by omega, rfl⟩))
            rw [e] at this
            omega
          · exact q
      have h2 := h1 (L - (a + w)) (by omega)
      rw [show a + w + (L - (a + w)) = L by omega] at h2
      have := h _ (mem_gapsL.2 (.inr ⟨x, hx, rfl⟩))
      omega
  · intro h g hg
    rcases mem_gapsL.1 hg with ⟨i, hi, hq, e⟩ | ⟨x, hx, e⟩
    · by_cases hle : g ≤ (w : Int)
      · exact hle
      · exfalso
        have hl := lastN_lt (z := z) i (z i)
        obtain ⟨a, ha⟩ : ∃ a : Nat, lastN z i (z i) + 1 = a := ⟨(lastN z i (z i) + 1).toNat, by omega⟩
        obtain ⟨k, k1, k2, k3⟩ := h (z i).toNat (by omega) a (by omega)
        exact lastN_none (z := z) k (x := z i) (j := i) (by omega) (by omega) (by omega)
    · by_cases hle : g ≤ (w : Int)
      · exact hle
      · exfalso
        have hl := lastN_lt (z := z) L (x : Int)
        obtain ⟨a, ha⟩ : ∃ a : Nat, lastN z L (x : Int) + 1 = a := ⟨(lastN z L (x : Int) + 1).toNat, by omega⟩
        obtain ⟨k, k1, k2, k3⟩ := h x hx a (by omega)
        exact lastN_none (z := z) k (x := (x : Int)) (j := L) (by omega) (by omega) k3
end
end Go.Proofs.Ytjaiahnibeieiaa
