/- Plain facts on sorting: the order, sorted ranges, what a merge by turns does. -/
import Derived.Test.YthjlapcccmbhbaaSb
import Derived.Test.YthjlapcccmbhbaaSc
namespace Go.Proofs.Ythjlapcccmbhbaa.Lk
open Go Go.RowKit Go.Shelf Pa
set_option maxRecDepth 100000

/-- a lock that goes ahead of another -/
def ltU (x y : Hd) : Bool := decide (cmpU x y < 0)
theorem ltU_iff (x y : Hd) : ltU x y = true ↔ y.1.e < x.1.e ∨ (x.1.e = y.1.e ∧ lessB x.1 y.1 = true) := by
  unfold ltU cmpU
  simp only [decide_eq_true_iff]
  by_cases h : x.1.e = y.1.e
  · rw [if_pos h]
    by_cases hl : lessB x.1 y.1 = true
    · rw [if_pos hl]
      simp [hl, h]
    · rw [if_neg hl]
      constructor
      · intro hh
        split at hh <;> omega
      · rintro (hh | ⟨-, hh⟩)
        · omega
        · exact absurd hh hl
  · rw [if_neg h]
    by_cases h2 : y.1.e < x.1.e
    · rw [if_pos h2]
      simp [h2]
    · rw [if_neg h2]
      constructor
      · intro hh
        omega
      · rintro (hh | ⟨hh, -⟩)
        · exact absurd hh h2
        · exact absurd hh h
theorem less_asym {p q : Pt} (hp : rightB p = true) (hq : rightB q = true) (h : lessB p q = true) : lessB q p = false := by
  cases hh : lessB q p
  · rfl
  · have := tree_less hp hq hp h hh
    rw [(tree_self hp).2] at this
    cases this
theorem ltU_asym {x y : Hd} (hx : rightB x.1 = true) (hy : rightB y.1 = true) (h : ltU x y = true) : ltU y x = false := by
  cases hh : ltU y x
  · rfl
  · rw [ltU_iff] at h hh
    rcases h with h | ⟨h, h2⟩
    · rcases hh with hh | ⟨hh, -⟩ <;> omega
    · rcases hh with hh | ⟨-, hh2⟩
      · omega
      · rw [less_asym hx hy h2] at hh2
        cases hh2
theorem ltU_irr {x : Hd} (hx : rightB x.1 = true) : ltU x x = false := by
  cases hh : ltU x x
  · rfl
  · have := ltU_asym hx hx hh
    rw [hh] at this
    exact this
theorem leU_tr {x y z : Hd} (hx : rightB x.1 = true) (hy : rightB y.1 = true) (hz : rightB z.1 = true) (h1 : ltU y x = false) (h2 : ltU z y = false) : ltU z x = false := by
  cases hh : ltU z x
  · rfl
  · exfalso
    have n1 : ¬ (ltU y x = true) := by rw [h1]; simp
    have n2 : ¬ (ltU z y = true) := by rw [h2]; simp
    rw [ltU_iff] at n1 n2 hh
    have e1 : ¬ x.1.e < y.1.e := fun h => n1 (.inl h)
    have e2 : ¬ y.1.e < z.1.e := fun h => n2 (.inl h)
    rcases hh with hh | ⟨he, hl⟩
    · omega
    · have ey : y.1.e = x.1.e := by omega
      have ez : z.1.e = y.1.e := by omega
      have l1 : ¬ lessB y.1 x.1 = true := fun h => n1 (.inr ⟨ey, h⟩)
      have l2 : ¬ lessB z.1 y.1 = true := fun h => n2 (.inr ⟨ez, h⟩)
      rcases tree_total hx hy with e | e
      · rw [← e] at l2
        exact l2 hl
      · have lx : lessB x.1 y.1 = true := by rw [e]; simpa using l1
        exact l2 (tree_less hz hx hy hl lx)
/-- all may be -/
def Rf (n : Nat) (f : Nat → Hd) : Prop := ∀ k, k < n → rightB (f k).1 = true
theorem Rf.perm {n : Nat} {f g : Nat → Hd} (h : Rf n f) (hp : (lst n g).Perm (lst n f)) : Rf n g := by
  intro k hk
  have : g k ∈ lst n g := List.mem_map.2 ⟨k, List.mem_range.2 hk, rfl⟩
  obtain ⟨j, hj, e⟩ := List.mem_map.1 (hp.mem_iff.1 this)
  rw [← e]
  exact h j (List.mem_range.1 hj)
/-- sorted from a to b -/
def Sf (f : Nat → Hd) (a b : Nat) : Prop := ∀ i j, a ≤ i → i < j → j < b → ltU (f j) (f i) = false
/-- what has moved within a range -/
structure Mv (lo hi : Nat) (f g : Nat → Hd) : Prop where
  out : ∀ k, k < lo ∨ hi ≤ k → g k = f k
  ins : ∀ k, lo ≤ k → k < hi → ∃ k', lo ≤ k' ∧ k' < hi ∧ g k = f k'
theorem Mv.refl (lo hi : Nat) (f : Nat → Hd) : Mv lo hi f f := ⟨fun _ _ => rfl, fun k h1 h2 => ⟨k, h1, h2, rfl⟩⟩
theorem Mv.trans {lo hi : Nat} {f g h : Nat → Hd} (h1 : Mv lo hi f g) (h2 : Mv lo hi g h) : Mv lo hi f h :=
  ⟨fun k hk => (h2.out k hk).trans (h1.out k hk), fun k a b => by
    obtain ⟨k1, a1, b1, e1⟩ := h2.ins k a b
    obtain ⟨k2, a2, b2, e2⟩ := h1.ins k1 a1 b1
    exact ⟨k2, a2, b2, e1.trans e2⟩⟩
theorem Mv.wide {lo hi lo' hi' : Nat} {f g : Nat → Hd} (h : Mv lo hi f g) (h1 : lo' ≤ lo) (h2 : hi ≤ hi') : Mv lo' hi' f g :=
  ⟨fun k hk => h.out k (by omega), fun k a b => by
    by_cases c : lo ≤ k ∧ k < hi
    · obtain ⟨k1, a1, b1, e1⟩ := h.ins k c.1 c.2
      exact ⟨k1, by omega, by omega, e1⟩
    · exact ⟨k, a, b, h.out k (by omega)⟩⟩
theorem Mv.swap (f : Nat → Hd) {lo hi i j : Nat} (hi1 : lo ≤ i) (hi2 : i < hi) (hj1 : lo ≤ j) (hj2 : j < hi) : Mv lo hi f (swF f i j) := by
  refine ⟨fun k hk => ?_, fun k a b => ?_⟩
  · unfold swF
    rw [if_neg (by omega), if_neg (by omega)]
  · unfold swF
    split
    · exact ⟨i, hi1, hi2, rfl⟩
    · split
      · exact ⟨j, hj1, hj2, rfl⟩
      · exact ⟨k, a, b, rfl⟩
theorem Mv.rot (f : Nat → Hd) {s m e : Nat} (h1 : s ≤ m) (h2 : m ≤ e) : Mv s e f (rotF f s m e) := by
  refine ⟨fun k hk => ?_, fun k a b => ?_⟩
  · unfold rotF
    rw [if_neg (by omega), if_neg (by omega)]
  · unfold rotF
    split
    · exact ⟨_, by omega, by omega, rfl⟩
    · split
      · exact ⟨_, by omega, by omega, rfl⟩
      · exact ⟨k, a, b, rfl⟩
theorem Sf.sub {f : Nat → Hd} {a b a' b' : Nat} (h : Sf f a b) (h1 : a ≤ a') (h2 : b' ≤ b) : Sf f a' b' := fun i j x y z => h i j (by omega) y (by omega)
theorem Sf.keep {f g : Nat → Hd} {a b : Nat} (h : Sf f a b) (hk : ∀ k, a ≤ k → k < b → g k = f k) : Sf g a b := fun i j x y z => by
  rw [hk i x (by omega), hk j (by omega) z]
  exact h i j x y z
theorem Sf.le {f : Nat → Hd} {a b n : Nat} (h : Sf f a b) (hr : Rf n f) (hb : b ≤ n) {i j : Nat} (h1 : a ≤ i) (h2 : i ≤ j) (h3 : j < b) : ltU (f j) (f i) = false := by
  rcases Nat.lt_or_ge i j with hij | hij
  · exact h i j h1 hij h3
  · obtain rfl : i = j := by omega
    exact ltU_irr (hr i (by omega))
section
variable {f : Nat → Hd} {n a m b : Nat}
/-- the search is by halves -/
theorem search_mono (hr : Rf n f) (hb : b ≤ n) (h1 : Sf f a m) (h2 : Sf f m b) {p c c' : Nat} (hc : c' ≤ c) (hac : a ≤ c') (hcm : c < m) (hpm : m ≤ p - c) (hpb : p - c' < b) (h : ltU (f (p - c)) (f c) = false) : ltU (f (p - c')) (f c') = false := by
  have g1 := h1.le hr (by omega) hac hc hcm
  have g2 := h2.le hr hb (i := p - c) (j := p - c') hpm (by omega) hpb
  have r1 := hr c' (by omega)
  have r2 := hr c (by omega)
  have r3 := hr (p - c) (by omega)
  have r4 := hr (p - c') (by omega)
  exact leU_tr r1 r3 r4 (leU_tr r1 r2 r3 g1 h) g2
/-- where the search ends, and what that means -/
structure Cut (f : Nat → Hd) (a m b mid s : Nat) : Prop where
  lo : a ≤ s
  mb : mid + m ≤ s + b
  hm : s ≤ m
  hi : s ≤ mid
  no : ∀ c, a ≤ c → mid + m ≤ c + b → c < s → ltU (f (mid + m - 1 - c)) (f c) = false
  yes : ∀ c, s ≤ c → c < m → c < mid → ltU (f (mid + m - 1 - c)) (f c) = true
theorem Cut.cross {mid s : Nat} (hC : Cut f a m b mid s) (hr : Rf n f) (hb : b ≤ n) (ham : a < m) (hmb : m < b) (h1 : Sf f a m) (h2 : Sf f m b) (hmid : mid = (a + b) / 2) :
    ∀ i j, a ≤ i → i < mid → mid ≤ j → j < b → ltU (rotF f s m (mid + m - s) j) (rotF f s m (mid + m - s) i) = false := by
  intro i j hai him hmj hjb
  have := hC.lo
  have := hC.mb
  have := hC.hm
  have := hC.hi
  have ei : rotF f s m (mid + m - s) i = if i < s then f i else f (i + (m - s)) := by
    unfold rotF
    by_cases h : i < s
    · rw [if_neg (by omega), if_neg (by omega), if_pos h]
    · rw [if_pos (by omega), if_neg h]
  have ej : rotF f s m (mid + m - s) j = if j < mid + m - s then f (j - (mid - s)) else f j := by
    unfold rotF
    by_cases h : j < mid + m - s
    · rw [if_neg (by omega), if_pos (by omega), if_pos h]
      congr 1; omega
    · rw [if_neg (by omega), if_neg (by omega), if_neg h]
  rw [ei, ej]
  by_cases hi : i < s
  · rw [if_pos hi]
    by_cases hj : j < mid + m - s
    · rw [if_pos hj]
      exact h1.le hr (by omega) hai (by omega) (by omega)
    · rw [if_neg hj]
      -- what stood ahead in the first part, what stands behind in the second
      by_cases hs : mid + m ≤ (s - 1) + b
      · have hno := hC.no (s - 1) (by omega) hs (by omega)
        have e : mid + m - 1 - (s - 1) = mid + m - s := by omega
        rw [e] at hno
        have g1 := h1.le hr (by omega) (i := i) (j := s - 1) hai (by omega) (by omega)
        have g2 := h2.le hr hb (i := mid + m - s) (j := j) (by omega) (by omega) hjb
        have r1 := hr i (by omega)
        have r2 := hr (s - 1) (by omega)
        have r3 := hr (mid + m - s) (by omega)
        have r4 := hr j (by omega)
        exact leU_tr r1 r3 r4 (leU_tr r1 r2 r3 g1 hno) g2
      · exfalso; omega
  · rw [if_neg hi]
    by_cases hj : j < mid + m - s
    · rw [if_pos hj]
      by_cases hs : s < m ∧ s < mid
      · have hyes := hC.yes s (Nat.le_refl _) hs.1 hs.2
        have g1 := h1.le hr (by omega) (i := s) (j := j - (mid - s)) (by omega) (by omega) (by omega)
        have g2 := h2.le hr hb (i := i + (m - s)) (j := mid + m - 1 - s) (by omega) (by omega) (by omega)
        have r1 := hr (i + (m - s)) (by omega)
        have r2 := hr (mid + m - 1 - s) (by omega)
        have r3 := hr s (by omega)
        have r4 := hr (j - (mid - s)) (by omega)
        exact leU_tr r1 r3 r4 (leU_tr r1 r2 r3 g2 (ltU_asym r2 r3 hyes)) g1
      · exfalso; omega
    · rw [if_neg hj]
      exact h2.le hr hb (by omega) (by omega) hjb
/-- the four parts stay sorted -/
theorem Cut.parts {mid s : Nat} (hC : Cut f a m b mid s) (h1 : Sf f a m) (h2 : Sf f m b) :
    Sf (rotF f s m (mid + m - s)) a s ∧ Sf (rotF f s m (mid + m - s)) s mid ∧ Sf (rotF f s m (mid + m - s)) mid (mid + m - s) ∧ Sf (rotF f s m (mid + m - s)) (mid + m - s) b := by
  have := hC.lo
  have := hC.mb
  have := hC.hm
  have := hC.hi
  refine ⟨(h1.sub (Nat.le_refl _) (by omega)).keep fun k x y => ?_, fun i j x y z => ?_, fun i j x y z => ?_, (h2.sub (by omega) (Nat.le_refl _)).keep fun k x y => ?_⟩
  · unfold rotF
    rw [if_neg (by omega), if_neg (by omega)]
  · unfold rotF
    rw [if_pos (by omega), if_pos (by omega)]
    exact h2 _ _ (by omega) (by omega) (by omega)
  · unfold rotF
    rw [if_neg (by omega), if_pos (by omega), if_neg (by omega), if_pos (by omega)]
    exact h1 _ _ (by omega) (by omega) (by omega)
  · unfold rotF
    rw [if_neg (by omega), if_neg (by omega)]
/-- both halves merged -/
theorem merged {g g1 g2 : Nat → Hd} {mid : Nat} (hc : ∀ i j, a ≤ i → i < mid → mid ≤ j → j < b → ltU (g j) (g i) = false) (m1 : Mv a mid g g1) (s1 : Sf g1 a mid) (m2 : Mv mid b g1 g2) (s2 : Sf g2 mid b) : Sf g2 a b := by
  intro i j x y z
  by_cases hj : j < mid
  · rw [m2.out i (.inl (by omega)), m2.out j (.inl hj)]
    exact s1 i j x y hj
  · by_cases hi : mid ≤ i
    · exact s2 i j hi y z
    · obtain ⟨i', a1, b1, e1⟩ := m1.ins i x (by omega)
      obtain ⟨j', a2, b2, e2⟩ := m2.ins j (by omega) z
      rw [m2.out i (.inl (by omega)), e1, e2, m1.out j' (.inr a2)]
      exact hc i' j' a1 b1 a2 b2
theorem rot_none1 (f : Nat → Hd) (m e : Nat) : rotF f m m e = f := by
  funext k
  unfold rotF
  rw [Nat.sub_self, Nat.add_zero, if_neg (show ¬ (m + (e - m) ≤ k ∧ k < e) by omega)]
  split <;> rfl
theorem rot_none2 (f : Nat → Hd) (s m : Nat) : rotF f s m m = f := by
  funext k
  unfold rotF
  rw [Nat.sub_self, if_neg (by omega)]
  simp
end
end Go.Proofs.Ythjlapcccmbhbaa.Lk
