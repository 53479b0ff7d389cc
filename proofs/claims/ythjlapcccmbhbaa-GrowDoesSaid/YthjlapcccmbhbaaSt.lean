/- Rows in which the locks of each node stand as they stood: plain facts. -/
import Derived.Test.YthjlapcccmbhbaaSd
namespace Go.Proofs.Ythjlapcccmbhbaa.Lk
open Go Pa
set_option maxRecDepth 100000

/-- node by node, the same locks one behind the other -/
def Stb (l l' : List Hd) : Prop := ∀ p, l.filter (fun x => eqP x.1 p) = l'.filter (fun x => eqP x.1 p)
theorem Stb.refl (l : List Hd) : Stb l l := fun _ => rfl
theorem Stb.trans {a b c : List Hd} (h : Stb a b) (k : Stb b c) : Stb a c := fun p => (h p).trans (k p)
theorem Stb.symm {a b : List Hd} (h : Stb a b) : Stb b a := fun p => (h p).symm
instance : DecidableEq Pt := fun p q => decidable_of_iff (eqP p q = true) (eqP_iff p q)
theorem count_at (x : Hd) (l : List Hd) : l.count x = (l.filter (fun y => eqP y.1 x.1)).count x := by
  induction l with
  | nil => rfl
  | cons y l ih =>
    rw [List.filter_cons]
    by_cases e : y = x
    · subst e
      rw [if_pos (eqP_self _), List.count_cons_self, List.count_cons_self, ih]
    · rw [List.count_cons_of_ne e]
      split
      · rw [List.count_cons_of_ne e, ih]
      · exact ih
theorem Stb.perm {l l' : List Hd} (h : Stb l l') : l.Perm l' := List.perm_iff_count.2 fun x => by rw [count_at x l, count_at x l', h x.1]
theorem Stb.append {a b c d : List Hd} (h : Stb a b) (k : Stb c d) : Stb (a ++ c) (b ++ d) := fun p => by rw [List.filter_append, List.filter_append, h p, k p]
theorem stb_turn {b c : List Hd} (h : ∀ x ∈ b, ∀ y ∈ c, x.1 ≠ y.1) : Stb (c ++ b) (b ++ c) := fun p => by
  rw [List.filter_append, List.filter_append]
  by_cases hb : ∃ x ∈ b, x.1 = p
  · obtain ⟨x, hx, rfl⟩ := hb
    have e : c.filter (fun y => eqP y.1 x.1) = [] := List.filter_eq_nil_iff.2 fun y hy => by
      rw [eqP_ne (fun e => h x hx y hy e.symm)]; simp
    rw [e, List.nil_append, List.append_nil]
  · have e : b.filter (fun y => eqP y.1 p) = [] := List.filter_eq_nil_iff.2 fun y hy => by
      rw [eqP_ne (fun e => hb ⟨y, hy, e⟩)]; simp
    rw [e, List.nil_append, List.append_nil]
theorem Rf.stb {n : Nat} {f g : Nat → Hd} (h : Rf n f) (hp : Stb (lst n g) (lst n f)) : Rf n g := h.perm hp.perm
def seg (f : Nat → Hd) (i k : Nat) : List Hd := (List.range' i k).map f
theorem seg_ext {f g : Nat → Hd} {i j k : Nat} (h : ∀ x, x < k → f (i + x) = g (j + x)) : seg f i k = seg g j k := by
  apply List.ext_getElem
  · simp [seg]
  · intro x h1 h2
    simp [seg] at h1 ⊢
    exact h x h1
theorem seg_two (f : Nat → Hd) (i k l : Nat) : seg f i (k + l) = seg f i k ++ seg f (i + k) l := by
  unfold seg
  rw [← List.map_append, List.range'_append_1]
theorem lst_seg (n : Nat) (f : Nat → Hd) : lst n f = seg f 0 n := by unfold lst seg; rw [List.range_eq_range']
theorem lst_four {n s m e : Nat} (f : Nat → Hd) (h1 : s ≤ m) (h2 : m ≤ e) (h3 : e ≤ n) : lst n f = seg f 0 s ++ (seg f s (m - s) ++ seg f m (e - m)) ++ seg f e (n - e) := by
  obtain ⟨k1, rfl⟩ : ∃ k, m = s + k := ⟨m - s, by omega⟩
  obtain ⟨k2, rfl⟩ : ∃ k, e = s + k1 + k := ⟨e - (s + k1), by omega⟩
  obtain ⟨k3, rfl⟩ : ∃ k, n = s + k1 + k2 + k := ⟨n - (s + k1 + k2), by omega⟩
  rw [lst_seg, seg_two, seg_two, seg_two, Nat.zero_add, Nat.zero_add, Nat.zero_add, show s + k1 - s = k1 by omega, show s + k1 + k2 - (s + k1) = k2 by omega, show s + k1 + k2 + k3 - (s + k1 + k2) = k3 by omega]
  simp only [List.append_assoc]
theorem stb_rot {n s m e : Nat} {f : Nat → Hd} (h1 : s ≤ m) (h2 : m ≤ e) (h3 : e ≤ n) (hne : ∀ i j, s ≤ i → i < m → m ≤ j → j < e → (f i).1 ≠ (f j).1) : Stb (lst n (rotF f s m e)) (lst n f) := by
  have e1 : seg (rotF f s m e) 0 s = seg f 0 s := seg_ext fun x hx => by unfold rotF; rw [if_neg (by omega), if_neg (by omega)]
  have e2 : seg (rotF f s m e) s (e - m) = seg f m (e - m) := seg_ext fun x hx => by unfold rotF; rw [if_pos (by omega)]; congr 1; omega
  have e3 : seg (rotF f s m e) (s + (e - m)) (m - s) = seg f s (m - s) := seg_ext fun x hx => by unfold rotF; rw [if_neg (by omega), if_pos (by omega)]; congr 1; omega
  have e4 : seg (rotF f s m e) e (n - e) = seg f e (n - e) := seg_ext fun x hx => by unfold rotF; rw [if_neg (by omega), if_neg (by omega)]
  rw [lst_four (s := s) (m := s + (e - m)) (rotF f s m e) (by omega) (by omega) h3, lst_four f h1 h2 h3, e1, e4]
  rw [show s + (e - m) - s = e - m by omega, show e - (s + (e - m)) = m - s by omega, e2, e3]
  refine ((Stb.refl _).append (stb_turn fun x hx y hy => ?_)).append (Stb.refl _)
  obtain ⟨i, hi, rfl⟩ := List.mem_map.1 hx
  obtain ⟨j, hj, rfl⟩ := List.mem_map.1 hy
  rw [List.mem_range'_1] at hi hj
  exact hne i j hi.1 (by omega) hj.1 (by omega)
theorem stb_swap {n i j : Nat} {f : Nat → Hd} (hi : i < n) (hj : j < n) (hij : i = j + 1 ∨ j = i + 1) (hne : (f i).1 ≠ (f j).1) : Stb (lst n (swF f i j)) (lst n f) := by
  rcases hij with rfl | rfl
  · have e : swF f (j + 1) j = rotF f j (j + 1) (j + 2) := by
      funext k
      unfold swF rotF
      repeat' split
      all_goals first | omega | rfl | (congr 1; omega)
    rw [e]
    refine stb_rot (by omega) (by omega) (by omega) fun x y a b c d => ?_
    obtain rfl : x = j := by omega
    obtain rfl : y = x + 1 := by omega
    exact fun e => hne e.symm
  · have e : swF f i (i + 1) = rotF f i (i + 1) (i + 2) := by
      funext k
      unfold swF rotF
      repeat' split
      all_goals first | omega | rfl | (congr 1; omega)
    rw [e]
    refine stb_rot (by omega) (by omega) (by omega) fun x y a b c d => ?_
    obtain rfl : x = i := by omega
    obtain rfl : y = x + 1 := by omega
    exact hne
theorem ltU_ne {x y : Hd} (h : ltU x y = true) : x.1 ≠ y.1 := by
  intro e
  rcases (ltU_iff x y).1 h with h1 | ⟨-, h1⟩
  · rw [e] at h1; omega
  · rw [e] at h1
    unfold lessB at h1
    rw [cmpL_self] at h1
    simp at h1
theorem Cut.stb {n a m b mid s : Nat} {f : Nat → Hd} (hC : Cut f a m b mid s) (hr : Rf n f) (hb : b ≤ n) (h1 : Sf f a m) (h2 : Sf f m b) : Stb (lst n (rotF f s m (mid + m - s))) (lst n f) := by
  have l1 := hC.lo
  have l2 := hC.mb
  have l3 := hC.hm
  have l4 := hC.hi
  refine stb_rot l3 (by omega) (by omega) fun i j x1 x2 y1 y2 => ?_
  have hy := hC.yes s (Nat.le_refl _) (by omega) (by omega)
  have hi := h1.le hr (by omega) (i := s) (j := i) l1 x1 x2
  have hj := h2.le hr hb (i := j) (j := mid + m - 1 - s) y1 (by omega) (by omega)
  cases hh : ltU (f j) (f i)
  · have := leU_tr (hr s (by omega)) (hr j (by omega)) (hr (mid + m - 1 - s) (by omega)) (leU_tr (hr s (by omega)) (hr i (by omega)) (hr j (by omega)) hi hh) hj
    rw [this] at hy
    cases hy
  · exact fun e => ltU_ne hh e.symm
/-- sorted lists in which each node's locks stand alike are one -/
theorem stb_sorted : ∀ {ys zs : List Hd}, (∀ x ∈ ys, rightB x.1 = true) → Stb ys zs → ys.Pairwise (fun a b => ltU b a = false) → zs.Pairwise (fun a b => ltU b a = false) → ys = zs
  | [], zs, _, h, _, _ => by
    cases zs with
    | nil => rfl
    | cons z zs => have := h z.1; simp [eqP_self] at this
  | y :: ys, [], _, h, _, _ => by have := h y.1; simp [eqP_self] at this
  | y :: ys, z :: zs, hr, h, h1, h2 => by
    obtain ⟨a1, b1⟩ := List.pairwise_cons.1 h1
    obtain ⟨a2, b2⟩ := List.pairwise_cons.1 h2
    have hzm : z ∈ y :: ys := h.perm.mem_iff.2 (by simp)
    have hym : y ∈ z :: zs := h.perm.mem_iff.1 (by simp)
    have ry := hr y (by simp)
    have rz := hr z hzm
    have g1 : ltU z y = false := by
      rcases List.mem_cons.1 hzm with e | hm
      · rw [e]; exact ltU_irr ry
      · exact a1 z hm
    have g2 : ltU y z = false := by
      rcases List.mem_cons.1 hym with e | hm
      · rw [e]; exact ltU_irr rz
      · exact a2 y hm
    have he : y.1 = z.1 := by
      have n1 : ¬ ltU z y = true := by rw [g1]; simp
      have n2 : ¬ ltU y z = true := by rw [g2]; simp
      rw [ltU_iff] at n1 n2
      have e0 : y.1.e = z.1.e := by omega
      rcases tree_total ry rz with e | e
      · exact e
      · cases hl : lessB y.1 z.1
        · rw [hl] at e
          have hl2 : lessB z.1 y.1 = true := by simpa using e
          exact absurd (.inr ⟨e0.symm, hl2⟩) n1
        · exact absurd (.inr ⟨e0, hl⟩) n2
    have hyz : y = z := by
      have := h y.1
      rw [List.filter_cons, List.filter_cons, if_pos (eqP_self _), if_pos (by rw [he]; exact eqP_self _)] at this
      exact (List.cons.inj this).1
    subst hyz
    rw [stb_sorted (fun x hx => hr x (by simp [hx])) (fun p => ?_) b1 b2]
    have := h p
    rw [List.filter_cons, List.filter_cons] at this
    split at this
    · exact (List.cons.inj this).2
    · exact this
end Go.Proofs.Ythjlapcccmbhbaa.Lk
