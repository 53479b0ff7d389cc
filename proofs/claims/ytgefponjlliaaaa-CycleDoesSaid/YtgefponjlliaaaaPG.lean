/- A heap of numbers: what is put goes up, what is taken leaves the last one to go down. -/
import Derived.Test.YtgefponjlliaaaaPF
namespace Go.Proofs.Ytgefponjlliaaaa.Cy

/-- place k of a row -/
def at0 (L : List Nat) (k : Nat) : Nat := L.getD k 0
theorem at0_get {L : List Nat} {k : Nat} (h : k < L.length) : at0 L k = L[k] := by simp [at0, List.getD, h]
theorem at0_mem {L : List Nat} {k : Nat} (h : k < L.length) : at0 L k ∈ L := by rw [at0_get h]; exact List.getElem_mem h
theorem mem_at0 {L : List Nat} {x : Nat} (h : x ∈ L) : ∃ k, k < L.length ∧ at0 L k = x := by
  obtain ⟨k, hk, e⟩ := List.getElem_of_mem h
  exact ⟨k, hk, by rw [at0_get hk, e]⟩
theorem at0_set {L : List Nat} {i : Nat} (hi : i < L.length) (x k : Nat) : at0 (L.set i x) k = if k = i then x else at0 L k := by
  unfold at0
  rw [List.getD, List.getD, List.getElem?_set]
  by_cases h : i = k
  · subst h; simp [hi]
  · simp [h, Ne.symm h]
theorem at0_append {L : List Nat} {x k : Nat} (h : k < L.length) : at0 (L ++ [x]) k = at0 L k := by
  rw [at0_get h, at0_get (by simp; omega), List.getElem_append_left h]
theorem at0_last (L : List Nat) (x : Nat) : at0 (L ++ [x]) L.length = x := by
  rw [at0_get (by simp)]; simp
theorem at0_take {L : List Nat} {m k : Nat} (h : k < m) : at0 (L.take m) k = at0 L k := by
  unfold at0
  rw [List.getD, List.getD, List.getElem?_take, if_pos h]
/-- two change places -/
def swp (L : List Nat) (i j : Nat) : List Nat := (L.set i (at0 L j)).set j (at0 L i)
section
variable {L : List Nat} {i j k m n x : Nat}
theorem swp_len : (swp L i j).length = L.length := by simp [swp]
theorem swp_at (hi : i < L.length) (hj : j < L.length) : at0 (swp L i j) k = if k = j then at0 L i else if k = i then at0 L j else at0 L k := by
  unfold swp
  rw [at0_set (by simpa using hj), at0_set hi]
theorem swp_perm (hi : i < L.length) (hj : j < L.length) : (swp L i j).Perm L := by
  unfold swp
  rw [at0_get hi, at0_get hj]
  exact List.set_set_perm hi hj
/-- each one of the first n is not below its parent -/
def HpN (L : List Nat) (n : Nat) : Prop := ∀ k, 0 < k → k < n → at0 L ((k - 1) / 2) ≤ at0 L k
def Hp (L : List Nat) : Prop := HpN L L.length
theorem Hp.nil : Hp [] := fun k _ h => by simp at h
theorem HpN.least (h : HpN L n) : ∀ k, k < n → at0 L 0 ≤ at0 L k := by
  intro k
  induction k using Nat.strongRecOn with
  | _ k ih =>
    intro hk
    rcases Nat.eq_zero_or_pos k with h0 | h0
    · subst h0; exact Nat.le_refl _
    · exact Nat.le_trans (ih ((k - 1) / 2) (by omega) (by omega)) (h k h0 hk)
theorem HpN.take (h : HpN L n) (hn : n ≤ L.length) : Hp (L.take n) := fun k h0 hk => by
  have hk' : k < n := by rw [List.length_take] at hk; omega
  rw [at0_take (by omega), at0_take hk']
  exact h k h0 hk'
/-- but for the one at j -/
structure UpI (L : List Nat) (j : Nat) : Prop where
  lt : j < L.length
  rest : ∀ k, 0 < k → k < L.length → k ≠ j → at0 L ((k - 1) / 2) ≤ at0 L k
  below : 0 < j → ∀ k, 0 < k → k < L.length → (k - 1) / 2 = j → at0 L ((j - 1) / 2) ≤ at0 L k
theorem UpI.start (h : Hp L) (x : Nat) : UpI (L ++ [x]) L.length := by
  refine ⟨by simp, fun k h0 hk hne => ?_, fun h0 k hk0 hk hp => ?_⟩
  · have hk' : k < L.length := by simp at hk; omega
    rw [at0_append hk', at0_append (by omega)]
    exact h k h0 hk'
  · simp at hk; omega
theorem UpI.step (h : UpI L j) (h0 : 0 < j) (hlt : at0 L j < at0 L ((j - 1) / 2)) : UpI (swp L ((j - 1) / 2) j) ((j - 1) / 2) := by
  obtain ⟨i, hi⟩ : ∃ i, (j - 1) / 2 = i := ⟨_, rfl⟩
  have hij : i < j := by omega
  have hj := h.lt
  have hil : i < L.length := by omega
  rw [hi] at hlt ⊢
  refine ⟨by rw [swp_len]; exact hil, fun k k0 hk hne => ?_, fun hi0 k k0 hk hp => ?_⟩
  · rw [swp_len] at hk
    rw [swp_at hil hj, swp_at hil hj]
    by_cases e1 : k = j
    · subst e1
      rw [if_pos rfl, hi, if_neg (by omega), if_pos rfl]
      omega
    · rw [if_neg e1, if_neg hne]
      have hr := h.rest k k0 hk e1
      by_cases e2 : (k - 1) / 2 = j
      · rw [if_pos e2]
        have := h.below h0 k k0 hk e2
        rw [hi] at this
        exact this
      · rw [if_neg e2]
        by_cases e3 : (k - 1) / 2 = i
        · rw [if_pos e3]; rw [e3] at hr; omega
        · rw [if_neg e3]; exact hr
  · rw [swp_len] at hk
    rw [swp_at hil hj, swp_at hil hj, if_neg (by omega), if_neg (by omega)]
    have h1 := h.rest i hi0 hil (by omega)
    by_cases e1 : k = j
    · rw [if_pos e1]; exact h1
    · rw [if_neg e1, if_neg (by omega)]
      have h2 := h.rest k k0 hk e1
      rw [hp] at h2
      omega
theorem UpI.end' (h : UpI L j) (he : j = 0 ∨ at0 L ((j - 1) / 2) ≤ at0 L j) : Hp L := fun k k0 hk => by
  by_cases e : k = j
  · subst e
    rcases he with he | he
    · omega
    · exact he
  · exact h.rest k k0 hk e
/-- but for those below i -/
structure DnI (L : List Nat) (n i : Nat) : Prop where
  rest : ∀ k, 0 < k → k < n → (k - 1) / 2 ≠ i → at0 L ((k - 1) / 2) ≤ at0 L k
  below : 0 < i → ∀ k, 0 < k → k < n → (k - 1) / 2 = i → at0 L ((i - 1) / 2) ≤ at0 L k
theorem DnI.start (h : Hp L) (hm : L.length = m + 1) : DnI (swp L 0 m) m 0 := by
  refine ⟨fun k k0 hk hp => ?_, fun h0 => by omega⟩
  rw [swp_at (by omega) (by omega), swp_at (by omega) (by omega), if_neg (by omega), if_neg hp, if_neg (by omega), if_neg (by omega)]
  exact h k k0 (by omega)
theorem DnI.step {c : Nat} (h : DnI L n i) (hn : n ≤ L.length) (hi : i < n) (hc : c < n) (hc1 : 0 < c) (hp : (c - 1) / 2 = i) (hl : ∀ k, 0 < k → k < n → (k - 1) / 2 = i → at0 L c ≤ at0 L k) (hlt : at0 L c < at0 L i) : DnI (swp L i c) n c := by
  have hic : i < c := by omega
  have h1 : i < L.length := by omega
  have h2 : c < L.length := by omega
  refine ⟨fun k k0 hk hne => ?_, fun c0 k k0 hk hpk => ?_⟩
  · rw [swp_at h1 h2, swp_at h1 h2, if_neg hne]
    by_cases e1 : k = c
    · subst e1
      rw [hp, if_pos rfl, if_pos rfl]
      omega
    · rw [if_neg e1]
      by_cases e2 : k = i
      · subst e2
        rw [if_neg (by omega), if_pos rfl]
        exact h.below k0 c hc1 hc hp
      · rw [if_neg e2]
        by_cases e3 : (k - 1) / 2 = i
        · rw [if_pos e3]; exact hl k k0 hk e3
        · rw [if_neg e3]; exact h.rest k k0 hk e3
  · rw [swp_at h1 h2, swp_at h1 h2, hp, if_neg (by omega), if_pos rfl, if_neg (by omega), if_neg (by omega)]
    have := h.rest k k0 hk (by omega)
    rw [hpk] at this
    exact this
theorem DnI.end' (h : DnI L n i) (he : ∀ k, 0 < k → k < n → (k - 1) / 2 = i → at0 L i ≤ at0 L k) : HpN L n := fun k k0 hk => by
  by_cases e : (k - 1) / 2 = i
  · rw [e]; exact he k k0 hk e
  · exact h.rest k k0 hk e
/-- on its way down, the one behind the first m stays -/
structure Dn (L : List Nat) (m : Nat) (L' : List Nat) (i : Nat) : Prop where
  perm : L'.Perm L
  last : at0 L' m = at0 L 0
  dn : DnI L' m i
theorem Dn.len {L' : List Nat} (h : Dn L m L' i) : L'.length = L.length := h.perm.length_eq
theorem Dn.start (h : Hp L) (hm : L.length = m + 1) : Dn L m (swp L 0 m) 0 :=
  ⟨swp_perm (by omega) (by omega), by rw [swp_at (by omega) (by omega), if_pos rfl], .start h hm⟩
theorem Dn.step {c : Nat} {L' : List Nat} (h : Dn L m L' i) (hm : L.length = m + 1) (hi : i < m) (hc : c < m) (hc1 : 0 < c) (hp : (c - 1) / 2 = i) (hl : ∀ k, 0 < k → k < m → (k - 1) / 2 = i → at0 L' c ≤ at0 L' k) (hlt : at0 L' c < at0 L' i) : Dn L m (swp L' i c) c := by
  have hl' := h.len
  exact ⟨(swp_perm (by omega) (by omega)).trans h.perm, by rw [swp_at (by omega) (by omega), if_neg (by omega), if_neg (by omega)]; exact h.last, h.dn.step (by omega) hi hc hc1 hp hl hlt⟩
/-- what is left when the least one is taken -/
structure Took (L : List Nat) (x : Nat) (L' : List Nat) : Prop where
  perm : L.Perm (x :: L')
  hp : Hp L'
  le : ∀ y ∈ L, x ≤ y
theorem Dn.took {L' : List Nat} (h : Dn L m L' i) (hh : Hp L) (hm : L.length = m + 1) (hp : HpN L' m) : Took L (at0 L' m) (L'.take m) := by
  have hl := h.len
  refine ⟨?_, hp.take (by omega), fun y hy => ?_⟩
  · have e : L' = L'.take m ++ [at0 L' m] := by
      rw [at0_get (by omega)]
      apply List.ext_getElem
      · simp; omega
      · intro k h1 h2
        rw [List.getElem_append]
        split
        · simp
        · rename_i h3
          rw [List.length_take] at h3
          have : k = m := by omega
          subst this
          simp
    exact h.perm.symm.trans ((List.Perm.of_eq e).trans List.perm_append_comm)
  · obtain ⟨k, hk, rfl⟩ := mem_at0 hy
    rw [h.last]
    exact hh.least k hk
end
end Go.Proofs.Ytgefponjlliaaaa.Cy
