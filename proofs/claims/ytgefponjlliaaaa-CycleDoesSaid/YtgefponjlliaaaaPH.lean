/- Who may stand next in an order, counted. -/
import Derived.Test.YtgefponjlliaaaaHd
import Derived.Test.YtgefponjlliaaaaPG
namespace Go.Proofs.Ytgefponjlliaaaa.Cy

section
variable {to bt : Tos} {O H H' R : List Nat} {f : Nat → Nat} {i a k : Nat}
/-- to how many that don't stand yet it has an edge -/
def opn (to : Tos) (O : List Nat) (i : Nat) : Nat := (nx to i).countP fun j => decide (j ∉ O)
theorem opn_nil (to : Tos) (i : Nat) : opn to [] i = (nx to i).length := by
  unfold opn
  rw [List.countP_eq_length]
  intro a _; simp
theorem opn_zero : opn to O i = 0 ↔ ∀ j ∈ nx to i, j ∈ O := by
  unfold opn
  rw [List.countP_eq_zero]
  simp
theorem opn_snoc (h : a ∉ O) : opn to O i = opn to (O ++ [a]) i + (nx to i).count a := by
  unfold opn
  generalize nx to i = l
  induction l with
  | nil => rfl
  | cons x l ih =>
    rw [List.countP_cons, List.countP_cons, List.count_cons, ih]
    by_cases e : x = a
    · subst e; simp [h]; omega
    · simp [e]; omega
/-- who stands, who may stand next, how many each one waits for, of which those are to be lowered still -/
structure Oi (to : Tos) (O H : List Nat) (f : Nat → Nat) (R : List Nat) : Prop where
  nd : H.Nodup
  mem : ∀ i, i ∈ H ↔ i < to.length ∧ i ∉ O ∧ f i = 0
  miss : ∀ i, i < to.length → f i = opn to O i + R.count i
  clo : ∀ i ∈ O, ∀ j ∈ nx to i, j ∈ O
  lt : ∀ i ∈ O, i < to.length
  ndO : O.Nodup
  out : ∀ i ∈ R, i ∉ O ∧ i < to.length
theorem Oi.start (hn : H.Nodup) (hm : ∀ i, i ∈ H ↔ i < to.length ∧ nx to i = []) (hf : ∀ i, i < to.length → f i = (nx to i).length) : Oi to [] H f [] := by
  refine ⟨hn, fun i => ?_, fun i hi => by rw [opn_nil, hf i hi]; simp, fun i h => by simp at h, fun i h => by simp at h, List.nodup_nil, fun i h => by simp at h⟩
  rw [hm]
  constructor
  · rintro ⟨h1, h2⟩; exact ⟨h1, by simp, by rw [hf i h1, h2]; rfl⟩
  · rintro ⟨h1, _, h2⟩
    rw [hf i h1] at h2
    exact ⟨h1, List.length_eq_zero_iff.1 h2⟩
theorem Oi.all (h : Oi to O H f []) (ha : a ∈ H) : a < to.length ∧ a ∉ O ∧ ∀ j ∈ nx to a, j ∈ O := by
  obtain ⟨h1, h2, h3⟩ := (h.mem a).1 ha
  have h4 := h.miss a h1
  rw [h3] at h4
  simp only [List.count_nil, Nat.add_zero] at h4
  exact ⟨h1, h2, opn_zero.1 h4.symm⟩
theorem Oi.pop (h : Oi to O H f []) (ht : Trn to bt) (hk : H.Perm (a :: H')) : Oi to (O ++ [a]) H' f (nx bt a) := by
  have hnd := List.nodup_cons.1 (hk.nodup_iff.1 h.nd)
  have haH : a ∈ H := hk.mem_iff.2 (List.mem_cons_self ..)
  obtain ⟨h1, h2, h3⟩ := h.all haH
  have hcl : ∀ i ∈ O ++ [a], ∀ j ∈ nx to i, j ∈ O := fun i hi j hj => by
    rcases List.mem_append.1 hi with q | q
    · exact h.clo i q j hj
    · obtain rfl : i = a := by simpa using q
      exact h3 j hj
  refine ⟨hnd.2, fun i => ?_, fun i hi => ?_, fun i hi j hj => List.mem_append.2 (.inl (hcl i hi j hj)), fun i hi => ?_, ?_, fun i hi => ?_⟩
  · constructor
    · intro hi
      have h4 := (h.mem i).1 (hk.mem_iff.2 (List.mem_cons_of_mem _ hi))
      refine ⟨h4.1, ?_, h4.2.2⟩
      rw [List.mem_append]
      rintro (q | q)
      · exact h4.2.1 q
      · obtain rfl : i = a := by simpa using q
        exact hnd.1 hi
    · rintro ⟨h4, h5, h6⟩
      rw [List.mem_append] at h5
      have h7 := hk.mem_iff.1 ((h.mem i).2 ⟨h4, fun q => h5 (.inl q), h6⟩)
      rcases List.mem_cons.1 h7 with q | q
      · exact absurd (.inr (by simp [q])) h5
      · exact q
  · rw [h.miss i hi, opn_snoc h2, ht.cnt]
    simp
  · rcases List.mem_append.1 hi with q | q
    · exact h.lt i q
    · obtain rfl : i = a := by simpa using q
      exact h1
  · rw [List.nodup_append]
    refine ⟨h.ndO, by simp, fun x hx y hy => ?_⟩
    obtain rfl : y = a := by simpa using hy
    rintro rfl
    exact h2 hx
  · have h4 : a ∈ nx to i := by
      rw [← List.count_pos_iff, ← ht.cnt, List.count_pos_iff]
      exact hi
    refine ⟨fun q => h2 (hcl i q a h4), ?_⟩
    rcases Nat.lt_or_ge i to.length with q | q
    · exact q
    · rw [nx_out q] at h4
      simp at h4
theorem Oi.low (h : Oi to O H f (i :: R)) : 1 ≤ f i ∧ (f i ≠ 1 → Oi to O H (upd f i (f i - 1)) R) ∧ (f i = 1 → ∀ H', H'.Perm (i :: H) → Oi to O H' (upd f i (f i - 1)) R) := by
  obtain ⟨h1, h2⟩ := h.out i (List.mem_cons_self ..)
  have h3 := h.miss i h2
  rw [List.count_cons_self] at h3
  have hmiss : ∀ j, j < to.length → upd f i (f i - 1) j = opn to O j + R.count j := fun j hj => by
    unfold upd
    by_cases e : j = i
    · subst e; rw [if_pos rfl]; omega
    · rw [if_neg e, h.miss j hj, List.count_cons_of_ne (fun q => e q.symm)]
  have hout : ∀ j ∈ R, j ∉ O ∧ j < to.length := fun j hj => h.out j (List.mem_cons_of_mem _ hj)
  have hiH : i ∉ H := fun q => by have := ((h.mem i).1 q).2.2; omega
  refine ⟨by omega, fun hne => ⟨h.nd, fun j => ?_, hmiss, h.clo, h.lt, h.ndO, hout⟩, fun he H' hp => ⟨hp.nodup_iff.2 (List.nodup_cons.2 ⟨hiH, h.nd⟩), fun j => ?_, hmiss, h.clo, h.lt, h.ndO, hout⟩⟩
  · rw [h.mem j]
    unfold upd
    by_cases e : j = i
    · subst e; rw [if_pos rfl]
      constructor
      · rintro ⟨_, _, q⟩; omega
      · rintro ⟨_, _, q⟩; omega
    · rw [if_neg e]
  · rw [hp.mem_iff, List.mem_cons, h.mem j]
    unfold upd
    by_cases e : j = i
    · subst e; rw [if_pos rfl]
      constructor
      · intro _; exact ⟨h2, h1, by omega⟩
      · intro _; exact .inl rfl
    · rw [if_neg e]
      constructor
      · rintro (q | q)
        · exact absurd q e
        · exact q
      · exact .inr
end

section
variable {l : List Es.Ed} {nums : List Int} {to : Tos} {O H : List Nat} {f : Nat → Nat} {full : List Int} {a i : Nat}
/-- the numbers of places -/
def numl (nums : List Int) (O : List Nat) : List Int := O.map fun i => nums.getD i 0
theorem numl_length (nums : List Int) (O : List Nat) : (numl nums O).length = O.length := by simp [numl]
theorem numl_snoc (nums : List Int) (O : List Nat) (a : Nat) : numl nums (O ++ [a]) = numl nums O ++ [nums.getD a 0] := by simp [numl]
theorem Wy.mem_numl (hw : Wy l nums to) (hO : ∀ i ∈ O, i < nums.length) (hi : i < nums.length) : nums.getD i 0 ∈ numl nums O ↔ i ∈ O := by
  constructor
  · intro h
    obtain ⟨j, hj, e⟩ := List.mem_map.1 h
    have := hw.inj (hO j hj) hi e
    subst this
    exact hj
  · exact fun h => List.mem_map.2 ⟨i, h, rfl⟩
/-- who is in the heap may stand next, nobody else -/
theorem Oi.rdy (h : Oi to O H f []) (hw : Wy l nums to) (hi : i < nums.length) : Rdy l (numl nums O) (nums.getD i 0) ↔ i ∈ H := by
  have hO : ∀ i ∈ O, i < nums.length := fun i hi => by rw [← hw.len]; exact h.lt i hi
  constructor
  · intro hr
    have h2 : i ∉ O := fun q => hr.new ((hw.mem_numl hO hi).2 q)
    have h3 : ∀ j ∈ nx to i, j ∈ O := fun j hj => by
      have h4 := hr.all _ (hw.ed (show Ed to i j from hj))
      exact (hw.mem_numl hO (hw.lt (show Ed to i j from hj))).1 h4
    refine (h.mem i).2 ⟨by rw [hw.len]; exact hi, h2, ?_⟩
    rw [h.miss i (by rw [hw.len]; exact hi), opn_zero.2 h3]
    simp
  · intro hH
    obtain ⟨_, h2, h3⟩ := h.all hH
    refine ⟨?_, fun q => h2 ((hw.mem_numl hO hi).1 q), fun y e => ?_⟩
    · rw [hw.num hi, ← hw.nums']; exact List.getElem_mem hi
    · rw [hw.num hi] at e
      obtain ⟨j, hj, rfl⟩ := hw.ei hi e
      exact (hw.mem_numl hO (hw.lt hj)).2 (h3 j hj)
theorem Oi.nxt (h : Oi to O H f []) (hw : Wy l nums to) (ha : a ∈ H) (hl : ∀ y ∈ H, a ≤ y) : Nxt l (numl nums O) (nums.getD a 0) := by
  have hal : a < nums.length := by rw [← hw.len]; exact (h.all ha).1
  refine ⟨(h.rdy hw hal).2 ha, fun y hy => ?_⟩
  have hyn := hy.node
  rw [← hw.nums'] at hyn
  obtain ⟨i, hi, e⟩ := List.getElem_of_mem hyn
  have e2 : nums.getD i 0 = y := by rw [hw.num hi]; exact e
  have h1 := hl i ((h.rdy hw hi).1 (e2 ▸ hy))
  rcases Nat.eq_or_lt_of_le h1 with q | q
  · rw [← e2, q]; exact Int.le_refl _
  · have := asc_lt hw.asc hal hi q
    rw [hw.num hal, ← e]
    omega
theorem Oi.stop (h : Oi to O [] f []) (hw : Wy l nums to) : ∀ x, ¬ Rdy l (numl nums O) x := fun x hx => by
  have hxn := hx.node
  rw [← hw.nums'] at hxn
  obtain ⟨i, hi, e⟩ := List.getElem_of_mem hxn
  have e2 : nums.getD i 0 = x := by rw [hw.num hi]; exact e
  have := (h.rdy hw hi).1 (e2 ▸ hx)
  simp at this
/-- so far as it stands it is the beginning of the whole -/
def Beg (full : List Int) (nums : List Int) (O : List Nat) : Prop := numl nums O = full.take O.length
theorem Beg.next (ht : Topo l full) (hb : Beg full nums O) (h : Nxt l (numl nums O) (nums.getD a 0)) : Beg full nums (O ++ [a]) := by
  unfold Beg at hb ⊢
  rw [hb] at h
  obtain ⟨hk, e⟩ := ht.at h
  rw [numl_snoc, hb, List.length_append, List.length_singleton, ← e, List.take_succ_eq_append_getElem hk]
theorem Beg.end' (ht : Topo l full) (hb : Beg full nums O) (h : ∀ x, ¬ Rdy l (numl nums O) x) : numl nums O = full := by
  unfold Beg at hb
  rcases Nat.lt_or_ge O.length full.length with q | q
  · exact absurd (hb ▸ (ht.nxt _ q).rdy) (h _)
  · rw [hb, List.take_of_length_le q]
end
end Go.Proofs.Ytgefponjlliaaaa.Cy
