/- The ring that is told: the least of the shortest ways back, number by number; an order of numbers, each behind all to whom it has an edge. -/
import Derived.Test.YtgefponjlliaaaaPE
namespace Go.Proofs.Ytgefponjlliaaaa.Cy

section
variable {l : List Es.Ed} {s x y z : Int} {n m : Nat} {r : List Int}
/-- the least of the shortest ways from x to s, without s at its end: n edges lie behind its first one -/
inductive Gr (l : List Es.Ed) (s : Int) : Nat → Int → List Int → Prop
  | one {x : Int} : EI l x s → Gr l s 0 x [x]
  | more {n : Nat} {x y : Int} {r : List Int} : EI l x y → Ds (EI l) y s (n + 1) → (∀ z m, EI l x z → Wk (EI l) m z s → n + 1 ≤ m) → (∀ z, EI l x z → Wk (EI l) (n + 1) z s → y ≤ z) → Gr l s n y r → Gr l s (n + 1) x (x :: r)
/-- of some numbers of which a condition holds there is a least one -/
theorem least_of {p : Int → Prop} : ∀ {ys : List Int}, (∃ y ∈ ys, p y) → ∃ y ∈ ys, p y ∧ ∀ z ∈ ys, p z → y ≤ z
  | [], h => by obtain ⟨y, hy, _⟩ := h; simp at hy
  | x :: ys, h => by
    by_cases hy : ∃ y ∈ ys, p y
    · obtain ⟨y, h1, h2, h3⟩ := least_of hy
      by_cases hx : p x ∧ x < y
      · exact ⟨x, List.mem_cons_self .., hx.1, fun z hz hp => by
          rcases List.mem_cons.1 hz with rfl | hz
          · exact Int.le_refl _
          · have := h3 z hz hp; omega⟩
      · refine ⟨y, List.mem_cons_of_mem _ h1, h2, fun z hz hp => ?_⟩
        rcases List.mem_cons.1 hz with rfl | hz
        · by_cases h4 : z < y
          · exact absurd ⟨hp, h4⟩ hx
          · omega
        · exact h3 z hz hp
    · obtain ⟨y, h1, h2⟩ := h
      rcases List.mem_cons.1 h1 with rfl | h1
      · exact ⟨y, List.mem_cons_self .., h2, fun z hz hp => by
          rcases List.mem_cons.1 hz with rfl | hz
          · exact Int.le_refl _
          · exact absurd ⟨z, hz, hp⟩ hy⟩
      · exact absurd ⟨y, h1, h2⟩ hy
/-- there is one where there is a way -/
theorem Gr.exists_of : ∀ {n : Nat} {x : Int}, (∃ z, EI l x z ∧ Wk (EI l) n z s) → (∀ z m, EI l x z → Wk (EI l) m z s → n ≤ m) → ∃ r, Gr l s n x r
  | 0, x, ⟨z, e, h⟩, _ => by
    obtain rfl := h.zero
    exact ⟨_, .one e⟩
  | n + 1, x, ⟨z, e, h⟩, hm => by
    obtain ⟨y, hy, ⟨h1, h2⟩, h3⟩ := least_of (p := fun y => EI l x y ∧ Wk (EI l) (n + 1) y s) (ys := fromC x l) ⟨z, mem_fromC.2 e, e, h⟩
    have hd : Ds (EI l) y s (n + 1) := ⟨h2, fun m hw => hm y m h1 hw⟩
    obtain ⟨r, hr⟩ := Gr.exists_of (n := n) (x := y) (by
      cases h2 with
      | cons e k => exact ⟨_, e, k⟩) fun z m e k => by
        have := hd.le _ (.cons e k)
        omega
    exact ⟨_, .more h1 hd hm (fun z e k => h3 z (mem_fromC.2 e) ⟨e, k⟩) hr⟩
theorem Gr.exists (h : Pl (EI l) x s) : ∃ n r, Gr l s n x r := by
  obtain ⟨y, e, hr⟩ := h
  obtain ⟨k, hk⟩ := hr.wk
  have key : ∀ b, (∃ n, (∃ z, EI l x z ∧ Wk (EI l) n z s) ∧ ∀ z m, EI l x z → Wk (EI l) m z s → n ≤ m) ∨ ∀ m, m < b → ¬ ∃ z, EI l x z ∧ Wk (EI l) m z s := by
    intro b
    induction b with
    | zero => exact .inr fun m hm => by omega
    | succ b ih =>
      rcases ih with h | h
      · exact .inl h
      · by_cases hb : ∃ z, EI l x z ∧ Wk (EI l) b z s
        · exact .inl ⟨b, hb, fun z m e k => by
            rcases Nat.lt_or_ge m b with q | q
            · exact absurd ⟨z, e, k⟩ (h m q)
            · exact q⟩
        · refine .inr fun m hm => ?_
          rcases Nat.lt_or_ge m b with q | q
          · exact h m q
          · obtain rfl : m = b := by omega
            exact hb
  rcases key (k + 1) with ⟨n, h1, h2⟩ | h
  · obtain ⟨r, hr⟩ := Gr.exists_of h1 h2
    exact ⟨n, r, hr⟩
  · exact absurd ⟨y, e, hk⟩ (h k (by omega))
theorem Gr.length (h : Gr l s n x r) : r.length = n + 1 := by
  induction h with
  | one => rfl
  | more _ _ _ _ _ ih => rw [List.length_cons, ih]
theorem Gr.head (h : Gr l s n x r) : r[0]? = some x := by cases h <;> rfl
/-- each but the first one is so far from s -/
theorem Gr.far (h : Gr l s n x r) : ∀ i (hi : i < r.length), 0 < i → Ds (EI l) r[i] s (n + 1 - i) := by
  induction h with
  | one => intro i hi h0; simp at hi; omega
  | @more n x y r _ hd _ _ hr ih =>
    intro i hi h0
    obtain ⟨j, rfl⟩ : ∃ j, i = j + 1 := ⟨i - 1, by omega⟩
    simp only [List.getElem_cons_succ]
    rw [show n + 1 + 1 - (j + 1) = n + 1 - j by omega]
    have hj : j < r.length := by simpa using hi
    rcases Nat.eq_zero_or_pos j with h1 | h1
    · subst h1
      have h2 := hr.head
      rw [List.getElem?_eq_getElem hj] at h2
      simp only [Option.some.injEq] at h2
      rw [h2]
      exact hd
    · exact ih j hj h1
/-- each has an edge to the next one, the last one to s -/
theorem Gr.edges (h : Gr l s n x r) : ∀ i (hi : i < r.length), EI l r[i] (if h : i + 1 < r.length then r[i + 1] else s) := by
  induction h with
  | one e =>
    intro i hi
    obtain rfl : i = 0 := by simpa using hi
    exact e
  | @more n x y r e _ _ _ hr ih =>
    intro i hi
    cases i with
    | zero =>
      have h1 : 0 < r.length := by rw [hr.length]; omega
      have h2 := hr.head
      rw [List.getElem?_eq_getElem h1] at h2
      simp only [Option.some.injEq] at h2
      rw [dif_pos (by simpa using h1)]
      simp only [List.getElem_cons_zero, List.getElem_cons_succ, Nat.zero_add, h2]
      exact e
    | succ j =>
      have hj : j < r.length := by simpa using hi
      have h1 := ih j hj
      simp only [List.getElem_cons_succ, List.length_cons]
      by_cases h2 : j + 1 < r.length
      · rw [dif_pos h2] at h1
        rw [dif_pos (by omega)]
        exact h1
      · rw [dif_neg h2] at h1
        rw [dif_neg (by omega)]
        exact h1
end

section
variable {l : List Es.Ed} {s : Int} {n : Nat} {r : List Int}
/-- the least one that is on a ring, and the ring that is told; none, if nobody is -/
inductive Ringed (l : List Es.Ed) : List Int → Prop
  | none : (∀ x, ¬ Pl (EI l) x x) → Ringed l []
  | some {s : Int} {n : Nat} {r : List Int} : Pl (EI l) s s → (∀ x, Pl (EI l) x x → s ≤ x) → Gr l s n s r → Ringed l r
/-- a ring from s back to s: each one is on it, once -/
theorem Gr.nodup (h : Gr l s n s r) : r.Nodup := by
  rw [List.Nodup, List.pairwise_iff_getElem]
  intro i j hi hj hij e
  have h2 := h.far j hj (by omega)
  rw [h.length] at hj
  rcases Nat.eq_zero_or_pos i with h0 | h0
  · subst h0
    have h3 := h.head
    rw [List.getElem?_eq_getElem hi] at h3
    simp only [Option.some.injEq] at h3
    rw [← e, h3] at h2
    have := h2.uniq (Ds.self _ s)
    omega
  · have h1 := h.far i hi h0
    rw [e] at h1
    have := h1.uniq h2
    omega
theorem Gr.on (h : Gr l s n s r) : ∀ x ∈ r, Pl (EI l) x x := by
  intro x hx
  obtain ⟨i, hi, rfl⟩ := List.getElem_of_mem hx
  have h0 : 0 < r.length := by omega
  have hs : r[0] = s := by
    have h3 := h.head
    rw [List.getElem?_eq_getElem h0] at h3
    simpa using h3
  -- from s to r[i]
  have to_ : ∀ k (hk : k < r.length), Rc (EI l) s r[k] := by
    intro k
    induction k with
    | zero => intro hk; rw [hs]; exact .here _
    | succ k ih =>
      intro hk
      have h1 := h.edges k (by omega)
      rw [dif_pos hk] at h1
      exact (ih (by omega)).snoc h1
  -- from r[i] to s
  have back : ∀ m k (hk : k < r.length), r.length - k = m → Pl (EI l) r[k] s := by
    intro m
    induction m with
    | zero => intro k hk he; omega
    | succ m ih =>
      intro k hk he
      have h1 := h.edges k hk
      by_cases h2 : k + 1 < r.length
      · rw [dif_pos h2] at h1
        obtain ⟨y, e, hr⟩ := ih (k + 1) h2 (by omega)
        exact ⟨_, h1, .step e hr⟩
      · rw [dif_neg h2] at h1
        exact .one h1
  exact (back _ i hi rfl).then (to_ i hi)
theorem Ringed.on (h : Ringed l r) : ∀ x ∈ r, Pl (EI l) x x := by
  cases h with
  | none h => intro x hx; simp at hx
  | some _ _ hg => exact hg.on
theorem Ringed.exists (l : List Es.Ed) : ∃ r, Ringed l r := by
  by_cases h : ∃ x, Pl (EI l) x x
  · obtain ⟨x, hx⟩ := h
    obtain ⟨s, _, hs, hl⟩ := least_of (p := fun x => Pl (EI l) x x) (ys := nodesC l) ⟨x, (pl_node hx).1, hx⟩
    obtain ⟨n, r, hr⟩ := Gr.exists hs
    exact ⟨r, .some hs (fun x hx => hl x (pl_node hx).1 hx) hr⟩
  · exact ⟨[], .none fun x hx => h ⟨x, hx⟩⟩
end

section
variable {l : List Es.Ed} {out full : List Int} {x y : Int} {k : Nat}
/-- may stand behind those: a number that does not, and all to whom it has an edge do -/
structure Rdy (l : List Es.Ed) (out : List Int) (x : Int) : Prop where
  node : x ∈ nodesC l
  new : x ∉ out
  all : ∀ y, EI l x y → y ∈ out
/-- the least one that may -/
structure Nxt (l : List Es.Ed) (out : List Int) (x : Int) : Prop where
  rdy : Rdy l out x
  le : ∀ y, Rdy l out y → x ≤ y
theorem Nxt.uniq (h : Nxt l out x) (k : Nxt l out y) : x = y := Int.le_antisymm (h.le y k.rdy) (k.le x h.rdy)
/-- always the least one that may stand there, as long as there is one -/
structure Topo (l : List Es.Ed) (full : List Int) : Prop where
  nxt : ∀ k (h : k < full.length), Nxt l (full.take k) full[k]
  end' : ∀ x, ¬ Rdy l full x
theorem rdy_nxt (h : Rdy l out x) : ∃ y, Nxt l out y := by
  obtain ⟨y, _, h1, h2⟩ := least_of (p := Rdy l out) (ys := nodesC l) ⟨x, h.node, h⟩
  exact ⟨y, h1, fun z hz => h2 z hz.node hz⟩
theorem Topo.exists (l : List Es.Ed) : ∃ full, Topo l full := by
  have key : ∀ b (out : List Int), (∀ k (h : k < out.length), Nxt l (out.take k) out[k]) → out.Nodup → (∀ x ∈ out, x ∈ nodesC l) → (nodesC l).length - out.length = b → ∃ full, Topo l full := by
    intro b
    induction b with
    | zero =>
      intro out h1 h2 h3 h4
      refine ⟨out, h1, fun x hx => ?_⟩
      have := nodup_le (List.nodup_cons.2 ⟨hx.new, h2⟩) (m := nodesC l) fun y hy => by
        rcases List.mem_cons.1 hy with rfl | hy
        · exact hx.node
        · exact h3 y hy
      simp only [List.length_cons] at this
      omega
    | succ b ih =>
      intro out h1 h2 h3 h4
      by_cases h : ∃ x, Rdy l out x
      · obtain ⟨x, hx⟩ := h
        obtain ⟨y, hy⟩ := rdy_nxt hx
        refine ih (out ++ [y]) (fun k hk => ?_) ?_ (fun z hz => ?_) ?_
        · rw [List.length_append, List.length_singleton] at hk
          rcases Nat.lt_or_ge k out.length with q | q
          · rw [List.getElem_append_left q, List.take_append_of_le_length (Nat.le_of_lt q)]
            exact h1 k q
          · obtain rfl : k = out.length := by omega
            rw [List.getElem_concat_length rfl, List.take_left' rfl]
            exact hy
        · rw [List.nodup_append]
          refine ⟨h2, by simp, fun a ha b hb => ?_⟩
          obtain rfl : b = y := by simpa using hb
          rintro rfl
          exact hy.rdy.new ha
        · rcases List.mem_append.1 hz with hz | hz
          · exact h3 z hz
          · obtain rfl : z = y := by simpa using hz
            exact hy.rdy.node
        · rw [List.length_append, List.length_singleton]; omega
      · exact ⟨out, h1, fun x hx => h ⟨x, hx⟩⟩
  exact key _ [] (fun k h => by simp at h) List.nodup_nil (fun x hx => by simp at hx) rfl
theorem Topo.mem (h : Topo l full) : ∀ x ∈ full, x ∈ nodesC l := by
  intro x hx
  obtain ⟨k, hk, rfl⟩ := List.getElem_of_mem hx
  exact (h.nxt k hk).rdy.node
theorem Topo.nodup (h : Topo l full) : full.Nodup := by
  rw [List.Nodup, List.pairwise_iff_getElem]
  intro i j hi hj hij e
  have h1 := (h.nxt j hj).rdy.new
  exact h1 (e ▸ List.mem_take_iff_getElem.2 ⟨i, by omega, rfl⟩)
theorem Topo.len (h : Topo l full) : full.length ≤ (nodesC l).length := nodup_le h.nodup h.mem
/-- the next one is told -/
theorem Topo.at (h : Topo l full) (hx : Nxt l (full.take k) x) : ∃ h : k < full.length, full[k] = x := by
  rcases Nat.lt_or_ge k full.length with q | q
  · exact ⟨q, (h.nxt k q).uniq hx⟩
  · rw [List.take_of_length_le q] at hx
    exact absurd hx.rdy (h.end' x)
/-- all stand in it just if nobody is on a ring -/
theorem Topo.whole (h : Topo l full) : full.length = (nodesC l).length ↔ ∀ x, ¬ Pl (EI l) x x := by
  constructor
  · intro hl x hx
    have hall := nodup_eq h.nodup h.mem (by omega)
    -- an edge goes to an earlier place
    have hid : ∀ {a b : Int}, EI l a b → ∀ i (hi : i < full.length), full[i] = a → ∃ j, ∃ hj : j < full.length, j < i ∧ full[j] = b := fun {a b} e i hi ha => by
      have h1 := (h.nxt i hi).rdy.all b (ha ▸ e)
      obtain ⟨j, hj, e2⟩ := List.mem_take_iff_getElem.1 h1
      exact ⟨j, by omega, by omega, e2⟩
    have hrc : ∀ {a b : Int}, Rc (EI l) a b → ∀ i (hi : i < full.length), full[i] = a → ∃ j, ∃ hj : j < full.length, j ≤ i ∧ full[j] = b := fun {a b} hr => by
      induction hr with
      | here => exact fun i hi ha => ⟨i, hi, Nat.le_refl _, ha⟩
      | step e _ ih =>
        intro i hi ha
        obtain ⟨j, hj, hji, hjb⟩ := hid e i hi ha
        obtain ⟨m, hm, hmj, hmc⟩ := ih j hj hjb
        exact ⟨m, hm, by omega, hmc⟩
    obtain ⟨y, e, hr⟩ := hx
    obtain ⟨i, hi, hix⟩ := List.getElem_of_mem (hall x e.src)
    obtain ⟨j, hj, hji, hjy⟩ := hid e i hi hix
    obtain ⟨m, hm, hmj, hmx⟩ := hrc hr j hj hjy
    have h3 := List.pairwise_iff_getElem.1 h.nodup m i hm hi (by omega)
    exact h3 (hmx.trans hix.symm)
  · intro hno
    refine Nat.le_antisymm h.len ?_
    refine Nat.not_lt.1 fun hlt => ?_
    -- those that don't stand in it
    have hrest : ∃ x ∈ nodesC l, x ∉ full := Classical.byContradiction fun hn => by
      have := nodup_le (asc_nodup (nodesC_asc l)) (m := full) fun x hx => Classical.byContradiction fun hxf => hn ⟨x, hx, hxf⟩
      omega
    obtain ⟨a, ha1, ha2⟩ := hrest
    obtain ⟨x, _, hx⟩ := ring_of (E := EI l) (m := (nodesC l).filter fun x => decide (x ∉ full)) (a := a) (List.mem_filter.2 ⟨ha1, by simpa using ha2⟩) fun x hx => by
      obtain ⟨h1, h2⟩ := List.mem_filter.1 hx
      have h2 : x ∉ full := by simpa using h2
      have h3 : ∃ y, EI l x y ∧ y ∉ full := Classical.byContradiction fun hn => h.end' x ⟨h1, h2, fun y e => Classical.byContradiction fun hy => hn ⟨y, e, hy⟩⟩
      obtain ⟨y, e, hy⟩ := h3
      exact ⟨y, List.mem_filter.2 ⟨e.dst, by simpa using hy⟩, e⟩
    exact hno x hx
end
end Go.Proofs.Ytgefponjlliaaaa.Cy
