/- Edges between numbers as ways from place to place: the numbers rise, and so do those to which each leads. -/
import Derived.Test.YtggmnjnigmbooaaGd
import Derived.Test.YtggmnjnigmbooaaGj
import Derived.Test.YtggmnjnigmbooaaPD
namespace Go.Proofs.Ytggmnjnigmbooaa.Cy

/-- all numbers, rising; those to whom edges of one go, rising -/
abbrev nodesC (l : List Es.Ed) : List Int := Od.can Is.ltI (nodesL l)
abbrev fromC (x : Int) (l : List Es.Ed) : List Int := Od.can Is.ltI (fromL x l)
def EI (l : List Es.Ed) (x y : Int) : Prop := (x, y) ∈ l
theorem mem_fromL {l : List Es.Ed} {x y : Int} : y ∈ fromL x l ↔ (x, y) ∈ l := by
  unfold fromL
  simp only [List.mem_map, List.mem_filter, beq_iff_eq]
  constructor
  · rintro ⟨e, ⟨h1, h2⟩, h3⟩
    rw [← h2, ← h3]; exact h1
  · intro h; exact ⟨(x, y), ⟨h, rfl⟩, rfl⟩
theorem mem_fromC {l : List Es.Ed} {x y : Int} : y ∈ fromC x l ↔ EI l x y := Od.can_mem.trans mem_fromL
theorem mem_nodesL {l : List Es.Ed} {x : Int} : x ∈ nodesL l ↔ ∃ y, (x, y) ∈ l ∨ (y, x) ∈ l := by
  unfold nodesL
  simp only [List.mem_flatMap, List.mem_cons, List.not_mem_nil, or_false]
  constructor
  · rintro ⟨e, h1, rfl | rfl⟩
    · exact ⟨e.2, .inl h1⟩
    · exact ⟨e.1, .inr h1⟩
  · rintro ⟨y, h | h⟩
    · exact ⟨_, h, .inl rfl⟩
    · exact ⟨_, h, .inr rfl⟩
theorem mem_nodesC {l : List Es.Ed} {x : Int} : x ∈ nodesC l ↔ ∃ y, (x, y) ∈ l ∨ (y, x) ∈ l := Od.can_mem.trans mem_nodesL
theorem EI.src {l : List Es.Ed} {x y : Int} (h : EI l x y) : x ∈ nodesC l := mem_nodesC.2 ⟨y, .inl h⟩
theorem EI.dst {l : List Es.Ed} {x y : Int} (h : EI l x y) : y ∈ nodesC l := mem_nodesC.2 ⟨x, .inr h⟩
theorem asc_nodup {xs : List Int} (h : Od.Asc Is.ltI xs) : xs.Nodup := h.imp fun {a b} hab => by
  simp only [Is.ltI, decide_eq_true_iff] at hab
  omega
theorem asc_lt {xs : List Int} (h : Od.Asc Is.ltI xs) {i j : Nat} (hi : i < xs.length) (hj : j < xs.length) (hij : i < j) : xs[i] < xs[j] := by
  have := List.pairwise_iff_getElem.1 h i j hi hj hij
  simpa [Is.ltI] using this
theorem asc_lt_iff {xs : List Int} (h : Od.Asc Is.ltI xs) {i j : Nat} (hi : i < xs.length) (hj : j < xs.length) : xs[i] < xs[j] ↔ i < j := by
  constructor
  · intro hlt
    rcases Nat.lt_trichotomy i j with q | q | q
    · exact q
    · subst q; omega
    · have := asc_lt h hj hi q; omega
  · exact asc_lt h hi hj
theorem asc_inj {xs : List Int} (h : Od.Asc Is.ltI xs) {i j : Nat} (hi : i < xs.length) (hj : j < xs.length) (e : xs[i] = xs[j]) : i = j := by
  rcases Nat.lt_trichotomy i j with q | q | q
  · have := asc_lt h hi hj q; omega
  · exact q
  · have := asc_lt h hj hi q; omega
theorem nodesC_asc (l : List Es.Ed) : Od.Asc Is.ltI (nodesC l) := Od.can_asc Is.ordI _
theorem fromC_asc (x : Int) (l : List Es.Ed) : Od.Asc Is.ltI (fromC x l) := Od.can_asc Is.ordI _
theorem nodesC_len (l : List Es.Ed) : (nodesC l).length ≤ 2 * l.length := by
  refine Nat.le_trans (Od.can_len _) ?_
  rw [nodesL_len]
  exact Nat.le_refl _
theorem fromC_len (x : Int) (l : List Es.Ed) : (fromC x l).length ≤ l.length := Nat.le_trans (Od.can_len _) (fromL_len _ _)
/-- of edges in order, each once, those of one go in order -/
theorem fromL_can (x : Int) (l : List Es.Ed) : fromL x (Od.can Es.lessE l) = fromC x l := by
  refine Od.can_is Is.ordI ?_ fun y => ?_
  · have h := Od.can_asc Es.ordE l
    unfold fromL Od.Asc
    rw [List.pairwise_map]
    have h2 := List.Pairwise.filter (fun e : Es.Ed => e.1 == x) h
    refine List.Pairwise.imp_of_mem ?_ h2
    intro a b ha hb hab
    have e1 : a.1 = x := by simpa using (List.mem_filter.1 ha).2
    have e2 : b.1 = x := by simpa using (List.mem_filter.1 hb).2
    rw [Es.lessE_iff] at hab
    simp only [Is.ltI, decide_eq_true_iff]
    omega
  · rw [mem_fromL, mem_fromL, Od.can_mem]

/-- the rows of places of some edges, among numbers -/
def wl (nums : List Int) (E : List Es.Ed) : Tos := nums.map fun x => (fromL x E).map fun y => nums.idxOf y
theorem wl_length (nums : List Int) (E : List Es.Ed) : (wl nums E).length = nums.length := by simp [wl]
theorem wl_get (nums : List Int) (E : List Es.Ed) (i : Nat) (h : i < (wl nums E).length) : (wl nums E)[i] = (fromL (nums[i]'(by rw [wl_length] at h; exact h)) E).map fun y => nums.idxOf y := by simp [wl]
theorem wl_nil (nums : List Int) (i : Nat) (h : i < (wl nums []).length) : (wl nums [])[i] = [] := by rw [wl_get]; rfl
theorem wl_more {nums : List Int} (hn : nums.Nodup) {E : List Es.Ed} {k i j : Nat} (hk : k < E.length) (hi : i < nums.length) (hj : j < nums.length) (e1 : nums[i] = E[k].1) (e2 : nums[j] = E[k].2) :
    wl nums (E.take (k + 1)) = (wl nums (E.take k)).set i ((wl nums (E.take k))[i]'(by rw [wl_length]; exact hi) ++ [j]) := by
  refine List.ext_getElem (by rw [List.length_set, wl_length, wl_length]) fun m h1 h2 => ?_
  rw [wl_length] at h1
  rw [wl_get]
  by_cases hm : m = i
  · subst hm
    rw [List.getElem_set_self, wl_get, fromL_yes hk (by rw [e1]; simp), List.map_append]
    congr 1
    rw [← e2]
    simp only [List.map_cons, List.map_nil]
    rw [List.Nodup.idxOf_getElem hn]
  · rw [List.getElem_set_ne (by omega), wl_get]
    rw [fromL_no hk]
    rw [← e1]
    cases hq : nums[i] == nums[m]
    · rfl
    · have e : nums[i] = nums[m] := by simpa using hq
      refine absurd ?_ hm
      have h3 := List.pairwise_iff_getElem.1 hn
      rcases Nat.lt_trichotomy m i with q | q | q
      · exact absurd e.symm (h3 m i h1 hi q)
      · exact q
      · exact absurd e (h3 i m hi h1 q)
theorem wl_le {nums : List Int} {E : List Es.Ed} {i : Nat} (h : i < (wl nums E).length) : (wl nums E)[i].length ≤ E.length := by
  rw [wl_get, List.length_map]
  exact fromL_len _ _
/-- ways that are those of edges -/
structure Wy (l : List Es.Ed) (nums : List Int) (to : Tos) : Prop where
  nums' : nums = nodesC l
  len : to.length = nums.length
  inn : Inn to
  rows : ∀ i (h : i < nums.length), (nx to i).map (fun j => nums.getD j 0) = fromC nums[i] l
theorem wl_wy (l : List Es.Ed) : Wy l (nodesC l) (wl (nodesC l) (Od.can Es.lessE l)) := by
  have hmem : ∀ {x y : Int}, y ∈ fromL x (Od.can Es.lessE l) → y ∈ nodesC l := fun {x y} h => by
    rw [fromL_can] at h
    exact (mem_fromC.1 h).dst
  refine ⟨rfl, wl_length _ _, fun a b hb => ?_, fun i h => ?_⟩
  · rw [wl_length]
    rcases Nat.lt_or_ge a (wl (nodesC l) (Od.can Es.lessE l)).length with h1 | h1
    · rw [nx_get h1, wl_get] at hb
      obtain ⟨y, hy, rfl⟩ := List.mem_map.1 hb
      exact List.idxOf_lt_length_of_mem (hmem hy)
    · rw [nx_out h1] at hb; simp at hb
  · rw [nx_get (by rw [wl_length]; exact h), wl_get, List.map_map, ← fromL_can]
    rw [List.map_congr_left (g := id) fun y hy => ?_, List.map_id]
    have := List.idxOf_lt_length_of_mem (hmem hy)
    simp only [Function.comp, id]
    rw [List.getD_eq_getElem?_getD, List.getElem?_eq_getElem this]
    simp
section
variable {l : List Es.Ed} {nums : List Int} {to : Tos} {i j n : Nat} {y : Int}
theorem Wy.asc (h : Wy l nums to) : Od.Asc Is.ltI nums := h.nums' ▸ nodesC_asc l
theorem Wy.num (_ : Wy l nums to) (hi : i < nums.length) : nums.getD i 0 = nums[i] := by simp [hi]
theorem Wy.ed (h : Wy l nums to) (e : Ed to i j) : EI l (nums.getD i 0) (nums.getD j 0) := by
  have hi : i < nums.length := h.len ▸ e.src
  have h1 := h.rows i hi
  have h2 : nums.getD j 0 ∈ (nx to i).map (fun j => nums.getD j 0) := List.mem_map_of_mem e
  rw [h1, mem_fromC] at h2
  rw [h.num hi]; exact h2
theorem Wy.ei (h : Wy l nums to) (hi : i < nums.length) (e : EI l nums[i] y) : ∃ j, Ed to i j ∧ nums.getD j 0 = y := by
  have h1 := h.rows i hi
  have h2 := mem_fromC.2 e
  rw [← h1] at h2
  obtain ⟨j, hj, e⟩ := List.mem_map.1 h2
  exact ⟨j, hj, e⟩
theorem Wy.lt (h : Wy l nums to) (e : Ed to i j) : j < nums.length := h.len ▸ e.dst h.inn
theorem Wy.inj (h : Wy l nums to) (hi : i < nums.length) (hj : j < nums.length) (e : nums.getD i 0 = nums.getD j 0) : i = j := by
  rw [h.num hi, h.num hj] at e
  exact asc_inj h.asc hi hj e
theorem Wy.rc (h : Wy l nums to) (e : Rc (Ed to) i j) : Rc (EI l) (nums.getD i 0) (nums.getD j 0) := by
  induction e with
  | here => exact .here _
  | step e _ ih => exact .step (h.ed e) ih
theorem Wy.wk (h : Wy l nums to) (e : Wk (Ed to) n i j) : Wk (EI l) n (nums.getD i 0) (nums.getD j 0) := by
  induction e with
  | nil => exact .nil _
  | cons e _ ih => exact .cons (h.ed e) ih
theorem Wy.wk' (h : Wy l nums to) (hi : i < nums.length) {x : Int} (hx : x = nums.getD i 0) (e : Wk (EI l) n x y) : ∃ j, j < nums.length ∧ nums.getD j 0 = y ∧ Wk (Ed to) n i j := by
  induction e generalizing i with
  | nil => exact ⟨i, hi, hx.symm, .nil _⟩
  | @cons m a b c e _ ih =>
    rw [hx, h.num hi] at e
    obtain ⟨j, hj, e2⟩ := h.ei hi e
    obtain ⟨k, hk, h1, h2⟩ := ih (h.lt hj) e2.symm
    exact ⟨k, hk, h1, .cons hj h2⟩
theorem Wy.wk_iff (h : Wy l nums to) (hi : i < nums.length) (hj : j < nums.length) : Wk (Ed to) n i j ↔ Wk (EI l) n (nums.getD i 0) (nums.getD j 0) :=
  ⟨h.wk, fun e => by
    obtain ⟨k, hk, e1, e2⟩ := h.wk' hi rfl e
    rw [← h.inj hk hj e1]; exact e2⟩
theorem Wy.rc_iff (h : Wy l nums to) (hi : i < nums.length) (hj : j < nums.length) : Rc (Ed to) i j ↔ Rc (EI l) (nums.getD i 0) (nums.getD j 0) :=
  ⟨h.rc, fun e => by
    obtain ⟨n, hn⟩ := e.wk
    exact ((h.wk_iff hi hj).2 hn).rc⟩
theorem Wy.pl_iff (h : Wy l nums to) (hi : i < nums.length) (hj : j < nums.length) : Pl (Ed to) i j ↔ Pl (EI l) (nums.getD i 0) (nums.getD j 0) := by
  constructor
  · rintro ⟨k, e, hr⟩
    exact ⟨_, h.ed e, h.rc hr⟩
  · rintro ⟨y, e, hr⟩
    rw [h.num hi] at e
    obtain ⟨k, e1, rfl⟩ := h.ei hi e
    exact ⟨k, e1, (h.rc_iff (h.lt e1) hj).2 hr⟩
theorem Wy.ds_iff (h : Wy l nums to) (hi : i < nums.length) (hj : j < nums.length) : Ds (Ed to) i j n ↔ Ds (EI l) (nums.getD i 0) (nums.getD j 0) n :=
  ⟨fun d => ⟨h.wk d.wk, fun m hm => d.le m ((h.wk_iff hi hj).2 hm)⟩, fun d => ⟨(h.wk_iff hi hj).2 d.wk, fun m hm => d.le m (h.wk hm)⟩⟩
end
/-- just what a condition holds of, rising -/
structure Rises (p : Int → Prop) (xs : List Int) : Prop where
  asc : Od.Asc Is.ltI xs
  mem : ∀ x, x ∈ xs ↔ p x
theorem Rises.uniq {p : Int → Prop} {xs ys : List Int} (h : Rises p xs) (k : Rises p ys) : xs = ys := Od.asc_ext Is.ordI h.asc k.asc fun x => (h.mem x).trans (k.mem x).symm
/-- places that rise, told by their numbers -/
theorem rises_of {l : List Es.Ed} {nums : List Int} {to : Tos} (h : Wy l nums to) {p : Int → Prop} {on : List Nat} (ha : on.Pairwise (· < ·)) (hm : ∀ i, i ∈ on ↔ i < nums.length ∧ p (nums.getD i 0)) (hp : ∀ x, p x → x ∈ nodesC l) :
    Rises p (on.map fun i => nums.getD i 0) := by
  refine ⟨?_, fun x => ?_⟩
  · unfold Od.Asc
    rw [List.pairwise_map]
    refine List.Pairwise.imp_of_mem ?_ ha
    intro a b ha hb hab
    have h1 := ((hm a).1 ha).1
    have h2 := ((hm b).1 hb).1
    rw [h.num h1, h.num h2]
    simpa [Is.ltI] using asc_lt h.asc h1 h2 hab
  · simp only [List.mem_map]
    constructor
    · rintro ⟨i, hi, rfl⟩
      exact ((hm i).1 hi).2
    · intro hx
      have h1 := hp x hx
      rw [← h.nums'] at h1
      obtain ⟨i, hi, e⟩ := List.getElem_of_mem h1
      exact ⟨i, (hm i).2 ⟨hi, by rw [h.num hi, e]; exact hx⟩, by rw [h.num hi, e]⟩
theorem pl_node {l : List Es.Ed} {x y : Int} (h : Pl (EI l) x y) : x ∈ nodesC l ∧ y ∈ nodesC l := by
  obtain ⟨z, _, e2⟩ := h.last
  obtain ⟨w, e, _⟩ := h
  exact ⟨e.src, e2.dst⟩
end Go.Proofs.Ytggmnjnigmbooaa.Cy
