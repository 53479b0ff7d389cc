/- Plain facts: an arena's places beside the document's. -/
import Derived.Test.YtdfkjojofhleaaaM1
import Derived.Test.YtdfkjojofhleaaaP1
namespace Go.Proofs.Ytdfkjojofhleaaa
open Go Go.RowKit

theorem used_snoc (ps : List Pl) (x : Int) (i : Nat) : usedB (ps ++ [(x, true)]) (i : Int) = (decide (i = ps.length) || usedB ps (i : Int)) := by
  by_cases h : i < ps.length
  · rw [used_at (by rw [List.length_append]; omega), used_at h, List.getElem_append_left h, decide_eq_false (by omega)]; rfl
  · by_cases e : i = ps.length
    · subst e
      rw [used_at (by simp), decide_eq_true rfl]
      simp
    · rw [used_out (by simp; omega), used_out (by omega), decide_eq_false e]; rfl
theorem used_set (ps : List Pl) (x : Int) (u : Bool) {k : Nat} (hk : k < ps.length) (i : Nat) : usedB (ps.set k (x, u)) (i : Int) = if i = k then u else usedB ps (i : Int) := by
  by_cases h : i < ps.length
  · rw [used_at (by rw [List.length_set]; exact h), used_at h, List.getElem_set]
    by_cases e : i = k
    · subst e; simp
    · rw [if_neg (Ne.symm e), if_neg e]
  · rw [used_out (by rw [List.length_set]; omega), used_out (by omega), if_neg (by omega)]
theorem has_snoc (ps : List Pl) (x : Int) {i : Nat} (hu : usedB (ps ++ [(x, true)]) (i : Int) = true) : hasI (ps ++ [(x, true)]) (i : Int) = if i = ps.length then x else hasI ps (i : Int) := by
  obtain ⟨k, hk, e, hv⟩ := used_yes hu
  obtain rfl : i = k := by omega
  rw [has_at hk hv]
  by_cases h : i = ps.length
  · subst h; simp
  · have hl : i < ps.length := by rw [List.length_append, List.length_singleton] at hk; omega
    rw [if_neg h, List.getElem_append_left hl, has_at hl (by rw [List.getElem_append_left hl] at hv; exact hv)]
theorem has_set (ps : List Pl) (x : Int) (u : Bool) {k i : Nat} (hu : usedB (ps.set k (x, u)) (i : Int) = true) : hasI (ps.set k (x, u)) (i : Int) = if i = k then x else hasI ps (i : Int) := by
  obtain ⟨j, hk, e, hv⟩ := used_yes hu
  obtain rfl : i = j := by omega
  rw [has_at hk hv]
  rw [List.length_set] at hk
  by_cases h : i = k
  · subst h; simp
  · rw [List.getElem_set] at hv ⊢
    rw [if_neg (Ne.symm h)] at hv
    rw [if_neg h, if_neg (Ne.symm h), has_at hk hv]
/-- an arena's places and the document's -/
structure Rel (m : Nat) (ps : List Pl) (fs us : List Nat) (X : List Int) (U : List Bool) (fr : List Nat) : Prop where
  inv : Inv ps fs us
  pl : ps.length ≤ m
  ml : m ≤ 100
  xl : X.length = m
  ul : U.length = m
  u : ∀ i : Nat, i < m → U[i]? = some (usedB ps (i : Int))
  x : ∀ i : Nat, usedB ps (i : Int) = true → X[i]? = some (hasI ps (i : Int))
  fr : fr = fs.reverse ++ List.range' ps.length (m - ps.length)
theorem Rel.start {m : Nat} (h : m ≤ 100) : Rel m [] [] [] (List.replicate m 0) (List.replicate m false) (List.range m) := by
  refine ⟨Inv.start, Nat.zero_le _, h, by simp, by simp, fun i hi => ?_, fun i hu => ?_, ?_⟩
  · rw [List.getElem?_replicate, if_pos hi, used_out (by simp)]
  · rw [used_out (by simp)] at hu; cases hu
  · simp [List.range_eq_range']
theorem Rel.ult {m : Nat} {ps : List Pl} {fs us : List Nat} {X : List Int} {U : List Bool} {fr : List Nat} (h : Rel m ps fs us X U fr) {i : Nat} (hu : usedB ps (i : Int) = true) : i < ps.length ∧ i < m := by
  obtain ⟨k, hk, e, _⟩ := used_yes hu
  have := h.pl
  omega
theorem Rel.has {m : Nat} {ps : List Pl} {fs us : List Nat} {X : List Int} {U : List Bool} {fr : List Nat} (h : Rel m ps fs us X U fr) (i : Int) : hasU U i = usedB ps i := by
  by_cases h0 : i < 0
  · rw [hasU_neg h0, used_neg h0]
  · obtain ⟨k, rfl⟩ : ∃ k : Nat, i = k := ⟨i.toNat, by omega⟩
    by_cases hk : k < m
    · have := h.u k hk
      have hl : k < U.length := by rw [h.ul]; exact hk
      rw [hasU_at hl]
      rw [List.getElem?_eq_getElem hl] at this
      exact Option.some.inj this
    · rw [hasU_out (by rw [h.ul]; omega), used_out (by have := h.pl; omega)]
theorem Rel.frlen {m : Nat} {ps : List Pl} {fs us : List Nat} {X : List Int} {U : List Bool} {fr : List Nat} (h : Rel m ps fs us X U fr) : fr.length + ps.length = m + fs.length := by
  have := h.pl
  rw [h.fr]
  simp
  omega
theorem Inv.perm {ps : List Pl} {fs us us' : List Nat} (h : Inv ps fs us) (hp : us.Perm us') : Inv ps fs us' :=
  ⟨(hp.symm.append_right _).trans h.all, fun i hi => by rw [h.used i hi, decide_eq_decide]; exact hp.mem_iff⟩
theorem Rel.new {m : Nat} {ps : List Pl} {us : List Nat} {X : List Int} {U : List Bool} {fr : List Nat} (h : Rel m ps [] us X U fr) (x : Int) (hm : ps.length < m) :
    ∃ fr', fr = ps.length :: fr' ∧ Rel m (ps ++ [(x, true)]) [] (us ++ [ps.length]) (X.set ps.length x) (U.set ps.length true) fr' := by
  have e : m - ps.length = (m - (ps.length + 1)) + 1 := by omega
  refine ⟨List.range' (ps.length + 1) (m - (ps.length + 1)), ?_, (h.inv.new x).1, by simp; omega, h.ml, by simp [h.xl], by simp [h.ul], fun i hi => ?_, fun i hu => ?_, ?_⟩
  · rw [h.fr, e, List.range'_succ]; rfl
  · rw [List.getElem?_set, used_snoc]
    by_cases e : ps.length = i
    · subst e; rw [if_pos rfl, if_pos (by rw [h.ul]; exact hm)]; simp
    · rw [if_neg e, h.u i hi, decide_eq_false (Ne.symm e)]; rfl
  · rw [List.getElem?_set, has_snoc ps x hu]
    by_cases e : ps.length = i
    · subst e; rw [if_pos rfl, if_pos (by rw [h.xl]; exact hm)]; simp
    · rw [if_neg e, if_neg (Ne.symm e)]
      rw [used_snoc, decide_eq_false (Ne.symm e)] at hu
      exact h.x i hu
  · simp
theorem Rel.old {m i : Nat} {ps : List Pl} {gs us : List Nat} {X : List Int} {U : List Bool} {fr : List Nat} (h : Rel m ps (gs ++ [i]) us X U fr) (x : Int) :
    ∃ fr', fr = i :: fr' ∧ Rel m (ps.set i (x, true)) gs (us ++ [i]) (X.set i x) (U.set i true) fr' ∧ i < ps.length := by
  obtain ⟨h1, _, hl⟩ := h.inv.old x
  have hpl := h.pl
  refine ⟨gs.reverse ++ List.range' ps.length (m - ps.length), ?_, ⟨h1, by simpa using h.pl, h.ml, by simp [h.xl], by simp [h.ul], fun j hj => ?_, fun j hu => ?_, by simp⟩, hl⟩
  · rw [h.fr]; simp
  · rw [List.getElem?_set, used_set ps x true hl]
    by_cases e : i = j
    · subst e; rw [if_pos rfl, if_pos (by rw [h.ul]; omega), if_pos rfl]
    · rw [if_neg e, if_neg (Ne.symm e)]; exact h.u j hj
  · rw [List.getElem?_set, has_set ps x true hu]
    by_cases e : i = j
    · subst e; rw [if_pos rfl, if_pos (by rw [h.xl]; omega), if_pos rfl]
    · rw [if_neg e, if_neg (Ne.symm e)]
      rw [used_set ps x true hl, if_neg (Ne.symm e)] at hu
      exact h.x j hu
theorem Rel.free {m k : Nat} {ps : List Pl} {fs us : List Nat} {X : List Int} {U : List Bool} {fr : List Nat} (h : Rel m ps fs us X U fr) (hu : usedB ps (k : Int) = true) :
    ∃ us', Rel m (ps.set k (0, false)) (fs ++ [k]) us' (X.set k 0) (U.set k false) (k :: fr) ∧ fs.length < ps.length := by
  obtain ⟨hk, hkm⟩ := h.ult hu
  have hmem : k ∈ us := by
    have := h.inv.used k hk
    rw [used_at hk] at hu
    rw [hu] at this
    exact of_decide_eq_true this.symm
  have hi := h.inv.perm (List.perm_cons_erase hmem)
  obtain ⟨h1, _, _⟩ := hi.gone
  have hlen := hi.len
  refine ⟨us.erase k, ⟨h1, by simpa using h.pl, h.ml, by simp [h.xl], by simp [h.ul], fun j hj => ?_, fun j hu2 => ?_, ?_⟩, by simp at hlen; omega⟩
  · rw [List.getElem?_set, used_set ps 0 false hk]
    by_cases e : k = j
    · subst e; rw [if_pos rfl, if_pos (by rw [h.ul]; omega), if_pos rfl]
    · rw [if_neg e, if_neg (Ne.symm e)]; exact h.u j hj
  · rw [used_set ps 0 false hk] at hu2
    by_cases e : j = k
    · rw [if_pos e] at hu2; cases hu2
    · rw [if_neg e] at hu2
      rw [List.getElem?_set, if_neg (Ne.symm e), has_set ps 0 false (by rw [used_set ps 0 false hk, if_neg e]; exact hu2), if_neg e]
      exact h.x j hu2
  · rw [h.fr]; simp
theorem Rel.set {m k : Nat} {ps : List Pl} {fs us : List Nat} {X : List Int} {U : List Bool} {fr : List Nat} (h : Rel m ps fs us X U fr) (hu : usedB ps (k : Int) = true) (x : Int) :
    Rel m (ps.set k (x, true)) fs us (X.set k x) U fr := by
  obtain ⟨hk, hkm⟩ := h.ult hu
  refine ⟨⟨by rw [List.length_set]; exact h.inv.all, fun i hi => ?_⟩, by simpa using h.pl, h.ml, by simp [h.xl], h.ul, fun j hj => ?_, fun j hu2 => ?_, by rw [List.length_set]; exact h.fr⟩
  · rw [List.length_set] at hi
    rw [List.getElem_set]
    by_cases e : k = i
    · subst e
      rw [if_pos rfl, ← h.inv.used k hk, ← used_at hk, hu]
    · rw [if_neg e]; exact h.inv.used i hi
  · rw [used_set ps x true hk]
    by_cases e : j = k
    · subst e; rw [if_pos rfl, h.u j hj, hu]
    · rw [if_neg e]; exact h.u j hj
  · rw [List.getElem?_set, has_set ps x true hu2]
    by_cases e : k = j
    · subst e; rw [if_pos rfl, if_pos (by rw [h.xl]; omega), if_pos rfl]
    · rw [if_neg e, if_neg (Ne.symm e)]
      rw [used_set ps x true hk, if_neg (Ne.symm e)] at hu2
      exact h.x j hu2
/-- the used ones that are told rise, and are the document's -/
theorem told_rises (ps : List Pl) (n : Nat) : (usedN ps n).Pairwise (fun a b => a.1 < b.1) := by
  induction n with
  | zero => exact List.Pairwise.nil
  | succ n ih =>
    show (usedN ps n ++ _).Pairwise _
    rw [List.pairwise_append]
    refine ⟨ih, ?_, fun a ha b hb => ?_⟩
    · split
      · split <;> simp
      · simp
    · have h1 := (mem_usedN ha).1
      split at hb
      · split at hb
        · simp at hb; rw [hb]; exact h1
        · cases hb
      · cases hb
end Go.Proofs.Ytdfkjojofhleaaa
