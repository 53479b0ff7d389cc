/- Plain facts on the places of an arena: those that are used and those that are free are all. -/
import Derived.Test.YtdfkjojofhleaaaB1
namespace Go.Proofs.Ytdfkjojofhleaaa
open Go Go.RowKit

/-- the used ones and those that were freed are all that were ever taken -/
structure Inv (ps : List Pl) (fs us : List Nat) : Prop where
  all : (us ++ fs).Perm (List.range ps.length)
  used : ∀ i (h : i < ps.length), ps[i].2 = decide (i ∈ us)
theorem Inv.start : Inv [] [] [] := ⟨List.Perm.refl _, fun i h => by simp at h⟩
theorem Inv.len {ps : List Pl} {fs us : List Nat} (h : Inv ps fs us) : us.length + fs.length = ps.length := by
  have := h.all.length_eq
  simpa using this
theorem Inv.nodup {ps : List Pl} {fs us : List Nat} (h : Inv ps fs us) : (us ++ fs).Nodup := h.all.nodup_iff.2 List.nodup_range
theorem Inv.lt {ps : List Pl} {fs us : List Nat} (h : Inv ps fs us) {i : Nat} (hi : i ∈ us ++ fs) : i < ps.length := List.mem_range.1 (h.all.mem_iff.1 hi)
theorem Inv.free {ps : List Pl} {fs us : List Nat} (h : Inv ps fs us) {i : Nat} (hi : i ∈ fs) : i ∉ us := by
  intro hu
  exact (List.nodup_append.1 h.nodup).2.2 i hu i hi rfl
theorem Inv.new {ps : List Pl} {us : List Nat} (h : Inv ps [] us) (x : Int) : Inv (ps ++ [(x, true)]) [] (us ++ [ps.length]) ∧ ps.length ∉ us := by
  have hn : ps.length ∉ us := fun hu => Nat.lt_irrefl _ (h.lt (List.mem_append.2 (.inl hu)))
  refine ⟨⟨?_, fun i hi => ?_⟩, hn⟩
  · have := h.all
    rw [List.append_nil] at this ⊢
    rw [List.length_append, List.length_singleton, List.range_succ]
    exact this.append_right _
  · rw [List.length_append, List.length_singleton] at hi
    by_cases e : i = ps.length
    · subst e; simp
    · rw [List.getElem_append_left (by omega), h.used i (by omega)]
      simp [e]
theorem Inv.old {ps : List Pl} {gs us : List Nat} {i : Nat} (h : Inv ps (gs ++ [i]) us) (x : Int) : Inv (ps.set i (x, true)) gs (us ++ [i]) ∧ i ∉ us ∧ i < ps.length := by
  have hm : i ∈ gs ++ [i] := by simp
  have hl : i < ps.length := h.lt (List.mem_append.2 (.inr hm))
  refine ⟨⟨?_, fun j hj => ?_⟩, h.free hm, hl⟩
  · rw [List.length_set]
    refine List.Perm.trans ?_ h.all
    rw [List.append_assoc]
    exact List.Perm.append_left _ List.perm_append_comm
  · rw [List.length_set] at hj
    rw [List.getElem_set]
    by_cases e : i = j
    · subst e; simp
    · rw [if_neg e, h.used j hj]
      simp [Ne.symm e]
theorem Inv.gone {ps : List Pl} {fs us : List Nat} {o : Nat} (h : Inv ps fs (o :: us)) : Inv (ps.set o (0, false)) (fs ++ [o]) us ∧ o ∉ us ∧ o < ps.length := by
  have hl : o < ps.length := h.lt (by simp)
  have hn : o ∉ us := by
    have := h.nodup
    rw [List.cons_append, List.nodup_cons] at this
    exact fun hu => this.1 (List.mem_append.2 (.inl hu))
  refine ⟨⟨?_, fun j hj => ?_⟩, hn, hl⟩
  · rw [List.length_set]
    refine List.Perm.trans ?_ h.all
    rw [← List.append_assoc]
    exact List.perm_append_comm
  · rw [List.length_set] at hj
    rw [List.getElem_set]
    by_cases e : o = j
    · subst e; simp [hn]
    · rw [if_neg e, h.used j hj]
      simp [Ne.symm e]
/-- a place is taken, or none is left -/
theorem one_take {w W : World} {b m : Nat} {K : Nat → Prop} {ps : List Pl} {fs us : List Nat} (h : One w W b K m ps fs) (hi : Inv ps fs us) (x : Int) :
    (us.length = m ∧ Calls Try.prog 9 #[wp b, .int .i64 x] W fun e w' => e = .returned (.tuple #[.int .i64 0, .bool false]) ∧ One w w' b K m ps fs ∧ Keeps K W w') ∨
    ∃ q ps' fs', q ∉ us ∧ q ≤ 4096 ∧ Inv ps' fs' (us ++ [q]) ∧ Calls Try.prog 9 #[wp b, .int .i64 x] W fun e w' => e = .returned (.tuple #[.int .i64 (q : Int), .bool true]) ∧ One w w' b K m ps' fs' ∧ Keeps K W w' := by
  have hb := h.bounds
  have hl := hi.len
  by_cases hm : m = ps.length - fs.length
  · exact .inl ⟨by omega, one_does h fun S h1 => take_full h1 x hm⟩
  · right
    rcases List.eq_nil_or_concat fs with rfl | ⟨gs, i, hgs⟩
    · obtain ⟨h1, h2⟩ := hi.new x
      exact ⟨ps.length, _, _, h2, by omega, h1, one_does h fun S h1 => take_new h1 x (by simp at hm; omega)⟩
    · rw [List.concat_eq_append] at hgs
      subst hgs
      obtain ⟨h1, h2, h3⟩ := hi.old x
      exact ⟨i, _, _, h2, by omega, h1, one_does h fun S h1 => take_old h1 x h3⟩
theorem one_free {w W : World} {b m o : Nat} {K : Nat → Prop} {ps : List Pl} {fs us : List Nat} (h : One w W b K m ps fs) (hi : Inv ps fs (o :: us)) :
    Calls Try.prog 11 #[wp b, .int .i64 (o : Int)] W fun e w' => e = .returned (.bool true) ∧ One w w' b K m (ps.set o (0, false)) (fs ++ [o]) ∧ Keeps K W w' := by
  obtain ⟨_, _, hl⟩ := hi.gone
  have hln := hi.len
  exact one_does h fun S h1 => free_yes h1 hl (by rw [hi.used o hl]; simp) (by simp at hln; omega)
theorem one_unfree {w W : World} {b m o : Nat} {K : Nat → Prop} {ps : List Pl} {fs : List Nat} (h : One w W b K m (ps.set o (0, false)) fs) (hl : o < ps.length) :
    Calls Try.prog 11 #[wp b, .int .i64 (o : Int)] W fun e w' => e = .returned (.bool false) ∧ One w w' b K m (ps.set o (0, false)) fs ∧ Keeps K W w' :=
  one_does h fun S h1 => free_no h1 (by rw [used_at (by rw [List.length_set]; exact hl)]; simp)
end Go.Proofs.Ytdfkjojofhleaaa
