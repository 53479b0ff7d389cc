/- Plain facts on lists of alarms: in order, without some, with one more. -/
import Derived.Test.YthoicmbpjcgdpaaE3
namespace Go.Proofs.Ythoicmbpjcgdpaa
open Go Go.RowKit Go.Shelf

theorem before_antisymm {x y : Al} (h1 : before y x = false) (h2 : before x y = false) : x = y := by
  simp [before] at *
  exact Prod.ext (by omega) (by omega)
/-- there is one list in order -/
theorem srt_unique {l ys : List Al} (hp : ys.Perm l) (hs : ys.Pairwise (fun x y => before y x = false)) : srt l = ys :=
  List.Perm.eq_of_pairwise (le := fun x y => before y x = false) (fun _ _ _ _ h1 h2 => before_antisymm h1 h2) (srt_sorted l) hs ((srt_perm l).trans hp.symm)
theorem srt_congr {l m : List Al} (h : l.Perm m) : srt l = srt m := srt_unique ((srt_perm m).trans h.symm) (srt_sorted m)
theorem srt_filter (l : List Al) (q : Al → Bool) : srt (l.filter q) = (srt l).filter q :=
  srt_unique ((srt_perm l).filter q) ((srt_sorted l).sublist List.filter_sublist)

/-- no two have one number, and none stands twice -/
def Ids (l : List Al) : Prop := (l.map (·.1)).Nodup
theorem Ids.perm {l m : List Al} (h : Ids l) (hp : l.Perm m) : Ids m := (hp.map _).nodup_iff.1 h
theorem Ids.nil : Ids [] := by simp [Ids]
theorem Ids.filter {l : List Al} (h : Ids l) (q : Al → Bool) : Ids (l.filter q) := List.Nodup.sublist (List.Sublist.map _ List.filter_sublist) h
theorem Ids.uniq {l : List Al} (h : Ids l) : Uniq l := by
  unfold Ids at h
  induction l with
  | nil => intro x hx; simp at hx
  | cons a l ih =>
    rw [List.map_cons, List.nodup_cons] at h
    intro x hx y hy e
    rcases List.mem_cons.1 hx with rfl | hx2 <;> rcases List.mem_cons.1 hy with rfl | hy2
    · rfl
    · exact absurd (by rw [e]; exact List.mem_map_of_mem hy2) h.1
    · exact absurd (by rw [← e]; exact List.mem_map_of_mem hx2) h.1
    · exact ih h.2 x hx2 y hy2 e
theorem Ids.nodup {l : List Al} (h : Ids l) : l.Nodup := by
  unfold Ids at h
  rw [List.Nodup, List.pairwise_map] at h
  exact h.imp fun hne e => hne (by rw [e])
theorem Ids.set {l : List Al} {a : Al} (h : Ids l) : Ids (setL a l) := by
  unfold setL
  cases hs : setB a l
  · exact h
  · unfold setB at hs
    rw [Bool.and_eq_true, Bool.not_eq_true'] at hs
    have hn := findA_no hs.2
    simp only [if_true]
    unfold Ids at *
    rw [List.map_append, List.nodup_append]
    refine ⟨h, by simp, ?_⟩
    intro x hx y hy e
    simp at hy
    obtain ⟨z, hz, rfl⟩ := List.mem_map.1 hx
    exact hn z hz (by rw [e, hy])
theorem setL_length (a : Al) (l : List Al) : (setL a l).length ≤ l.length + 1 := by unfold setL; split <;> simp
/-- in order, the one strictly behind the other -/
theorem srt_strict {l : List Al} (h : Ids l) : (srt l).Pairwise (fun x y => before x y = true) := by
  have hn : (srt l).Nodup := (h.perm (srt_perm l).symm).nodup
  have hs := srt_sorted l
  rw [List.Nodup] at hn
  refine (hs.and hn).imp ?_
  rintro x y ⟨h1, h2⟩
  cases hb : before x y
  · exact absurd (before_antisymm h1 hb) h2
  · rfl
theorem findA_mem {l : List Al} (h : Ids l) {x : Al} (hx : x ∈ l) : findA x.1 l = (x, true) := by
  have h2 : (findA x.1 l).2 = true := by
    cases hf : (findA x.1 l).2
    · exact absurd rfl (findA_no hf x hx)
    · rfl
  obtain ⟨h3, h4⟩ := findA_yes h2
  exact Prod.ext (h.uniq _ h3 _ hx h4) h2
/-- what is found hangs on no order -/
theorem findA_perm {l m : List Al} (h : Ids l) (hp : l.Perm m) (id : Int) : findA id l = findA id m := by
  have hm := h.perm hp
  cases hf : (findA id l).2
  · have hn : (findA id m).2 = false := by
      cases hf2 : (findA id m).2
      · rfl
      · obtain ⟨h3, h4⟩ := findA_yes hf2
        exact absurd h4 (findA_no hf _ (hp.mem_iff.2 h3))
    rw [find_all_none (findA_no hf), find_all_none (findA_no hn)]
  · obtain ⟨h3, h4⟩ := findA_yes hf
    have e1 := findA_mem h h3
    have e2 := findA_mem hm (hp.mem_iff.1 h3)
    rw [h4] at e1 e2
    rw [e1, e2]
theorem setB_perm {l m : List Al} (h : Ids l) (hp : l.Perm m) (a : Al) : setB a l = setB a m := by unfold setB; rw [findA_perm h hp]
theorem setL_perm {l m : List Al} (h : Ids l) (hp : l.Perm m) (a : Al) : (setL a l).Perm (setL a m) := by
  unfold setL
  rw [setB_perm h hp]
  split
  · exact hp.append_right _
  · exact hp
/-- of a list in order those that are due are those whose time isn't above -/
theorem dueL_filter (now : Int) (l : List Al) : dueL now (srt l) = (srt l).filter (fun x => decide (x.2 ≤ now)) := by
  have hs := srt_sorted l
  generalize srt l = ys at hs ⊢
  unfold dueL
  induction ys with
  | nil => rfl
  | cons y ys ih =>
    rw [List.takeWhile_cons, List.filter_cons]
    by_cases hy : y.2 ≤ now
    · rw [if_pos (by simpa using hy), if_pos (by simpa using hy), ih hs.of_cons]
    · rw [if_neg (by simpa using hy), if_neg (by simpa using hy)]
      refine (List.filter_eq_nil_iff.2 fun x hx => ?_).symm
      have := List.rel_of_pairwise_cons hs hx
      simp [before] at this
      simp
      omega
theorem dueL_perm {l m : List Al} (hp : l.Perm m) (now : Int) : dueL now (srt l) = dueL now (srt m) := by rw [srt_congr hp]

theorem Wh.new {W : World} {b u : Nat} (h : WheelAt W b u (fun _ => []) (fun _ => .slice none 0 0)) : Wh W b (· = b) [] := by
  refine ⟨u, _, _, h, ?_, fun i _ x hx => by simp at hx, fun k => ?_⟩
  · induction u with
    | zero => rfl
    | succ u ih => simp [alls]
  · unfold Fp
    simp [Value.ownBlock]
end Go.Proofs.Ythoicmbpjcgdpaa
