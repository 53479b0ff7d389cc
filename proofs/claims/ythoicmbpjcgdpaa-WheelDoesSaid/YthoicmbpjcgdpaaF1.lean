/- The chapter's example. -/
import Derived.Test.YthoicmbpjcgdpaaM1
namespace Go.Proofs.Ythoicmbpjcgdpaa
open Go Go.RowKit Go.Shelf

/-- what stands of a wheel that was made above what there was -/
def Fresh (w W : World) (b : Nat) (l : List Al) : Prop := ∃ S l2, Wh W b S l2 ∧ l2.Perm l ∧ w.heap.size ≤ b ∧ Below w.heap.size w W
theorem fresh_new (n : Int) (w W : World) (hb : Below w.heap.size w W) : Calls Try.prog 8 #[.int .i64 n] W fun e w' => e = .returned (wp W.heap.size) ∧ Fresh w w' W.heap.size [] ∧ Wh w' W.heap.size (· = W.heap.size) [] ∧ Below W.heap.size W w' :=
  (new_any n W).mono fun _ _ ⟨he, hw, hb2⟩ => ⟨he, ⟨_, _, Wh.new hw, List.Perm.refl _, hb.size, hb.trans (hb2.mono hb.size)⟩, Wh.new hw, hb2⟩
theorem Wh.does {w W w' : World} {b : Nat} {S S' : Nat → Prop} {l l2 : List Al} (h : Wh W b S l) (hw : w.heap.size ≤ b) (hb : Below w.heap.size w W) (h2 : Wh w' b S' l2) (ho : OnlyS S W w') : Fresh w w' b l2 :=
  ⟨S', l2, h2, List.Perm.refl _, hw, hb.trans (ho.below (fun _ hk => Nat.le_trans hw (h.lt hk).1) hb.size)⟩
theorem Fresh.perm {w W : World} {b : Nat} {l m : List Al} (h : Fresh w W b l) (hp : l.Perm m) : Fresh w W b m := by
  obtain ⟨S, l2, h1, h2, h3⟩ := h
  exact ⟨S, l2, h1, h2.trans hp, h3⟩
theorem fresh_set {w W : World} {b : Nat} {l : List Al} (a : Al) (h : Fresh w W b l) (hi : Ids l) (hl : l.length ≤ 1000) :
    Calls Try.prog 9 #[wp b, alv a] W fun e w' => e = .returned (.bool (setB a l)) ∧ Fresh w w' b (setL a l) := by
  obtain ⟨S, l2, h1, h2, h3, h4⟩ := h
  refine (set_any a h1 (by rw [h2.length_eq]; exact hl)).mono ?_
  rintro e w' ⟨S', l3, rfl, k1, k2, k3, k4⟩
  have hi2 := hi.perm h2.symm
  exact ⟨by rw [setB_perm hi2 h2], (h1.does h3 h4 k1 k3).perm (k2.trans (setL_perm hi2 h2 a))⟩
theorem fresh_stop {w W : World} {b : Nat} {l : List Al} (id : Int) (h : Fresh w W b l) (hi : Ids l) :
    Calls Try.prog 11 #[wp b, .int .i64 id] W fun e w' => e = .returned (.bool (findA id l).2) ∧ Fresh w w' b (l.filter (fun x => !(x.1 == id))) := by
  obtain ⟨S, l2, h1, h2, h3, h4⟩ := h
  have hi2 := hi.perm h2.symm
  refine (stop_any id h1 hi2.uniq).mono ?_
  rintro e w' ⟨S', l3, rfl, k1, k2, k3, k4⟩
  exact ⟨by rw [findA_perm hi2 h2], (h1.does h3 h4 k1 k3).perm (k2.trans (h2.filter _))⟩
/-- a list of those that are due, and the wheel without them -/
def FreshDue (w W : World) (b : Nat) (now : Int) (l : List Al) (e : Ending) (w' : World) : Prop :=
  ∃ v, e = .returned v ∧ Row w' W.heap.size v (dueL now (srt l)) ∧ Fresh w w' b (l.filter (fun x => !decide (x.2 ≤ now)))
theorem fresh_due {w W : World} {b : Nat} {l : List Al} (now : Int) (h : Fresh w W b l) (hl : l.length ≤ 1000) :
    Calls Try.prog 14 #[wp b, .int .i64 now] W (FreshDue w W b now l) := by
  obtain ⟨S, l2, h1, h2, h3, h4⟩ := h
  refine (due_any now h1 (by rw [h2.length_eq]; exact hl)).mono ?_
  rintro e w' ⟨v, rfl, k0, k1, k3⟩
  exact ⟨v, rfl, by rw [← dueL_perm h2]; exact k0, (h1.does h3 h4 k1 k3).perm (h2.filter _)⟩
theorem Fresh.below {w W W' : World} {b : Nat} {l : List Al} (h : Fresh w W b l) (hb : Below W.heap.size W W') : Fresh w W' b l := by
  obtain ⟨S, l2, h1, h2, h3, h4⟩ := h
  exact ⟨S, l2, h1.below hb, h2, h3, h4.trans (hb.mono h4.size)⟩
theorem fresh_len {w W : World} {b : Nat} {l : List Al} (h : Fresh w W b l) (hl : l.length ≤ 1000) :
    Calls Try.prog 17 #[wp b] W fun e w' => e = .returned (.int .i64 l.length) ∧ Fresh w w' b l ∧ Below W.heap.size W w' := by
  have h0 := h
  obtain ⟨S, l2, h1, h2, h3, h4⟩ := h
  refine (len_any h1.seen (by rw [h2.length_eq]; exact hl)).mono ?_
  rintro e w' ⟨rfl, hb⟩
  exact ⟨by rw [h2.length_eq], h0.below hb, hb⟩
theorem fresh_at {w W : World} {b : Nat} {l : List Al} (id : Int) (h : Fresh w W b l) (hi : Ids l) :
    Calls Try.prog 18 #[wp b, .int .i64 id] W fun e w' => e = .returned (.tuple #[.int .i64 (findA id l).1.2, .bool (findA id l).2]) ∧ Fresh w w' b l ∧ Below W.heap.size W w' := by
  have h0 := h
  obtain ⟨S, l2, h1, h2, h3, h4⟩ := h
  refine (at_any id h1.seen).mono ?_
  rintro e w' ⟨rfl, hb⟩
  rw [findA_perm (hi.perm h2.symm) h2]
  exact ⟨rfl, h0.below hb, hb⟩
/-- all alarms in a row of their own -/
def FreshAll (w W : World) (b : Nat) (l : List Al) (e : Ending) (w' : World) : Prop :=
  ∃ v, e = .returned v ∧ Row w' W.heap.size v (srt l) ∧ Fresh w w' b l ∧ Below W.heap.size W w'
theorem fresh_all {w W : World} {b : Nat} {l : List Al} (h : Fresh w W b l) (hl : l.length ≤ 1000) :
    Calls Try.prog 16 #[wp b] W (FreshAll w W b l) := by
  have h0 := h
  obtain ⟨S, l2, h1, h2, h3, h4⟩ := h
  refine (lawall_any (fun w' hb => (h1.below hb).seen) (by rw [h2.length_eq]; exact hl)).mono ?_
  rintro e w' ⟨v, rfl, hr, hb⟩
  exact ⟨v, rfl, by rw [← srt_congr h2]; exact hr, h0.below hb, hb⟩

theorem ex_srt : dueL 5 (srt [((1 : Int), (5 : Int)), (2, 69)]) = [(1, 5)] := by
  rw [srt_unique (ys := [((1 : Int), (5 : Int)), (2, 69)]) (List.Perm.refl _) (by simp [before])]
  decide
set_option maxHeartbeats 1000000 in
theorem awake_any (w : World) : Calls Try.prog 7 #[] w fun e w' => e = .returned (.bool true) ∧ Below w.heap.size w w' := by
  go_enter Try.func7, Try.ntmps7
  go_wp2_with fail
  refine (fresh_new 16 w w (Below.refl _ _)).mono ?_
  rintro e w1 ⟨rfl, hf, _, _⟩
  have H1 := Lib.hid hf
  clear hf
  go_wp2_with fail
  refine (fresh_set (1, 5) H1.out Ids.nil (by simp)).mono ?_
  rintro e w2 ⟨rfl, hf⟩
  have e1 : setB (1, 5) [] = true := by decide
  have e2 : setL (1, 5) [] = [(1, 5)] := by decide
  rw [e1]
  rw [e2] at hf
  have H2 := Lib.hid hf
  clear hf e1 e2 H1
  go_wp2_with fail
  refine (fresh_set (2, 69) H2.out (by simp [Ids]) (by simp)).mono ?_
  rintro e w3 ⟨rfl, hf⟩
  have e1 : setB (2, 69) [(1, 5)] = true := by decide
  have e2 : setL (2, 69) [(1, 5)] = [(1, 5), (2, 69)] := by decide
  rw [e1]
  rw [e2] at hf
  have H3 := Lib.hid hf
  clear hf e1 e2 H2
  go_wp2_with fail
  refine (fresh_due 5 H3.out (by simp)).mono ?_
  rintro e w4 ⟨v, rfl, hr, hf⟩
  rw [ex_srt] at hr
  rw [show [((1 : Int), (5 : Int)), (2, 69)].filter (fun x => !decide (x.2 ≤ 5)) = [(2, 69)] by decide] at hf
  have H4 := Lib.hid hf
  rcases hr.2 with ⟨_, h0⟩ | ⟨g, cap, cur, rfl, hgb, hg, hnc, hcm, hcs, hct⟩
  · simp at h0
  · obtain ⟨c1, c2⟩ := row_cells hr (show 0 < [((1 : Int), (5 : Int))].length by simp)
    simp at c1
    clear hr hct hf hg hcs
    go_wp2_with fail
    refine (fresh_len H4.out (by simp)).mono ?_
    rintro e w5 ⟨rfl, ⟨S, l2, _, _, _, hb⟩, _⟩
    go_wp2_with fail
    go_ret
    exact ⟨rfl, hb⟩
end Go.Proofs.Ythoicmbpjcgdpaa
