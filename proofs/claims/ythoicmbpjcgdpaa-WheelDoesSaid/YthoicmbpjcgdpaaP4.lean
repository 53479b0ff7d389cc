/- What an alarm that is set leaves of the document's wheel. -/
import Derived.Test.YthoicmbpjcgdpaaP3
import Derived.Deep.QuietTactic
import Derived.BigQuiet
namespace Go.Proofs.Ythoicmbpjcgdpaa
open Go Go.RowKit Go.Shelf

theorem grown_bel {B : Nat} {w w' : World} (h : w.grownBy w' none) (hB : B ≤ w.heap.size) : Below B w w' :=
  ⟨h.os, h.tape, h.output, h.size, fun k hk => h.block k (Nat.lt_of_lt_of_le hk hB) (by simp)⟩
theorem row_part {W : World} {base g cap : Nat} {ys : List Al} (h : Row W base (.slice (some ⟨g, 0, none⟩) ys.length cap) ys) : ∀ j u, (flat ys)[j]? = some u → W.cell? ((⟨g, 0, none⟩ : Addr).add j) = some u := by
  intro j u hj
  have hjl : j < ys.length * 2 := by
    have := (List.getElem?_eq_some_iff.1 hj).1
    rwa [flat_length] at this
  have hd : j / 2 < ys.length := by omega
  obtain ⟨f1, f2⟩ := flat_at _ (j / 2) hd
  obtain ⟨c1, c2⟩ := row_cells h hd
  rw [add_at]
  rcases Nat.mod_two_eq_zero_or_one j with e | e
  · have e2 : j / 2 * 2 = j := by omega
    rw [e2] at f1 c1
    rw [hj] at f1
    rw [f1, ← c1]
  · have e2 : j / 2 * 2 + 1 = j := by omega
    rw [e2] at f2 c2
    rw [hj] at f2
    rw [f2, ← c2]
/-- the list with one more in its place -/
abbrev putIn (a : Al) (xs : List Al) (j : Nat) : List Al := xs.take j ++ ([a] ++ xs.drop j)
theorem flat_put (a : Al) (xs : List Al) (j : Nat) : flat (putIn a xs j) = flat (xs.take j) ++ flat ([a] ++ xs.drop j) := flat_append _ _
theorem flat_one' (a : Al) (ys : List Al) : flat ([a] ++ ys) = [.int .i64 a.1, .int .i64 a.2] ++ flat ys := by simp [flat]
theorem rset_done {W w6 : World} {bx c n j g6 cap6 base : Nat} {A : Option Addr} {a : Al} {xs : List Al} (h : RefAt W bx A c xs) (hb6 : Below W.heap.size W w6) (hn : xs.length = n) (hj : j ≤ n) (hs : n ≤ 900) (hz : W.heap.size ≤ base) 
    (hown : w6.ownsRow base 31 2 (.slice (some ⟨g6, 0, none⟩) (j + (1 + (n - j))) cap6) (j + (1 + (n - j))) (flat (xs.take j) ++ flat ([a] ++ xs.drop j))) :
    RStop W bx A true (putIn a xs j) (.returned (.bool true)) (w6.setCell ⟨bx, 0, none⟩ (.slice (some ⟨g6, 0, none⟩) (j + (1 + (n - j))) cap6)) := by
  have hl : (putIn a xs j).length = j + (1 + (n - j)) := by
    simp [putIn, List.length_take, List.length_drop, hn]; omega
  have hr : Row w6 base (.slice (some ⟨g6, 0, none⟩) (putIn a xs j).length cap6) (putIn a xs j) := by
    unfold Row
    rw [flat_put, hl]
    exact hown
  have h6 := h.below hb6
  obtain ⟨e1, e2, e3⟩ := ref_of_row hr (Nat.lt_of_lt_of_le h.lt hz) (by rw [hl]; omega) h6.cell h6.free (OnlyS.of_below hb6) hz
  rw [hl] at e1 e2
  exact ⟨_, _, rfl, e1, e2, fun k hk => .inr (e3 k hk)⟩
theorem rset_done2 {W w6 : World} {bx c n g6 cap6 base : Nat} {A : Option Addr} {a : Al} {xs : List Al} (h : RefAt W bx A c xs) (hb6 : Below W.heap.size W w6) (hn : xs.length = n) (hs : n ≤ 900) (hz : W.heap.size ≤ base)
    (hown : w6.ownsRow base 31 2 (.slice (some ⟨g6, 0, none⟩) (n + 1) cap6) (n + 1) (flat (xs.take n) ++ [.int .i64 a.1, .int .i64 a.2])) :
    RStop W bx A true (putIn a xs n) (.returned (.bool true)) (w6.setCell ⟨bx, 0, none⟩ (.slice (some ⟨g6, 0, none⟩) (n + 1) cap6)) := by
  have e : n + (1 + (n - n)) = n + 1 := by omega
  have e2 : flat ([a] ++ xs.drop n) = [.int .i64 a.1, .int .i64 a.2] := by rw [List.drop_of_length_le (Nat.le_of_eq hn)]; rfl
  have := rset_done (a := a) (j := n) (cap6 := cap6) (g6 := g6) h hb6 hn (Nat.le_refl _) hs hz (by rw [e, e2]; exact hown)
  rw [e] at this
  exact this
theorem row_at {W : World} {base g5 cap5 n j : Nat} {a : Al} {xs : List Al} (h : W.ownsRow base 31 2 (.slice (some ⟨g5, 0, none⟩) (1 + (n - j)) cap5) (1 + (n - j)) (flat ([a] ++ xs.drop j))) (hn : xs.length = n) :
    ∀ k u, (flat ([a] ++ xs.drop j))[k]? = some u → W.cell? ((⟨g5, 0, none⟩ : Addr).add k) = some u := by
  have hl : ([a] ++ xs.drop j).length = 1 + (n - j) := by simp [hn]; omega
  rw [← hl] at h
  exact row_part h
/-- where the walk stands ahead of the store -/
def Stands (a : Al) (xs : List Al) (j : Nat) : Prop := j ≤ xs.length ∧ (∀ y ∈ xs.take j, before y a = true) ∧ (j < xs.length → ∃ h : j < xs.length, before xs[j] a = false)

theorem before_flip {x y : Al} (h : before x y = true) : before y x = false := by simp [before] at *; omega
theorem before_chain {x y z : Al} (h1 : before x y = false) (h2 : before y z = false) : before x z = false := by simp [before] at *; omega
theorem put_srt {a : Al} {l : List Al} {j : Nat} (h : Stands a (srt l) j) : putIn a (srt l) j = srt (l ++ [a]) := by
  obtain ⟨h1, h2, h3⟩ := h
  have hs := srt_sorted l
  refine (srt_unique ?_ ?_).symm
  · have e : ((srt l).take j ++ (srt l).drop j) = srt l := List.take_append_drop _ _
    have p1 : (putIn a (srt l) j).Perm ((srt l).take j ++ (srt l).drop j ++ [a]) := by
      rw [putIn, List.append_assoc]
      exact List.Perm.append_left _ List.perm_append_comm
    rw [e] at p1
    exact p1.trans ((srt_perm l).append_right _)
  · have hs' := hs
    rw [← List.take_append_drop j (srt l), List.pairwise_append] at hs'
    obtain ⟨s1, s2, s3⟩ := hs'
    have hd : ∀ y ∈ (srt l).drop j, before y a = false := by
      intro y hy
      by_cases hj : j < (srt l).length
      · obtain ⟨q, hq⟩ := h3 hj
        rw [List.drop_eq_getElem_cons hj] at hy s2
        rcases List.mem_cons.1 hy with rfl | hy
        · exact hq
        · exact before_chain ((List.pairwise_cons.1 s2).1 y hy) hq
      · rw [List.drop_of_length_le (by omega)] at hy
        simp at hy
    rw [putIn, List.pairwise_append]
    refine ⟨s1, ?_, ?_⟩
    · rw [List.singleton_append, List.pairwise_cons]
      exact ⟨hd, s2⟩
    · intro x hx y hy
      rcases List.mem_append.1 hy with hy | hy
      · rw [List.mem_singleton.1 hy]; exact before_flip (h2 x hx)
      · exact s3 x hx y hy
theorem due_srt (now : Int) (l : List Al) : srt (l.filter (fun x => !decide (x.2 ≤ now))) = (srt l).drop (dueL now (srt l)).length := by
  rw [srt_filter]
  have hs := srt_sorted l
  generalize srt l = xs at hs ⊢
  induction xs with
  | nil => simp [dueL]
  | cons x xs ih =>
    obtain ⟨h1, h2⟩ := List.pairwise_cons.1 hs
    by_cases hx : x.2 ≤ now
    · have e : dueL now (x :: xs) = x :: dueL now xs := by simp [dueL, hx]
      rw [e, List.length_cons, List.drop_succ_cons, ← ih h2]
      simp [hx]
    · have e : dueL now (x :: xs) = [] := by simp [dueL, hx]
      rw [e, List.length_nil, List.drop_zero]
      refine List.filter_eq_self.2 ?_
      intro y hy
      rcases List.mem_cons.1 hy with rfl | hy
      · simp; omega
      · have := h1 y hy
        simp [before] at this
        simp
        omega
theorem stop_srt (id : Int) (l : List Al) : stopR id (srt l) = srt (l.filter (fun x => !(x.1 == id))) := (srt_filter l _).symm
theorem rset_no1 {W : World} {bx c i : Nat} {A : Option Addr} {xs : List Al} (a : Al) (h : RefAt W bx A c xs) (hx : idxP (isId a.1) xs = i) :
    Calls Try.prog 10 #[wp bx, alv a] W (RStop W bx A false xs) := by
  have hb0 := box_below W (.cells #[.int .i64 a.1, .int .i64 a.2] 31)
  have HF := Lib.hid (rfind_any a.1 (h.below hb0))
  rw [hx] at HF
  have H := Lib.hid h
  have hi : (0 : Int) ≤ (i : Int) := by omega
  clear h hx
  set_option maxRecDepth 100000 in
  go_enter Try.func10, Try.ntmps10
  go_wp2_with fail
  refine HF.out.mono ?_
  rintro e w1 ⟨rfl, hb1⟩
  have hb1' : Below W.heap.size W w1 := hb0.trans (hb1.mono hb0.size)
  clear hb0 hb1 HF
  go_wp2_with fail
  go_ret
  exact ⟨_, _, rfl, H.out.below hb1', OnlyS.of_below hb1', fun k hk => .inl hk⟩
theorem rset_no2 {W : World} {bx c : Nat} {A : Option Addr} {xs : List Al} (a : Al) (h : RefAt W bx A c xs) (hx : idxP (isId a.1) xs = -1) (h0 : a.2 < 0) :
    Calls Try.prog 10 #[wp bx, alv a] W (RStop W bx A false xs) := by
  have hb0 := box_below W (.cells #[.int .i64 a.1, .int .i64 a.2] 31)
  have HF := Lib.hid (rfind_any a.1 (h.below hb0))
  rw [hx] at HF
  have H := Lib.hid h
  have h0b : decide (a.2 < 0) = true := by simpa using h0
  clear h hx
  set_option maxRecDepth 100000 in
  go_enter Try.func10, Try.ntmps10
  go_wp2_with fail
  refine HF.out.mono ?_
  rintro e w1 ⟨rfl, hb1⟩
  have k1 : w1.cell? ⟨W.heap.size, 1, none⟩ = some (.int .i64 a.2) := (hb1.cell (p := ⟨W.heap.size, 1, none⟩) (by simp)).trans (BoxA.new W a).c1
  have hb1' : Below W.heap.size W w1 := hb0.trans (hb1.mono hb0.size)
  clear hb0 hb1 HF
  go_wp2_with fail
  go_ret
  exact ⟨_, _, rfl, H.out.below hb1', OnlyS.of_below hb1', fun k hk => .inl hk⟩
set_option maxRecDepth 100000 in
set_option maxHeartbeats 4000000 in
theorem rset_nil {W : World} {bx c : Nat} {xs : List Al} (a : Al) (h : RefAt W bx none c xs) (h0 : 0 ≤ a.2) :
    Calls Try.prog 10 #[wp bx, alv a] W (fun e w' => ∃ j, Stands a xs j ∧ RStop W bx none true (putIn a xs j) e w') := by
  obtain ⟨rfl, rfl⟩ := h.lst.nil rfl
  have hb0 := box_below W (.cells #[.int .i64 a.1, .int .i64 a.2] 31)
  have HF := Lib.hid (rfind_any a.1 (h.below hb0))
  rw [show idxP (isId a.1) [] = -1 from rfl] at HF
  have H := Lib.hid h
  have h0b : decide (a.2 < 0) = false := by simp; omega
  clear h
  go_enter Try.func10, Try.ntmps10
  go_wp2_with fail
  refine HF.out.mono ?_
  rintro e w1 ⟨rfl, hb1⟩
  have k0 : w1.cell? ⟨W.heap.size, 0, none⟩ = some (.int .i64 a.1) := (hb1.cell (p := ⟨W.heap.size, 0, none⟩) (by simp)).trans (BoxA.new W a).c0
  have k1 : w1.cell? ⟨W.heap.size, 1, none⟩ = some (.int .i64 a.2) := (hb1.cell (p := ⟨W.heap.size, 1, none⟩) (by simp)).trans (BoxA.new W a).c1
  have hb1' : Below W.heap.size W w1 := hb0.trans (hb1.mono hb0.size)
  have hz1 : W.heap.size < w1.heap.size := cell_lt k0
  have hc := (H.out.below hb1').cell
  simp only [List.length_nil] at hc
  clear HF hb0 hb1
  go_wp2_with fail
  go_loopw [5] (fun t wr => t = .int .i64 0 ∧ wr = w1) (fun t _ => 0)
  case atStart => exact ⟨rfl, rfl⟩
  case round =>
    obtain ⟨rfl, rfl⟩ := hrel
    go_wp2_with fail
    go_quiet (fail)
    have hb2 := hb1'.trans ((drewN_below wr nq).mono hb1'.size)
    have m0 : (wr.drewN nq).cell? ⟨W.heap.size, 0, none⟩ = some (.int .i64 a.1) := k0
    have m1 : (wr.drewN nq).cell? ⟨W.heap.size, 1, none⟩ = some (.int .i64 a.2) := k1
    have hc2 : (wr.drewN nq).cell? ⟨bx, 0, none⟩ = some (.slice none 0 0) := hc
    have hz2 : W.heap.size < (wr.drewN nq).heap.size := cell_lt m0
    go_wp2_with fail
    clear k0 k1 hc
    generalize wr.drewN nq = w2 at hb2 m0 m1 hc2 hz2 ⊢
    have hlt2 := (H.out.below hb2).lt
    obtain ⟨i0, hi0, hv0, hv1, hv2⟩ := info_parts info31
    have hb3 : Below W.heap.size W (w2.drew.alloc (.cells #[.int .i64 a.1, .int .i64 a.2] 31)) := hb2.drew.alloc hb2.size _
    have HB3 := Lib.hid hb3
    have hO1 : ∀ k u, ([.int .i64 a.1, .int .i64 a.2] : List Value)[k]? = some u → (w2.drew.alloc (.cells #[.int .i64 a.1, .int .i64 a.2] 31)).cell? ((⟨w2.heap.size, 0, none⟩ : Addr).add k) = some u := fun k u hk => new_cells w2 a k u hk
    have HO1 := Lib.hid hO1
    clear hO1 hb3 hb2
    go_region_law (first
      | (refine step_append_grows rfl (.tmp 71) (.tmp 80) 27 rfl 31 i0 (.agg #[.int .i64 0, .int .i64 0]) 2 16 Try.underlying27 hi0 hv0 hv1 hv2 rfl (by decide) none 0 0 [] rfl (by simp) rfl (by simp) ⟨w2.heap.size, 0, none⟩ 1 1 [.int .i64 a.1, .int .i64 a.2] rfl rfl HO1.out (one_cells a) (by omega) (by unfold maxLen; omega) (by omega) ?_; intro v6 w6 hown6 hgrow6; obtain ⟨g6, cap6, rfl⟩ := ownsRow_pos hown6 (by omega); have hb6 := HB3.out.trans (grown_bel hgrow6 HB3.out.size); have r1 := (H.out.below hb6).cell; have r2 := (H.out.below hb6).free))
    all_goals
      go_wp2_with fail
      go_ret
      exact ⟨0, ⟨by simp, by simp, by simp⟩, rset_done2 H.out hb6 rfl (by omega) HB3.out.size hown6⟩
end Go.Proofs.Ythoicmbpjcgdpaa
