/- The function values that pick: kids of a node, what is below it. -/
import Derived.Test.YthjlapcccmbhbaaWb
namespace Go.Proofs.Ythjlapcccmbhbaa.Lk
open Go Go.RowKit Go.Shelf Pa
set_option maxRecDepth 100000

set_option maxHeartbeats 2000000 in
theorem below_any (p q : Pt) (w : World) :
    Calls Try.prog 40 #[p.v, q.v] w fun e w' => e = .returned (.bool (belB p q)) ∧ Below w.heap.size w w' := by
  have HW := Lib.hid (fun w => within_any p q w)
  obtain ⟨r, hr⟩ : ∃ r, wiB p q = r := ⟨_, rfl⟩
  rw [hr] at HW
  obtain ⟨a, b, c, d, e⟩ := p
  obtain ⟨a', b', c', d', e'⟩ := q
  have hx := Pa.below_2 w (.cells #[.int .i64 a, .int .i64 b, .int .i64 c, .int .i64 d, .int .i64 e] 25) (.cells #[.int .i64 a', .int .i64 b', .int .i64 c', .int .i64 d', .int .i64 e'] 25)
  have HX := Lib.hid hx
  clear hx
  cases heq : eqP ⟨a, b, c, d, e⟩ ⟨a', b', c', d', e'⟩
  · have HV := Lib.hid (show belB ⟨a, b, c, d, e⟩ ⟨a', b', c', d', e'⟩ = r by simp [belB, heq, hr])
    clear hr
    go_enter Try.func40, Try.ntmps40
    go_wp2_with fail
    refine (HW.out _).mono ?_
    rintro e1 w1 ⟨rfl, hb1⟩
    have HB := Lib.hid (thenCall HX.out hb1)
    clear hb1
    go_wp2_with fail
    go_ret
    exact ⟨by rw [HV.out]; rfl, HB.out⟩
  · have HV := Lib.hid (show belB ⟨a, b, c, d, e⟩ ⟨a', b', c', d', e'⟩ = false by simp [belB, heq])
    clear hr
    go_enter Try.func40, Try.ntmps40
    go_wp2_with fail
    go_ret
    exact ⟨by rw [HV.out]; rfl, HX.out⟩
/-- a function value that tells of a node whether a condition holds -/
def PrdP (T : Nat → Prop) (W : World) (gf : Nat) (cs : Array Value) (p : Pt → Bool) : Prop :=
  (∀ args w, (callFunc gf args).run Try.prog w = .ok (.enter gf args) w) ∧
  ∀ (W' : World) (x : Pt), OnlyS T W W' → Calls Try.prog gf (#[x.v] ++ cs) W' fun e w' => e = .returned (.bool (p x)) ∧ Below W'.heap.size W' w'
set_option maxHeartbeats 2000000 in
theorem bel_at {T : Nat → Prop} {W : World} {B : Nat} {p : Pt} (hc : PtAt W B p) (hT : ¬ T B) : PrdP T W 39 #[.pointer (some ⟨B, 0, none⟩)] (fun x => belB x p) := by
  refine ⟨enters_of Try.func39 (by kernel_rfl) rfl, fun W' x ho => ?_⟩
  have HC := Lib.hid (fun w => below_any x p w)
  obtain ⟨r, hr⟩ : ∃ r, belB x p = r := ⟨_, rfl⟩
  simp only [hr] at HC ⊢
  obtain ⟨xa, xb, xc, xd, xe⟩ := x
  obtain ⟨pa, pb, pc, pd, pe⟩ := p
  obtain ⟨c0, c1, c2, c3, c4, hl⟩ := hc
  simp only at c0 c1 c2 c3 c4
  have d0 := ho.cell c0 hT
  have d1 := ho.cell c1 hT
  have d2 := ho.cell c2 hT
  have d3 := ho.cell c3 hT
  have d4 := ho.cell c4 hT
  have hlt := cell_lt d0
  simp only at hlt
  have hne : ¬ B = W'.heap.size := Nat.ne_of_lt hlt
  have HX := Lib.hid (Go.Proofs.Ythjlapcccmbhbaa.box_below W' (.cells #[.int .i64 xa, .int .i64 xb, .int .i64 xc, .int .i64 xd, .int .i64 xe] 25))
  clear ho c0 c1 c2 c3 c4 hT hr
  go_enter Try.func39, Try.ntmps39
  go_wp2_with fail
  refine (HC.out _).mono ?_
  rintro e1 w1 ⟨rfl, hb1⟩
  have HB := Lib.hid (thenCall HX.out hb1)
  clear hb1 d0 d1 d2 d3 d4
  go_wp2_with fail
  go_ret
  exact ⟨rfl, HB.out⟩
set_option maxHeartbeats 2000000 in
theorem kid_at {T : Nat → Prop} {W : World} {B : Nat} {p : Pt} (hc : PtAt W B p) (hT : ¬ T B) : PrdP T W 37 #[.pointer (some ⟨B, 0, none⟩)] (fun x => kidB x p) := by
  refine ⟨enters_of Try.func37 (by kernel_rfl) rfl, fun W' x ho => ?_⟩
  have hu := fun w => up_any x w
  obtain ⟨y, r, hy, hk⟩ : ∃ (y : Pt) (r : Bool), upV x = .tuple #[y.v, .bool r] ∧ kidB x p = (r && eqP y p) := by
    by_cases h : rightB x = true ∧ x.e ≠ 1
    · exact ⟨cutP x (x.e - 1), true, by unfold upV; rw [if_pos h], by unfold kidB; rw [h.1]; have : (x.e == 1) = false := by simp; exact h.2
                                                                      rw [this]; rfl⟩
    · refine ⟨⟨0, 0, 0, 0, 0⟩, false, by unfold upV; rw [if_neg h], ?_⟩
      unfold kidB
      cases h1 : rightB x
      · rfl
      · cases h2 : (x.e == 1)
        · exact absurd ⟨h1, by simpa using h2⟩ h
        · rfl
  simp only [hy] at hu
  have HU := Lib.hid hu
  have HK := Lib.hid hk
  obtain ⟨v, hv⟩ : ∃ v, kidB x p = v := ⟨_, rfl⟩
  rw [hv] at HK
  simp only [hv]
  clear hu hy hk hv
  obtain ⟨xa, xb, xc, xd, xe⟩ := x
  obtain ⟨ya, yb, yc, yd, ye⟩ := y
  obtain ⟨pa, pb, pc, pd, pe⟩ := p
  obtain ⟨c0, c1, c2, c3, c4, hl⟩ := hc
  simp only at c0 c1 c2 c3 c4
  have d0 := ho.cell c0 hT
  have d1 := ho.cell c1 hT
  have d2 := ho.cell c2 hT
  have d3 := ho.cell c3 hT
  have d4 := ho.cell c4 hT
  have HP' : Hid (PtAt W' B ⟨pa, pb, pc, pd, pe⟩) := ⟨d0, d1, d2, d3, d4, cell_lt d0⟩
  have HX := Lib.hid (Go.Proofs.Ythjlapcccmbhbaa.box_below W' (.cells #[.int .i64 xa, .int .i64 xb, .int .i64 xc, .int .i64 xd, .int .i64 xe] 25))
  clear ho c0 c1 c2 c3 c4 hT d0 d1 d2 d3 d4
  go_enter Try.func37, Try.ntmps37
  go_wp2_with fail
  refine (HU.out _).mono ?_
  rintro e1 w1 ⟨rfl, hb1⟩
  have HB := Lib.hid (thenCall HX.out hb1)
  obtain ⟨d0, d1, d2, d3, d4, hlt⟩ := HP'.out.later HB.out
  simp only at d0 d1 d2 d3 d4 hlt
  have hne : ¬ B = w1.heap.size := Nat.ne_of_lt hlt
  have HB2 := Lib.hid (thenCall HB.out (Go.Proofs.Ythjlapcccmbhbaa.box_below w1 (.cells #[.int .i64 ya, .int .i64 yb, .int .i64 yc, .int .i64 yd, .int .i64 ye] 25)))
  clear hb1
  cases r
  · go_wp2_with fail
    go_ret
    exact ⟨by rw [HK.out]; rfl, HB2.out⟩
  · go_wp2_with fail
    go_ret
    exact ⟨by rw [HK.out]; rfl, HB2.out⟩
/-- those that are picked -/
def fitL (f : Pt → Bool) (xs : List Hd) : List Hd := xs.filter fun x => f x.1
theorem fit_snoc (f : Pt → Bool) (xs : List Hd) (x : Hd) : fitL f (xs ++ [x]) = fitL f xs ++ if f x.1 then [x] else [] := by
  unfold fitL
  rw [List.filter_append, List.filter_cons]
  rfl
theorem fit_len (f : Pt → Bool) (xs : List Hd) : (fitL f xs).length ≤ xs.length := List.length_filter_le _ _
theorem kid_right {q p : Pt} (h : kidB q p = true) : rightB q = true := by
  unfold kidB at h
  cases h1 : rightB q
  · rw [h1] at h; cases h
  · rfl
theorem bel_right {q p : Pt} (h : belB q p = true) : rightB q = true := by
  unfold belB wiB at h
  cases h1 : rightB q
  · rw [h1] at h; simp at h
  · rfl
end Go.Proofs.Ythjlapcccmbhbaa.Lk
