/- The walk of the law on kids. -/
import Derived.Test.YtmlljgijbffepaaB0
import Derived.Test.YtmlljgijbffepaaM1
namespace Go.Proofs.Ytmlljgijbffepaa
open Go Go.RowKit

theorem kidV_form (p : Pt) (n : Int) : ∃ a b c d e : Int, ∃ t : Bool, kidV p n = .tuple #[Pt.v ⟨a, b, c, d, e⟩, .bool t] := by
  unfold kidV; split
  · exact ⟨_, _, _, _, _, _, rfl⟩
  · exact ⟨_, _, _, _, _, _, rfl⟩
theorem kid_is {p : Pt} {n : Int} {v : Value} (h : kidV p n = v) (w : World) : Calls Try.prog 11 #[p.v, .int .i64 n] w fun e w' => e = .returned v ∧ Below w.heap.size w w' := by
  subst h; exact kid_any p n w
theorem up_is {p : Pt} {v : Value} (h : upV p = v) (w : World) : Calls Try.prog 7 #[p.v] w fun e w' => e = .returned v ∧ Below w.heap.size w w' := by
  subst h; exact up_any p w
theorem may_is {p : Pt} {b : Bool} (h : rightB p = b) (w : World) : Calls Try.prog 22 #[p.v] w fun e w' => e = .returned (.bool b) ∧ Below w.heap.size w w' := by
  subst h; exact may_any p w

theorem no_kid {a b c d e n : Int} (h : kidB ⟨a, b, c, d, e⟩ n = false) :
    rightB ⟨a, b, c, d, e⟩ = false ∨ (rightB ⟨a, b, c, d, e⟩ = true ∧ (e == 4) = true) ∨ (rightB ⟨a, b, c, d, e⟩ = true ∧ (e == 4) = false ∧ n < 0) ∨ (rightB ⟨a, b, c, d, e⟩ = true ∧ (e == 4) = false ∧ ¬ n < 0 ∧ 999 < n) := by
  unfold kidB numB at h
  cases hr : rightB ⟨a, b, c, d, e⟩
  · exact .inl rfl
  · rw [hr] at h
    by_cases h4 : e = 4
    · exact .inr (.inl ⟨rfl, by simp [h4]⟩)
    · simp [h4] at h
      by_cases hn : n < 0
      · exact .inr (.inr (.inl ⟨rfl, by simp [h4], hn⟩))
      · exact .inr (.inr (.inr ⟨rfl, by simp [h4], hn, h (by omega)⟩))

set_option maxHeartbeats 2000000 in
/-- there is no such kid, since the node may not be -/
theorem kids_no (a b c d e n k : Int) (w : World) (hk : kidB ⟨a, b, c, d, e⟩ n = false) :
    Calls Try.prog 5 #[Pt.v ⟨a, b, c, d, e⟩, .int .i64 n, .int .i64 k] w fun e w' => e = .returned (.bool true) ∧ Below w.heap.size w w' := by
  have hv : kidV ⟨a, b, c, d, e⟩ n = .tuple #[Pt.v ⟨0, 0, 0, 0, 0⟩, .bool false] := by unfold kidV; rw [hk]; rfl
  obtain ⟨y0, y1, y2, y3, y4, t, hy⟩ := kidV_form ⟨a, b, c, d, e⟩ k
  have hz : eqP ⟨0, 0, 0, 0, 0⟩ ⟨0, 0, 0, 0, 0⟩ = true := eqP_self _
  have HV := Lib.hid hv; clear hv
  have HY := Lib.hid hy; clear hy
  have HK := Lib.hid hk; clear hk
  set_option maxRecDepth 100000 in
  go_enter Try.func5, Try.ntmps5
  go_wp2_with fail
  refine (awake_any _).mono ?_
  rintro r1 w1 ⟨rfl, hb1⟩
  have hp1 := (PtAt.new w a b c d e).later hb1
  obtain ⟨c0, c1, c2, c3, c4, hlt1⟩ := id hp1
  go_wp2_with fail
  refine (kid_is HV.out _).mono ?_
  rintro r2 w2 ⟨rfl, hb2⟩
  clear c0 c1 c2 c3 c4
  have hp2 := hp1.later hb2
  have hn2 : ¬ w.heap.size = w2.heap.size := Nat.ne_of_lt hp2.lt
  obtain ⟨c0, c1, c2, c3, c4, hlt2⟩ := id hp2
  go_wp2_with fail
  refine (kid_is HY.out _).mono ?_
  rintro r3 w3 ⟨rfl, hb3⟩
  clear c0 c1 c2 c3 c4
  have hp3 := (hp2.alloc _).later hb3
  have hx3 := (PtAt.new w2 0 0 0 0 0).later hb3
  have hn3 : ¬ w.heap.size = w3.heap.size := Nat.ne_of_lt hp3.lt
  have hn4 : ¬ w2.heap.size = w3.heap.size := Nat.ne_of_lt hx3.lt
  obtain ⟨c0, c1, c2, c3, c4, hlt3⟩ := id hp3
  obtain ⟨d0, d1, d2, d3, d4, hlt4⟩ := id hx3
  go_wp2_with fail
  have hcase := HK.out
  rcases no_kid hcase with hr | ⟨hr, h4⟩ | ⟨hr, h4, hn⟩ | ⟨hr, h4, hn, hn'⟩
  all_goals
    refine (may_is hr _).mono ?_
    rintro r4 w4 ⟨rfl, hb4⟩
    clear c0 c1 c2 c3 c4 d0 d1 d2 d3 d4 hcase
    have hp4 := (hp3.alloc _).later hb4
    obtain ⟨c0, c1, c2, c3, c4, hlt5⟩ := id hp4
    go_wp2_with fail
    go_ret
    exact ⟨rfl, thenBox (thenBox (thenCall (below_box hb1) hb2) hb3) hb4⟩

theorem wi_g {w : World} {p q : Pt} {b : Bool} (h : wiB p q = b) : Gives w 16 #[p.v, q.v] (.bool b) := by
  subst h; exact Gives.of (within_any p q)
theorem key_g {w : World} {p : Pt} {z : Int} (h : keyP p = z) : Gives w 20 #[p.v] (.int .u64 z) := by
  subst h; exact Gives.of (key_any p)
theorem less_g {w : World} {p q : Pt} {b : Bool} (h : lessB p q = b) : Gives w 18 #[p.v, q.v] (.bool b) := by
  subst h; exact Gives.of (less_any p q)
/-- what the last statement of the law on kids asks of the second kid -/
structure Second (p x y : Pt) (n k : Int) (t q l m : Bool) : Prop where
  v : kidV p k = .tuple #[y.v, .bool t]
  eqv : t = true → eqP x y = q
  eqn : t = true → (n == k) = q
  lt : decide (n < k) = l
  le : lessB x y = m
  same : t = true → l = m

set_option maxHeartbeats 4000000 in
set_option maxRecDepth 100000 in
theorem kids_yes (a b c d e n k : Int) (w : World) (hk : kidB ⟨a, b, c, d, e⟩ n = true) (x y : Pt) (hx : kidP ⟨a, b, c, d, e⟩ n = x) (t : Bool) (q l : Bool) (m : Bool) (hs : Second ⟨a, b, c, d, e⟩ x y n k t q l m) :
    Calls Try.prog 5 #[Pt.v ⟨a, b, c, d, e⟩, .int .i64 n, .int .i64 k] w fun e w' => e = .returned (.bool true) ∧ Below w.heap.size w w' := by
  have hn := kid_num hk
  obtain ⟨n0, n9⟩ := hn
  have HV := Lib.hid (show kidV ⟨a, b, c, d, e⟩ n = .tuple #[x.v, .bool true] by unfold kidV; rw [hk, hx]; rfl)
  have HY := Lib.hid hs.v
  have HU := Lib.hid (show upV x = .tuple #[Pt.v ⟨a, b, c, d, e⟩, .bool true] by rw [← hx]; exact kid_upV hk)
  obtain ⟨K, hK⟩ : ∃ K, keyP ⟨a, b, c, d, e⟩ = K := ⟨_, rfl⟩
  have kb := key_bd ⟨a, b, c, d, e⟩
  rw [hK] at kb
  obtain ⟨k0, k9⟩ := kb
  have HX : Hid (keyP x = K * 1001 + n + 1) := Lib.hid (by rw [← hx, kid_key hk, hK])
  have HW : Hid (wiB x ⟨a, b, c, d, e⟩ = true) := Lib.hid (by rw [← hx]; exact kid_wi hk)
  have HKP := Lib.hid hK
  have hpp : eqP ⟨a, b, c, d, e⟩ ⟨a, b, c, d, e⟩ = true := eqP_self _
  have HE := Lib.hid hs.eqv
  have HN := Lib.hid hs.eqn
  have hel := hs.lt
  have HL := Lib.hid hs.le
  have HT := Lib.hid hs.same
  clear hs hK hk hx
  obtain ⟨x0, x1, x2, x3, x4⟩ := x
  obtain ⟨y0, y1, y2, y3, y4⟩ := y
  go_enter Try.func5, Try.ntmps5
  go_wp2_with fail
  refine (awake_any _).mono ?_
  rintro r1 w1 ⟨rfl, hb1⟩
  have hp1 := (PtAt.new w a b c d e).later hb1
  obtain ⟨c0, c1, c2, c3, c4, hlt1⟩ := id hp1
  go_wp2_with fail
  refine (kid_is HV.out _).mono ?_
  rintro r2 w2 ⟨rfl, hb2⟩
  clear c0 c1 c2 c3 c4
  have hp2 := hp1.later hb2
  have hn2 : ¬ w.heap.size = w2.heap.size := Nat.ne_of_lt hp2.lt
  obtain ⟨c0, c1, c2, c3, c4, hlt2⟩ := id hp2
  go_wp2_with fail
  refine (kid_is HY.out _).mono ?_
  rintro r3 w3 ⟨rfl, hb3⟩
  clear c0 c1 c2 c3 c4
  have hp3 := (hp2.alloc _).later hb3
  have hx3 := (PtAt.new w2 x0 x1 x2 x3 x4).later hb3
  have hn3 : ¬ w.heap.size = w3.heap.size := Nat.ne_of_lt hp3.lt
  have hn4 : ¬ w2.heap.size = w3.heap.size := Nat.ne_of_lt hx3.lt
  obtain ⟨c0, c1, c2, c3, c4, hlt3⟩ := id hp3
  obtain ⟨d0, d1, d2, d3, d4, hlt4⟩ := id hx3
  go_wp2_with fail
  refine (up_is HU.out _).mono ?_
  rintro r4 w4 ⟨rfl, hb4⟩
  clear c0 c1 c2 c3 c4 d0 d1 d2 d3 d4
  have hp4 := ((hp3.alloc _).later hb4).alloc (.cells #[.int .i64 a, .int .i64 b, .int .i64 c, .int .i64 d, .int .i64 e] 24)
  have hx4 := ((hx3.alloc _).later hb4).alloc (.cells #[.int .i64 a, .int .i64 b, .int .i64 c, .int .i64 d, .int .i64 e] 24)
  have hy4 := ((PtAt.new w3 y0 y1 y2 y3 y4).later hb4).alloc (.cells #[.int .i64 a, .int .i64 b, .int .i64 c, .int .i64 d, .int .i64 e] 24)
  have hu4 : PtAt (w4.alloc (.cells #[.int .i64 a, .int .i64 b, .int .i64 c, .int .i64 d, .int .i64 e] 24)) w4.heap.size ⟨a, b, c, d, e⟩ := PtAt.new w4 a b c d e
  have hbe : Below w.heap.size w (w4.alloc (.cells #[.int .i64 a, .int .i64 b, .int .i64 c, .int .i64 d, .int .i64 e] 24)) := endBox (thenBox (thenBox (thenCall (below_box hb1) hb2) hb3) hb4) _
  clear hp1 hp2 hp3 hx3 hb1 hb2 hb3 hlt1 hlt2 hlt3 hlt4 hn2 hn3 hn4
  go_wp2_with fail
  generalize w4.alloc (.cells #[.int .i64 a, .int .i64 b, .int .i64 c, .int .i64 d, .int .i64 e] 24) = W at hp4 hx4 hy4 hu4 hbe ⊢
  obtain ⟨c0, c1, c2, c3, c4, hlt1⟩ := hp4
  obtain ⟨d0, d1, d2, d3, d4, hlt2⟩ := hx4
  obtain ⟨e0, e1, e2, e3, e4, hlt3⟩ := hy4
  obtain ⟨f0, f1, f2, f3, f4, hlt4⟩ := hu4
  have gw : Gives W 16 #[Pt.v ⟨x0, x1, x2, x3, x4⟩, Pt.v ⟨a, b, c, d, e⟩] (.bool true) := wi_g HW.out
  have gx : Gives W 20 #[Pt.v ⟨x0, x1, x2, x3, x4⟩] (.int .u64 (K * 1001 + n + 1)) := key_g HX.out
  have gp : Gives W 20 #[Pt.v ⟨a, b, c, d, e⟩] (.int .u64 K) := key_g HKP.out
  have gl : Gives W 18 #[Pt.v ⟨x0, x1, x2, x3, x4⟩, Pt.v ⟨y0, y1, y2, y3, y4⟩] (.bool m) := less_g HL.out
  cases t
  · refine wp_region_later W (by kernel_rfl) (by kernel_rfl) (Below.refl _ _) ?_
    repeat (go_big_quiet_step (((first | go_at_call 16 | go_at_call 20 | go_at_call 18); exact Gives.later (by with_reducible assumption))))
    refine wpQuiet_nil ?_
    rintro _ ⟨⟨w5, hb5⟩, rfl⟩
    go_wp2
    go_ret
    exact ⟨rfl, thenCall hbe hb5⟩
  · obtain rfl : l = m := HT.out rfl
    have he := HE.out rfl
    have hen := HN.out rfl
    cases q <;> cases l
    all_goals
      refine wp_region_later W (by kernel_rfl) (by kernel_rfl) (Below.refl _ _) ?_
      repeat (go_big_quiet_step (((first | go_at_call 16 | go_at_call 20 | go_at_call 18); exact Gives.later (by with_reducible assumption))))
      refine wpQuiet_nil ?_
      rintro _ ⟨⟨w5, hb5⟩, rfl⟩
      go_wp2
      go_ret
      exact ⟨rfl, thenCall hbe hb5⟩

theorem kids_walk (p : Pt) (n k : Int) (w : World) :
    Calls Try.prog 5 #[p.v, .int .i64 n, .int .i64 k] w fun e w' => e = .returned (.bool true) ∧ Below w.heap.size w w' := by
  obtain ⟨a, b, c, d, e⟩ := p
  cases hk : kidB ⟨a, b, c, d, e⟩ n
  · exact kids_no a b c d e n k w hk
  · cases hk' : kidB ⟨a, b, c, d, e⟩ k
    · exact kids_yes a b c d e n k w hk _ ⟨0, 0, 0, 0, 0⟩ rfl false false _ _ ⟨(by unfold kidV; rw [hk']; rfl), (fun h => by cases h), (fun h => by cases h), rfl, rfl, (fun h => by cases h)⟩
    · refine kids_yes a b c d e n k w hk _ (kidP ⟨a, b, c, d, e⟩ k) rfl true (n == k) _ _ ⟨(by unfold kidV; rw [hk']; rfl), fun _ => ?_, fun _ => rfl, rfl, kid_less hk hk', fun _ => rfl⟩
      by_cases h : n = k
      · rw [h, eqP_self]; simp
      · rw [eqP_ne (fun q => h ((kid_eq hk).1 q))]; simp [h]
end Go.Proofs.Ytmlljgijbffepaa
