/- Whether locks are right: the program's answer. -/
import Derived.Test.YthjlapcccmbhbaaMa
import Derived.Test.YthjlapcccmbhbaaLf
namespace Go.Proofs.Ythjlapcccmbhbaa.Lk
open Go Go.RowKit Go.Shelf Pa
set_option maxRecDepth 100000

theorem wf_small {x : Int} (h0 : 0 ≤ x) (h1 : x ≤ 999) : wf64 x := by
  have e1 : IntKind.i64.min = -9223372036854775808 := by decide
  have e2 : IntKind.i64.max = 9223372036854775807 := by decide
  show (decide (IntKind.i64.min ≤ x) && decide (x ≤ IntKind.i64.max)) = true
  rw [decide_eq_true (by omega : IntKind.i64.min ≤ x), decide_eq_true (by omega : x ≤ IntKind.i64.max)]
  rfl
@[go_sem] theorem mk42 (W : World) : (Instr.makeMap 44 none).run Try.prog W = .ok (.map (some W.heap.size)) (W.alloc (.map #[] 0)) := by
  simp [Instr.makeMap, newObj]
  rfl
theorem fit_right {p : Pt} (h : rightB p = true) : FitP p := by
  obtain ⟨a, b, c, d, e⟩ := p
  have hf := (right_iff a b c d e).1 h
  exact ⟨wf_small hf.a0 hf.a9, wf_small hf.b0 hf.b9, wf_small hf.c0 hf.c9, wf_small hf.d0 hf.d9, wf_small (by have := hf.e1; simp; omega) (by have := hf.e4; simp; omega)⟩
/-- each may be, none is there twice -/
def Rt1 (xs : List Hd) : Prop := (xs.map (·.1)).Nodup ∧ ∀ x ∈ xs, rightB x.1 = true ∧ 1 ≤ x.2 ∧ x.2 ≤ 6
/-- whether what is held above is enough -/
def upB (xs : List Hd) (x : Hd) : Bool := x.1.e == 1 || covB (kn (ofL xs (cutP x.1 (x.1.e - 1)))) (parN (kn x.2))
/-- right locks -/
def Rt (xs : List Hd) : Prop := Rt1 xs ∧ ∀ x ∈ xs, upB xs x = true
theorem in_iff {xs : List Hd} {p : Pt} : inL xs p = true ↔ p ∈ xs.map (·.1) := by
  unfold inL
  rw [List.any_eq_true, List.mem_map]
  constructor
  · rintro ⟨x, hx, he⟩
    exact ⟨x, hx, (eqP_iff _ _).1 he⟩
  · rintro ⟨x, hx, rfl⟩
    exact ⟨x, hx, eqP_self _⟩
theorem rt1_nil : Rt1 [] := ⟨by simp, by simp⟩
theorem rt1_snoc {xs : List Hd} {x : Hd} : Rt1 (xs ++ [x]) ↔ Rt1 xs ∧ inL xs x.1 = false ∧ rightB x.1 = true ∧ 1 ≤ x.2 ∧ x.2 ≤ 6 := by
  have hin : inL xs x.1 = false ↔ x.1 ∉ xs.map (·.1) := by rw [← in_iff]; simp
  unfold Rt1
  rw [List.map_append, List.nodup_append, hin]
  constructor
  · rintro ⟨⟨h1, -, h2⟩, h3⟩
    exact ⟨⟨h1, fun y hy => h3 y (by simp [hy])⟩, fun hm => h2 _ hm _ (by simp) rfl, h3 x (by simp)⟩
  · rintro ⟨⟨h1, h2⟩, h3, h4⟩
    refine ⟨⟨h1, by simp, fun a ha b hb => ?_⟩, fun y hy => ?_⟩
    · simp at hb
      subst hb
      rintro rfl
      exact h3 ha
    · rcases List.mem_append.1 hy with hy | hy
      · exact h2 y hy
      · simp at hy; subst hy; exact h4
theorem rt1_take {xs : List Hd} (h : Rt1 xs) (k : Nat) : Rt1 (xs.take k) :=
  ⟨by rw [List.map_take]; exact h.1.sublist (List.take_sublist _ _), fun x hx => h.2 x (List.take_subset _ _ hx)⟩
/-- what Right answers -/
def Tells (W : World) (P : Prop) (e : Ending) (w' : World) : Prop := ∃ b : Bool, e = .returned (.bool b) ∧ (b = true ↔ P) ∧ Below W.heap.size W w'
theorem tells_no {W w' : World} {P : Prop} (hb : Below W.heap.size W w') (h : ¬ P) : Tells W P (.returned (.bool false)) w' := ⟨false, rfl, by simp [h], hb⟩
section
variable {W W' : World} {A : Option Addr} {c : Nat} {xs : List Hd}
/-- the head of the first loop -/
structure R1 (W : World) (xs : List Hd) (j : Nat) (wr : World) : Prop where
  map : MapL wr W.heap.size j (xs.take j)
  ok : Rt1 (xs.take j)
  bel : Below W.heap.size W wr
/-- the head of the second loop -/
structure R2 (W : World) (xs : List Hd) (n j : Nat) (wr : World) : Prop where
  map : MapL wr W.heap.size n xs
  ok : ∀ i (_ : i < j) (h : i < xs.length), upB xs xs[i] = true
  bel : Below W.heap.size W wr
theorem up_is {p : Pt} (h : rightB p = true) (h1 : p.e ≠ 1) : upV p = .tuple #[(cutP p (p.e - 1)).v, .bool true] := by unfold upV; rw [if_pos ⟨h, h1⟩]
theorem up_no {p : Pt} (h1 : p.e = 1) : upV p = .tuple #[.agg #[.int .i64 0, .int .i64 0, .int .i64 0, .int .i64 0, .int .i64 0], .bool false] := by unfold upV; rw [if_neg (fun q => q.2 h1)]
set_option maxHeartbeats 8000000 in
theorem right_any (hr : Ls W A c xs) (hl : xs.length ≤ 1000) (hf : ∀ x ∈ xs, FitP x.1) : Calls Try.prog 19 #[.slice A xs.length c] W (Tells W (Rt xs)) := by
  have HR := Lib.hid hr
  have HF := Lib.hid hf
  obtain ⟨n, hn⟩ : ∃ n, xs.length = n := ⟨_, rfl⟩
  have HN := Lib.hid hn
  have HM := Lib.hid (MapL.made W)
  have HB0 := Lib.hid (Go.Proofs.Ythjlapcccmbhbaa.box_below W (.map #[] 0))
  rw [hn] at hl ⊢
  clear hr hf hn
  go_enter Try.func19, Try.ntmps19
  go_wp2_with fail
  go_loopw [15] (fun t wr => ∃ j : Nat, j ≤ n ∧ t = .int .i64 j ∧ R1 W xs j wr) (fun t _ => n - (intOf t).toNat)
  case atStart => exact ⟨0, by omega, rfl, HM.out, rt1_nil, HB0.out⟩
  case round =>
    obtain ⟨j, hj, rfl, hR⟩ := hrel
    have HR1 := Lib.hid hR
    clear hR
    by_cases hjn : j < n
    · have hjl : j < xs.length := by rw [HN.out]; exact hjn
      have i1 : (0 : Int) ≤ (j : Int) := by omega
      have i2 : (j : Int) < (n : Int) := by omega
      obtain ⟨a, rfl, hh⟩ := (HR.out.below HR1.out.bel).here hjl
      obtain ⟨x, hx⟩ : ∃ x, xs[j] = x := ⟨_, rfl⟩
      rw [hx] at hh
      have HFx := Lib.hid (HF.out x (by rw [← hx]; exact List.getElem_mem hjl))
      have HT : Hid (xs.take (j + 1) = xs.take j ++ [x]) := by unfold Hid; rw [List.take_succ_eq_append_getElem hjl, hx]
      clear hx
      obtain ⟨c0, c1, c2, c3, c4, c5⟩ := hh
      have HBx := Lib.hid (Go.Proofs.Ythjlapcccmbhbaa.box_below wr (.cells #[.int .i64 x.1.a, .int .i64 x.1.b, .int .i64 x.1.c, .int .i64 x.1.d, .int .i64 x.1.e, .int .i64 x.2] 27))
      have HXx := Lib.hid (LkAt.new wr x)
      have hlk := (HR1.out.map.below HBx.out).look_ok HFx.out
      obtain ⟨⟨xa, xb, xc, xd, xe⟩, xm⟩ := x
      simp only at c0 c1 c2 c3 c4 c5 hlk HBx HXx
      cases hi : inL (xs.take j) ⟨xa, xb, xc, xd, xe⟩
      · rw [hi] at hlk
        have HM2 := Lib.hid (fun w => may_any ⟨xa, xb, xc, xd, xe⟩ w)
        cases hp : rightB ⟨xa, xb, xc, xd, xe⟩
        · rw [hp] at HM2
          have HNo : Hid (¬ Rt xs) := fun h => by
            have := rt1_take h.1 (j + 1)
            rw [HT.out, rt1_snoc] at this
            have := this.2.2.1
            simp only at this
            rw [hp] at this
            cases this
          go_wp2_with fail
          refine (HM2.out _).mono ?_
          rintro e1 w1 ⟨rfl, hb1⟩
          have HB1 := Lib.hid (thenCall HR1.out.bel (thenCall HBx.out hb1))
          clear hb1 c0 c1 c2 c3 c4 c5 hlk
          go_wp2_with fail
          go_ret
          exact tells_no HB1.out HNo.out
        · rw [hp] at HM2
          by_cases h1 : xm < 1
          · have HNo : Hid (¬ Rt xs) := fun h => by
              have := rt1_take h.1 (j + 1)
              rw [HT.out, rt1_snoc] at this
              have := this.2.2.2
              simp only at this
              omega
            go_wp2_with fail
            refine (HM2.out _).mono ?_
            rintro e1 w1 ⟨rfl, hb1⟩
            obtain ⟨d0, d1, d2, d3, d4, d5, hltx⟩ := HXx.out.later hb1
            simp only at d0 d1 d2 d3 d4 d5 hltx
            have HB1 := Lib.hid (thenCall HR1.out.bel (thenCall HBx.out hb1))
            clear hb1 c0 c1 c2 c3 c4 c5 hlk
            go_wp2_with fail
            go_ret
            exact tells_no HB1.out HNo.out
          · by_cases h6 : 6 < xm
            · have HNo : Hid (¬ Rt xs) := fun h => by
                have := rt1_take h.1 (j + 1)
                rw [HT.out, rt1_snoc] at this
                have := this.2.2.2
                simp only at this
                omega
              go_wp2_with fail
              refine (HM2.out _).mono ?_
              rintro e1 w1 ⟨rfl, hb1⟩
              obtain ⟨d0, d1, d2, d3, d4, d5, hltx⟩ := HXx.out.later hb1
              simp only at d0 d1 d2 d3 d4 d5 hltx
              have HB1 := Lib.hid (thenCall HR1.out.bel (thenCall HBx.out hb1))
              clear hb1 c0 c1 c2 c3 c4 c5 hlk
              go_wp2_with fail
              go_ret
              exact tells_no HB1.out HNo.out
            · have HR1' : Hid (Rt1 (xs.take (j + 1))) := by
                unfold Hid
                rw [HT.out, rt1_snoc]
                exact ⟨HR1.out.ok, hi, hp, by simp only; omega, by simp only; omega⟩
              have HIn := Lib.hid hi
              go_wp2_with fail
              refine (HM2.out _).mono ?_
              rintro e1 w1 ⟨rfl, hb1⟩
              obtain ⟨d0, d1, d2, d3, d4, d5, hltx⟩ := HXx.out.later hb1
              simp only at d0 d1 d2 d3 d4 d5 hltx
              have HB1 := Lib.hid (thenCall HR1.out.bel (thenCall HBx.out hb1))
              obtain ⟨w2, hrun, hm2, hg2⟩ := ((HR1.out.map.below HBx.out).below hb1).put (x := (⟨xa, xb, xc, xd, xe⟩, xm)) HFx.out HIn.out (wf_small (by simp only; omega) (by simp only; omega)) (by omega)
              simp only at hrun
              have HMm := Lib.hid hm2
              have HB2 := Lib.hid (HB1.out.grown hg2 HB1.out.size (fun q hq => by cases hq; exact Nat.le_refl _))
              clear hb1 c0 c1 c2 c3 c4 c5 hlk hm2 hg2 hi hp
              go_wp2_with fail
              go_roundw
              case rel => exact ⟨j + 1, by omega, by go_num, by rw [HT.out]; exact HMm.out, HR1'.out, HB2.out⟩
              case measure => simp [intOf]; omega
      · rw [hi] at hlk
        have HNo : Hid (¬ Rt xs) := fun h => by
          have := rt1_take h.1 (j + 1)
          rw [HT.out, rt1_snoc] at this
          have := this.2.1
          simp only at this
          rw [hi] at this
          cases this
        have HB1 := Lib.hid (thenCall HR1.out.bel HBx.out)
        go_wp2_with fail
        go_ret
        exact tells_no HB1.out HNo.out
    · obtain rfl : j = n := by omega
      have HTk : Hid (xs.take j = xs) := List.take_of_length_le (Nat.le_of_eq HN.out)
      have HMp := HR1.out.map
      have HOk := HR1.out.ok
      have HBl := HR1.out.bel
      rw [HTk.out] at HMp HOk
      have HR2 : Hid (R2 W xs j 0 wr) := ⟨HMp, fun i hi => by omega, HBl⟩
      have HOk := Lib.hid HOk
      clear HMp HBl HR1 HTk
      go_wp2_with fail
      go_loopw [51] (fun t w2 => ∃ i : Nat, i ≤ j ∧ t = .int .i64 i ∧ R2 W xs j i w2) (fun t _ => j - (intOf t).toNat)
      case atStart => exact ⟨0, by omega, rfl, HR2.out⟩
      case round =>
        obtain ⟨i, hi, rfl, hR⟩ := hrel
        have HR3 := Lib.hid hR
        clear hR HR2
        by_cases hij : i < j
        · have hil : i < xs.length := by rw [HN.out]; exact hij
          have i1 : (0 : Int) ≤ (i : Int) := by omega
          have i2 : (i : Int) < (j : Int) := by omega
          obtain ⟨a, rfl, hh⟩ := (HR.out.below HR3.out.bel).here hil
          obtain ⟨x, hx⟩ : ∃ x, xs[i] = x := ⟨_, rfl⟩
          rw [hx] at hh
          have HX := Lib.hid hx
          have HMem : Hid (x ∈ xs) := by rw [← hx]; exact List.getElem_mem hil
          have hright := (HOk.out.2 x HMem.out).1
          clear hx
          obtain ⟨c0, c1, c2, c3, c4, c5⟩ := hh
          have HBx := Lib.hid (Go.Proofs.Ythjlapcccmbhbaa.box_below wr (.cells #[.int .i64 x.1.a, .int .i64 x.1.b, .int .i64 x.1.c, .int .i64 x.1.d, .int .i64 x.1.e, .int .i64 x.2] 27))
          have HXx := Lib.hid (LkAt.new wr x)
          have HU := Lib.hid (fun w => up_any x.1 w)
          by_cases h1 : x.1.e = 1
          · rw [up_no h1] at HU
            have HOkx : Hid (upB xs x = true) := by unfold Hid upB; simp [h1]
            obtain ⟨⟨xa, xb, xc, xd, xe⟩, xm⟩ := x
            simp only at c0 c1 c2 c3 c4 c5 HBx HXx HU
            clear h1 hright
            go_wp2_with fail
            refine (HU.out _).mono ?_
            rintro e1 w1 ⟨rfl, hb1⟩
            have HB1 := Lib.hid (thenCall HBx.out hb1)
            clear hb1 c0 c1 c2 c3 c4 c5
            go_wp2_with fail
            have HBy := Lib.hid (Go.Proofs.Ythjlapcccmbhbaa.box_below w1 (.cells #[.int .i64 0, .int .i64 0, .int .i64 0, .int .i64 0, .int .i64 0] 25))
            generalize w1.alloc (.cells #[.int .i64 0, .int .i64 0, .int .i64 0, .int .i64 0, .int .i64 0] 25) = W1 at *
            refine wp_region_later W1 (by kernel_rfl) (by kernel_rfl) (Below.refl _ _) ?_
            repeat (go_big_quiet_step (fail))
            refine wpQuiet_nil ?_
            rintro _ ⟨⟨w4, hb4⟩, rfl⟩
            have HB4 := Lib.hid (thenCall (thenCall HB1.out HBy.out) hb4)
            clear hb4
            go_wp2_with fail
            go_roundw
            case rel =>
              refine ⟨i + 1, by omega, by go_num, HR3.out.map.below HB4.out, fun k hk hkl => ?_, thenCall HR3.out.bel HB4.out⟩
              by_cases e : k = i
              · subst e
                rw [HX.out]; exact HOkx.out
              · exact HR3.out.ok k (by omega) hkl
            case measure => simp [intOf]; omega
          · obtain ⟨u, hu⟩ : ∃ u, cutP x.1 (x.1.e - 1) = u := ⟨_, rfl⟩
            have hur : rightB u = true := by
              rw [← hu]
              have := right_depth hright
              exact cut_right hright (by omega) (by omega)
            have HFu := Lib.hid (fit_right hur)
            rw [up_is hright h1, hu] at HU
            have HUp : Hid (upB xs x = covB (kn (ofL xs u)) (parN (kn x.2))) := by unfold Hid upB; simp [h1, hu]
            obtain ⟨⟨xa, xb, xc, xd, xe⟩, xm⟩ := x
            obtain ⟨ua, ub, uc, ud, ue⟩ := u
            simp only at c0 c1 c2 c3 c4 c5 HBx HXx HU HUp
            clear h1 hright hu hur
            go_wp2_with fail
            refine (HU.out _).mono ?_
            rintro e1 w1 ⟨rfl, hb1⟩
            have HB1 := Lib.hid (thenCall HBx.out hb1)
            have HXy := Lib.hid (HXx.out.later hb1)
            clear hb1 c0 c1 c2 c3 c4 c5
            go_wp2_with fail
            have HBy := Lib.hid (Go.Proofs.Ythjlapcccmbhbaa.box_below w1 (.cells #[.int .i64 ua, .int .i64 ub, .int .i64 uc, .int .i64 ud, .int .i64 ue] 25))
            have hpt := PtAt.new w1 ua ub uc ud ue
            unfold boxed at hpt
            obtain ⟨p0, p1, p2, p3, p4, hltp⟩ := hpt
            obtain ⟨-, -, -, -, -, d5, hltx⟩ := HXy.out.later HBy.out
            have HMy := Lib.hid (HR3.out.map.below (thenCall HB1.out HBy.out))
            simp only at p0 p1 p2 p3 p4 hltp d5 hltx
            generalize w1.alloc (.cells #[.int .i64 ua, .int .i64 ub, .int .i64 uc, .int .i64 ud, .int .i64 ue] 25) = W1 at *
            obtain ⟨r, hr⟩ : ∃ r, ofL xs ⟨ua, ub, uc, ud, ue⟩ = r := ⟨_, rfl⟩
            have hlk : ∀ y : Later W1, (Instr.lookup 44 (.map (some W.heap.size)) (.agg #[.int .i64 ua, .int .i64 ub, .int .i64 uc, .int .i64 ud, .int .i64 ue]) false).run Try.prog y.w = .ok (.int .i64 r) y.w := fun y => by rw [← hr]; exact (HMy.out.below y.h).look HFu.out
            have gP : Pa.Gives W1 49 #[.int .i64 xm] (.int .i64 (parN (kn xm) : Nat)) := wgives fun w _ => parent_any xm w
            obtain ⟨res, hres⟩ : ∃ res, covB (kn r) (parN (kn xm)) = res := ⟨_, rfl⟩
            have gC : Pa.Gives W1 48 #[.int .i64 r, .int .i64 (parN (kn xm) : Nat)] (.bool res) := fun w' hb => by
              have := covers_any r ((parN (kn xm) : Nat) : Int) W1 w' hb
              rw [kn_par, hres] at this
              exact this
            have HUr : Hid (upB xs (⟨xa, xb, xc, xd, xe⟩, xm) = res) := by unfold Hid; rw [HUp.out, hr, hres]
            clear hr hres
            refine wp_region_later W1 (by kernel_rfl) (by kernel_rfl) (Below.refl _ _) ?_
            cases res
            · repeat (go_big_quiet_step (((first | go_at_call 49 | go_at_call 48); exact Gives.later (by with_reducible assumption))))
              refine wpQuiet_nil ?_
              rintro _ ⟨⟨w4, hb4⟩, rfl⟩
              have HB4 := Lib.hid (thenCall (thenCall HB1.out HBy.out) hb4)
              have HNo : Hid (¬ Rt xs) := fun h => by
                have := h.2 _ HMem.out
                rw [HUr.out] at this
                cases this
              clear hb4 gP gC hlk p0 p1 p2 p3 p4
              go_wp2_with fail
              go_ret
              exact tells_no (thenCall HR3.out.bel HB4.out) HNo.out
            · repeat (go_big_quiet_step (((first | go_at_call 49 | go_at_call 48); exact Gives.later (by with_reducible assumption))))
              refine wpQuiet_nil ?_
              rintro _ ⟨⟨w4, hb4⟩, rfl⟩
              have HB4 := Lib.hid (thenCall (thenCall HB1.out HBy.out) hb4)
              clear hb4 gP gC hlk p0 p1 p2 p3 p4
              go_wp2_with fail
              go_roundw
              case rel =>
                refine ⟨i + 1, by omega, by go_num, HR3.out.map.below HB4.out, fun k hk hkl => ?_, thenCall HR3.out.bel HB4.out⟩
                by_cases e : k = i
                · subst e
                  rw [HX.out]; exact HUr.out
                · exact HR3.out.ok k (by omega) hkl
              case measure => simp [intOf]; omega
        · obtain rfl : i = j := by omega
          have HYes : Hid (Rt xs) := ⟨HOk.out, fun x hx => by
            obtain ⟨k, hk, rfl⟩ := List.getElem_of_mem hx
            exact HR3.out.ok k (by rw [← HN.out]; exact hk) hk⟩
          go_wp2_with fail
          go_ret
          exact ⟨true, rfl, by simp [HYes.out], HR3.out.bel⟩
end
end Go.Proofs.Ythjlapcccmbhbaa.Lk
