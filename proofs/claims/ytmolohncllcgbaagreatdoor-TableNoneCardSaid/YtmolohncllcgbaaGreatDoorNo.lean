/- Calls of no table. -/
import Derived.Test.YtmolohncllcgbaaGreatDoorHd
namespace Go.Proofs.YtmolohncllcgbaaGreatDoor
open Go Go.RowKit Go.Shelf
set_option maxRecDepth 100000

theorem tpaths_none (W : World) : Calls Tryz.prog 21 #[.pointer none] W (PathsOf W []) := by
  have := paths_any (tpv := .pointer none) (pv := .pointer none) (x1 := .pointer none) (mv := 0) (rv := 0) (xs := []) (rs := []) (w := W) (fun W' _ => tits_none W') (fun W' _ => An.none_tells W') rfl (by simp)
  rw [show Pa.vals (Pa.srt []) = [] by simp [Pa.srt, Pa.vals]] at this
  exact this
theorem theld_none (tx : Int) (W : World) : Calls Tryz.prog 19 #[.pointer none, .int .i64 tx] W (HeldOf W []) :=
  held_any (ps := []) (mo := fun _ => 0) (fun W' _ => tpaths_none W') (fun _ h => by cases h) (by simp)
theorem tfind_none (p : Pa.Pt) (W : World) : Calls Tryz.prog 40 #[.pointer none, p.v] W fun e w' => ∃ B, e = .returned (.tuple #[qp B, .bool false]) ∧ QAt w' B none 0 none 0 [] [] ∧ Below W.heap.size W w' ∧ W.heap.size ≤ B := by
  have hx := box_below W (.cells (pcs p) 30)
  have gI : Gives (W.alloc (.cells (pcs p) 30)) 56 #[.pointer none] (tv (.pointer none) (.pointer none) (.int .i64 0) (.int .i64 0)) := fun w' hb => acc hb (tits_none w')
  have gK : Gives (W.alloc (.cells (pcs p) 30)) 76 #[p.v] (.int .u64 (Pa.keyP p)) := fun w' hb => acc hb (Pa.key_any p w')
  have gG : Gives (W.alloc (.cells (pcs p) 30)) 75 #[.pointer none, .int .u64 (Pa.keyP p)] (.tuple #[.int .i64 0, .bool false]) := fun w' hb => acc hb ((Bu.get_none w' (Pa.keyP p)).mono fun _ _ ⟨h1, h2⟩ => ⟨h1, h2 ▸ Below.refl _ _⟩)
  have hB := Pbx.new W p 30
  have b0 := hB.c0
  have b1 := hB.c1
  have b2 := hB.c2
  have b3 := hB.c3
  have b4 := hB.c4
  have hlt := box_lt W (.cells (pcs p) 30)
  have HX := Lib.hid hx
  clear hx hB
  obtain ⟨pa, pb, pc, pd, pe⟩ := p
  simp only at *
  generalize Pa.keyP ⟨pa, pb, pc, pd, pe⟩ = k at *
  go_enter Tryz.func40, Tryz.ntmps40
  go_wp2
  generalize W.alloc (.cells #[.int .i64 pa, .int .i64 pb, .int .i64 pc, .int .i64 pd, .int .i64 pe] 30) = W1 at *
  refine wp_region_later W1 (by kernel_rfl) (by kernel_rfl) (Below.refl _ _) ?_
  repeat (go_big_quiet_step (((first | go_at_call 56 | go_at_call 76 | go_at_call 75); exact Gives.later (by with_reducible assumption))))
  refine wpQuiet_nil ?_
  intro w2 hw2
  have HB2 := Lib.hid (HX.out.trans ((in_later hw2).mono HX.out.size))
  clear hw2 gI gK gG b0 b1 b2 b3 b4
  go_wp2_with fail
  go_ret2
  exact ⟨w2.heap.size, rfl, QAt.nils w2, HB2.out.alloc HB2.out.size _, HB2.out.size⟩
theorem tmode_none (tx : Int) (p : Pa.Pt) (W : World) : Calls Tryz.prog 25 #[.pointer none, .int .i64 tx, p.v] W fun e w' => e = .returned (.int .i64 0) ∧ Below W.heap.size W w' := by
  have hx := box_below W (.cells (pcs p) 30)
  have HF := Lib.hid (tfind_none p (W.alloc (.cells (pcs p) 30)))
  have HX := Lib.hid hx
  have hB := Pbx.new W p 30
  have b0 := hB.c0
  have b1 := hB.c1
  have b2 := hB.c2
  have b3 := hB.c3
  have b4 := hB.c4
  clear hx hB
  obtain ⟨pa, pb, pc, pd, pe⟩ := p
  simp only at b0 b1 b2 b3 b4
  go_enter Tryz.func25, Tryz.ntmps25
  go_wp2_with fail
  refine HF.out.mono ?_
  rintro e w1 ⟨B, rfl, hq, hb1, -⟩
  have HX1 := Lib.hid (HX.out.trans (hb1.mono HX.out.size))
  have HM := Lib.hid (qmode_any hq.its (by simp) tx)
  clear hq hb1 b0 b1 b2 b3 b4 HF
  go_wp2_with fail
  refine HM.out.mono ?_
  rintro e w2 ⟨rfl, hb2⟩
  have HX2 := Lib.hid (HX1.out.trans (hb2.mono HX1.out.size))
  clear hb2
  go_wp2_with fail
  go_ret
  exact ⟨rfl, HX2.out⟩
theorem tqueue_none (p : Pa.Pt) (W : World) : Calls Tryz.prog 26 #[.pointer none, p.v] W fun e w' => e = .returned (.pointer none) ∧ Below W.heap.size W w' := by
  have hx := box_below W (.cells (pcs p) 30)
  have HF := Lib.hid (tfind_none p (W.alloc (.cells (pcs p) 30)))
  have HX := Lib.hid hx
  have hB := Pbx.new W p 30
  have b0 := hB.c0
  have b1 := hB.c1
  have b2 := hB.c2
  have b3 := hB.c3
  have b4 := hB.c4
  clear hx hB
  obtain ⟨pa, pb, pc, pd, pe⟩ := p
  simp only at b0 b1 b2 b3 b4
  go_enter Tryz.func26, Tryz.ntmps26
  go_wp2_with fail
  refine HF.out.mono ?_
  rintro e w1 ⟨B, rfl, hq, hb1, -⟩
  have HX1 := Lib.hid (HX.out.trans (hb1.mono HX.out.size))
  clear hq hb1 b0 b1 b2 b3 b4 HF
  go_wp2_with fail
  go_ret
  exact ⟨rfl, HX1.out⟩
theorem theads_none (W : World) : Calls Tryz.prog 23 #[.pointer none] W fun e w' => e = .returned (.int .i64 0) ∧ Below W.heap.size W w' := by
  have HI := Lib.hid (tits_none W)
  go_enter Tryz.func23, Tryz.ntmps23
  go_wp2_with fail
  refine HI.out.mono ?_
  rintro e w1 ⟨rfl, hb1⟩
  have HB := Lib.hid hb1
  clear hb1
  go_wp2_with fail
  refine (An.len_none w1).mono ?_
  rintro e w2 ⟨rfl, rfl⟩
  go_wp2_with fail
  go_ret
  exact ⟨rfl, HB.out⟩
theorem treqs_none (W : World) : Calls Tryz.prog 24 #[.pointer none] W fun e w' => e = .returned (.int .i64 0) ∧ Below W.heap.size W w' := by
  have HI := Lib.hid (tits_none W)
  go_enter Tryz.func24, Tryz.ntmps24
  go_wp2_with fail
  refine HI.out.mono ?_
  rintro e w1 ⟨rfl, hb1⟩
  have HB := Lib.hid hb1
  clear hb1
  go_wp2_with fail
  go_ret
  exact ⟨rfl, HB.out⟩
theorem tfull_none (W : World) : Calls Tryz.prog 22 #[.pointer none] W fun e w' => e = .returned (.tuple #[.int .i64 0, .int .i64 0]) ∧ Below W.heap.size W w' := by
  have HI := Lib.hid (tits_none W)
  go_enter Tryz.func22, Tryz.ntmps22
  go_wp2_with fail
  refine HI.out.mono ?_
  rintro e w1 ⟨rfl, hb1⟩
  have HB1 := Lib.hid (hb1.trans ((box_below w1 (.cells #[.pointer none, .pointer none, .int .i64 0, .int .i64 0] 72)).mono hb1.size))
  clear hb1 HI
  go_wp2_with fail
  go_quiet (first | (go_at_call 61; exact Calls.quiet_of_same ((An.len_none _).mono fun _ _ ⟨a, b⟩ => ⟨a, b.symm⟩)) | (go_at_call 42; exact Calls.quiet_of_same ((An.left_none _).mono fun _ _ ⟨a, b⟩ => ⟨a, b.symm⟩)))
  go_wp2_with fail
  go_ret2
  exact ⟨rfl, HB1.out.trans ((drew_below _ _).mono HB1.out.size)⟩
theorem task_none (tx md fl : Int) (p : Pa.Pt) (W : World) : Calls Tryz.prog 13 #[.pointer none, .int .i64 tx, p.v, .int .i64 md, .int .i64 fl] W fun e w' => e = .returned (.tuple #[.int .i64 0, .int .i64 70]) ∧ Below W.heap.size W w' := by
  have hx := box_below W (.cells (pcs p) 30)
  have HR := Lib.hid (trefuses_none (W.alloc (.cells (pcs p) 30)) p)
  have HX := Lib.hid hx
  have hB := Pbx.new W p 30
  have b0 := hB.c0
  have b1 := hB.c1
  have b2 := hB.c2
  have b3 := hB.c3
  have b4 := hB.c4
  clear hx hB
  obtain ⟨pa, pb, pc, pd, pe⟩ := p
  simp only at b0 b1 b2 b3 b4
  go_enter Tryz.func13, Tryz.ntmps13
  go_wp2_with fail
  refine HR.out.mono ?_
  rintro e w1 ⟨rfl, hb1⟩
  have HX1 := Lib.hid (HX.out.trans (hb1.mono HX.out.size))
  clear hb1 b0 b1 b2 b3 b4 HR
  go_wp2_with fail
  go_ret2
  exact ⟨rfl, HX1.out⟩
theorem tleave_none (tx : Int) (p : Pa.Pt) (fv : Value) (W : World) : Calls Tryz.prog 32 #[.pointer none, .int .i64 tx, p.v, fv] W fun e w' => e = .returned (.tuple #[.slice none 0 0, .int .i64 70]) ∧ Below W.heap.size W w' := by
  have hx := box_below W (.cells (pcs p) 30)
  have HR := Lib.hid (trefuses_none (W.alloc (.cells (pcs p) 30)) p)
  have HX := Lib.hid hx
  have hB := Pbx.new W p 30
  have b0 := hB.c0
  have b1 := hB.c1
  have b2 := hB.c2
  have b3 := hB.c3
  have b4 := hB.c4
  clear hx hB
  obtain ⟨pa, pb, pc, pd, pe⟩ := p
  simp only at b0 b1 b2 b3 b4
  go_enter Tryz.func32, Tryz.ntmps32
  go_wp2_with fail
  refine HR.out.mono ?_
  rintro e w1 ⟨rfl, hb1⟩
  have HX1 := Lib.hid (HX.out.trans (hb1.mono HX.out.size))
  clear hb1 b0 b1 b2 b3 b4 HR
  go_wp2_with fail
  go_ret2
  exact ⟨rfl, HX1.out⟩
theorem trelease_none (tx : Int) (p : Pa.Pt) (W : World) : Calls Tryz.prog 8 #[.pointer none, .int .i64 tx, p.v] W fun e w' => e = .returned (.tuple #[.slice none 0 0, .int .i64 70]) ∧ Below W.heap.size W w' := by
  have hx := box_below W (.cells (pcs p) 30)
  have HR := Lib.hid (tleave_none tx p (.func (.func 27) #[] #[]) (W.alloc (.cells (pcs p) 30)))
  have HX := Lib.hid hx
  have hB := Pbx.new W p 30
  have b0 := hB.c0
  have b1 := hB.c1
  have b2 := hB.c2
  have b3 := hB.c3
  have b4 := hB.c4
  clear hx hB
  obtain ⟨pa, pb, pc, pd, pe⟩ := p
  simp only at b0 b1 b2 b3 b4
  go_enter Tryz.func8, Tryz.ntmps8
  go_wp2_with fail
  refine HR.out.mono ?_
  rintro e w1 ⟨rfl, hb1⟩
  have HX1 := Lib.hid (HX.out.trans (hb1.mono HX.out.size))
  clear hb1 b0 b1 b2 b3 b4 HR
  go_wp2_with fail
  go_ret2
  exact ⟨rfl, HX1.out⟩
theorem tcancel_none (tx : Int) (p : Pa.Pt) (W : World) : Calls Tryz.prog 11 #[.pointer none, .int .i64 tx, p.v] W fun e w' => e = .returned (.tuple #[.slice none 0 0, .int .i64 70]) ∧ Below W.heap.size W w' := by
  have hx := box_below W (.cells (pcs p) 30)
  have HR := Lib.hid (tleave_none tx p (.func (.func 37) #[] #[]) (W.alloc (.cells (pcs p) 30)))
  have HX := Lib.hid hx
  have hB := Pbx.new W p 30
  have b0 := hB.c0
  have b1 := hB.c1
  have b2 := hB.c2
  have b3 := hB.c3
  have b4 := hB.c4
  clear hx hB
  obtain ⟨pa, pb, pc, pd, pe⟩ := p
  simp only at b0 b1 b2 b3 b4
  go_enter Tryz.func11, Tryz.ntmps11
  go_wp2_with fail
  refine HR.out.mono ?_
  rintro e w1 ⟨rfl, hb1⟩
  have HX1 := Lib.hid (HX.out.trans (hb1.mono HX.out.size))
  clear hb1 b0 b1 b2 b3 b4 HR
  go_wp2_with fail
  go_ret2
  exact ⟨rfl, HX1.out⟩
end Go.Proofs.YtmolohncllcgbaaGreatDoor
