/- A table: what it has, what it refuses, and where a node's queue is. -/
import Derived.Test.YtmolohncllcgbaaGreatDoorTt
namespace Go.Proofs.YtmolohncllcgbaaGreatDoor
open Go Go.RowKit Go.Shelf
set_option maxRecDepth 100000

abbrev tp (b : Nat) : Value := .pointer (some ⟨b, 0, none⟩)
/-- a table as a value -/
abbrev tv (x0 x1 x2 x3 : Value) : Value := .agg #[x0, x1, x2, x3]
@[go_sem] theorem field_t0 (w : World) (x0 x1 x2 x3 : Value) : (Instr.field 72 (tv x0 x1 x2 x3) 0).run Tryz.prog w = .ok x0 w := by
  simp [Instr.field, asAgg, part]
@[go_sem] theorem field_t1 (w : World) (x0 x1 x2 x3 : Value) : (Instr.field 72 (tv x0 x1 x2 x3) 1).run Tryz.prog w = .ok x1 w := by
  simp [Instr.field, asAgg, part]
@[go_sem] theorem field_t2 (w : World) (x0 x1 x2 x3 : Value) : (Instr.field 72 (tv x0 x1 x2 x3) 2).run Tryz.prog w = .ok x2 w := by
  simp [Instr.field, asAgg, part]
@[go_sem] theorem field_t3 (w : World) (x0 x1 x2 x3 : Value) : (Instr.field 72 (tv x0 x1 x2 x3) 3).run Tryz.prog w = .ok x3 w := by
  simp [Instr.field, asAgg, part]
section
variable {W W' w' : World} {T : Nat → Prop} {b ha mb b0 B0 m nb i B : Nat} {S O : Nat → Prop} {mr r t : Int} {ns ns' : Ns} {fs fs' : List Nat} {F : Int → Option Int} {n : Nd} {p : Pa.Pt}
theorem box_lt (W : World) (o : Obj) : W.heap.size < (W.alloc o).heap.size := by simp
theorem results_tab {fn : Func} {q : Tmp} (h : fn.results = #[.cell q 72]) {tmps : Array Value} {w : World} {b : Nat} {x0 x1 x2 x3 : Value} (hp : tmps.getD q undef = .pointer (some ⟨b, 0, none⟩))
    (h0 : w.cell? ⟨b, 0, none⟩ = some x0) (h1 : w.cell? ⟨b, 1, none⟩ = some x1) (h2 : w.cell? ⟨b, 2, none⟩ = some x2) (h3 : w.cell? ⟨b, 3, none⟩ = some x3) :
    (results fn tmps).run Tryz.prog w = .ok (tv x0 x1 x2 x3) w := by
  have hp' : tmps[q]?.getD undef = .pointer (some ⟨b, 0, none⟩) := by simpa using hp
  simp [results, h, hp', go_sem, h0, h1, h2, h3]
theorem tits_none (W : World) : Calls Tryz.prog 56 #[.pointer none] W fun e w' => e = .returned (tv (.pointer none) (.pointer none) (.int .i64 0) (.int .i64 0)) ∧ Below W.heap.size W w' := by
  go_enter Tryz.func56, Tryz.ntmps56
  go_wp2
  have hr : (results Tryz.f56 #[.pointer none, undef, .pointer (some ⟨W.heap.size, 0, none⟩), .pointer none, .bool true, tv (.pointer none) (.pointer none) (.int .i64 0) (.int .i64 0), undef, undef, undef]).run Tryz.prog (W.alloc (.cells #[.pointer none, .pointer none, .int .i64 0, .int .i64 0] 72)) = .ok (tv (.pointer none) (.pointer none) (.int .i64 0) (.int .i64 0)) (W.alloc (.cells #[.pointer none, .pointer none, .int .i64 0, .int .i64 0] 72)) :=
    results_tab rfl rfl (by simp [go_sem]) (by simp [go_sem]) (by simp [go_sem]) (by simp [go_sem])
  exact bodyPost_ret hr rfl ⟨rfl, box_below _ _⟩
theorem tits_some {x0 x1 : Option Addr} {m r : Int} (q0 : W.cell? ⟨b, 0, none⟩ = some (.pointer x0)) (q1 : W.cell? ⟨b, 1, none⟩ = some (.pointer x1)) (q2 : W.cell? ⟨b, 2, none⟩ = some (.int .i64 m)) (q3 : W.cell? ⟨b, 3, none⟩ = some (.int .i64 r)) :
    Calls Tryz.prog 56 #[tp b] W fun e w' => e = .returned (tv (.pointer x0) (.pointer x1) (.int .i64 m) (.int .i64 r)) ∧ Below W.heap.size W w' := by
  have hlt := cell_lt q0
  go_enter Tryz.func56, Tryz.ntmps56
  go_wp2
  exact bodyPost_ret (results_tab rfl rfl (by simp [go_sem]) (by simp [go_sem]) (by simp [go_sem]) (by simp [go_sem])) rfl ⟨rfl, box_below _ _⟩
theorem Tw.its (h : Tw W b ha mb S O m mr r nb t ns fs F B0) : Calls Tryz.prog 56 #[tp b] W fun e w' => e = .returned (tv (An.wp ha) (Bu.wp mb) (.int .i64 mr) (.int .i64 r)) ∧ Below W.heap.size W w' :=
  tits_some h.e0 h.e1 h.e2 h.e3
/-- a node in a block -/
structure Pbx (w : World) (K : Nat) (p : Pa.Pt) : Prop where
  c0 : w.cell? ⟨K, 0, none⟩ = some (.int .i64 p.a)
  c1 : w.cell? ⟨K, 1, none⟩ = some (.int .i64 p.b)
  c2 : w.cell? ⟨K, 2, none⟩ = some (.int .i64 p.c)
  c3 : w.cell? ⟨K, 3, none⟩ = some (.int .i64 p.d)
  c4 : w.cell? ⟨K, 4, none⟩ = some (.int .i64 p.e)
abbrev pcs (p : Pa.Pt) : Array Value := #[.int .i64 p.a, .int .i64 p.b, .int .i64 p.c, .int .i64 p.d, .int .i64 p.e]
theorem Pbx.new (w : World) (p : Pa.Pt) (t : TypeId) : Pbx (w.alloc (.cells (pcs p) t)) w.heap.size p := by
  refine ⟨?_, ?_, ?_, ?_, ?_⟩ <;> simp [go_sem]
theorem Pbx.only {w w' : World} {K : Nat} (h : Pbx w K p) (ho : OnlyS T w w') (hK : ¬ T K) : Pbx w' K p := by
  have hb := ho.block K (cell_lt h.c0) hK
  have k : ∀ o, w'.cell? ⟨K, o, none⟩ = w.cell? ⟨K, o, none⟩ := fun o => World.cell?_of_block (w := w) (a := ⟨K, o, none⟩) hb
  exact ⟨(k 0).trans h.c0, (k 1).trans h.c1, (k 2).trans h.c2, (k 3).trans h.c3, (k 4).trans h.c4⟩
theorem Pbx.below {w w' : World} {K : Nat} (h : Pbx w K p) (hb : Below w.heap.size w w') : Pbx w' K p := h.only (OnlyS.of_below (S := fun _ => False) hb) id
def errP (p : Pa.Pt) : Int := if Pa.rightB p then 0 else 1
theorem refuses_t (h : Tw W b ha mb S O m mr r nb t ns fs F B0) (p : Pa.Pt) : Calls Tryz.prog 39 #[tp b, p.v] W fun e w' => e = .returned (.int .i64 (errP p)) ∧ Below W.heap.size W w' := by
  have hx := box_below W (.cells (pcs p) 30)
  have HI := Lib.hid ((h.below hx).its)
  have HB := Lib.hid (Pbx.new W p 30)
  have HX := Lib.hid hx
  have HE := Lib.hid (show errP p = if Pa.rightB p then 0 else 1 from rfl)
  have HM := Lib.hid (fun w' => Pa.may_any p w')
  clear h hx
  generalize errP p = z at *
  cases hr : Pa.rightB p
  all_goals
    rw [hr] at HE HM
    clear hr
    obtain ⟨pa, pb, pc, pd, pe⟩ := p
    go_enter Tryz.func39, Tryz.ntmps39
    go_wp2_with fail
    refine HI.out.mono ?_
    rintro e w1 ⟨rfl, hb1⟩
    have hB1 := HB.out.below hb1
    have b0 := hB1.c0
    have b1 := hB1.c1
    have b2 := hB1.c2
    have b3 := hB1.c3
    have b4 := hB1.c4
    simp only at b0 b1 b2 b3 b4
    have HX1 := Lib.hid (HX.out.trans (hb1.mono HX.out.size))
    clear hb1 hB1 HB HI
    go_wp2_with fail
    refine (HM.out _).mono ?_
    rintro e w2 ⟨rfl, hb2⟩
    have HX2 := Lib.hid (HX1.out.trans (hb2.mono HX1.out.size))
    clear hb2 b0 b1 b2 b3 b4
    go_wp2_with fail
    go_ret
    exact ⟨by rw [HE.out]; rfl, HX2.out⟩
theorem trefuses_none (W : World) (p : Pa.Pt) : Calls Tryz.prog 39 #[.pointer none, p.v] W fun e w' => e = .returned (.int .i64 70) ∧ Below W.heap.size W w' := by
  have hx := box_below W (.cells (pcs p) 30)
  have HI := Lib.hid (tits_none (W.alloc (.cells (pcs p) 30)))
  have HX := Lib.hid hx
  clear hx
  obtain ⟨pa, pb, pc, pd, pe⟩ := p
  go_enter Tryz.func39, Tryz.ntmps39
  go_wp2_with fail
  refine HI.out.mono ?_
  rintro e w1 ⟨rfl, hb1⟩
  have HX1 := Lib.hid (HX.out.trans (hb1.mono HX.out.size))
  clear hb1 HI
  go_wp2_with fail
  go_ret
  exact ⟨rfl, HX1.out⟩
theorem Tw.get (h : Tw W b ha mb S O m mr r nb t ns fs F B0) (p : Pa.Pt) : Calls Tryz.prog 75 #[Bu.wp mb, .int .u64 (Pa.keyP p)] W fun e w' => e = .returned (Bu.gotV (F (Pa.keyP p))) ∧ Below W.heap.size W w' := by
  obtain ⟨Lo, g, c, cs, hm⟩ := h.mq
  exact (hm.get (Pa.key_bd p)).mono fun e w' ⟨h1, j, h2⟩ => ⟨h1, by subst h2; exact drew_below _ _⟩
theorem find_yes (h : Tw W b ha mb S O m mr r nb t ns fs F B0) (hi : Isn ns i n) (hF : F (Pa.keyP n.p) = some (i : Int)) :
    Calls Tryz.prog 40 #[tp b, n.p.v] W fun e w' => e = .returned (.tuple #[qp n.q, .bool true]) ∧ Below W.heap.size W w' := by
  have hx := box_below W (.cells (pcs n.p) 30)
  have h1 := h.below hx
  have gI : Gives (W.alloc (.cells (pcs n.p) 30)) 56 #[tp b] (tv (An.wp ha) (Bu.wp mb) (.int .i64 mr) (.int .i64 r)) := fun w' hb => acc hb (h1.below hb).its
  have gK : Gives (W.alloc (.cells (pcs n.p) 30)) 76 #[n.p.v] (.int .u64 (Pa.keyP n.p)) := fun w' hb => acc hb (Pa.key_any n.p w')
  have gG : Gives (W.alloc (.cells (pcs n.p) 30)) 75 #[Bu.wp mb, .int .u64 (Pa.keyP n.p)] (Bu.gotV (some (i : Int))) := fun w' hb => acc hb (by rw [← hF]; exact (h1.below hb).get n.p)
  have HH := Lib.hid (fun w' hb => An.get_yes (h1.below (W' := w') hb).ar (pls_at hi))
  have hB := Pbx.new W n.p 30
  have b0 := hB.c0
  have b1 := hB.c1
  have b2 := hB.c2
  have b3 := hB.c3
  have b4 := hB.c4
  have hlt := box_lt W (.cells (pcs n.p) 30)
  have HX := Lib.hid hx
  clear h hF hi h1 hx hB
  obtain ⟨⟨pa, pb, pc, pd, pe⟩, q, H, L⟩ := n
  simp only at *
  have hV : Bu.gotV (some (i : Int)) = .tuple #[.int .i64 (i : Int), .bool true] := rfl
  rw [hV] at gG
  clear hV
  generalize Pa.keyP ⟨pa, pb, pc, pd, pe⟩ = k at *
  go_enter Tryz.func40, Tryz.ntmps40
  go_wp2
  generalize W.alloc (.cells #[.int .i64 pa, .int .i64 pb, .int .i64 pc, .int .i64 pd, .int .i64 pe] 30) = W1 at *
  refine wp_region_later W1 (by kernel_rfl) (by kernel_rfl) (Below.refl _ _) ?_
  repeat (go_big_quiet_step (((first | go_at_call 56 | go_at_call 76 | go_at_call 75); exact Gives.later (by with_reducible assumption))))
  refine wpQuiet_nil ?_
  intro w2 hw2
  have hb2 := in_later hw2
  clear hw2
  have HI2 := Lib.hid (gI w2 hb2)
  clear gI gK gG b0 b1 b2 b3 b4
  go_wp2_with fail
  refine HI2.out.mono ?_
  rintro e w3 ⟨rfl, hb3⟩
  have HG3 := Lib.hid (HH.out w3 hb3)
  have HB3 := Lib.hid hb3
  clear hb3 hb2 HI2 HH
  go_wp2_with fail
  refine HG3.out.mono ?_
  rintro e w4 ⟨rfl, hb4⟩
  have HX4 := Lib.hid ((HX.out.trans (HB3.out.mono HX.out.size)).trans (hb4.mono (HX.out.trans (HB3.out.mono HX.out.size)).size))
  clear hb4 HG3 HB3
  go_wp2_with fail
  go_ret2
  exact ⟨rfl, (HX4.out.alloc HX4.out.size _)⟩
theorem find_no (h : Tw W b ha mb S O m mr r nb t ns fs F B0) (p : Pa.Pt) (hF : F (Pa.keyP p) = none) :
    Calls Tryz.prog 40 #[tp b, p.v] W fun e w' => ∃ B, e = .returned (.tuple #[qp B, .bool false]) ∧ QAt w' B none 0 none 0 [] [] ∧ Below W.heap.size W w' ∧ W.heap.size ≤ B := by
  have hx := box_below W (.cells (pcs p) 30)
  have h1 := h.below hx
  have gI : Gives (W.alloc (.cells (pcs p) 30)) 56 #[tp b] (tv (An.wp ha) (Bu.wp mb) (.int .i64 mr) (.int .i64 r)) := fun w' hb => acc hb (h1.below hb).its
  have gK : Gives (W.alloc (.cells (pcs p) 30)) 76 #[p.v] (.int .u64 (Pa.keyP p)) := fun w' hb => acc hb (Pa.key_any p w')
  have gG : Gives (W.alloc (.cells (pcs p) 30)) 75 #[Bu.wp mb, .int .u64 (Pa.keyP p)] (Bu.gotV none) := fun w' hb => acc hb (by rw [← hF]; exact (h1.below hb).get p)
  have hB := Pbx.new W p 30
  have b0 := hB.c0
  have b1 := hB.c1
  have b2 := hB.c2
  have b3 := hB.c3
  have b4 := hB.c4
  have hlt := box_lt W (.cells (pcs p) 30)
  have HX := Lib.hid hx
  clear h hF h1 hx hB
  obtain ⟨pa, pb, pc, pd, pe⟩ := p
  simp only at *
  have hV : Bu.gotV none = .tuple #[.int .i64 0, .bool false] := rfl
  rw [hV] at gG
  clear hV
  generalize Pa.keyP ⟨pa, pb, pc, pd, pe⟩ = k at *
  go_enter Tryz.func40, Tryz.ntmps40
  go_wp2
  generalize W.alloc (.cells #[.int .i64 pa, .int .i64 pb, .int .i64 pc, .int .i64 pd, .int .i64 pe] 30) = W1 at *
  refine wp_region_later W1 (by kernel_rfl) (by kernel_rfl) (Below.refl _ _) ?_
  repeat (go_big_quiet_step (((first | go_at_call 56 | go_at_call 76 | go_at_call 75); exact Gives.later (by with_reducible assumption))))
  refine wpQuiet_nil ?_
  intro w2 hw2
  have HB2 := Lib.hid (HX.out.trans ((in_later hw2).mono HX.out.size))
  clear hw2 gI gK gG b0 b1 b2 b3 b4
  go_wp2_with fail
  go_ret2
  exact ⟨w2.heap.size, rfl, QAt.nils w2, HB2.out.alloc HB2.out.size _, HB2.out.size⟩
end
end Go.Proofs.YtmolohncllcgbaaGreatDoor
