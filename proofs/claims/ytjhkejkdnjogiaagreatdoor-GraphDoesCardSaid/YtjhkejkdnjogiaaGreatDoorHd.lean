/- A table: what one has, node by node. -/
import Derived.Test.YtjhkejkdnjogiaaGreatDoorPp
namespace Go.Proofs.YtjhkejkdnjogiaaGreatDoor
open Go Go.RowKit Go.Shelf
attribute [local go_sem] Oper.semAt_some
set_option maxRecDepth 100000

theorem callsIn_round {l n : Nat} {P : Program} {f : FuncId} {args : Array Value} {w : World} {R : Ending → World → Prop} (h : Calls P f args w R) : CallsIn (Fence.wide.inRound l) n P f args w R := (callsIn_wide (n := n)).2 h
theorem keepsFrom_below {W W' : World} (h : Below W.heap.size W W') (B : Nat) : KeepsFrom B W W' := ⟨h.size, fun k _ _ hk _ => (h.block k (Array.getElem?_eq_some_iff.1 hk).1).trans hk⟩
/-- a node in a box -/
def PbT (W : World) (B : Nat) (p : Pa.Pt) : Prop := W.heap[B]? = some (.cells (pcs p) 25 (0, 0))
theorem PbT.lt {W : World} {B : Nat} {p : Pa.Pt} (h : PbT W B p) : B < W.heap.size := (Array.getElem?_eq_some_iff.1 h).1
theorem PbT.cells {W : World} {B : Nat} {p : Pa.Pt} (h : PbT W B p) : Pbx W B p := by
  have e : ∀ k, W.cell? ⟨B, k, none⟩ = (pcs p)[k]? := fun k => by unfold World.cell?; simp [show W.heap[B]? = _ from h]
  exact ⟨e 0, e 1, e 2, e 3, e 4⟩
/-- a lock: where, which mode -/
abbrev Lk : Type := Pa.Pt × Int
def encLk (x : Lk) : List Value := [.int .i64 x.1.a, .int .i64 x.1.b, .int .i64 x.1.c, .int .i64 x.1.d, .int .i64 x.1.e, .int .i64 x.2]
abbrev lca (p : Pa.Pt) (m : Int) : Array Value := #[.int .i64 p.a, .int .i64 p.b, .int .i64 p.c, .int .i64 p.d, .int .i64 p.e, .int .i64 m]
def flatLk (ls : List Lk) : List Value := ls.flatMap encLk
theorem flatLk_snoc (ls : List Lk) (x : Lk) : flatLk (ls ++ [x]) = flatLk ls ++ encLk x := by simp [flatLk]
theorem one_lock (x : Lk) : ∀ u ∈ encLk x, u.oneCell' = true := by
  intro u hu
  simp [encLk] at hu
  rcases hu with rfl | rfl | rfl | rfl | rfl | rfl <;> rfl
/-- what one has at these nodes -/
def locksOf (mo : Pa.Pt → Int) (ps : List Pa.Pt) : List Lk := (ps.filter fun p => mo p != 0).map fun p => (p, mo p)
theorem locks_snoc_yes {mo : Pa.Pt → Int} (ps : List Pa.Pt) {p : Pa.Pt} (h : mo p ≠ 0) : locksOf mo (ps ++ [p]) = locksOf mo ps ++ [(p, mo p)] := by
  unfold locksOf
  rw [List.filter_append, List.filter_cons, if_pos (by simpa using h)]
  simp
theorem locks_snoc_no {mo : Pa.Pt → Int} (ps : List Pa.Pt) {p : Pa.Pt} (h : mo p = 0) : locksOf mo (ps ++ [p]) = locksOf mo ps := by
  unfold locksOf
  rw [List.filter_append, List.filter_cons, if_neg (by simp [h])]
  simp
theorem locks_len (mo : Pa.Pt → Int) (ps : List Pa.Pt) : (locksOf mo ps).length ≤ ps.length := by
  unfold locksOf
  rw [List.length_map]
  exact List.length_filter_le _ _
section
variable {w W W' w1 : World} {D0 : Nat} {a : Option Addr} {tx : Int} {ls : List Lk} {v : Value}
end
end Go.Proofs.YtjhkejkdnjogiaaGreatDoor
/- Calls of no table. -/
namespace Go.Proofs.YtjhkejkdnjogiaaGreatDoor
open Go Go.RowKit Go.Shelf
set_option maxRecDepth 100000

theorem tpaths_none (W : World) : Calls Tryz.prog 38 #[.pointer none] W (PathsOf W []) := by
  have := paths_any (tpv := .pointer none) (pv := .pointer none) (x1 := .pointer none) (mv := 0) (rv := 0) (xs := []) (rs := []) (w := W) (fun W' _ => tits_none W') (fun W' _ => An.none_tells W') rfl (by simp)
  rw [show Pa.vals (Pa.srt []) = [] by simp [Pa.srt, Pa.vals]] at this
  exact this
theorem tfind_none (p : Pa.Pt) (W : World) : Calls Tryz.prog 32 #[.pointer none, p.v] W fun e w' => ∃ B, e = .returned (.tuple #[qp B, .bool false]) ∧ QAt w' B none 0 none 0 [] [] ∧ Below W.heap.size W w' ∧ W.heap.size ≤ B := by
  have hx := box_below W (.cells (pcs p) 25)
  have gI : Gives (W.alloc (.cells (pcs p) 25)) 66 #[.pointer none] (tv (.pointer none) (.pointer none) (.int .i64 0) (.int .i64 0)) := fun w' hb => acc hb (tits_none w')
  have gK : Gives (W.alloc (.cells (pcs p) 25)) 68 #[p.v] (.int .u64 (Pa.keyP p)) := fun w' hb => acc hb (Pa.key_any p w')
  have gG : Gives (W.alloc (.cells (pcs p) 25)) 67 #[.pointer none, .int .u64 (Pa.keyP p)] (.tuple #[.int .i64 0, .bool false]) := fun w' hb => acc hb ((Bu.get_none w' (Pa.keyP p)).mono fun _ _ ⟨h1, h2⟩ => ⟨h1, h2 ▸ Below.refl _ _⟩)
  have hB := Pbx.new W p 25
  have b0 := hB.c0
  have b1 := hB.c1
  have b2 := hB.c2
  have b3 := hB.c3
  have b4 := hB.c4
  have hlt := box_lt W (.cells (pcs p) 25)
  have HX := Lib.hid hx
  clear hx hB
  obtain ⟨pa, pb, pc, pd, pe⟩ := p
  simp only at *
  generalize Pa.keyP ⟨pa, pb, pc, pd, pe⟩ = k at *
  go_enter Tryz.func32, Tryz.ntmps32
  go_wp2
  generalize W.alloc (.cells #[.int .i64 pa, .int .i64 pb, .int .i64 pc, .int .i64 pd, .int .i64 pe] 25) = W1 at *
  refine wp_region_later W1 (by kernel_rfl) (by kernel_rfl) (Below.refl _ _) ?_
  repeat (go_big_quiet_step (((first | go_at_call 66 | go_at_call 68 | go_at_call 67); exact Gives.later (by with_reducible assumption))))
  refine wpQuiet_nil ?_
  intro w2 hw2
  have HB2 := Lib.hid (HX.out.trans ((in_later hw2).mono HX.out.size))
  clear hw2 gI gK gG b0 b1 b2 b3 b4
  go_wp2_with fail
  go_ret2
  exact ⟨w2.heap.size, rfl, QAt.nils w2, HB2.out.alloc HB2.out.size _, HB2.out.size⟩
theorem tqueue_none (p : Pa.Pt) (W : World) : Calls Tryz.prog 8 #[.pointer none, p.v] W fun e w' => e = .returned (.pointer none) ∧ Below W.heap.size W w' := by
  have hx := box_below W (.cells (pcs p) 25)
  have HF := Lib.hid (tfind_none p (W.alloc (.cells (pcs p) 25)))
  have HX := Lib.hid hx
  have hB := Pbx.new W p 25
  have b0 := hB.c0
  have b1 := hB.c1
  have b2 := hB.c2
  have b3 := hB.c3
  have b4 := hB.c4
  clear hx hB
  obtain ⟨pa, pb, pc, pd, pe⟩ := p
  simp only at b0 b1 b2 b3 b4
  go_enter Tryz.func8, Tryz.ntmps8
  go_wp2_with fail
  refine HF.out.mono ?_
  rintro e w1 ⟨B, rfl, hq, hb1, -⟩
  have HX1 := Lib.hid (HX.out.trans (hb1.mono HX.out.size))
  clear hq hb1 b0 b1 b2 b3 b4 HF
  go_wp2_with fail
  go_ret
  exact ⟨rfl, HX1.out⟩
theorem task_none (tx md fl : Int) (p : Pa.Pt) (W : World) : Calls Tryz.prog 25 #[.pointer none, .int .i64 tx, p.v, .int .i64 md, .int .i64 fl] W fun e w' => e = .returned (.tuple #[.int .i64 0, .int .i64 70]) ∧ Below W.heap.size W w' := by
  have hx := box_below W (.cells (pcs p) 25)
  have HR := Lib.hid (trefuses_none (W.alloc (.cells (pcs p) 25)) p)
  have HX := Lib.hid hx
  have hB := Pbx.new W p 25
  have b0 := hB.c0
  have b1 := hB.c1
  have b2 := hB.c2
  have b3 := hB.c3
  have b4 := hB.c4
  clear hx hB
  obtain ⟨pa, pb, pc, pd, pe⟩ := p
  simp only at b0 b1 b2 b3 b4
  go_enter Tryz.func25, Tryz.ntmps25
  go_wp2_with fail
  refine HR.out.mono ?_
  rintro e w1 ⟨rfl, hb1⟩
  have HX1 := Lib.hid (HX.out.trans (hb1.mono HX.out.size))
  clear hb1 b0 b1 b2 b3 b4 HR
  go_wp2_with fail
  go_ret2
  exact ⟨rfl, HX1.out⟩
theorem tleave_none (tx : Int) (p : Pa.Pt) (fv : Value) (W : World) : Calls Tryz.prog 54 #[.pointer none, .int .i64 tx, p.v, fv] W fun e w' => e = .returned (.tuple #[.slice none 0 0, .int .i64 70]) ∧ Below W.heap.size W w' := by
  have hx := box_below W (.cells (pcs p) 25)
  have HR := Lib.hid (trefuses_none (W.alloc (.cells (pcs p) 25)) p)
  have HX := Lib.hid hx
  have hB := Pbx.new W p 25
  have b0 := hB.c0
  have b1 := hB.c1
  have b2 := hB.c2
  have b3 := hB.c3
  have b4 := hB.c4
  clear hx hB
  obtain ⟨pa, pb, pc, pd, pe⟩ := p
  simp only at b0 b1 b2 b3 b4
  go_enter Tryz.func54, Tryz.ntmps54
  go_wp2_with fail
  refine HR.out.mono ?_
  rintro e w1 ⟨rfl, hb1⟩
  have HX1 := Lib.hid (HX.out.trans (hb1.mono HX.out.size))
  clear hb1 b0 b1 b2 b3 b4 HR
  go_wp2_with fail
  go_ret2
  exact ⟨rfl, HX1.out⟩
theorem trelease_none (tx : Int) (p : Pa.Pt) (W : World) : Calls Tryz.prog 27 #[.pointer none, .int .i64 tx, p.v] W fun e w' => e = .returned (.tuple #[.slice none 0 0, .int .i64 70]) ∧ Below W.heap.size W w' := by
  have hx := box_below W (.cells (pcs p) 25)
  have HR := Lib.hid (tleave_none tx p (.func (.func 55) #[] #[]) (W.alloc (.cells (pcs p) 25)))
  have HX := Lib.hid hx
  have hB := Pbx.new W p 25
  have b0 := hB.c0
  have b1 := hB.c1
  have b2 := hB.c2
  have b3 := hB.c3
  have b4 := hB.c4
  clear hx hB
  obtain ⟨pa, pb, pc, pd, pe⟩ := p
  simp only at b0 b1 b2 b3 b4
  go_enter Tryz.func27, Tryz.ntmps27
  go_wp2_with fail
  refine HR.out.mono ?_
  rintro e w1 ⟨rfl, hb1⟩
  have HX1 := Lib.hid (HX.out.trans (hb1.mono HX.out.size))
  clear hb1 b0 b1 b2 b3 b4 HR
  go_wp2_with fail
  go_ret2
  exact ⟨rfl, HX1.out⟩
theorem tcancel_none (tx : Int) (p : Pa.Pt) (W : World) : Calls Tryz.prog 29 #[.pointer none, .int .i64 tx, p.v] W fun e w' => e = .returned (.tuple #[.slice none 0 0, .int .i64 70]) ∧ Below W.heap.size W w' := by
  have hx := box_below W (.cells (pcs p) 25)
  have HR := Lib.hid (tleave_none tx p (.func (.func 59) #[] #[]) (W.alloc (.cells (pcs p) 25)))
  have HX := Lib.hid hx
  have hB := Pbx.new W p 25
  have b0 := hB.c0
  have b1 := hB.c1
  have b2 := hB.c2
  have b3 := hB.c3
  have b4 := hB.c4
  clear hx hB
  obtain ⟨pa, pb, pc, pd, pe⟩ := p
  simp only at b0 b1 b2 b3 b4
  go_enter Tryz.func29, Tryz.ntmps29
  go_wp2_with fail
  refine HR.out.mono ?_
  rintro e w1 ⟨rfl, hb1⟩
  have HX1 := Lib.hid (HX.out.trans (hb1.mono HX.out.size))
  clear hb1 b0 b1 b2 b3 b4 HR
  go_wp2_with fail
  go_ret2
  exact ⟨rfl, HX1.out⟩
end Go.Proofs.YtjhkejkdnjogiaaGreatDoor
