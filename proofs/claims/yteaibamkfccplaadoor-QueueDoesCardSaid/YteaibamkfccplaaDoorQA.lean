/- A queue in memory: what the readers tell of it; of none. -/
import Derived.Test.YteaibamkfccplaaDoorHS3
import Derived.Test.YteaibamkfccplaaDoorHP2
import Derived.Test.YteaibamkfccplaaDoorWI3
import Derived.Deep.QuietTactic
namespace Go.Proofs.YteaibamkfccplaaDoor
open Go Go.RowKit Go.Shelf
set_option maxRecDepth 100000

abbrev qp (b : Nat) : Value := .pointer (some ⟨b, 0, none⟩)
/-- both lists as a value -/
abbrev qv (A1 : Option Addr) (n1 c1 : Nat) (A2 : Option Addr) (n2 c2 : Nat) : Value := .agg #[.slice A1 n1 c1, .slice A2 n2 c2]
@[go_sem] theorem field_h (w : World) (A1 A2 : Option Addr) (n1 c1 n2 c2 : Nat) : (Instr.field 28 (qv A1 n1 c1 A2 n2 c2) 0).run Tryd.prog w = .ok (.slice A1 n1 c1) w := by
  simp [Instr.field, asAgg, part]
@[go_sem] theorem field_w (w : World) (A1 A2 : Option Addr) (n1 c1 n2 c2 : Nat) : (Instr.field 28 (qv A1 n1 c1 A2 n2 c2) 1).run Tryd.prog w = .ok (.slice A2 n2 c2) w := by
  simp [Instr.field, asAgg, part]
/-- a queue lies in a block: its holds, its waits -/
structure QAt (W : World) (b : Nat) (A1 : Option Addr) (c1 : Nat) (A2 : Option Addr) (c2 : Nat) (H : List Hs.Hd) (L : List Ws.Wt) : Prop where
  blk : W.heap[b]? = some (.cells #[.slice A1 H.length c1, .slice A2 L.length c2] 28 (0, 0))
  h : Hs.Ls W A1 c1 H
  l : Ws.Ls W A2 c2 L
theorem cell_blk {W : World} {b k : Nat} {cs : Array Value} {t : TypeId} {fr : Nat × Nat} (h : W.heap[b]? = some (.cells cs t fr)) : W.cell? ⟨b, k, none⟩ = cs[k]? := by
  unfold World.cell?
  simp [h]
theorem free_blk {W : World} {b k : Nat} {cs : Array Value} {t : TypeId} (h : W.heap[b]? = some (.cells cs t (0, 0))) : W.frozen? ⟨b, k, none⟩ = false := by
  unfold World.frozen?
  simp [h]
theorem lt_blk {W : World} {b : Nat} {o : Obj} (h : W.heap[b]? = some o) : b < W.heap.size := (Array.getElem?_eq_some_iff.1 h).1
section
variable {W W' : World} {b n1 n2 : Nat} {A1 A2 : Option Addr} {c1 c2 : Nat} {H : List Hs.Hd} {L : List Ws.Wt}
theorem QAt.e0 (h : QAt W b A1 c1 A2 c2 H L) : W.cell? ⟨b, 0, none⟩ = some (.slice A1 H.length c1) := by rw [cell_blk h.blk]; rfl
theorem QAt.e1 (h : QAt W b A1 c1 A2 c2 H L) : W.cell? ⟨b, 1, none⟩ = some (.slice A2 L.length c2) := by rw [cell_blk h.blk]; rfl
theorem QAt.lt (h : QAt W b A1 c1 A2 c2 H L) : b < W.heap.size := lt_blk h.blk
theorem QAt.below (h : QAt W b A1 c1 A2 c2 H L) (hb : Below W.heap.size W W') : QAt W' b A1 c1 A2 c2 H L :=
  ⟨(hb.block b h.lt).trans h.blk, h.h.below hb, h.l.below hb⟩

/-- what the lists of a queue, or of none, are told to be -/
structure Its (W : World) (p : Value) (A1 : Option Addr) (c1 : Nat) (A2 : Option Addr) (c2 : Nat) (H : List Hs.Hd) (L : List Ws.Wt) : Prop where
  h : Hs.Ls W A1 c1 H
  l : Ws.Ls W A2 c2 L
  its : ∀ W', Below W.heap.size W W' → Calls Tryd.prog 47 #[p] W' fun e w' => e = .returned (qv A1 H.length c1 A2 L.length c2) ∧ Below W'.heap.size W' w'
theorem Its.below {p : Value} (h : Its W p A1 c1 A2 c2 H L) (hb : Below W.heap.size W W') : Its W' p A1 c1 A2 c2 H L :=
  ⟨h.h.below hb, h.l.below hb, fun W'' hb' => h.its W'' (hb.trans (hb'.mono hb.size))⟩
theorem results_queue {fn : Func} {p : Tmp} (h : fn.results = #[.cell p 28]) {tmps : Array Value} {w : World} {b : Nat} (hp : tmps.getD p undef = .pointer (some ⟨b, 0, none⟩))
    (h0 : w.cell? ⟨b, 0, none⟩ = some (.slice A1 n1 c1)) (h1 : w.cell? ⟨b, 1, none⟩ = some (.slice A2 n2 c2)) :
    (results fn tmps).run Tryd.prog w = .ok (qv A1 n1 c1 A2 n2 c2) w := by
  have hp' : tmps[p]?.getD undef = .pointer (some ⟨b, 0, none⟩) := by simpa using hp
  simp [results, h, hp', go_sem, h0, h1]
theorem its_none (W : World) : Calls Tryd.prog 47 #[.pointer none] W fun e w' => e = .returned (qv none 0 0 none 0 0) ∧ Below W.heap.size W w' := by
  go_enter Tryd.func47, Tryd.ntmps47
  go_wp2
  exact bodyPost_ret (results_queue rfl rfl (by simp [go_sem]) (by simp [go_sem])) rfl ⟨rfl, box_below _ _⟩
theorem its_some (q0 : W.cell? ⟨b, 0, none⟩ = some (.slice A1 n1 c1)) (q1 : W.cell? ⟨b, 1, none⟩ = some (.slice A2 n2 c2)) :
    Calls Tryd.prog 47 #[qp b] W fun e w' => e = .returned (qv A1 n1 c1 A2 n2 c2) ∧ Below W.heap.size W w' := by
  have hlt := cell_lt q0
  go_enter Tryd.func47, Tryd.ntmps47
  go_wp2
  exact bodyPost_ret (results_queue rfl rfl (by simp [go_sem]) (by simp [go_sem])) rfl ⟨rfl, box_below _ _⟩
theorem Its.none (W : World) : Its W (.pointer none) Option.none 0 Option.none 0 [] [] := ⟨Hs.Ls.nils _, Ws.Ls.nils _, fun W' _ => its_none W'⟩
theorem QAt.its (h : QAt W b A1 c1 A2 c2 H L) : Its W (qp b) A1 c1 A2 c2 H L :=
  ⟨h.h, h.l, fun _ hb => its_some (h.below hb).e0 (h.below hb).e1⟩
variable {p : Value}
theorem holds_any (h : Its W p A1 c1 A2 c2 H L) (hl : H.length ≤ 500) : Calls Tryd.prog 20 #[p] W (Hs.Lists W H) := by
  have HI := Lib.hid (h.its W (Below.refl _ _))
  have HC := Lib.hid (fun (w1 : World) (hb : Below W.heap.size W w1) => Hs.clone_any (h.h.below hb) hl)
  clear h hl
  obtain ⟨n, hn⟩ : ∃ n, H.length = n := ⟨_, rfl⟩
  have HN := Lib.hid hn
  rw [hn] at HI HC
  clear hn
  go_enter Tryd.func20, Tryd.ntmps20
  go_wp2_with fail
  refine HI.out.mono ?_
  rintro e w1 ⟨rfl, hb1⟩
  have HC1 := Lib.hid (HC.out _ hb1)
  have HB1 := Lib.hid hb1
  clear hb1 HI HC
  go_wp2_with fail
  refine HC1.out.mono ?_
  rintro e w2 ⟨v, rfl, hr, hb2⟩
  obtain ⟨A, c, rfl, hls⟩ := hr.ls
  have HR := Lib.hid hls
  have HB2 := Lib.hid (HB1.out.trans (hb2.mono HB1.out.size))
  rw [HN.out]
  clear hr hls hb2
  go_wp2_with fail
  go_ret
  exact ⟨A, c, by rw [HN.out]; rfl, HR.out, HB2.out⟩
theorem waits_any (h : Its W p A1 c1 A2 c2 H L) (hl : L.length ≤ 500) : Calls Tryd.prog 21 #[p] W (Ws.Lists W L) := by
  have HI := Lib.hid (h.its W (Below.refl _ _))
  have HC := Lib.hid (fun (w1 : World) (hb : Below W.heap.size W w1) => Ws.clone_any (h.l.below hb) hl)
  clear h hl
  obtain ⟨n, hn⟩ : ∃ n, L.length = n := ⟨_, rfl⟩
  have HN := Lib.hid hn
  rw [hn] at HI HC
  clear hn
  go_enter Tryd.func21, Tryd.ntmps21
  go_wp2_with fail
  refine HI.out.mono ?_
  rintro e w1 ⟨rfl, hb1⟩
  have HC1 := Lib.hid (HC.out _ hb1)
  have HB1 := Lib.hid hb1
  clear hb1 HI HC
  go_wp2_with fail
  refine HC1.out.mono ?_
  rintro e w2 ⟨v, rfl, hr, hb2⟩
  obtain ⟨A, c, rfl, hls⟩ := hr.ls
  have HR := Lib.hid hls
  have HB2 := Lib.hid (HB1.out.trans (hb2.mono HB1.out.size))
  rw [HN.out]
  clear hr hls hb2
  go_wp2_with fail
  go_ret
  exact ⟨A, c, by rw [HN.out]; rfl, HR.out, HB2.out⟩
theorem qmode_any (h : Its W p A1 c1 A2 c2 H L) (hl : H.length ≤ 500) (tx : Int) : Calls Tryd.prog 23 #[p, .int .i64 tx] W fun e w' => e = .returned (.int .i64 (Hs.fst tx H)) ∧ Below W.heap.size W w' := by
  have HI := Lib.hid (h.its W (Below.refl _ _))
  have HC := Lib.hid (fun (w1 : World) (hb : Below W.heap.size W w1) => Hs.modeOf_any (h.h.below hb) (by omega) tx)
  clear h hl
  generalize Hs.fst tx H = z at *
  generalize H.length = n at *
  go_enter Tryd.func23, Tryd.ntmps23
  go_wp2_with fail
  refine HI.out.mono ?_
  rintro e w1 ⟨rfl, hb1⟩
  have HC1 := Lib.hid (HC.out _ hb1)
  have HB1 := Lib.hid hb1
  clear hb1 HI HC
  go_wp2_with fail
  refine HC1.out.mono ?_
  rintro e w2 ⟨rfl, hb2⟩
  have HB2 := Lib.hid (HB1.out.trans (hb2.mono HB1.out.size))
  clear hb2
  go_wp2_with fail
  go_ret
  exact ⟨rfl, HB2.out⟩
theorem size_any (h : Its W p A1 c1 A2 c2 H L) (h1 : H.length ≤ 5000) (h2 : L.length ≤ 5000) : Calls Tryd.prog 22 #[p] W fun e w' => e = .returned (.int .i64 ((H.length + L.length : Nat) : Int)) ∧ Below W.heap.size W w' := by
  have HI := Lib.hid h.its
  have HI0 := Lib.hid (h.its W (Below.refl _ _))
  clear h
  generalize H.length = n at *
  generalize L.length = m at *
  go_enter Tryd.func22, Tryd.ntmps22
  go_wp2_with fail
  refine HI0.out.mono ?_
  rintro e w1 ⟨rfl, hb1⟩
  have HI1 := Lib.hid (HI.out _ hb1)
  have HB1 := Lib.hid hb1
  clear hb1 HI HI0
  go_wp2_with fail
  refine HI1.out.mono ?_
  rintro e w2 ⟨rfl, hb2⟩
  have HB2 := Lib.hid (HB1.out.trans (hb2.mono HB1.out.size))
  clear hb2
  go_wp2_with fail
  go_ret
  exact ⟨ret_int (by omega), HB2.out⟩
theorem has_any (h : Its W p A1 c1 A2 c2 H L) (hl : H.length ≤ 500) (tx : Int) : Calls Tryd.prog 38 #[p, .int .i64 tx] W fun e w' => e = .returned (.bool (Hs.fst tx H != 0)) ∧ Below W.heap.size W w' := by
  have HC := Lib.hid (qmode_any h hl tx)
  clear h hl
  generalize Hs.fst tx H = z at *
  go_enter Tryd.func38, Tryd.ntmps38
  go_wp2_with fail
  refine HC.out.mono ?_
  rintro e w1 ⟨rfl, hb1⟩
  have HB1 := Lib.hid hb1
  clear hb1
  go_wp2_with fail
  go_ret
  exact ⟨rfl, HB1.out⟩
theorem awaits_any (h : Its W p A1 c1 A2 c2 H L) (hl : L.length ≤ 500) (tx : Int) : Calls Tryd.prog 39 #[p, .int .i64 tx] W fun e w' => e = .returned (.bool (decide (0 ≤ Ws.fndI tx L))) ∧ Below W.heap.size W w' := by
  have HI := Lib.hid (h.its W (Below.refl _ _))
  have HC := Lib.hid (fun (w1 : World) (hb : Below W.heap.size W w1) => Ws.find_any (h.l.below hb) (by omega) tx)
  clear h hl
  generalize Ws.fndI tx L = z at *
  generalize L.length = n at *
  go_enter Tryd.func39, Tryd.ntmps39
  go_wp2_with fail
  refine HI.out.mono ?_
  rintro e w1 ⟨rfl, hb1⟩
  have HC1 := Lib.hid (HC.out _ hb1)
  have HB1 := Lib.hid hb1
  clear hb1 HI HC
  go_wp2_with fail
  refine HC1.out.mono ?_
  rintro e w2 ⟨rfl, hb2⟩
  have HB2 := Lib.hid (HB1.out.trans (hb2.mono HB1.out.size))
  clear hb2
  go_wp2_with fail
  go_ret
  exact ⟨rfl, HB2.out⟩
theorem copy_none (W : World) : Calls Tryd.prog 17 #[.pointer none] W fun e w' => e = .returned (.pointer none) ∧ W = w' := by
  go_enter Tryd.func17, Tryd.ntmps17
  go_wp2
  go_ret
  exact ⟨rfl, rfl⟩
theorem QAt.new (W : World) (hh : Hs.Ls W A1 c1 H) (hl : Ws.Ls W A2 c2 L) : QAt (W.alloc (.cells #[.slice A1 H.length c1, .slice A2 L.length c2] 28)) W.heap.size A1 c1 A2 c2 H L :=
  ⟨heap_alloc_new W _, hh.below (box_below _ _), hl.below (box_below _ _)⟩
/-- a queue that was made since -/
def Mk (W : World) (H : List Hs.Hd) (L : List Ws.Wt) (e : Ending) (w' : World) : Prop := ∃ b A1 c1 A2 c2, e = .returned (qp b) ∧ QAt w' b A1 c1 A2 c2 H L ∧ Below W.heap.size W w' ∧ W.heap.size ≤ b
theorem copy_some (h : Its W (qp b) A1 c1 A2 c2 H L) (h1 : H.length ≤ 500) (h2 : L.length ≤ 500) : Calls Tryd.prog 17 #[qp b] W (Mk W H L) := by
  have HH := Lib.hid (holds_any h h1)
  have HW := Lib.hid (fun (w1 : World) (hb : Below W.heap.size W w1) => waits_any (h.below hb) h2)
  clear h h1 h2
  go_enter Tryd.func17, Tryd.ntmps17
  go_wp2_with fail
  refine HH.out.mono ?_
  rintro e w1 ⟨B1, d1, rfl, hls1, hb1⟩
  have HL1 := Lib.hid hls1
  have HW1 := Lib.hid (HW.out _ hb1)
  have HB1 := Lib.hid hb1
  obtain ⟨n, hn⟩ : ∃ n, H.length = n := ⟨_, rfl⟩
  have HN := Lib.hid hn
  rw [hn]
  clear hls1 hb1 HH HW hn
  go_wp2_with fail
  refine HW1.out.mono ?_
  rintro e w2 ⟨B2, d2, rfl, hls2, hb2⟩
  have HQ := Lib.hid (QAt.new w2 (HL1.out.below hb2) hls2)
  have HB2 := Lib.hid (HB1.out.trans (hb2.mono HB1.out.size))
  obtain ⟨m, hm⟩ : ∃ m, L.length = m := ⟨_, rfl⟩
  rw [HN.out, hm] at HQ
  rw [hm]
  clear hls2 hb2 hm
  go_wp2_with fail
  go_ret
  exact ⟨w2.heap.size, B1, d1, B2, d2, rfl, HQ.out, HB2.out.trans ((box_below _ _).mono HB2.out.size), HB2.out.size⟩
end
end Go.Proofs.YteaibamkfccplaaDoor
