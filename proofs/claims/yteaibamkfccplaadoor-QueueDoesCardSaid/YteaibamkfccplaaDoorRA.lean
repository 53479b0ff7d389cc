/- The document's queue in memory; how many both are; its copy. -/
import Derived.Test.YteaibamkfccplaaDoorM2
import Derived.Deep.RegionHeld3
namespace Go.Proofs.YteaibamkfccplaaDoor
open Go Go.RowKit Go.Shelf
set_option maxRecDepth 100000

section
variable {ops : Array Oper} {o : Oper} {a : Act} {w : World} {K : Act → World → Prop} {Q : Exit → Act → World → Prop} {E : Prop}
/-- append of holds to nothing, in a region that draws -/
theorem Hs.step_nil {base c n : Nat} {A : Option Addr} {ys : List Hs.Hd} (hg : o.guard = none) (s x : Operand) (hop : o.op = Op.call { callee := Callee.builtin Builtin.append, args := #[s, x], argTypes := #[25, 25] })
    (hs : a.eval s = .slice none 0 0) (hx : a.eval x = .slice A n c) (hl : Hs.Ls w A c ys) (hn : ys.length = n) (hle : n ≤ 1000) (hb : base ≤ w.heap.size)
    (hK : ∀ A' c' w', Hs.Row w' base (.slice A' n c') ys → Below w.heap.size w w' → K (a.put o.dst (.slice A' n c')) w') :
    if Region.wanted o (yielded ops a.tmps) = true then Oper.wp Tryd.prog o a w K Q else E := by
  subst hn
  obtain ⟨v', w', hrun, hrow, hgr, -⟩ := (show Hs.Row w base (.slice none 0 0) [] from World.ownsRow_nil _ _ _ _).app hl (by simpa using hle) hb o.type
  obtain ⟨A', c', rfl, -⟩ := hrow.ls
  have hw : Region.wanted o (yielded ops a.tmps) = true := by simp [Region.wanted, hg]
  rw [if_pos hw]
  unfold Oper.wp
  simp [execOp, hop, resolve, invoke, builtin, hs, hx, hrun, Result.andThen]
  exact hK _ _ _ hrow ⟨hgr.os, hgr.tape, hgr.output, hgr.size, fun k hk => hgr.block k hk (by simp [Value.ownBlock])⟩
end
abbrev z0 : Value := .int .i64 0
/-- the document's queue lies in a block: a path that plays no part, its holds, its waits -/
structure RAt (W : World) (b : Nat) (A1 : Option Addr) (c1 : Nat) (A2 : Option Addr) (c2 : Nat) (H : List Hs.Hd) (L : List Ws.Wt) : Prop where
  blk : W.heap[b]? = some (.cells #[.int .i64 0, .int .i64 0, .int .i64 0, .int .i64 0, .int .i64 0, .slice A1 H.length c1, .slice A2 L.length c2] 34 (0, 0))
  h : Hs.Ls W A1 c1 H
  l : Ws.Ls W A2 c2 L
  ph : ∀ x ∈ H, x.1 ≠ 0
  pl : ∀ x ∈ L, x.1 ≠ 0
section
variable {W W' : World} {b n1 n2 : Nat} {A1 A2 B1 B2 : Option Addr} {c1 c2 d1 d2 : Nat} {H H' : List Hs.Hd} {L L' : List Ws.Wt}
theorem RAt.e0 (h : RAt W b A1 c1 A2 c2 H L) : W.cell? ⟨b, 0, none⟩ = some (.int .i64 0) := by rw [cell_blk h.blk]; rfl
theorem RAt.e1 (h : RAt W b A1 c1 A2 c2 H L) : W.cell? ⟨b, 1, none⟩ = some (.int .i64 0) := by rw [cell_blk h.blk]; rfl
theorem RAt.e2 (h : RAt W b A1 c1 A2 c2 H L) : W.cell? ⟨b, 2, none⟩ = some (.int .i64 0) := by rw [cell_blk h.blk]; rfl
theorem RAt.e3 (h : RAt W b A1 c1 A2 c2 H L) : W.cell? ⟨b, 3, none⟩ = some (.int .i64 0) := by rw [cell_blk h.blk]; rfl
theorem RAt.e4 (h : RAt W b A1 c1 A2 c2 H L) : W.cell? ⟨b, 4, none⟩ = some (.int .i64 0) := by rw [cell_blk h.blk]; rfl
theorem RAt.e5 (h : RAt W b A1 c1 A2 c2 H L) : W.cell? ⟨b, 5, none⟩ = some (.slice A1 H.length c1) := by rw [cell_blk h.blk]; rfl
theorem RAt.e6 (h : RAt W b A1 c1 A2 c2 H L) : W.cell? ⟨b, 6, none⟩ = some (.slice A2 L.length c2) := by rw [cell_blk h.blk]; rfl
theorem RAt.e5n (h : RAt W b A1 c1 A2 c2 H L) {n : Nat} (hn : H.length = n) : W.cell? ⟨b, 5, none⟩ = some (.slice A1 n c1) := by rw [← hn]; exact h.e5
theorem RAt.e6n (h : RAt W b A1 c1 A2 c2 H L) {n : Nat} (hn : L.length = n) : W.cell? ⟨b, 6, none⟩ = some (.slice A2 n c2) := by rw [← hn]; exact h.e6
theorem RAt.lt (h : RAt W b A1 c1 A2 c2 H L) : b < W.heap.size := lt_blk h.blk
theorem RAt.fz (h : RAt W b A1 c1 A2 c2 H L) (k : Nat) : W.frozen? ⟨b, k, none⟩ = false := free_blk h.blk
theorem RAt.below (h : RAt W b A1 c1 A2 c2 H L) (hb : Below W.heap.size W W') : RAt W' b A1 c1 A2 c2 H L :=
  ⟨(hb.block b h.lt).trans h.blk, h.h.below hb, h.l.below hb, h.ph, h.pl⟩
theorem RAt.noint (h : RAt W b A1 c1 A2 c2 H L) (k : Nat) {x : Int} (hx : x ≠ 0) : W.cell? ⟨b, k, none⟩ ≠ some (.int .i64 x) := by
  rw [cell_blk h.blk]
  match k with
  | 0 => simpa using fun e => hx e.symm
  | 1 => simpa using fun e => hx e.symm
  | 2 => simpa using fun e => hx e.symm
  | 3 => simpa using fun e => hx e.symm
  | 4 => simpa using fun e => hx e.symm
  | 5 => simp
  | 6 => simp
  | k + 7 => simp
theorem RAt.set5 (h : RAt W b A1 c1 A2 c2 H L) (hh : Hs.Ls W B1 d1 H') (hp : ∀ x ∈ H', x.1 ≠ 0) : RAt (W.setCell ⟨b, 5, none⟩ (.slice B1 H'.length d1)) b B1 d1 A2 c2 H' L :=
  ⟨by rw [set_blk _ h.blk]; rfl, hh.off (b := b) (fun k x hx => h.noint k (hp x hx)) (OnlyS.set _ _ _ _), h.l.off (b := b) (fun k x hx => h.noint k (h.pl x hx)) (OnlyS.set _ _ _ _), hp, h.pl⟩
theorem RAt.set6 (h : RAt W b A1 c1 A2 c2 H L) (hl : Ws.Ls W B2 d2 L') (hp : ∀ x ∈ L', x.1 ≠ 0) : RAt (W.setCell ⟨b, 6, none⟩ (.slice B2 L'.length d2)) b A1 c1 B2 d2 H L' :=
  ⟨by rw [set_blk _ h.blk]; rfl, h.h.off (b := b) (fun k x hx => h.noint k (h.ph x hx)) (OnlyS.set _ _ _ _), hl.off (b := b) (fun k x hx => h.noint k (hp x hx)) (OnlyS.set _ _ _ _), h.ph, hp⟩
theorem RAt.new (W : World) (hh : Hs.Ls W A1 c1 H) (hl : Ws.Ls W A2 c2 L) (ph : ∀ x ∈ H, x.1 ≠ 0) (pl : ∀ x ∈ L, x.1 ≠ 0) :
    RAt (W.alloc (.cells #[.int .i64 0, .int .i64 0, .int .i64 0, .int .i64 0, .int .i64 0, .slice A1 H.length c1, .slice A2 L.length c2] 34)) W.heap.size A1 c1 A2 c2 H L :=
  ⟨heap_alloc_new W _, hh.below (box_below _ _), hl.below (box_below _ _), ph, pl⟩
/-- what a call leaves that may change the document's queue alone -/
def RLeft (b : Nat) (W : World) (H : List Hs.Hd) (L : List Ws.Wt) (w' : World) : Prop := (∃ A1 c1 A2 c2, RAt w' b A1 c1 A2 c2 H L) ∧ OnlyS (· = b) W w'
theorem rsize_any (h : RAt W b A1 c1 A2 c2 H L) (h1 : H.length ≤ 5000) (h2 : L.length ≤ 5000) : Calls Tryd.prog 11 #[qp b] W fun e w' => e = .returned (.int .i64 ((H.length + L.length : Nat) : Int)) ∧ Below W.heap.size W w' := by
  have e5 := h.e5
  have e6 := h.e6
  clear h
  generalize H.length = n at *
  generalize L.length = m at *
  go_enter Tryd.func11, Tryd.ntmps11
  go_wp2
  go_quiet (fail)
  go_wp2
  go_ret
  exact ⟨ret_int (by omega), drew_below _ _⟩
/-- the cells of the document's queue, in a later world -/
abbrev SR (b : Nat) (A1 : Option Addr) (n1 c1 : Nat) (A2 : Option Addr) (n2 c2 : Nat) (W w' : World) : Prop :=
  w'.cell? ⟨b, 0, none⟩ = some (.int .i64 0) ∧ w'.cell? ⟨b, 1, none⟩ = some (.int .i64 0) ∧ w'.cell? ⟨b, 2, none⟩ = some (.int .i64 0) ∧ w'.cell? ⟨b, 3, none⟩ = some (.int .i64 0) ∧ w'.cell? ⟨b, 4, none⟩ = some (.int .i64 0) ∧
    w'.cell? ⟨b, 5, none⟩ = some (.slice A1 n1 c1) ∧ w'.cell? ⟨b, 6, none⟩ = some (.slice A2 n2 c2) ∧ Below W.heap.size W w'
theorem sr_of (h : RAt W b A1 c1 A2 c2 H L) (hn1 : H.length = n1) (hn2 : L.length = n2) (hb : Below W.heap.size W W') : SR b A1 n1 c1 A2 n2 c2 W W' := by
  have q := h.below hb
  exact ⟨q.e0, q.e1, q.e2, q.e3, q.e4, q.e5n hn1, q.e6n hn2, hb⟩
theorem sr_bel (h : SR b A1 n1 c1 A2 n2 c2 W W') : Below W.heap.size W W' := h.2.2.2.2.2.2.2
def RMk (W : World) (H : List Hs.Hd) (L : List Ws.Wt) (e : Ending) (w' : World) : Prop := ∃ b A1 c1 A2 c2, e = .returned (qp b) ∧ RAt w' b A1 c1 A2 c2 H L ∧ Below W.heap.size W w' ∧ W.heap.size ≤ b
theorem copied {w : World} (hn1 : H.length = n1) (hn2 : L.length = n2) (h : RAt W b A1 c1 A2 c2 H L) (hb : Below W.heap.size W w) (hh : Hs.Ls w B1 d1 H) (hl : Ws.Ls w B2 d2 L) :
    RMk W H L (.returned (.pointer (some ⟨w.heap.size, 0, none⟩))) (w.alloc (.cells #[.int .i64 0, .int .i64 0, .int .i64 0, .int .i64 0, .int .i64 0, .slice B1 n1 d1, .slice B2 n2 d2] 34)) := by
  subst hn1
  subst hn2
  exact ⟨w.heap.size, B1, d1, B2, d2, rfl, RAt.new w hh hl h.ph h.pl, hb.trans ((box_below _ _).mono hb.size), hb.size⟩
set_option maxHeartbeats 4000000 in
theorem rcopy_any (h : RAt W b A1 c1 A2 c2 H L) (h1 : H.length ≤ 500) (h2 : L.length ≤ 500) : Calls Tryd.prog 9 #[qp b] W (RMk W H L) := by
  obtain ⟨n1, hn1⟩ : ∃ n, H.length = n := ⟨_, rfl⟩
  obtain ⟨n2, hn2⟩ : ∃ n, L.length = n := ⟨_, rfl⟩
  have HQ := Lib.hid h
  have HS := Lib.hid (fun (w' : World) (hb : Below W.heap.size W w') => sr_of h hn1 hn2 hb)
  have N1 := Lib.hid hn1
  have N2 := Lib.hid hn2
  rw [hn1] at h1
  rw [hn2] at h2
  clear h hn1 hn2
  go_enter Tryd.func9, Tryd.ntmps9
  go_wp2
  go_region_held3 (SR b A1 n1 c1 A2 n2 c2 W) (first | exact HS.out _ (drew_below W 1) | assumption | exact HS.out _ ((sr_bel hsb).trans ((box_below _ _).mono (sr_bel hsb).size)) | exact HS.out _ ((sr_bel hsa).trans ((box_below _ _).mono (sr_bel hsa).size)) | fail) (first
    | (refine Hs.step_nil (base := W.heap.size) (A := A1) (c := c1) (n := n1) (ys := H) ?h1 (.const (.slice none 0 0)) (.tmp 10) ?h2 ?h3 ?h4 ?h5 N1.out ?h6 ?h7 ?_; rotate_right; (case h1 => rfl); (case h2 => rfl); (case h3 => kernel_rfl); (case h4 => kernel_rfl); (case h5 => first | exact HQ.out.h.below (drew_below W 1) | exact HQ.out.h.below (sr_bel hsb)); (case h6 => omega); (case h7 => first | exact Nat.le_refl _ | exact (sr_bel hsb).size); intro B1 d1 wa hra hba; have hsa : SR b A1 n1 c1 A2 n2 c2 W wa := (by first | exact HS.out _ ((drew_below W 1).trans hba) | exact HS.out _ ((sr_bel hsb).trans (hba.mono (sr_bel hsb).size))))
    | (refine Ws.step_nil (base := W.heap.size) (A := A2) (c := c2) (n := n2) (ys := L) ?h1 (.const (.slice none 0 0)) (.tmp 15) ?h2 ?h3 ?h4 ?h5 N2.out ?h6 ?h7 ?_; rotate_right; (case h1 => rfl); (case h2 => rfl); (case h3 => kernel_rfl); (case h4 => kernel_rfl); (case h5 => first | exact HQ.out.l.below (drew_below W 1) | exact HQ.out.l.below (sr_bel hsa)); (case h6 => omega); (case h7 => first | exact Nat.le_refl _ | exact (sr_bel hsa).size); intro B2 d2 wb hrb hbb; have hsb : SR b A1 n1 c1 A2 n2 c2 W wb := (by first | exact HS.out _ ((drew_below W 1).trans hbb) | exact HS.out _ ((sr_bel hsa).trans (hbb.mono (sr_bel hsa).size))))
    | fail)
  all_goals
    have HM := Lib.hid (by first | exact copied N1.out N2.out HQ.out (sr_bel hsb) (Hs.Row.lsv (row_below hra hbb)) hrb.lsv | exact copied N1.out N2.out HQ.out (sr_bel hsa) hra.lsv (Ws.Row.lsv (row_below hrb hba)) : RMk W H L _ _)
    clear hra hrb hba hbb hsa hsb
    go_wp2
    go_ret
    exact HM.out
end
end Go.Proofs.YteaibamkfccplaaDoor
