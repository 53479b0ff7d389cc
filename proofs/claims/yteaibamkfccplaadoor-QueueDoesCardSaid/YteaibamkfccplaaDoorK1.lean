/- The queue beside the document's, and a deed. -/
import Derived.Test.YteaibamkfccplaaDoorRD
import Derived.Test.YteaibamkfccplaaDoorB0
namespace Go.Proofs.YteaibamkfccplaaDoor
open Go Go.RowKit Go.Shelf
set_option maxRecDepth 100000

theorem Inv.nh {H : List Hs.Hd} {L : List Ws.Wt} (h : Inv H L) : ∀ x ∈ H, x.1 ≠ 0 := fun x hx => by have := (h.rh.1 x hx).1; omega
theorem Inv.nl {H : List Hs.Hd} {L : List Ws.Wt} (h : Inv H L) : ∀ x ∈ L, x.1 ≠ 0 := fun x hx => by have := (okW_iff.1 (h.rl.1 x hx)).1; omega
/-- a deed in its box -/
structure Dx (W : World) (K : Nat) (d : Dd) : Prop where
  blk : W.heap[K]? = some (.cells #[.int .i64 d.k, .int .i64 d.t, .int .i64 d.m, .int .i64 d.f] 36 (0, 0))
section
variable {w W W' : World} {b bx Bd by' n : Nat} {A1 A2 : Option Addr} {c1 c2 : Nat} {Hq Hx H H' : List Hs.Hd} {Lq Lx L L' : List Ws.Wt} {d : Dd}
theorem Dx.b0 (h : Dx W Bd d) : W.cell? ⟨Bd, 0, none⟩ = some (.int .i64 d.k) := by rw [cell_blk h.blk]; rfl
theorem Dx.b1 (h : Dx W Bd d) : W.cell? ⟨Bd, 1, none⟩ = some (.int .i64 d.t) := by rw [cell_blk h.blk]; rfl
theorem Dx.b2 (h : Dx W Bd d) : W.cell? ⟨Bd, 2, none⟩ = some (.int .i64 d.m) := by rw [cell_blk h.blk]; rfl
theorem Dx.b3 (h : Dx W Bd d) : W.cell? ⟨Bd, 3, none⟩ = some (.int .i64 d.f) := by rw [cell_blk h.blk]; rfl
theorem Dx.lt (h : Dx W Bd d) : Bd < W.heap.size := lt_blk h.blk
theorem Dx.only (h : Dx W Bd d) (ho : OnlyS (· = b) W W') (hne : Bd ≠ b) : Dx W' Bd d := ⟨(ho.block Bd h.lt hne).trans h.blk⟩
/-- the queue and the document's beside each other -/
structure Dv (w W : World) (b bx : Nat) (Hq : List Hs.Hd) (Lq : List Ws.Wt) (Hx : List Hs.Hd) (Lx : List Ws.Wt) : Prop where
  one : One w W b Hq Lq
  r : ∃ A1 c1 A2 c2, RAt W bx A1 c1 A2 c2 Hx Lx
  hx : w.heap.size ≤ bx
  ne : b ≠ bx
  iq : Inv Hq Lq
theorem Dv.below (h : Dv w W b bx Hq Lq Hx Lx) (hb : Below W.heap.size W W') : Dv w W' b bx Hq Lq Hx Lx := by
  obtain ⟨A1, c1, A2, c2, hr⟩ := h.r
  exact ⟨h.one.below hb, ⟨_, _, _, _, hr.below hb⟩, h.hx, h.ne, h.iq⟩
theorem Dv.left (h : Dv w W b bx Hq Lq Hx Lx) (hl : Left b W H' L' W') (hi : Inv H' L') : Dv w W' b bx H' L' Hx Lx := by
  obtain ⟨A1, c1, A2, c2, hr⟩ := h.r
  obtain ⟨B1, d1, B2, d2, hq⟩ := h.one.q
  exact ⟨h.one.left hl, ⟨_, _, _, _, (hl.2.block bx hr.lt h.ne.symm).trans hr.blk, hr.h.off (b := b) (fun k x _ => hq.noint k x.1) hl.2, hr.l.off (b := b) (fun k x _ => hq.noint k x.1) hl.2, hr.ph, hr.pl⟩, h.hx, h.ne, hi⟩
theorem Dv.rleft (h : Dv w W b bx Hq Lq Hx Lx) (hl : RLeft bx W H' L' W') : Dv w W' b bx Hq Lq H' L' := by
  obtain ⟨A1, c1, A2, c2, hr⟩ := h.r
  obtain ⟨B1, d1, B2, d2, hq⟩ := h.one.q
  exact ⟨⟨⟨_, _, _, _, (hl.2.block b hq.lt h.ne).trans hq.blk, hq.h.off (b := bx) (fun k x hx => hr.noint k (h.iq.nh x hx)) hl.2, hq.l.off (b := bx) (fun k x hx => hr.noint k (h.iq.nl x hx)) hl.2⟩,
    h.one.bel.trans (hl.2.below (fun k hk => by rw [hk]; exact h.hx) h.one.bel.size), h.one.hb⟩, hl.1, h.hx, h.ne, h.iq⟩
theorem Dv.other (h : Dv w W b bx Hq Lq Hx Lx) {Hy H1 : List Hs.Hd} {Ly L1 : List Ws.Wt} (hy : RAt W by' A1 c1 A2 c2 Hy Ly) (hl : RLeft by' W H1 L1 W') (hw : w.heap.size ≤ by') (h1 : b ≠ by') (h2 : bx ≠ by') : Dv w W' b bx Hq Lq Hx Lx := by
  obtain ⟨A3, c3, A4, c4, hr⟩ := h.r
  obtain ⟨B1, d1, B2, d2, hq⟩ := h.one.q
  exact ⟨⟨⟨_, _, _, _, (hl.2.block b hq.lt h1).trans hq.blk, hq.h.off (b := by') (fun k x hx => hy.noint k (h.iq.nh x hx)) hl.2, hq.l.off (b := by') (fun k x hx => hy.noint k (h.iq.nl x hx)) hl.2⟩,
    h.one.bel.trans (hl.2.below (fun k hk => by rw [hk]; exact hw) h.one.bel.size), h.one.hb⟩,
    ⟨_, _, _, _, (hl.2.block bx hr.lt h2).trans hr.blk, hr.h.off (b := by') (fun k x hx => hy.noint k (hr.ph x hx)) hl.2, hr.l.off (b := by') (fun k x hx => hy.noint k (hr.pl x hx)) hl.2, hr.ph, hr.pl⟩, h.hx, h.ne, h.iq⟩
/-- both, and the deed's box -/
structure St (w W : World) (b bx Bd : Nat) (d : Dd) (Hq : List Hs.Hd) (Lq : List Ws.Wt) (Hx : List Hs.Hd) (Lx : List Ws.Wt) : Prop where
  dv : Dv w W b bx Hq Lq Hx Lx
  dx : Dx W Bd d
  n1 : Bd ≠ b
  n2 : Bd ≠ bx
theorem St.below (h : St w W b bx Bd d Hq Lq Hx Lx) (hb : Below W.heap.size W W') : St w W' b bx Bd d Hq Lq Hx Lx := ⟨h.dv.below hb, ⟨(hb.block Bd h.dx.lt).trans h.dx.blk⟩, h.n1, h.n2⟩
theorem St.left (h : St w W b bx Bd d Hq Lq Hx Lx) (hl : Left b W H' L' W') (hi : Inv H' L') : St w W' b bx Bd d H' L' Hx Lx := ⟨h.dv.left hl hi, h.dx.only hl.2 h.n1, h.n1, h.n2⟩
theorem St.rleft (h : St w W b bx Bd d Hq Lq Hx Lx) (hl : RLeft bx W H' L' W') : St w W' b bx Bd d Hq Lq H' L' := ⟨h.dv.rleft hl, h.dx.only hl.2 h.n2, h.n1, h.n2⟩
theorem St.cost (h : St w W b bx Bd d H L Hx Lx) (ht : TabG w) (hl : H.length + L.length ≤ 400) (tx m fl : Int) :
    Calls Tryd.prog 8 #[qp b, .int .i64 tx, .int .i64 m, .int .i64 fl] W fun e w' => e = .returned (.tuple #[.int .i64 (costV (ask tx m fl H L) H L), .int .i64 (ask tx m fl H L).2.1]) ∧ St w w' b bx Bd d H L Hx Lx := by
  obtain ⟨A1, c1, A2, c2, hq⟩ := h.dv.one.q
  exact (cost_any (ht.later h.dv.one.bel) hq (by omega) (by omega) tx m fl).mono fun _ _ ⟨he, hb⟩ => ⟨he, h.below hb⟩
/-- a copy of the document's queue, beside all -/
structure Sy (w W : World) (b bx Bd : Nat) (d : Dd) (Hq : List Hs.Hd) (Lq : List Ws.Wt) (Hx : List Hs.Hd) (Lx : List Ws.Wt) (by' : Nat) (Hy : List Hs.Hd) (Ly : List Ws.Wt) : Prop where
  st : St w W b bx Bd d Hq Lq Hx Lx
  y : ∃ A1 c1 A2 c2, RAt W by' A1 c1 A2 c2 Hy Ly
  hw : w.heap.size ≤ by'
  m1 : b ≠ by'
  m2 : bx ≠ by'
  m3 : Bd ≠ by'
theorem St.rcopy (h : St w W b bx Bd d Hq Lq H L) (h1 : H.length ≤ 400) (h2 : L.length ≤ 400) : Calls Tryd.prog 9 #[qp bx] W fun e w' => ∃ by', e = .returned (qp by') ∧ Sy w w' b bx Bd d Hq Lq H L by' H L := by
  obtain ⟨A1, c1, A2, c2, hr⟩ := h.dv.r
  obtain ⟨B1, d1, B2, d2, hq⟩ := h.dv.one.q
  refine (rcopy_any hr (by omega) (by omega)).mono ?_
  rintro e w' ⟨by', A3, c3, A4, c4, rfl, hy, hb, hge⟩
  have k1 := hr.lt
  have k2 := hq.lt
  have k3 := h.dx.lt
  have k4 := h.dv.one.bel.size
  exact ⟨by', rfl, h.below hb, ⟨_, _, _, _, hy⟩, by omega, by omega, by omega, by omega⟩
theorem Sy.yask (h : Sy w W b bx Bd d Hq Lq Hx Lx by' H L) (h1 : H.length ≤ 400) (h2 : L.length ≤ 400) (tx m fl : Int) :
    Calls Tryd.prog 10 #[qp by', .int .i64 tx, .int .i64 m, .int .i64 fl] W fun e w' => e = .returned (.tuple #[.int .i64 (ask tx m fl H L).1, .int .i64 (ask tx m fl H L).2.1]) ∧ Sy w w' b bx Bd d Hq Lq Hx Lx by' (ask tx m fl H L).2.2.1 (ask tx m fl H L).2.2.2 := by
  obtain ⟨A1, c1, A2, c2, hy⟩ := h.y
  refine (rask_any hy (by omega) (by omega) tx m fl).mono ?_
  rintro e w' ⟨rfl, hl⟩
  exact ⟨rfl, ⟨h.st.dv.other hy hl h.hw h.m1 h.m2, h.st.dx.only hl.2 h.m3, h.st.n1, h.st.n2⟩, hl.1, h.hw, h.m1, h.m2, h.m3⟩
theorem Sy.below (h : Sy w W b bx Bd d Hq Lq Hx Lx by' H L) (hb : Below W.heap.size W W') : Sy w W' b bx Bd d Hq Lq Hx Lx by' H L := by
  obtain ⟨A1, c1, A2, c2, hy⟩ := h.y
  exact ⟨h.st.below hb, ⟨_, _, _, _, hy.below hb⟩, h.hw, h.m1, h.m2, h.m3⟩
theorem Sy.size (h : Sy w W b bx Bd d Hq Lq Hx Lx by' H L) (h1 : H.length ≤ 5000) (h2 : L.length ≤ 5000) : Calls Tryd.prog 11 #[qp by'] W fun e w' => e = .returned (.int .i64 ((H.length + L.length : Nat) : Int)) ∧ Sy w w' b bx Bd d Hq Lq Hx Lx by' H L := by
  obtain ⟨A1, c1, A2, c2, hy⟩ := h.y
  exact (rsize_any hy h1 h2).mono fun _ _ ⟨he, hb⟩ => ⟨he, h.below hb⟩
theorem Sy.xsize {Hy : List Hs.Hd} {Ly : List Ws.Wt} (h : Sy w W b bx Bd d Hq Lq H L by' Hy Ly) (h1 : H.length ≤ 5000) (h2 : L.length ≤ 5000) : Calls Tryd.prog 11 #[qp bx] W fun e w' => e = .returned (.int .i64 ((H.length + L.length : Nat) : Int)) ∧ Sy w w' b bx Bd d Hq Lq H L by' Hy Ly := by
  obtain ⟨A1, c1, A2, c2, hr⟩ := h.st.dv.r
  exact (rsize_any hr h1 h2).mono fun _ _ ⟨he, hb⟩ => ⟨he, h.below hb⟩
theorem St.qask (h : St w W b bx Bd d H L Hx Lx) (ht : TabG w) (hl : H.length + L.length ≤ 400) (tx m fl : Int) :
    Calls Tryd.prog 18 #[qp b, .int .i64 tx, .int .i64 m, .int .i64 fl] W fun e w' => e = .returned (.tuple #[.int .i64 (ask tx m fl H L).1, .int .i64 (ask tx m fl H L).2.1]) ∧ St w w' b bx Bd d (ask tx m fl H L).2.2.1 (ask tx m fl H L).2.2.2 Hx Lx := by
  obtain ⟨A1, c1, A2, c2, hq⟩ := h.dv.one.q
  exact (ask_any (ht.later h.dv.one.bel) hq (by omega) (by omega) tx m fl).mono fun _ _ ⟨he, hl⟩ => ⟨he, h.left hl (h.dv.iq.ask tx m fl)⟩
theorem St.rask (h : St w W b bx Bd d Hq Lq H L) (hl : H.length + L.length ≤ 400) (tx m fl : Int) :
    Calls Tryd.prog 10 #[qp bx, .int .i64 tx, .int .i64 m, .int .i64 fl] W fun e w' => e = .returned (.tuple #[.int .i64 (ask tx m fl H L).1, .int .i64 (ask tx m fl H L).2.1]) ∧ St w w' b bx Bd d Hq Lq (ask tx m fl H L).2.2.1 (ask tx m fl H L).2.2.2 := by
  obtain ⟨A1, c1, A2, c2, hr⟩ := h.dv.r
  exact (rask_any hr (by omega) (by omega) tx m fl).mono fun _ _ ⟨he, hl⟩ => ⟨he, h.rleft hl⟩
def StT (w : World) (b bx Bd : Nat) (d : Dd) (X : Out) (Hx : List Hs.Hd) (Lx : List Ws.Wt) (e : Ending) (w' : World) : Prop :=
  ∃ A c, e = .returned (.tuple #[.slice A X.told.length c, .int .i64 X.err]) ∧ Ws.Ls w' A c X.told ∧ St w w' b bx Bd d X.hs X.ws Hx Lx
theorem St.release (h : St w W b bx Bd d H L Hx Lx) (ht : TabG w) (hl : H.length + L.length ≤ 400) (tx : Int) : Calls Tryd.prog 12 #[qp b, .int .i64 tx] W (StT w b bx Bd d (rel tx H L) Hx Lx) := by
  obtain ⟨A1, c1, A2, c2, hq⟩ := h.dv.one.q
  exact (release_any (ht.later h.dv.one.bel) hq hl h.dv.iq.once tx).mono fun _ _ ⟨A, c, he, hls, hl⟩ => ⟨A, c, he, hls, h.left hl (h.dv.iq.rel tx)⟩
theorem St.cancel (h : St w W b bx Bd d H L Hx Lx) (ht : TabG w) (hl : H.length + L.length ≤ 400) (tx : Int) : Calls Tryd.prog 15 #[qp b, .int .i64 tx] W (StT w b bx Bd d (can tx H L) Hx Lx) := by
  obtain ⟨A1, c1, A2, c2, hq⟩ := h.dv.one.q
  exact (cancel_any (ht.later h.dv.one.bel) hq hl h.dv.iq.once tx).mono fun _ _ ⟨A, c, he, hls, hl⟩ => ⟨A, c, he, hls, h.left hl (h.dv.iq.can tx)⟩
def StR (w W : World) (b bx Bd : Nat) (d : Dd) (Hq : List Hs.Hd) (Lq : List Ws.Wt) (X : Out) (e : Ending) (w' : World) : Prop :=
  ∃ A c, e = .returned (.tuple #[.slice A X.told.length c, .int .i64 X.err]) ∧ Ws.Ls w' A c X.told ∧ St w w' b bx Bd d Hq Lq X.hs X.ws ∧ ∀ A c xs, Ws.Ls W A c xs → (∀ x ∈ xs, x.1 ≠ 0) → Ws.Ls w' A c xs
theorem St.rrelease (h : St w W b bx Bd d Hq Lq H L) (hl : H.length + L.length ≤ 400) (tx : Int) : Calls Tryd.prog 13 #[qp bx, .int .i64 tx] W (StR w W b bx Bd d Hq Lq (rel tx H L)) := by
  obtain ⟨A1, c1, A2, c2, hr⟩ := h.dv.r
  exact (rrelease_any hr hl tx).mono fun _ _ ⟨A, c, he, hls, hl⟩ => ⟨A, c, he, hls, h.rleft hl, fun A c xs hz hp => hz.off (fun k x hx => hr.noint k (hp x hx)) hl.2⟩
theorem St.rcancel (h : St w W b bx Bd d Hq Lq H L) (hl : H.length + L.length ≤ 400) (tx : Int) : Calls Tryd.prog 16 #[qp bx, .int .i64 tx] W (StR w W b bx Bd d Hq Lq (can tx H L)) := by
  obtain ⟨A1, c1, A2, c2, hr⟩ := h.dv.r
  exact (rcancel_any hr hl tx).mono fun _ _ ⟨A, c, he, hls, hl⟩ => ⟨A, c, he, hls, h.rleft hl, fun A c xs hz hp => hz.off (fun k x hx => hr.noint k (hp x hx)) hl.2⟩
theorem rel_told_ne (h : Inv H L) (tx : Int) : ∀ x ∈ (rel tx H L).told, x.1 ≠ 0 := by
  unfold rel
  split
  · simp
  · intro x hx
    have := swp_split (Ws.wout tx L) (Hs.wout tx H)
    exact h.nl x (List.mem_filter.1 (show x ∈ Ws.wout tx L by rw [this]; exact List.mem_append_left _ hx)).1
theorem can_told_ne (h : Inv H L) (tx : Int) : ∀ x ∈ (can tx H L).told, x.1 ≠ 0 := by
  unfold can
  split
  · intro x hx
    have := swp_split (Ws.wout tx L) H
    exact h.nl x (List.mem_filter.1 (show x ∈ Ws.wout tx L by rw [this]; exact List.mem_append_left _ hx)).1
  · simp
theorem rel_told_len (tx : Int) (H : List Hs.Hd) (L : List Ws.Wt) : (rel tx H L).told.length ≤ L.length := by
  unfold rel
  split
  · simp
  · have h1 := congrArg List.length (swp_split (Ws.wout tx L) (Hs.wout tx H))
    have h3 : (Ws.wout tx L).length ≤ L.length := List.length_filter_le _ _
    rw [List.length_append] at h1
    show (swp _ _).2.2.length ≤ _
    omega
theorem can_told_len (tx : Int) (H : List Hs.Hd) (L : List Ws.Wt) : (can tx H L).told.length ≤ L.length := by
  unfold can
  split
  · have h1 := congrArg List.length (swp_split (Ws.wout tx L) H)
    have h3 : (Ws.wout tx L).length ≤ L.length := List.length_filter_le _ _
    rw [List.length_append] at h1
    show (swp _ _).2.2.length ≤ _
    omega
  · simp
/-- the queue's copy in its place -/
theorem St.copy (h : St w W b bx Bd d H L Hx Lx) (hl : H.length + L.length ≤ 400) : Calls Tryd.prog 17 #[qp b] W fun e w' => ∃ b', e = .returned (qp b') ∧ St w w' b' bx Bd d H L Hx Lx := by
  obtain ⟨A1, c1, A2, c2, hq⟩ := h.dv.one.q
  obtain ⟨B1, d1, B2, d2, hr⟩ := h.dv.r
  refine (copy_some hq.its (by omega) (by omega)).mono ?_
  rintro e w' ⟨b', A3, c3, A4, c4, rfl, hq', hb, hge⟩
  have h1 := h.below hb
  have k1 := hr.lt
  have k3 := h.dx.lt
  have k4 := h.dv.one.bel.size
  exact ⟨b', rfl, ⟨⟨⟨_, _, _, _, hq'⟩, h1.dv.one.bel, by omega⟩, h1.dv.r, h1.dv.hx, by omega, h1.dv.iq⟩, h1.dx, by omega, h1.n2⟩
end
end Go.Proofs.YteaibamkfccplaaDoor
