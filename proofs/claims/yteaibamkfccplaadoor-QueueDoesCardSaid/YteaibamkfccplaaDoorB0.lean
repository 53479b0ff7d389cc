/- A queue that was made above what there was; deeds and numbers that came in; the chapter's example. -/
import Derived.Test.YteaibamkfccplaaDoorM2
namespace Go.Proofs.YteaibamkfccplaaDoor
open Go Go.RowKit Go.Shelf
set_option maxRecDepth 100000

/-- a queue made since -/
structure One (w W : World) (b : Nat) (H : List Hs.Hd) (L : List Ws.Wt) : Prop where
  q : ∃ A1 c1 A2 c2, QAt W b A1 c1 A2 c2 H L
  bel : Below w.heap.size w W
  hb : w.heap.size ≤ b
section
variable {w W W' : World} {b : Nat} {H H' : List Hs.Hd} {L L' : List Ws.Wt} {v : Value} {e : Ending} {X : Out}
theorem One.left (h : One w W b H L) (hd : Left b W H' L' W') : One w W' b H' L' :=
  ⟨hd.1, h.bel.trans (hd.2.below (fun k hk => by rw [hk]; exact h.hb) h.bel.size), h.hb⟩
theorem One.below (h : One w W b H L) (hb : Below W.heap.size W W') : One w W' b H L := by
  obtain ⟨A1, c1, A2, c2, hq⟩ := h.q
  exact ⟨⟨A1, c1, A2, c2, hq.below hb⟩, h.bel.trans (hb.mono h.bel.size), h.hb⟩
theorem One.new (w W : World) (hb : Below w.heap.size w W) : One w (W.alloc (.cells #[.slice none 0 0, .slice none 0 0] 28)) W.heap.size [] [] :=
  ⟨⟨_, _, _, _, QAt.nils W⟩, hb.trans ((box_below _ _).mono hb.size), hb.size⟩
theorem One.ask (h : One w W b H L) (ht : TabG w) (h1 : H.length + L.length ≤ 400) (tx m fl : Int) :
    Calls Tryd.prog 18 #[qp b, .int .i64 tx, .int .i64 m, .int .i64 fl] W fun e w' => e = .returned (.tuple #[.int .i64 (ask tx m fl H L).1, .int .i64 (ask tx m fl H L).2.1]) ∧ One w w' b (ask tx m fl H L).2.2.1 (ask tx m fl H L).2.2.2 := by
  obtain ⟨A1, c1, A2, c2, hq⟩ := h.q
  exact (ask_any (ht.later h.bel) hq (by omega) (by omega) tx m fl).mono fun _ _ ⟨he, hl⟩ => ⟨he, h.left hl⟩
/-- an Ask whose answer is known -/
theorem One.asks (h : One w W b H L) (ht : TabG w) (h1 : H.length + L.length ≤ 400) {tx m fl x y : Int} {H' : List Hs.Hd} {L' : List Ws.Wt} (hX : Go.Proofs.YteaibamkfccplaaDoor.ask tx m fl H L = (x, y, H', L')) :
    Calls Tryd.prog 18 #[qp b, .int .i64 tx, .int .i64 m, .int .i64 fl] W fun e w' => e = .returned (.tuple #[.int .i64 x, .int .i64 y]) ∧ One w w' b H' L' := by
  have := h.ask ht h1 tx m fl
  rw [hX] at this
  exact this
/-- who is told, and the queue behind it -/
def OneT (w : World) (b : Nat) (X : Out) (e : Ending) (w' : World) : Prop :=
  ∃ A c, e = .returned (.tuple #[.slice A X.told.length c, .int .i64 X.err]) ∧ Ws.Ls w' A c X.told ∧ One w w' b X.hs X.ws
theorem One.release (h : One w W b H L) (ht : TabG w) (h1 : H.length + L.length ≤ 400) (ho : Once L) (tx : Int) :
    Calls Tryd.prog 12 #[qp b, .int .i64 tx] W (OneT w b (rel tx H L)) := by
  obtain ⟨A1, c1, A2, c2, hq⟩ := h.q
  exact (release_any (ht.later h.bel) hq h1 ho tx).mono fun _ _ ⟨A, c, he, hls, hl⟩ => ⟨A, c, he, hls, h.left hl⟩
theorem One.cancel (h : One w W b H L) (ht : TabG w) (h1 : H.length + L.length ≤ 400) (ho : Once L) (tx : Int) :
    Calls Tryd.prog 15 #[qp b, .int .i64 tx] W (OneT w b (can tx H L)) := by
  obtain ⟨A1, c1, A2, c2, hq⟩ := h.q
  exact (cancel_any (ht.later h.bel) hq h1 ho tx).mono fun _ _ ⟨A, c, he, hls, hl⟩ => ⟨A, c, he, hls, h.left hl⟩
theorem One.its (h : One w W b H L) : ∃ A1 c1 A2 c2, Its W (qp b) A1 c1 A2 c2 H L := by
  obtain ⟨A1, c1, A2, c2, hq⟩ := h.q
  exact ⟨_, _, _, _, hq.its⟩
theorem One.size (h : One w W b H L) (h1 : H.length + L.length ≤ 400) : Calls Tryd.prog 22 #[qp b] W fun e w' => e = .returned (.int .i64 ((H.length + L.length : Nat) : Int)) ∧ One w w' b H L := by
  obtain ⟨A1, c1, A2, c2, hq⟩ := h.its
  exact (size_any hq (by omega) (by omega)).mono fun _ _ ⟨he, hb⟩ => ⟨he, h.below hb⟩
theorem One.mode (h : One w W b H L) (h1 : H.length + L.length ≤ 400) (tx : Int) : Calls Tryd.prog 23 #[qp b, .int .i64 tx] W fun e w' => e = .returned (.int .i64 (Hs.fst tx H)) ∧ One w w' b H L := by
  obtain ⟨A1, c1, A2, c2, hq⟩ := h.its
  exact (qmode_any hq (by omega) tx).mono fun _ _ ⟨he, hb⟩ => ⟨he, h.below hb⟩
theorem One.holds (h : One w W b H L) (h1 : H.length + L.length ≤ 400) : Calls Tryd.prog 20 #[qp b] W fun e w' => ∃ A c, e = .returned (.slice A H.length c) ∧ Hs.Ls w' A c H ∧ Below W.heap.size W w' ∧ One w w' b H L := by
  obtain ⟨A1, c1, A2, c2, hq⟩ := h.its
  exact (holds_any hq (by omega)).mono fun _ _ ⟨A, c, he, hls, hb⟩ => ⟨A, c, he, hls, hb, h.below hb⟩
theorem One.waits (h : One w W b H L) (h1 : H.length + L.length ≤ 400) : Calls Tryd.prog 21 #[qp b] W fun e w' => ∃ A c, e = .returned (.slice A L.length c) ∧ Ws.Ls w' A c L ∧ Below W.heap.size W w' ∧ One w w' b H L := by
  obtain ⟨A1, c1, A2, c2, hq⟩ := h.its
  exact (waits_any hq (by omega)).mono fun _ _ ⟨A, c, he, hls, hb⟩ => ⟨A, c, he, hls, hb, h.below hb⟩
end
/-- a deed: its kind, whose, which mode, which flag -/
structure Dd where
  k : Int
  t : Int
  m : Int
  f : Int
/-- a deed of a list that came in -/
structure DeedAt (w : World) (ad : Addr) (i : Nat) (d : Dd) : Prop where
  c0 : w.cell? (ad.add (i * 4)) = some (.int .i64 d.k)
  c1 : w.cell? ⟨(ad.add (i * 4)).block, (ad.add (i * 4)).off + 1, none⟩ = some (.int .i64 d.t)
  c2 : w.cell? ⟨(ad.add (i * 4)).block, (ad.add (i * 4)).off + 2, none⟩ = some (.int .i64 d.m)
  c3 : w.cell? ⟨(ad.add (i * 4)).block, (ad.add (i * 4)).off + 3, none⟩ = some (.int .i64 d.f)
/-- deeds that came in, as a function -/
def InD (w : World) (A : Option Addr) (n : Nat) (d : Nat → Dd) : Prop := ∀ i, i < n → ∃ ad, A = some ad ∧ ad.block < w.heap.size ∧ DeedAt w ad i (d i) ∧ Hs.wf64 (d i).t
theorem InD.at {w w' : World} {A : Option Addr} {n i : Nat} {d : Nat → Dd} (h : InD w A n d) (hb : Below w.heap.size w w') (hi : i < n) : ∃ ad, A = some ad ∧ DeedAt w' ad i (d i) := by
  obtain ⟨ad, h1, h2, h4, -⟩ := h i hi
  refine ⟨ad, h1, ⟨?_, ?_, ?_, ?_⟩⟩
  · rw [hb.cell (p := ad.add (i * 4)) (by rw [Hs.block_add']; exact h2)]; exact h4.c0
  · rw [hb.cell (p := ⟨(ad.add (i * 4)).block, (ad.add (i * 4)).off + 1, none⟩) (by show (ad.add (i * 4)).block < _; rw [Hs.block_add']; exact h2)]; exact h4.c1
  · rw [hb.cell (p := ⟨(ad.add (i * 4)).block, (ad.add (i * 4)).off + 2, none⟩) (by show (ad.add (i * 4)).block < _; rw [Hs.block_add']; exact h2)]; exact h4.c2
  · rw [hb.cell (p := ⟨(ad.add (i * 4)).block, (ad.add (i * 4)).off + 3, none⟩) (by show (ad.add (i * 4)).block < _; rw [Hs.block_add']; exact h2)]; exact h4.c3
/-- a list of numbers that came in -/
def InI (w : World) (A : Option Addr) (n : Nat) : Prop := ∀ i, i < n → ∃ ad z, A = some ad ∧ ad.block < w.heap.size ∧ w.cell? (ad.add i) = some (.int .i64 z)
theorem InI.at {w w' : World} {A : Option Addr} {n i : Nat} (h : InI w A n) (hb : Below w.heap.size w w') (hi : i < n) : ∃ ad z, A = some ad ∧ w'.cell? (ad.add i) = some (.int .i64 z) := by
  obtain ⟨ad, z, h1, h2, h3⟩ := h i hi
  exact ⟨ad, z, h1, by rw [hb.cell (p := ad.add i) (by rw [Hs.block_add']; exact h2)]; exact h3⟩
theorem ex1 : ask 1 3 0 [] [] = (1, 0, [(1, 3)], []) := by kernel_rfl
theorem ex2 : ask 2 6 0 [(1, 3)] [] = (2, 0, [(1, 3)], [(2, 6, false, false)]) := by kernel_rfl
theorem ex3 : ask 3 3 0 [(1, 3)] [(2, 6, false, false)] = (2, 0, [(1, 3)], [(2, 6, false, false), (3, 3, false, false)]) := by kernel_rfl
set_option maxHeartbeats 1000000 in
theorem awake_any (w : World) (ht : TabG w) : Calls Tryd.prog 7 #[] w fun e w' => e = .returned (.bool true) ∧ Below w.heap.size w w' := by
  have H0 := Lib.hid (One.new w w (Below.refl _ _))
  have HT := Lib.hid ht
  clear ht
  go_enter Tryd.func7, Tryd.ntmps7
  go_wp2_with fail
  refine (H0.out.asks HT.out (by simp) ex1).mono ?_
  rintro e w1 ⟨rfl, h1⟩
  have H1 := Lib.hid h1
  clear h1 H0
  go_wp2_with fail
  refine (H1.out.asks HT.out (by simp) ex2).mono ?_
  rintro e w2 ⟨rfl, h2⟩
  have H2 := Lib.hid h2
  clear h2 H1
  go_wp2_with fail
  refine (H2.out.asks HT.out (by simp) ex3).mono ?_
  rintro e w3 ⟨rfl, h3⟩
  have H3 := Lib.hid h3
  clear h3 H2
  go_wp2_with fail
  go_ret
  exact ⟨rfl, H3.out.bel⟩
end Go.Proofs.YteaibamkfccplaaDoor
