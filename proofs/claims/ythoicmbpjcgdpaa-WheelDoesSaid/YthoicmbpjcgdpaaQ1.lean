/- A wheel beside the document's wheel. -/
import Derived.Test.YthoicmbpjcgdpaaP4
namespace Go.Proofs.Ythoicmbpjcgdpaa
open Go Go.RowKit Go.Shelf

/-- a wheel, the document's wheel, a deed beside them, and other blocks -/
structure Duo (w W : World) (b bx Bd : Nat) (K : Nat → Prop) (kd x y : Int) (l xs : List Al) : Prop where
  ex : ∃ S m A c, Wh W b S m ∧ m.Perm l ∧ RefAt W bx A c xs ∧ ¬ S bx ∧ (∀ k, OfLst A k → ¬ S k) ∧ ∀ k, K k → ¬ S k ∧ k ≠ bx
  w1 : w.heap.size ≤ b
  w2 : w.heap.size ≤ bx
  lt : ∀ k, K k → k < W.heap.size
  own : K Bd
  c0 : W.cell? ⟨Bd, 0, none⟩ = some (.int .i64 kd)
  c1 : W.cell? ⟨Bd, 1, none⟩ = some (.int .i64 x)
  c2 : W.cell? ⟨Bd, 2, none⟩ = some (.int .i64 y)
  bel : Below w.heap.size w W
theorem RefAt.keep {W W' : World} {bx c : Nat} {A : Option Addr} {xs : List Al} {S : Nat → Prop} (h : RefAt W bx A c xs) (ho : OnlyS S W W') (h1 : ¬ S bx) (h2 : ∀ k, OfLst A k → ¬ S k) : RefAt W' bx A c xs := by
  have e := ho.block bx h.lt h1
  exact ⟨(World.cell?_of_block (w := W) (a := ⟨bx, 0, none⟩) e).trans h.cell, (World.frozen?_of_block (w := W) (a := ⟨bx, 0, none⟩) e).trans h.free, h.lst.keep ho.size (fun k hk => ho.block k (h.lst.lt hk) (h2 k hk)), h.ne⟩
/-- a call changed the wheel alone -/
theorem Duo.stepw {w W w' : World} {b bx Bd c : Nat} {K : Nat → Prop} {kd x y : Int} {l xs l3 m3 : List Al} {S S3 : Nat → Prop} {A : Option Addr} (h : Duo w W b bx Bd K kd x y l xs) {m : List Al} (h1 : Wh W b S m) (h2 : RefAt W bx A c xs) (n1 : ¬ S bx) (n2 : ∀ k, OfLst A k → ¬ S k) (e1 : ∀ k, K k → ¬ S k ∧ k ≠ bx)
    (h3 : Wh w' b S3 m3) (p3 : m3.Perm l3) (ho : OnlyS S W w') (hg : ∀ k, S3 k → S k ∨ W.heap.size ≤ k) : Duo w w' b bx Bd K kd x y l3 xs ∧ Keeps K W w' := by
  have hkeep : Keeps K W w' := ⟨ho.size, fun k hk => ho.block k (h.lt k hk) (e1 k hk).1⟩
  have hblk : w'.heap[Bd]? = W.heap[Bd]? := hkeep.block Bd h.own
  refine ⟨⟨⟨S3, m3, A, c, h3, p3, h2.keep ho n1 n2, fun q => ?_, fun k hk q => ?_, fun k hk => ⟨fun q => ?_, (e1 k hk).2⟩⟩, h.w1, h.w2, fun k hk => Nat.lt_of_lt_of_le (h.lt k hk) ho.size, h.own, ?_, ?_, ?_, h.bel.trans (ho.below (fun k hk => Nat.le_trans h.w1 (h1.lt hk).1) h.bel.size)⟩, hkeep⟩
  · rcases hg _ q with q | q
    · exact n1 q
    · have := h2.lt; omega
  · rcases hg _ q with q | q
    · exact n2 k hk q
    · have := h2.lst.lt hk; omega
  · rcases hg _ q with q | q
    · exact (e1 k hk).1 q
    · have := h.lt k hk; omega
  · exact (World.cell?_of_block (w := W) (a := ⟨Bd, 0, none⟩) hblk).trans h.c0
  · exact (World.cell?_of_block (w := W) (a := ⟨Bd, 1, none⟩) hblk).trans h.c1
  · exact (World.cell?_of_block (w := W) (a := ⟨Bd, 2, none⟩) hblk).trans h.c2
/-- a call changed the document's wheel alone -/
theorem Duo.stepr {w W w' : World} {b bx Bd c c' : Nat} {K : Nat → Prop} {kd x y : Int} {l xs xs' m : List Al} {S : Nat → Prop} {A A' : Option Addr} (h : Duo w W b bx Bd K kd x y l xs) (h1 : Wh W b S m) (p1 : m.Perm l) (_h2 : RefAt W bx A c xs) (n1 : ¬ S bx) (n2 : ∀ k, OfLst A k → ¬ S k) (e1 : ∀ k, K k → ¬ S k ∧ k ≠ bx)
    (h3 : RefAt w' bx A' c' xs') (ho : OnlyS (· = bx) W w') (hg : ∀ k, OfLst A' k → OfLst A k ∨ W.heap.size ≤ k) : Duo w w' b bx Bd K kd x y l xs' ∧ Keeps K W w' := by
  have hkeep : Keeps K W w' := ⟨ho.size, fun k hk => ho.block k (h.lt k hk) (e1 k hk).2⟩
  have hblk : w'.heap[Bd]? = W.heap[Bd]? := hkeep.block Bd h.own
  refine ⟨⟨⟨S, m, A', c', h1.keep ho (fun k hk hq => n1 (by rw [← hq]; exact hk)), p1, h3, n1, fun k hk q => ?_, e1⟩, h.w1, h.w2, fun k hk => Nat.lt_of_lt_of_le (h.lt k hk) ho.size, h.own, ?_, ?_, ?_, h.bel.trans (ho.below (fun k hk => by rw [hk]; exact h.w2) h.bel.size)⟩, hkeep⟩
  · rcases hg _ hk with r | r
    · exact n2 k r q
    · have := (h1.lt q).2; omega
  · exact (World.cell?_of_block (w := W) (a := ⟨Bd, 0, none⟩) hblk).trans h.c0
  · exact (World.cell?_of_block (w := W) (a := ⟨Bd, 1, none⟩) hblk).trans h.c1
  · exact (World.cell?_of_block (w := W) (a := ⟨Bd, 2, none⟩) hblk).trans h.c2
theorem Duo.below {w W W' : World} {b bx Bd : Nat} {K : Nat → Prop} {kd x y : Int} {l xs : List Al} (h : Duo w W b bx Bd K kd x y l xs) (hb : Below W.heap.size W W') : Duo w W' b bx Bd K kd x y l xs := by
  obtain ⟨S, m, A, c, h1, p1, h2, n1, n2, e1⟩ := h.ex
  have hl := h.lt Bd h.own
  exact ⟨⟨S, m, A, c, h1.below hb, p1, h2.below hb, n1, n2, e1⟩, h.w1, h.w2, fun k hk => Nat.lt_of_lt_of_le (h.lt k hk) hb.size, h.own, (hb.cell (p := ⟨Bd, 0, none⟩) hl).trans h.c0, (hb.cell (p := ⟨Bd, 1, none⟩) hl).trans h.c1, (hb.cell (p := ⟨Bd, 2, none⟩) hl).trans h.c2, h.bel.trans (hb.mono h.bel.size)⟩
theorem Duo.deed {w W : World} {b bx Bd : Nat} {K : Nat → Prop} {kd x y : Int} {l xs : List Al} (h : Duo w W b bx Bd K kd x y l xs) : W.cell? ⟨Bd, 1, none⟩ = some (.int .i64 x) ∧ W.cell? ⟨Bd, 2, none⟩ = some (.int .i64 y) := ⟨h.c1, h.c2⟩
theorem duo_wset {w W : World} {b bx Bd : Nat} {K : Nat → Prop} {kd x y : Int} {l xs : List Al} (a : Al) (h : Duo w W b bx Bd K kd x y l xs) (hi : Ids l) (hl : l.length ≤ 1000) :
    Calls Try.prog 9 #[wp b, alv a] W fun e w' => e = .returned (.bool (setB a l)) ∧ Duo w w' b bx Bd K kd x y (setL a l) xs := by
  obtain ⟨S, m, A, c, h1, p1, h2, n1, n2, e1⟩ := h.ex
  refine (set_any a h1 (by rw [p1.length_eq]; exact hl)).mono ?_
  rintro e w' ⟨S', l3, rfl, k1, k2, k3, k4⟩
  have hi2 := hi.perm p1.symm
  exact ⟨by rw [setB_perm hi2 p1], (h.stepw h1 h2 n1 n2 e1 k1 (k2.trans (setL_perm hi2 p1 a)) k3 k4).1⟩
theorem duo_wstop {w W : World} {b bx Bd : Nat} {K : Nat → Prop} {kd x y : Int} {l xs : List Al} (id : Int) (h : Duo w W b bx Bd K kd x y l xs) (hi : Ids l) :
    Calls Try.prog 11 #[wp b, .int .i64 id] W fun e w' => e = .returned (.bool (findA id l).2) ∧ Duo w w' b bx Bd K kd x y (l.filter (fun x => !(x.1 == id))) xs := by
  obtain ⟨S, m, A, c, h1, p1, h2, n1, n2, e1⟩ := h.ex
  have hi2 := hi.perm p1.symm
  refine (stop_any id h1 hi2.uniq).mono ?_
  rintro e w' ⟨S', l3, rfl, k1, k2, k3, k4⟩
  exact ⟨by rw [findA_perm hi2 p1], (h.stepw h1 h2 n1 n2 e1 k1 (k2.trans (p1.filter _)) k3 k4).1⟩
def DuoRow (w W : World) (b bx Bd : Nat) (K : Nat → Prop) (kd x y : Int) (ys l xs : List Al) (e : Ending) (w' : World) : Prop :=
  ∃ v, e = .returned v ∧ Row w' W.heap.size v ys ∧ Duo w w' b bx Bd (Plus K v) kd x y l xs
theorem duo_wdue {w W : World} {b bx Bd : Nat} {K : Nat → Prop} {kd x y : Int} {l xs : List Al} (now : Int) (h : Duo w W b bx Bd K kd x y l xs) (hl : l.length ≤ 1000) :
    Calls Try.prog 14 #[wp b, .int .i64 now] W (DuoRow w W b bx Bd K kd x y (dueL now (srt l)) (l.filter (fun x => !decide (x.2 ≤ now))) xs) := by
  obtain ⟨S, m, A, c, h1, p1, h2, n1, n2, e1⟩ := h.ex
  refine (due_any now h1 (by rw [p1.length_eq]; exact hl)).mono ?_
  rintro e w' ⟨v, rfl, k0, k1, k3⟩
  obtain ⟨g1, g2⟩ := h.stepw h1 h2 n1 n2 e1 k1 (p1.filter _) k3 (fun _ hk => .inl hk)
  refine ⟨v, rfl, by rw [← dueL_perm p1]; exact k0, ⟨⟨S, _, A, c, k1, p1.filter _, h2.keep k3 n1 n2, n1, n2, ?_⟩, g1.w1, g1.w2, ?_, .inl g1.own, g1.c0, g1.c1, g1.c2, g1.bel⟩⟩
  · rintro k (hk | hk)
    · exact e1 k hk
    · have := (k0.lt k hk).1
      exact ⟨fun q => by have := (h1.lt q).2; omega, fun q => by have := h2.lt; omega⟩
  · rintro k (hk | hk)
    · exact g1.lt k hk
    · exact (k0.lt k hk).2
theorem duo_rstop {w W : World} {b bx Bd : Nat} {K : Nat → Prop} {kd x y : Int} {l0 l : List Al} (id : Int) (h : Duo w W b bx Bd K kd x y l0 (srt l)) (hi : Ids l) :
    Calls Try.prog 12 #[wp bx, .int .i64 id] W fun e w' => e = .returned (.bool (findA id l).2) ∧ Duo w w' b bx Bd K kd x y l0 (srt (l.filter (fun x => !(x.1 == id)))) := by
  obtain ⟨S, m, A, c, h1, p1, h2, n1, n2, e1⟩ := h.ex
  have hi2 := hi.perm (srt_perm l).symm
  refine (rstop_any id h2 hi2).mono ?_
  rintro e w' ⟨A', c', rfl, k1, k2, k3⟩
  rw [stop_srt] at k1
  exact ⟨by rw [findA_perm hi2 (srt_perm l)], (h.stepr h1 p1 h2 n1 n2 e1 k1 k2 k3).1⟩
def DuoReads (w W : World) (b bx Bd : Nat) (K : Nat → Prop) (kd x y : Int) (ys l xs : List Al) (e : Ending) (w' : World) : Prop :=
  ∃ v, e = .returned v ∧ Reads w' v ys ∧ Duo w w' b bx Bd K kd x y l xs ∧ Keeps K W w'
theorem duo_rdue {w W : World} {b bx Bd : Nat} {K : Nat → Prop} {kd x y : Int} {l0 l : List Al} (now : Int) (h : Duo w W b bx Bd K kd x y l0 (srt l)) :
    Calls Try.prog 15 #[wp bx, .int .i64 now] W (DuoReads w W b bx Bd K kd x y (dueL now (srt l)) l0 (srt (l.filter (fun x => !decide (x.2 ≤ now))))) := by
  obtain ⟨S, m, A, c, h1, p1, h2, n1, n2, e1⟩ := h.ex
  refine (rdue_any now h2).mono ?_
  rintro e w' ⟨v, A', c', rfl, k0, k1, k2, k3⟩
  rw [← due_srt] at k1
  obtain ⟨g1, g2⟩ := h.stepr h1 p1 h2 n1 n2 e1 k1 k2 (fun k hk => .inl (k3 k hk))
  exact ⟨v, rfl, k0, g1, g2⟩
/-- a wheel and the document's wheel with the same alarms -/
def Dw (w W : World) (b bx : Nat) (l : List Al) : Prop :=
  ∃ S m A c, Wh W b S m ∧ m.Perm l ∧ RefAt W bx A c (srt l) ∧ ¬ S bx ∧ (∀ k, OfLst A k → ¬ S k) ∧ w.heap.size ≤ b ∧ w.heap.size ≤ bx ∧ Below w.heap.size w W
theorem Dw.duo {w W : World} {b bx : Nat} {l : List Al} (h : Dw w W b bx l) (kd x y : Int) :
    Duo w (W.alloc (.cells #[.int .i64 kd, .int .i64 x, .int .i64 y] 33)) b bx W.heap.size (· = W.heap.size) kd x y l (srt l) := by
  obtain ⟨S, m, A, c, h1, p1, h2, n1, n2, q1, q2, hb⟩ := h
  have hx := box_below W (.cells #[.int .i64 kd, .int .i64 x, .int .i64 y] 33)
  refine ⟨⟨S, m, A, c, h1.below hx, p1, h2.below hx, n1, n2, ?_⟩, q1, q2, ?_, rfl, ?_, ?_, ?_, hb.alloc hb.size _⟩
  · rintro k rfl
    exact ⟨fun q => Nat.lt_irrefl _ (h1.lt q).2, fun q => by have := h2.lt; omega⟩
  · rintro k rfl; simp
  all_goals simp [go_sem]
theorem Duo.dw {w W : World} {b bx Bd : Nat} {K : Nat → Prop} {kd x y : Int} {l : List Al} (h : Duo w W b bx Bd K kd x y l (srt l)) : Dw w W b bx l := by
  obtain ⟨S, m, A, c, h1, p1, h2, n1, n2, _⟩ := h.ex
  exact ⟨S, m, A, c, h1, p1, h2, n1, n2, h.w1, h.w2, h.bel⟩
theorem Dw.below {w W W' : World} {b bx : Nat} {l : List Al} (h : Dw w W b bx l) (hb : Below W.heap.size W W') : Dw w W' b bx l := by
  obtain ⟨S, m, A, c, h1, p1, h2, n1, n2, q1, q2, hb0⟩ := h
  exact ⟨S, m, A, c, h1.below hb, p1, h2.below hb, n1, n2, q1, q2, hb0.trans (hb.mono hb0.size)⟩
theorem Dw.bel {w W : World} {b bx : Nat} {l : List Al} (h : Dw w W b bx l) : Below w.heap.size w W := by
  obtain ⟨S, m, A, c, h1, p1, h2, n1, n2, q1, q2, hb⟩ := h
  exact hb
/-- the document's list, as it is read -/
theorem Dw.reads {w W : World} {b bx : Nat} {l : List Al} (h : Dw w W b bx l) : ∃ A c, W.cell? ⟨bx, 0, none⟩ = some (.slice A l.length c) ∧ Reads W (.slice A l.length c) (srt l) ∧ bx < W.heap.size := by
  obtain ⟨S, m, A, c, h1, p1, h2, n1, n2, q1, q2, hb⟩ := h
  have e := h2.cell
  have r := h2.lst.reads
  rw [srt_length] at e r
  exact ⟨A, c, e, r, h2.lt⟩
def DwAll (w W : World) (b bx : Nat) (l : List Al) (e : Ending) (w' : World) : Prop := ∃ v, e = .returned v ∧ Row w' W.heap.size v (srt l) ∧ Dw w w' b bx l ∧ Below W.heap.size W w'
theorem dw_all {w W : World} {b bx : Nat} {l : List Al} (h : Dw w W b bx l) (hl : l.length ≤ 1000) : Calls Try.prog 16 #[wp b] W (DwAll w W b bx l) := by
  have h0 := h
  obtain ⟨S, m, A, c, h1, p1, h2, n1, n2, q1, q2, hb⟩ := h
  refine (lawall_any (fun w' hb => (h1.below hb).seen) (by rw [p1.length_eq]; exact hl)).mono ?_
  rintro e w' ⟨v, rfl, hr, hb⟩
  exact ⟨v, rfl, by rw [← srt_congr p1]; exact hr, h0.below hb, hb⟩
theorem dw_len {w W : World} {b bx : Nat} {l : List Al} (h : Dw w W b bx l) (hl : l.length ≤ 1000) : Calls Try.prog 17 #[wp b] W fun e w' => e = .returned (.int .i64 l.length) ∧ Dw w w' b bx l ∧ Below W.heap.size W w' := by
  have h0 := h
  obtain ⟨S, m, A, c, h1, p1, h2, n1, n2, q1, q2, hb⟩ := h
  refine (len_any h1.seen (by rw [p1.length_eq]; exact hl)).mono ?_
  rintro e w' ⟨rfl, hb⟩
  exact ⟨by rw [p1.length_eq], h0.below hb, hb⟩
theorem dw_at {w W : World} {b bx : Nat} {l : List Al} (id : Int) (h : Dw w W b bx l) (hi : Ids l) : Calls Try.prog 18 #[wp b, .int .i64 id] W fun e w' => e = .returned (.tuple #[.int .i64 (findA id l).1.2, .bool (findA id l).2]) ∧ Dw w w' b bx l ∧ Below W.heap.size W w' := by
  have h0 := h
  obtain ⟨S, m, A, c, h1, p1, h2, n1, n2, q1, q2, hb⟩ := h
  refine (at_any id h1.seen).mono ?_
  rintro e w' ⟨rfl, hb⟩
  rw [findA_perm (hi.perm p1.symm) p1]
  exact ⟨rfl, h0.below hb, hb⟩
theorem dw_find {w W : World} {b bx : Nat} {l : List Al} (id : Int) (h : Dw w W b bx l) : Calls Try.prog 19 #[wp bx, .int .i64 id] W fun e w' => e = .returned (.int .i64 (idxP (isId id) (srt l))) ∧ Dw w w' b bx l ∧ Below W.heap.size W w' := by
  have h0 := h
  obtain ⟨S, m, A, c, h1, p1, h2, n1, n2, q1, q2, hb⟩ := h
  refine (rfind_any id h2).mono ?_
  rintro e w' ⟨rfl, hb⟩
  exact ⟨rfl, h0.below hb, hb⟩
end Go.Proofs.Ythoicmbpjcgdpaa
