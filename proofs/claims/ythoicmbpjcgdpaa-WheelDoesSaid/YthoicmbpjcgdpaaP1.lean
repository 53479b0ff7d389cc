/- The document's own wheel in memory: a list in order; where an alarm stands in it. -/
import Derived.Test.YthoicmbpjcgdpaaJ1
namespace Go.Proofs.Ythoicmbpjcgdpaa
open Go Go.RowKit Go.Shelf

/-- a slice that reads as these alarms, with its room -/
structure Lst (W : World) (A : Option Addr) (c : Nat) (xs : List Al) : Prop where
  nil : A = none → xs = [] ∧ c = 0
  cap : xs.length ≤ c
  small : xs.length ≤ 1000
  room : c ≤ 9223372036854775807
  at' : ∀ a, A = some a → ∃ g off, a = ⟨g, off, none⟩ ∧ g < W.heap.size ∧ ∀ i (h : i < xs.length), W.cell? ⟨g, off + i * 2, none⟩ = some (.int .i64 xs[i].1) ∧ W.cell? ⟨g, off + i * 2 + 1, none⟩ = some (.int .i64 xs[i].2)
/-- the block that a list is read from -/
def OfLst (A : Option Addr) (k : Nat) : Prop := ∃ a, A = some a ∧ a.block = k
theorem Lst.keep {W W' : World} {A : Option Addr} {c : Nat} {xs : List Al} (h : Lst W A c xs) (hz : W.heap.size ≤ W'.heap.size) (hk : ∀ k, OfLst A k → W'.heap[k]? = W.heap[k]?) : Lst W' A c xs := by
  refine ⟨h.nil, h.cap, h.small, h.room, fun a ha => ?_⟩
  obtain ⟨g, off, rfl, hg, hc⟩ := h.at' a ha
  have e := hk g ⟨_, ha, rfl⟩
  exact ⟨g, off, rfl, Nat.lt_of_lt_of_le hg hz, fun i hi => ⟨(World.cell?_of_block (w := W) (a := ⟨g, off + i * 2, none⟩) e).trans (hc i hi).1, (World.cell?_of_block (w := W) (a := ⟨g, off + i * 2 + 1, none⟩) e).trans (hc i hi).2⟩⟩
theorem Lst.lt {W : World} {A : Option Addr} {c k : Nat} {xs : List Al} (h : Lst W A c xs) (hk : OfLst A k) : k < W.heap.size := by
  obtain ⟨a, ha, rfl⟩ := hk
  obtain ⟨g, off, rfl, hg, _⟩ := h.at' a ha
  exact hg
theorem Lst.reads {W : World} {A : Option Addr} {c : Nat} {xs : List Al} (h : Lst W A c xs) : Reads W (.slice A xs.length c) xs := by
  refine ⟨A, c, rfl, fun i hi => ?_⟩
  cases A with
  | none => have := (h.nil rfl).1; subst this; simp at hi
  | some a =>
    obtain ⟨g, off, rfl, _, hc⟩ := h.at' a rfl
    exact ⟨g, off, rfl, hc i hi⟩
/-- the document's wheel lies in a block -/
structure RefAt (W : World) (bx : Nat) (A : Option Addr) (c : Nat) (xs : List Al) : Prop where
  cell : W.cell? ⟨bx, 0, none⟩ = some (.slice A xs.length c)
  free : W.frozen? ⟨bx, 0, none⟩ = false
  lst : Lst W A c xs
  ne : ¬ OfLst A bx
theorem RefAt.lt {W : World} {bx : Nat} {A : Option Addr} {c : Nat} {xs : List Al} (h : RefAt W bx A c xs) : bx < W.heap.size := cell_lt h.cell
theorem RefAt.below {W W' : World} {bx : Nat} {A : Option Addr} {c : Nat} {xs : List Al} (h : RefAt W bx A c xs) (hb : Below W.heap.size W W') : RefAt W' bx A c xs :=
  ⟨(hb.cell (p := ⟨bx, 0, none⟩) h.lt).trans h.cell, (hb.frozen (p := ⟨bx, 0, none⟩) h.lt).trans h.free, h.lst.keep hb.size (fun k hk => hb.block k (h.lst.lt hk)), h.ne⟩
abbrev isId (id : Int) (x : Al) : Bool := x.1 == id

set_option maxRecDepth 100000 in
set_option maxHeartbeats 2000000 in
theorem rfind_any {W : World} {bx : Nat} {A : Option Addr} {c : Nat} {xs : List Al} (id : Int) (h : RefAt W bx A c xs) :
    Calls Try.prog 19 #[wp bx, .int .i64 id] W fun e w' => e = .returned (.int .i64 (idxP (isId id) xs)) ∧ Below W.heap.size W w' := by
  have H := Lib.hid h
  have hc := h.cell
  have hs := h.lst.small
  obtain ⟨n, hn⟩ : ∃ n, xs.length = n := ⟨_, rfl⟩
  have HN := Lib.hid hn
  rw [hn] at hc hs
  clear h hn
  go_enter Try.func19, Try.ntmps19
  go_wp2
  go_loopw [12] (fun t wr => ∃ j : Nat, j ≤ n ∧ t = .int .i64 j ∧ (∀ y ∈ xs.take j, isId id y = false) ∧ Below W.heap.size W wr) (fun t _ => n - (intOf t).toNat)
  case atStart => exact ⟨0, by omega, rfl, by simp, Below.refl _ _⟩
  case round =>
    obtain ⟨j, hj, rfl, hall, hb⟩ := hrel
    have HA := Lib.hid hall
    clear hall
    by_cases hjn : j < n
    · have hjl : j < xs.length := by rw [HN.out]; exact hjn
      have hl := (H.out.below hb).lst
      cases A with
      | none => have := (hl.nil rfl).1; subst this; simp at hjl
      | some a =>
        obtain ⟨g, off, rfl, _, hcs⟩ := hl.at' a rfl
        obtain ⟨c1, c2⟩ := hcs j hjl
        obtain ⟨x, hx⟩ : ∃ x, xs[j] = x := ⟨_, rfl⟩
        rw [hx] at c1 c2
        obtain ⟨hs1, hs2⟩ := take_split xs hjl
        rw [hx] at hs1 hs2
        have HS1 := Lib.hid hs1
        have HS2 := Lib.hid hs2
        have HB := Lib.hid (hb.alloc hb.size (.cells #[.int .i64 x.1, .int .i64 x.2] 31))
        clear hs1 hs2 hx hl hcs hjl hc
        cases hpx : (x.1 == id)
        · have HX := Lib.hid (show isId id x = false from hpx)
          go_wp2
          go_roundw
          case rel =>
            refine ⟨j + 1, by omega, by go_num, fun y hy => ?_, HB.out⟩
            rw [HS2.out] at hy
            rcases List.mem_append.1 hy with hy | hy
            · exact HA.out y hy
            · rw [List.mem_singleton.1 hy]; exact HX.out
          case measure => simp [intOf]; omega
        · have HX := Lib.hid (show isId id x = true from hpx)
          go_wp2
          go_ret
          refine ⟨ret_int ?_, HB.out⟩
          have e1 : idxP (isId id) xs = (xs.take j).length := by
            conv => lhs; rw [HS1.out]
            exact idx_some HA.out HX.out
          rw [e1, List.length_take, HN.out]
          omega
    · obtain rfl : j = n := by omega
      go_wp2
      go_ret
      refine ⟨ret_int ?_, hb⟩
      rw [idx_none]
      intro y hy
      refine HA.out y ?_
      rw [List.take_of_length_le (Nat.le_of_eq HN.out)]
      exact hy
end Go.Proofs.Ythoicmbpjcgdpaa
