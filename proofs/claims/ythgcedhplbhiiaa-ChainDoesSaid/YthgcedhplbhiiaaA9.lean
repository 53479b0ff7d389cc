/- Lists that are joined: what append answers where the first one has no room, and where the second one is empty. -/
import Derived.Test.YthgcedhplbhiiaaA8
import Derived.Lib.AppendZeros
namespace Go.Proofs.Ythgcedhplbhiiaa
open Go Go.RowKit

/-- what is read from an address on -/
def From (W : World) (SA : Option Addr) (l : List Nat) : Prop := ∀ i (h : i < l.length), ∃ g off, SA = some ⟨g, off, none⟩ ∧ W.cell? ⟨g, off + i, none⟩ = some (.int .i64 (l[i] : Int))
section
variable {W W' : World} {K c : Nat} {A SA : Option Addr} {l l1 l2 : List Nat}
theorem Rd.from (h : Rd W K A c l) : From W A l := fun i hi => by
  obtain ⟨g, rfl, h2⟩ := h.cell hi
  exact ⟨g, 0, rfl, by rw [Nat.zero_add]; exact h2⟩
theorem From.news (h : From W SA l) (h0 : 0 < l.length) : ∃ g off, SA = some ⟨g, off, none⟩ ∧ ∀ j u, (nats l)[j]? = some u → W.cell? ((⟨g, off, none⟩ : Addr).add j) = some u := by
  obtain ⟨g, off, rfl, -⟩ := h 0 h0
  refine ⟨g, off, rfl, fun j u hj => ?_⟩
  have hj2 : j < l.length := by
    have := (List.getElem?_eq_some_iff.1 hj).1
    rw [nats_length] at this
    omega
  obtain ⟨g', off', e, h2⟩ := h j hj2
  cases e
  rw [Addr.add_lit, h2, ← hj]
  simp only [nats, List.getElem?_map, List.getElem?_eq_getElem hj2, Option.map_some]
theorem nats_one (l : List Nat) : ∀ u ∈ nats l, u.oneCell' = true := by
  intro u hu
  obtain ⟨x, -, rfl⟩ := List.mem_map.1 hu
  rfl
theorem nats_append (l1 l2 : List Nat) : nats (l1 ++ l2) = nats l1 ++ nats l2 := by simp [nats]
/-- what joining leaves -/
structure Joins (W : World) (l : List Nat) (A' : Option Addr) (c' : Nat) (w' : World) : Prop where
  rd : Rd w' W.heap.size A' c' l
  bel : Below W.heap.size W w'
theorem join_some (h : Rd W K A l1.length l1) (hs : From W SA l2) (h0 : 0 < l2.length) (hl : l1.length + l2.length ≤ 20000) (sc : Nat) (ty : TypeId) :
    ∃ A' c' w', (Builtin.append_ #[37, 37] ty #[.slice A l1.length l1.length, .slice SA l2.length sc]).run Try.prog W = .ok (.slice A' (l1.length + l2.length) c') w' ∧ Joins W (l1 ++ l2) A' c' w' := by
  obtain ⟨i0, hi, hz0, hz1, hz2⟩ := info_parts info3
  obtain ⟨sg, so, rfl, hn⟩ := hs.news h0
  have hbel : ∀ {w' : World}, W.grownBy w' none → Below W.heap.size W w' := fun hg => ⟨hg.os, hg.tape, hg.output, hg.size, fun j hj => hg.block j hj (by simp)⟩
  cases A with
  | none =>
    obtain ⟨rfl, -⟩ := h.nil rfl
    obtain ⟨g, cap, w', hr, hown, hg, hgo, hlt⟩ := run_append_lies (P := Try.prog) (w := W) 37 ty W.heap.size 3 i0 (.int .i64 0) 1 8 Try.underlying37 hi hz0 hz1 hz2 rfl (by decide) (.slice none 0 0) 0 [] (World.ownsRow_nil _ _ _ _) ⟨sg, so, none⟩ l2.length sc (nats l2) (nats_length _) hn (nats_one _) h0 (by unfold maxLen; omega) (by omega) (Nat.le_refl _) _ rfl
    obtain ⟨A', c', e, hrd⟩ := Rd.of_row (l := l2) hown (by simp)
    cases e
    exact ⟨_, _, w', hr, hrd, hbel hg⟩
  | some a =>
    obtain ⟨g, rfl, h1, h2, h3⟩ := h.at' a rfl
    obtain ⟨v', w', hr, hown, hg⟩ := run_append_arg_grows (P := Try.prog) W 37 ty 3 i0 (.int .i64 0) 1 8 Try.underlying37 hi hz0 hz1 hz2 rfl (by decide) ⟨g, 0, none⟩ l1.length l1.length (nats l1) (nats_length _)
      (fun j u hj => by
        have hj2 : j < l1.length := by
          have := (List.getElem?_eq_some_iff.1 hj).1
          rw [nats_length] at this
          omega
        rw [add_at, h3 j hj2, ← hj]
        simp only [nats, List.getElem?_map, List.getElem?_eq_getElem hj2, Option.map_some])
      ⟨sg, so, none⟩ l2.length sc (nats l2) (nats_length _) hn (by omega) (by unfold maxLen; omega) (by omega)
    rw [← nats_append] at hown
    obtain ⟨A', c', rfl, hrd⟩ := Rd.of_row (l := l1 ++ l2) hown (by simp)
    exact ⟨_, _, w', hr, hrd, hbel hg⟩
/-- nothing is put behind a list -/
theorem join_none {g n : Nat} {a : Addr} (sc : Nat) (ty : TypeId) : (Builtin.append_ #[37, 37] ty #[.slice (some ⟨g, 0, none⟩) n n, .slice (some a) 0 sc]).run Try.prog W = .ok (.slice (some ⟨g, 0, none⟩) n n) W := by
  obtain ⟨i0, hi, hz0, hz1, hz2⟩ := info_parts info3
  exact run_append_room_cells (P := Try.prog) W 37 ty 3 i0 Try.underlying37 hi g 0 n n a 0 sc [] (by simp) (by simp) (by simp) (by omega) (by simp) (by simp)
theorem join_nil {g n : Nat} (ty : TypeId) : (Builtin.append_ #[37, 37] ty #[.slice (some ⟨g, 0, none⟩) n n, .slice none 0 0]).run Try.prog W = .ok (.slice (some ⟨g, 0, none⟩) n n) W := by
  obtain ⟨i0, hi, hz0, hz1, hz2⟩ := info_parts info3
  simp [Builtin.append_, run_underlying Try.underlying37, sizeOf, typeInfo, hi, Builtin.lenOf, Builtin.firstCells, storeCells]
theorem Rd.lit (W : World) (k : Nat) : Rd (W.alloc (.cells #[.int .i64 (k : Int)] 3)) W.heap.size (some ⟨W.heap.size, 0, none⟩) 1 [k] := by
  refine ⟨Nat.le_refl _, by decide, by simp, fun a ha => ?_⟩
  obtain rfl : (⟨W.heap.size, 0, none⟩ : Addr) = a := by simpa using ha
  refine ⟨_, rfl, Nat.le_refl _, by simp, fun i hi => ?_⟩
  obtain rfl : i = 0 := by simpa using hi
  simp [go_sem]
/-- one is put ahead of a list -/
theorem join_front (h : Rd W K A c l) (k : Nat) (hl : l.length ≤ 5000) (ty : TypeId) :
    ∃ A' c' w', (Builtin.append_ #[37, 37] ty #[.slice (some ⟨W.heap.size, 0, none⟩) 1 1, .slice A l.length c]).run Try.prog (W.alloc (.cells #[.int .i64 (k : Int)] 3)) = .ok (.slice A' (l.length + 1) c') w' ∧ Joins W (k :: l) A' c' w' := by
  have hx := box_below W (.cells #[.int .i64 (k : Int)] 3)
  have h1 := h.below hx
  have hs := Rd.lit W k
  cases l with
  | nil =>
    cases A with
    | none =>
      obtain ⟨-, rfl⟩ := h.nil rfl
      exact ⟨_, _, _, join_nil ty, hs, hx⟩
    | some a => exact ⟨_, _, _, join_none c ty, hs, hx⟩
  | cons y l =>
    obtain ⟨A', c', w', hr, hj⟩ := join_some (l1 := [k]) hs h1.from (by simp) (by simp at hl ⊢; omega) c ty
    have hb := hj.bel
    refine ⟨A', c', w', ?_, hj.rd.weak (by simp), hx.trans (hb.mono hx.size)⟩
    rw [Nat.add_comm]
    exact hr
end
end Go.Proofs.Ythgcedhplbhiiaa
