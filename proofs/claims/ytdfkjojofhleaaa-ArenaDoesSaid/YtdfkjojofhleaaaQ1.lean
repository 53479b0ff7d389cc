/- A list of numbers of which the first one goes, and to whose end others are put. -/
import Derived.Test.YtdfkjojofhleaaaA3
import Derived.ArgAppend
namespace Go.Proofs.Ytdfkjojofhleaaa
open Go Go.RowKit

/-- a slice of memory of one's own that has these numbers, with its room -/
structure Qu (W : World) (base : Nat) (A : Option Addr) (c : Nat) (os : List Nat) : Prop where
  nil : A = none → os = [] ∧ c = 0
  cap : os.length ≤ c
  room : c ≤ maxLen
  at' : ∀ a, A = some a → ∃ g off cur, a = ⟨g, off, none⟩ ∧ base ≤ g ∧ W.heap[g]? = some (.cells cur 3 (0, 0)) ∧ off + c ≤ cur.size ∧ ∀ i (h : i < os.length), cur[off + i]? = some (.int .i64 (os[i] : Int))
def OfA (A : Option Addr) (k : Nat) : Prop := ∃ a, A = some a ∧ a.block = k
theorem Qu.nilq (W : World) (base : Nat) : Qu W base none 0 [] := ⟨fun _ => ⟨rfl, rfl⟩, Nat.le_refl _, Nat.zero_le _, fun _ h => by cases h⟩
theorem Qu.keep {W W' : World} {base c : Nat} {A : Option Addr} {os : List Nat} (h : Qu W base A c os) (hk : ∀ k, OfA A k → W'.heap[k]? = W.heap[k]?) : Qu W' base A c os := by
  refine ⟨h.nil, h.cap, h.room, fun a ha => ?_⟩
  obtain ⟨g, off, cur, rfl, h1, h2, h3⟩ := h.at' a ha
  exact ⟨g, off, cur, rfl, h1, (hk g ⟨_, ha, rfl⟩).trans h2, h3⟩
theorem Qu.lt {W : World} {base c k : Nat} {A : Option Addr} {os : List Nat} (h : Qu W base A c os) (hk : OfA A k) : base ≤ k ∧ k < W.heap.size := by
  obtain ⟨a, ha, rfl⟩ := hk
  obtain ⟨g, off, cur, rfl, h1, h2, _⟩ := h.at' a ha
  exact ⟨h1, (Array.getElem?_eq_some_iff.1 h2).1⟩
theorem Qu.below {W W' : World} {base c : Nat} {A : Option Addr} {os : List Nat} (h : Qu W base A c os) (hb : Below W.heap.size W W') : Qu W' base A c os := h.keep fun k hk => hb.block k (h.lt hk).2
theorem Qu.cell {W : World} {base c : Nat} {A : Option Addr} {os : List Nat} (h : Qu W base A c os) {i : Nat} (hi : i < os.length) : ∃ g off, A = some ⟨g, off, none⟩ ∧ W.cell? ⟨g, off + i, none⟩ = some (.int .i64 (os[i] : Int)) := by
  cases A with
  | none => have := (h.nil rfl).1; subst this; simp at hi
  | some a =>
    obtain ⟨g, off, cur, rfl, _, h2, _, h4⟩ := h.at' a rfl
    refine ⟨g, off, rfl, ?_⟩
    rw [cell_of_row W g (off + i) cur 3 (0, 0) h2]
    exact h4 i hi
theorem Qu.of_row {W : World} {base g n c : Nat} {os : List Nat} (h : W.ownsRow base 3 1 (.slice (some ⟨g, 0, none⟩) n c) n (nats os)) (hn : os.length = n) : Qu W base (some ⟨g, 0, none⟩) c os := by
  rcases h.2 with ⟨h0, _⟩ | ⟨g', cap', cur, e, hb, hg, h1, h2, h3, h4⟩
  · cases h0
  · cases e
    refine ⟨by simp, by omega, h2, fun a ha => ?_⟩
    obtain rfl : (⟨g, 0, none⟩ : Addr) = a := by simpa using ha
    refine ⟨g, 0, cur, rfl, hb, hg, by omega, fun i hi => ?_⟩
    have e1 : (nats os)[i]? = some (.int .i64 (os[i] : Int)) := by simp [nats, hi]
    rw [← h4, List.getElem?_take, if_pos (by omega)] at e1
    rw [Nat.zero_add]
    simpa using e1
/-- the address of a list without its first one -/
def tailA (A : Option Addr) (c : Nat) : Option Addr := if c = 1 then A else A.map fun a => ⟨a.block, a.off + 1, none⟩
theorem Qu.tail {W : World} {base c o : Nat} {A : Option Addr} {os : List Nat} (h : Qu W base A c (o :: os)) : Qu W base (tailA A c) (c - 1) os := by
  have h1 := h.cap
  simp at h1
  cases A with
  | none => have := (h.nil rfl).1; cases this
  | some a =>
    obtain ⟨g, off, cur, rfl, h2, h3, h4, h5⟩ := h.at' a rfl
    unfold tailA
    by_cases hc : c = 1
    · subst hc
      rw [if_pos rfl]
      have : os = [] := List.length_eq_zero_iff.1 (by omega)
      subst this
      refine ⟨by simp, Nat.le_refl _, Nat.zero_le _, fun a ha => ?_⟩
      obtain rfl : (⟨g, off, none⟩ : Addr) = a := by simpa using ha
      exact ⟨g, off, cur, rfl, h2, h3, by omega, fun i hi => by simp at hi⟩
    · rw [if_neg hc]
      refine ⟨by simp, by omega, Nat.le_trans (Nat.sub_le _ _) h.room, fun a ha => ?_⟩
      obtain rfl : (⟨g, off + 1, none⟩ : Addr) = a := by simpa using ha
      refine ⟨g, off + 1, cur, rfl, h2, h3, by omega, fun i hi => ?_⟩
      have := h5 (i + 1) (by simp; omega)
      rw [show off + 1 + i = off + (i + 1) by omega]
      simpa using this
theorem tailA_of {A : Option Addr} {c k : Nat} (h : OfA (tailA A c) k) : OfA A k := by
  obtain ⟨a, ha, rfl⟩ := h
  unfold tailA at ha
  split at ha
  · exact ⟨a, ha, rfl⟩
  · cases A with
    | none => simp at ha
    | some b => simp at ha; subst ha; exact ⟨b, rfl, rfl⟩
/-- what an append to a list leaves -/
structure QuApp (W : World) (base : Nat) (A : Option Addr) (os : List Nat) (k : Nat) (A' : Option Addr) (c' : Nat) (w' : World) : Prop where
  qu : Qu w' base A' c' (os ++ [k])
  only : OnlyS (OfA A) W w'
  lies : ∀ j, OfA A' j → OfA A j ∨ W.heap.size ≤ j
  some' : ∃ a, A' = some a
theorem Qu.append {W : World} {base c : Nat} {A : Option Addr} {os : List Nat} (h : Qu W base A c os) (hb : base ≤ W.heap.size) (k : Nat) (hl : os.length ≤ 1000) (ty : TypeId) :
    ∃ A' c' w', (Builtin.append_ #[34, 34] ty #[.slice A os.length c, .slice (some ⟨W.heap.size, 0, none⟩) 1 1]).run Try.prog (W.alloc (.cells #[.int .i64 (k : Int)] 3)) = .ok (.slice A' (os.length + 1) c') w' ∧ QuApp W base A os k A' c' w' := by
  obtain ⟨i0, hi, hz0, hz1, hz2⟩ := info_parts info3
  have hx := box_below W (.cells #[.int .i64 (k : Int)] 3)
  have h1 := h.below hx
  cases A with
  | none =>
    obtain ⟨rfl, rfl⟩ := h.nil rfl
    obtain ⟨g, cap, w', hr, hown, hg, hgo, hlt⟩ := run_append_lies (P := Try.prog) (w := W.alloc (.cells #[.int .i64 (k : Int)] 3)) 34 ty base 3 i0 (.int .i64 0) 1 8 Try.underlying34 hi hz0 hz1 hz2 rfl (by decide) (.slice none 0 0) 0 [] (World.ownsRow_nil _ _ _ _) ⟨W.heap.size, 0, none⟩ 1 1 [.int .i64 (k : Int)] rfl (new_nat W k) (one_nat _) (by decide) (by unfold maxLen; omega) (by omega) (by simp; omega) (W.heap.size + 1) (by simp)
    refine ⟨_, _, w', hr, Qu.of_row (os := [k]) hown rfl, (OnlyS.grown (w1 := W.alloc (.cells #[.int .i64 (k : Int)] 3)) (OnlyS.of_below hx) hg (fun j hj => by simp [Value.ownBlock] at hj)), ?_, ⟨_, rfl⟩⟩
    rintro j ⟨a, ha, rfl⟩
    obtain rfl : (⟨g, 0, none⟩ : Addr) = a := by simpa using ha
    rcases hgo with q | q
    · simp [Value.ownBlock] at q
    · right; simp; omega
  | some a =>
    obtain ⟨g, off, cur, rfl, h2, h3, h4, h5⟩ := h1.at' a rfl
    obtain ⟨_, _, _, e0, _, h30, _⟩ := h.at' _ rfl
    cases e0
    have hgl := (Array.getElem?_eq_some_iff.1 h30).1
    by_cases hroom : os.length + 1 ≤ c
    · have hr := run_append_room_cells (P := Try.prog) (W.alloc (.cells #[.int .i64 (k : Int)] 3)) 34 ty 3 i0 Try.underlying34 hi g off os.length c ⟨W.heap.size, 0, none⟩ 1 1 [.int .i64 (k : Int)] (by rw [hz1]; rfl) (new_nat W k) (one_nat _) hroom
        (fun j hj => by
          obtain rfl : j = 0 := by simpa using hj
          rw [hz1, cell_of_row _ g _ cur 3 (0, 0) h3, Array.getElem?_eq_getElem (by omega)]
          rfl)
        (fun j _ => frozen_of_row _ g _ cur 3 h3)
      rw [hz1] at hr
      refine ⟨_, _, _, hr, ⟨by simp, by simp; omega, h.room, fun a ha => ?_⟩, ?_, fun j hj => .inl hj, ⟨_, rfl⟩⟩
      · obtain rfl : (⟨g, off, none⟩ : Addr) = a := by simpa using ha
        refine ⟨g, off, cur.setIfInBounds (off + os.length * 1) (.int .i64 (k : Int)), rfl, h2, ?_, by simpa using h4, fun i hi' => ?_⟩
        · exact heap_setCell_same _ g _ cur 3 _ h3
        · rw [List.length_append, List.length_singleton] at hi'
          by_cases e : i = os.length
          · subst e
            rw [Nat.mul_one, Array.getElem?_setIfInBounds_self_of_lt (by omega)]
            simp
          · rw [Array.getElem?_setIfInBounds_ne (by omega), h5 i (by omega), List.getElem_append_left (by omega)]
      · exact (OnlyS.of_below hx).setIn g _ _ (.inl ⟨_, rfl, rfl⟩)
    · obtain ⟨v', w', hr, hown, hg⟩ := run_append_arg_grows (P := Try.prog) (W.alloc (.cells #[.int .i64 (k : Int)] 3)) 34 ty 3 i0 (.int .i64 0) 1 8 Try.underlying34 hi hz0 hz1 hz2 rfl (by decide) ⟨g, off, none⟩ os.length c (nats os) (nats_length _)
        (fun j u hj => by
          have hj2 : j < os.length := by
            have := (List.getElem?_eq_some_iff.1 hj).1
            rw [nats_length] at this
            omega
          rw [Addr.add_lit, cell_of_row _ g _ cur 3 (0, 0) h3, h5 j hj2, ← hj]
          simp [nats, hj2])
        ⟨W.heap.size, 0, none⟩ 1 1 [.int .i64 (k : Int)] rfl (new_nat W k) (by omega) (by unfold maxLen; omega) (by omega)
      obtain ⟨g', cap', rfl⟩ := ownsRow_succ hown
      rw [← nats_snoc] at hown
      have hgl2 := hown.lt g' rfl
      refine ⟨_, _, w', hr, Qu.of_row (row_base hown (by simp; omega)) (by simp), (OnlyS.grown (w1 := W.alloc (.cells #[.int .i64 (k : Int)] 3)) (OnlyS.of_below hx) hg (fun j hj => by cases hj)), ?_, ⟨_, rfl⟩⟩
      rintro j ⟨a, ha, rfl⟩
      obtain rfl : (⟨g', 0, none⟩ : Addr) = a := by simpa using ha
      right
      simp at hgl2 ⊢
      omega
end Go.Proofs.Ytdfkjojofhleaaa
