/- A place is taken. -/
import Derived.Test.YtdfkjojofhleaaaA3
namespace Go.Proofs.Ytdfkjojofhleaaa
open Go Go.RowKit

/-- behind an append to the places -/
theorem placed_done {W W1 X w5 : World} {b m g cap n : Nat} {pv fv v : Value} {ps : List Pl} {fs : List Nat} {x : Pl} {S : Nat → Prop} (h : ArenaAt W1 b m pv fv ps fs) (hS : ∀ k, (k = b ∨ pv.ownBlock = some k ∨ fv.ownBlock = some k) ↔ S k) (ho : OnlyS S W W1) (hl : ps.length < m) (hn : ps.length = n) (hX : Below W1.heap.size W1 X)
    (hown : w5.ownsRow (b + 1) 49 2 (.slice (some ⟨g, 0, none⟩) (n + 1) cap) (n + 1) (flat ps ++ [.int .i64 x.1, .bool x.2])) (hg : X.grownBy w5 pv.ownBlock) (hgo : pv.ownBlock = some g ∨ W1.heap.size ≤ g) :
    (w5.cell? ⟨b, 1, none⟩ = some pv ∧ w5.frozen? ⟨b, 1, none⟩ = false) ∧ Does W b S v m (ps ++ [x]) fs (.returned v) (w5.setCell ⟨b, 1, none⟩ (.slice (some ⟨g, 0, none⟩) (n + 1) cap)) := by
  subst hn
  have hlt := h.lt
  have hk : ∀ j, j < W1.heap.size → pv.ownBlock ≠ some j → w5.heap[j]? = W1.heap[j]? := fun j hj hne => (hg.block j (Nat.lt_of_lt_of_le hj hX.size) (fun e => hne e.symm)).trans (hX.block j hj)
  have hb5 : w5.heap[b]? = W1.heap[b]? := hk b hlt (fun e => by have := (h.rp.lt b e).1; omega)
  have q0 : ∀ o, w5.cell? ⟨b, o, none⟩ = W1.cell? ⟨b, o, none⟩ := fun o => World.cell?_of_block (w := W1) (a := ⟨b, o, none⟩) hb5
  have q1 : ∀ o, w5.frozen? ⟨b, o, none⟩ = W1.frozen? ⟨b, o, none⟩ := fun o => World.frozen?_of_block (w := W1) (a := ⟨b, o, none⟩) hb5
  have q2 : ∀ o, o ≠ 1 → (w5.setCell ⟨b, 1, none⟩ (.slice (some ⟨g, 0, none⟩) (ps.length + 1) cap)).cell? ⟨b, o, none⟩ = W1.cell? ⟨b, o, none⟩ := fun o ho => by
    rw [World.cell?_setCell_other (h := fun e => ho (by injection e with e1 e2; exact e2.symm))]
    exact q0 o
  refine ⟨⟨(q0 1).trans h.c1, (q1 1).trans h.f1⟩, fun j => j = b ∨ (Value.slice (some ⟨g, 0, none⟩) (ps.length + 1) cap).ownBlock = some j ∨ fv.ownBlock = some j, rfl, ⟨_, fv, ⟨?_, ?_, ?_, ?_, ?_, ?_, ?_, ?_, ?_, ?_, h.mle⟩, fun _ => Iff.rfl⟩, ?_, ?_⟩
  · exact (q2 0 (by omega)).trans h.c0
  · exact World.cell?_setCell_same' _ _ _ (by rw [q0, h.c1]; rfl)
  · exact (q2 2 (by omega)).trans h.c2
  · rw [World.frozen?_setCell]; exact (q1 1).trans h.f1
  · rw [World.frozen?_setCell]; exact (q1 2).trans h.f2
  · rw [flat_snoc, List.length_append]
    exact ownsRow_setCell_below hown (Nat.lt_succ_self b) _
  · refine row_keep h.rf fun j hj => ?_
    have hj2 := h.rf.lt j hj
    refine (Below.heap_setCell w5 ⟨b, 1, none⟩ _ j (fun e => ?_)).trans (hk j hj2.2 (fun e => h.ne j e hj))
    have e' : j = b := e
    omega
  · intro j hj e
    obtain rfl : g = j := by simpa [Value.ownBlock] using hj
    rcases hgo with q | q
    · exact h.ne g q e
    · have := (h.rf.lt g e).2; omega
  · rw [List.length_append]; exact Nat.le_trans h.fle (Nat.le_add_right _ _)
  · rw [List.length_append]; exact hl
  · refine (OnlyS.grown (w1 := X) (ho.trans (OnlyS.of_below hX)) hg (fun j hj => .inl ((hS j).1 (.inr (.inl hj))))).setIn b 1 _ (.inl ((hS b).1 (.inl rfl)))
  · rintro j (rfl | hj | hj)
    · exact .inl ((hS _).1 (.inl rfl))
    · obtain rfl : g = j := by simpa [Value.ownBlock] using hj
      rcases hgo with q | q
      · exact .inl ((hS _).1 (.inr (.inl q)))
      · exact .inr (Nat.le_trans ho.size q)
    · exact .inl ((hS _).1 (.inr (.inr hj)))
theorem new_place (W : World) (x : Pl) : ∀ j u, ([.int .i64 x.1, .bool x.2] : List Value)[j]? = some u → (W.alloc (.cells #[.int .i64 x.1, .bool x.2] 49)).cell? ((⟨W.heap.size, 0, none⟩ : Addr).add j) = some u := by
  intro j u hj
  rw [add_at]
  match j, hj with
  | 0, hj => simp at hj; subst hj; simp [go_sem]
  | 1, hj => simp at hj; subst hj; simp [go_sem]
theorem one_place (x : Pl) : ∀ u ∈ ([.int .i64 x.1, .bool x.2] : List Value), u.oneCell' = true := by
  intro u hu
  simp at hu
  rcases hu with rfl | rfl <;> rfl
theorem take_none (W : World) (x : Int) : Calls Try.prog 9 #[.pointer none, .int .i64 x] W fun e w' => e = .returned (.tuple #[.int .i64 0, .bool false]) ∧ W = w' := by
  go_enter Try.func9, Try.ntmps9
  go_wp2_with (go_at_call 16; ((with_reducible refine (left_none W).mono ?_); rintro e w' ⟨rfl, rfl⟩))
  go_ret2
  exact ⟨rfl, rfl⟩
/-- none is free -/
theorem take_full {W : World} {b m : Nat} {S : Nat → Prop} {ps : List Pl} {fs : List Nat} (h : Ar W b S m ps fs) (x : Int) (hm : m = ps.length - fs.length) :
    Calls Try.prog 9 #[wp b, .int .i64 x] W (Does W b S (.tuple #[.int .i64 0, .bool false]) m ps fs) := by
  have H0 := Lib.hid h
  obtain ⟨pv, fv, h, hS⟩ := h
  have HL := Lib.hid (left_any h)
  have e0 : ((m : Int) - ((ps.length : Int) - (fs.length : Int))) = 0 := by have := h.fle; omega
  rw [e0] at HL
  clear h hm hS e0
  go_enter Try.func9, Try.ntmps9
  go_wp2_with (go_at_call 16; ((with_reducible refine HL.out.mono ?_); rintro e w' ⟨rfl, j, rfl⟩))
  go_ret2
  exact Does.same H0.out (drew_below _ _)
set_option maxHeartbeats 4000000 in
/-- one that was never taken -/
theorem take_new {W : World} {b m : Nat} {S : Nat → Prop} {ps : List Pl} (h : Ar W b S m ps []) (x : Int) (hm : ps.length < m) :
    Calls Try.prog 9 #[wp b, .int .i64 x] W (Does W b S (.tuple #[.int .i64 (ps.length : Int), .bool true]) m (ps ++ [(x, true)]) []) := by
  obtain ⟨pv, fv, h, hS⟩ := h
  have HL := Lib.hid (left_any h)
  obtain ⟨q, hq⟩ : ∃ q : Nat, ((m : Int) - ((ps.length : Int) - (([] : List Nat).length : Int))) = (q : Int) + 1 := ⟨m - ps.length - 1, by simp; omega⟩
  rw [hq] at HL
  have HS := Lib.hid hS
  have H := Lib.hid h
  have hm' := h.mle
  have HM := Lib.hid hm
  have hn4 : ps.length ≤ 4096 := by omega
  obtain ⟨A, c, rfl, _⟩ := row_slice h.rp
  obtain ⟨A2, c2, rfl, _⟩ := row_slice h.rf
  obtain ⟨n, hn⟩ : ∃ n, ps.length = n := ⟨_, rfl⟩
  have HN := Lib.hid hn
  rw [hn] at H HS hn4
  rw [hn]
  have hnz : ((q : Int) + 1 == 0) = false := by simp; omega
  obtain ⟨i0, hi, hz0, hz1, hz2⟩ := info_parts info49
  clear h hm hS hq hn
  go_enter Try.func9, Try.ntmps9
  go_wp2_with fail
  refine HL.out.mono ?_
  rintro e w1 ⟨rfl, j, rfl⟩
  have hb1 := drew_below W j
  generalize W.drewN j = w1 at hb1 ⊢
  have hx := box_below w1 (.cells #[.int .i64 x, .bool true] 49)
  have hA1 := (H.out.below hb1).below hx
  have HA1 := Lib.hid hA1
  have HO := Lib.hid (OnlyS.of_below (S := S) (hb1.trans (hx.mono hb1.size)))
  have d0 : (w1.alloc (.cells #[.int .i64 x, .bool true] 49)).cell? ⟨w1.heap.size, 0, none⟩ = some (.int .i64 x) := by simp [go_sem]
  have d1 : (w1.alloc (.cells #[.int .i64 x, .bool true] 49)).cell? ⟨w1.heap.size, 1, none⟩ = some (.bool true) := by simp [go_sem]
  have k1 := hA1.c1
  have k2 := hA1.c2
  have k3 := hA1.f1
  have k4 := (H.out.below hb1).c2
  have hlt := hA1.lt
  have hlt1 := (H.out.below hb1).lt
  clear hA1 hb1 HL hx
  go_wp2_with fail
  clear k4 hlt1 H
  generalize w1.heap.size = B0 at d0 d1 ⊢
  generalize w1.alloc (.cells #[.int .i64 x, .bool true] 49) = w2 at HA1 HO d0 d1 k1 k2 k3 hlt ⊢
  have hrow5 : ((w2.alloc (.cells #[.int .i64 x, .bool true] 49)).drew).ownsRow (b + 1) 49 2 (.slice A n c) n (flat ps) := by
    have := HA1.out.rp.alloc (.cells #[.int .i64 x, .bool true] 49)
    rw [HN.out] at this
    exact this
  have hc5 : ∀ j u, ([.int .i64 x, .bool true] : List Value)[j]? = some u → ((w2.alloc (.cells #[.int .i64 x, .bool true] 49)).drew).cell? ((⟨w2.heap.size, 0, none⟩ : Addr).add j) = some u := new_place w2 (x, true)
  have hz5 : b + 1 ≤ ((w2.alloc (.cells #[.int .i64 x, .bool true] 49)).drew).heap.size := by
    show b + 1 ≤ (w2.alloc (.cells #[.int .i64 x, .bool true] 49)).heap.size
    simp
    omega
  have hH5 : ((w2.alloc (.cells #[.int .i64 x, .bool true] 49)).drew).heap.size = w2.heap.size + 1 := by
    show (w2.alloc (.cells #[.int .i64 x, .bool true] 49)).heap.size = _
    simp
  have HC5 := Lib.hid hc5
  have HR5 := Lib.hid hrow5
  have HH5 := Lib.hid hH5
  have HZ5 := Lib.hid hz5
  have hX : Below w2.heap.size w2 ((w2.alloc (.cells #[.int .i64 x, .bool true] 49)).drew) := by
    have := box_below w2 (.cells #[.int .i64 x, .bool true] 49)
    exact ⟨this.os, this.tape, this.output, this.size, this.block⟩
  have HX := Lib.hid hX
  clear hc5 hrow5 hz5 hH5 hX
  go_region_law (first
    | (refine step_append_lies _ rfl (.tmp 26) (.tmp 28) 45 rfl (b + 1) 49 i0 (.agg #[.int .i64 0, .bool false]) 2 16 Try.underlying45 hi hz0 hz1 hz2 rfl (by decide) (.slice A n c) n (flat ps) rfl HR5.out ⟨w2.heap.size, 0, none⟩ 1 1 [.int .i64 x, .bool true] rfl rfl HC5.out (one_place (x, true)) (by decide) (by unfold maxLen; omega) (by omega) HZ5.out (w2.heap.size + 1) HH5.out ?_; intro g cap w5 hown hgrow hg hglt; obtain ⟨⟨r1, r2⟩, hD⟩ := placed_done (x := (x, true)) (v := .tuple #[.int .i64 (n : Int), .bool true]) HA1.out HS.out HO.out HM.out HN.out HX.out hown hgrow (hg.imp id (fun e => by omega)); have HD := Lib.hid hD; clear hD))
  all_goals
    go_wp2
    go_ret2
    exact HD.out
end Go.Proofs.Ytdfkjojofhleaaa
