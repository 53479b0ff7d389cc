/- The arena of the heads of nodes: a place is freed, and taken. -/
import Derived.Test.YtmolohncllcgbaaGreatDoorAn
namespace Go.Proofs.YtmolohncllcgbaaGreatDoor.An
open Go Go.RowKit Go.Shelf
set_option maxRecDepth 100000

abbrev store7 (W : World) (g o : Nat) (v0 v1 v2 v3 v4 v5 v6 : Value) : World :=
  ((((((W.setCell ⟨g, o, none⟩ v0).setCell ⟨g, o + 1, none⟩ v1).setCell ⟨g, o + 2, none⟩ v2).setCell ⟨g, o + 3, none⟩ v3).setCell ⟨g, o + 4, none⟩ v4).setCell ⟨g, o + 5, none⟩ v5).setCell ⟨g, o + 6, none⟩ v6
theorem only7 (W : World) (g o : Nat) (v0 v1 v2 v3 v4 v5 v6 : Value) : OnlyS (· = g) W (store7 W g o v0 v1 v2 v3 v4 v5 v6) :=
  ((((((OnlyS.set g _ W _).setIn g _ _ (.inl rfl)).setIn g _ _ (.inl rfl)).setIn g _ _ (.inl rfl)).setIn g _ _ (.inl rfl)).setIn g _ _ (.inl rfl)).setIn g _ _ (.inl rfl)
theorem size7 (W : World) (g o : Nat) (v0 v1 v2 v3 v4 v5 v6 : Value) : (store7 W g o v0 v1 v2 v3 v4 v5 v6).heap.size = W.heap.size := by simp [World.setCell]
theorem row_store7 {W : World} {base g n cap size : Nat} {e : TypeId} {xs : List Value} (h : W.ownsRow base e size (.slice (some ⟨g, 0, none⟩) n cap) n xs) (o : Nat) (v0 v1 v2 v3 v4 v5 v6 : Value) : (store7 W g o v0 v1 v2 v3 v4 v5 v6).ownsRow base e size (.slice (some ⟨g, 0, none⟩) n cap) n (set7 xs o v0 v1 v2 v3 v4 v5 v6) :=
  row_store (row_store (row_store (row_store (row_store (row_store (row_store h _ _) _ _) _ _) _ _) _ _) _ _) _ _
/-- the cells of a row's block are set -/
theorem arena_store {W W' : World} {b m g n c : Nat} {fv : Value} {ps ps' : List Pl} {fs : List Nat} (h : ArenaAt W b m (.slice (some ⟨g, 0, none⟩) n c) fv ps fs) (hl : ps'.length = ps.length) (ho : OnlyS (· = g) W W')
    (hr : W'.ownsRow (b + 1) 169 7 (.slice (some ⟨g, 0, none⟩) n c) ps'.length (flat ps')) : ArenaAt W' b m (.slice (some ⟨g, 0, none⟩) n c) fv ps' fs := by
  have hgb := h.rp.lt g rfl
  have hb : W'.heap[b]? = W.heap[b]? := ho.block b h.lt (by omega)
  exact ⟨(World.cell?_of_block (w := W) (a := ⟨b, 0, none⟩) hb).trans h.c0, (World.cell?_of_block (w := W) (a := ⟨b, 1, none⟩) hb).trans h.c1, (World.cell?_of_block (w := W) (a := ⟨b, 2, none⟩) hb).trans h.c2,
    (World.frozen?_of_block (w := W) (a := ⟨b, 1, none⟩) hb).trans h.f1, (World.frozen?_of_block (w := W) (a := ⟨b, 2, none⟩) hb).trans h.f2, hr, row_keep h.rf (fun k hk => ho.block k (h.rf.lt k hk).2 (fun e => h.ne g rfl (by rw [← e]; exact hk))), h.ne, by rw [hl]; exact h.fle, by rw [hl]; exact h.ple, h.mle⟩
/-- behind an append to those that were freed -/
theorem freed_done {W W1 X w5 : World} {b m k g cap n : Nat} {pv fv v : Value} {ps : List Pl} {fs : List Nat} {S : Nat → Prop} (h : ArenaAt W1 b m pv fv ps fs) (hS : ∀ k, (k = b ∨ pv.ownBlock = some k ∨ fv.ownBlock = some k) ↔ S k) (ho : OnlyS S W W1) (hl : fs.length < ps.length) (hn : fs.length = n) (hX : Below W1.heap.size W1 X)
    (hown : w5.ownsRow (b + 1) 3 1 (.slice (some ⟨g, 0, none⟩) (n + 1) cap) (n + 1) (nats fs ++ [.int .i64 (k : Int)])) (hg : X.grownBy w5 fv.ownBlock) (hgo : fv.ownBlock = some g ∨ W1.heap.size ≤ g) :
    (w5.cell? ⟨b, 2, none⟩ = some fv ∧ w5.frozen? ⟨b, 2, none⟩ = false) ∧ Does W b S v m ps (fs ++ [k]) (.returned v) (w5.setCell ⟨b, 2, none⟩ (.slice (some ⟨g, 0, none⟩) (n + 1) cap)) := by
  subst hn
  have hlt := h.lt
  have hk : ∀ j, j < W1.heap.size → fv.ownBlock ≠ some j → w5.heap[j]? = W1.heap[j]? := fun j hj hne => (hg.block j (Nat.lt_of_lt_of_le hj hX.size) (fun e => hne e.symm)).trans (hX.block j hj)
  have hb5 : w5.heap[b]? = W1.heap[b]? := hk b hlt (fun e => by have := (h.rf.lt b e).1; omega)
  have q0 : ∀ o, w5.cell? ⟨b, o, none⟩ = W1.cell? ⟨b, o, none⟩ := fun o => World.cell?_of_block (w := W1) (a := ⟨b, o, none⟩) hb5
  have q1 : ∀ o, w5.frozen? ⟨b, o, none⟩ = W1.frozen? ⟨b, o, none⟩ := fun o => World.frozen?_of_block (w := W1) (a := ⟨b, o, none⟩) hb5
  have q2 : ∀ o, o ≠ 2 → (w5.setCell ⟨b, 2, none⟩ (.slice (some ⟨g, 0, none⟩) (fs.length + 1) cap)).cell? ⟨b, o, none⟩ = W1.cell? ⟨b, o, none⟩ := fun o ho => by
    rw [World.cell?_setCell_other (h := fun e => ho (by injection e with e1 e2; exact e2.symm))]
    exact q0 o
  refine ⟨⟨(q0 2).trans h.c2, (q1 2).trans h.f2⟩, fun j => j = b ∨ pv.ownBlock = some j ∨ (Value.slice (some ⟨g, 0, none⟩) (fs.length + 1) cap).ownBlock = some j, rfl, ⟨pv, _, ⟨?_, ?_, ?_, ?_, ?_, ?_, ?_, ?_, ?_, h.ple, h.mle⟩, fun _ => Iff.rfl⟩, ?_, ?_⟩
  · exact (q2 0 (by omega)).trans h.c0
  · exact (q2 1 (by omega)).trans h.c1
  · exact World.cell?_setCell_same' _ _ _ (by rw [q0, h.c2]; rfl)
  · rw [World.frozen?_setCell]; exact (q1 1).trans h.f1
  · rw [World.frozen?_setCell]; exact (q1 2).trans h.f2
  · refine row_keep h.rp fun j hj => ?_
    have hj2 := h.rp.lt j hj
    refine (Below.heap_setCell w5 ⟨b, 2, none⟩ _ j (fun e => ?_)).trans (hk j hj2.2 (h.ne j hj))
    have e' : j = b := e
    omega
  · rw [nats_snoc, List.length_append]
    exact ownsRow_setCell_below hown (Nat.lt_succ_self b) _
  · intro j hj e
    obtain rfl : g = j := by simpa [Value.ownBlock] using e
    rcases hgo with q | q
    · exact h.ne g hj q
    · have := (h.rp.lt g hj).2; omega
  · rw [List.length_append]; exact hl
  · refine (OnlyS.grown (w1 := X) (ho.trans (OnlyS.of_below hX)) hg (fun j hj => .inl ((hS j).1 (.inr (.inr hj))))).setIn b 2 _ (.inl ((hS b).1 (.inl rfl)))
  · rintro j (rfl | hj | hj)
    · exact .inl ((hS _).1 (.inl rfl))
    · exact .inl ((hS _).1 (.inr (.inl hj)))
    · obtain rfl : g = j := by simpa [Value.ownBlock] using hj
      rcases hgo with q | q
      · exact .inl ((hS _).1 (.inr (.inr q)))
      · exact .inr (Nat.le_trans ho.size q)
theorem new_nat (W : World) (k : Nat) : ∀ j u, ([.int .i64 (k : Int)] : List Value)[j]? = some u → (W.alloc (.cells #[.int .i64 (k : Int)] 3)).cell? ((⟨W.heap.size, 0, none⟩ : Addr).add j) = some u := by
  intro j u hj
  rw [add_at]
  match j, hj with
  | 0, hj => simp at hj; subst hj; simp [go_sem]
theorem one_nat (k : Int) : ∀ u ∈ ([.int .i64 k] : List Value), u.oneCell' = true := by
  intro u hu
  simp at hu
  subst hu
  rfl
set_option maxHeartbeats 1000000 in
theorem free_yes {W : World} {b m : Nat} {S : Nat → Prop} {ps : List Pl} {fs : List Nat} (h : Ar W b S m ps fs) {k q : Nat} {p : Pa.Pt} (hi : ps[k]? = some (some (p, q))) (hl : fs.length < ps.length) :
    Calls Tryz.prog 103 #[wp b, .int .i64 (k : Int)] W (Does W b S (.bool true) m (ps.set k none) (fs ++ [k])) := by
  obtain ⟨pv, fv, h, hS⟩ := h
  obtain ⟨hk, -⟩ := List.getElem?_eq_some_iff.1 hi
  obtain ⟨g, c, rfl, hbg, hgl⟩ := h.form (by omega)
  have H := Lib.hid (at_yes h hi)
  obtain ⟨e0, e1, e2, e3, e4, e5, e6⟩ := h.head hi
  have g0 := h.free (k * 7)
  have g1 := h.free (k * 7 + 1)
  have g2 := h.free (k * 7 + 2)
  have g3 := h.free (k * 7 + 3)
  have g4 := h.free (k * 7 + 4)
  have g5 := h.free (k * 7 + 5)
  have g6 := h.free (k * 7 + 6)
  have hr := row_store7 h.rp (k * 7) (.int .i64 0) (.int .i64 0) (.int .i64 0) (.int .i64 0) (.int .i64 0) (.pointer none) (.bool false)
  rw [← flat_set ps k none _ _ _ _ _ _ _ rfl hk] at hr
  have hon := only7 W g (k * 7) (.int .i64 0) (.int .i64 0) (.int .i64 0) (.int .i64 0) (.int .i64 0) (.pointer none) (.bool false)
  have hA := arena_store (ps' := ps.set k none) h (by simp) hon (by rw [List.length_set]; exact hr)
  have ho : OnlyS S W (store7 W g (k * 7) (.int .i64 0) (.int .i64 0) (.int .i64 0) (.int .i64 0) (.int .i64 0) (.pointer none) (.bool false)) := hon.mono (fun j _ hj => (hS j).1 (.inr (.inl (by rw [hj]; rfl))))
  have q2 := h.c2
  have q3 := h.f2
  have hblt := h.lt
  have q4 : fs.length ≤ 4096 := Nat.le_trans h.fle (Nat.le_trans h.ple h.mle)
  have HL := Lib.hid (show fs.length < (ps.set k none).length by rw [List.length_set]; exact hl)
  have HA := Lib.hid hA
  have HO := Lib.hid ho
  have HS := Lib.hid hS
  obtain ⟨A2, c2, rfl, _⟩ := row_slice h.rf
  have hsz := (size7 W g (k * 7) (.int .i64 0) (.int .i64 0) (.int .i64 0) (.int .i64 0) (.int .i64 0) (.pointer none) (.bool false)).symm
  have HZ := Lib.hid hsz
  obtain ⟨n, hn⟩ : ∃ n, fs.length = n := ⟨_, rfl⟩
  have HN := Lib.hid hn
  rw [hn] at q2 q4 HA HS
  obtain ⟨i0, hinf, hz0, hz1, hz2⟩ := info_parts info_int
  clear hA ho hS h hr hon hsz hn hl hi
  go_enter Tryz.func103, Tryz.ntmps103
  go_wp2_with (first
    | (go_at_call 108; ((with_reducible refine H.out.mono ?_); rintro e w' ⟨rfl, rfl⟩))
    | (at_builtin; refine wpList_append_lies _ rfl _ _ 119 rfl (b + 1) 3 i0 (.int .i64 0) 1 8 Tryz.underlying119 hinf hz0 hz1 hz2 rfl (by decide) (.slice A2 n c2) n (nats fs) rfl ?a0 ⟨W.heap.size, 0, none⟩ 1 1 [.int .i64 (k : Int)] rfl rfl ?a1 (one_nat _) (by decide) (by unfold maxLen; omega) (by omega) ?a2 (W.heap.size + 1) (by simp) ?_))
  case a0 => have := HA.out.rf; rw [HN.out] at this; exact this.alloc _
  case a1 => rw [HZ.out]; exact new_nat _ k
  case a2 => have := HZ.out; simp; omega
  intro g' cap w5 hown hgrow hgo hglt
  obtain ⟨⟨r1, r2⟩, hD⟩ := freed_done (v := .bool true) HA.out HS.out HO.out HL.out HN.out (box_below _ _) hown hgrow (hgo.imp id (fun e => by have := HZ.out; omega))
  have HD := Lib.hid hD
  clear hD hown hgrow HA HS HO e0 e1 e2 e3 e4 e5 e6 g0 g1 g2 g3 g4 g5 g6 q2 q3
  go_wp2
  go_ret
  exact HD.out
end Go.Proofs.YtmolohncllcgbaaGreatDoor.An
