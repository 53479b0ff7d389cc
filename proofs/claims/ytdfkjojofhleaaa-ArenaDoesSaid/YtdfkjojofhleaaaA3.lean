/- A place is freed. -/
import Derived.Test.YtdfkjojofhleaaaA2
import Derived.Deep.AppendLies
import Derived.Deep.RegionLaw
import Derived.OwnWalk
namespace Go.Proofs.Ytdfkjojofhleaaa
open Go Go.RowKit

theorem info3 : (Try.prog.info? 3).map (fun i => (i.zero, i.size, i.bytes)) = some (some (.int .i64 0), 1, 8) := by kernel_rfl
theorem info49 : (Try.prog.info? 49).map (fun i => (i.zero, i.size, i.bytes)) = some (some (.agg #[.int .i64 0, .bool false]), 2, 16) := by kernel_rfl
theorem nats_snoc (fs : List Nat) (k : Nat) : nats (fs ++ [k]) = nats fs ++ [.int .i64 (k : Int)] := by simp [nats]
/-- behind an append to those that were freed -/
theorem freed_done {W W1 X w5 : World} {b m k g cap n : Nat} {pv fv v : Value} {ps : List Pl} {fs : List Nat} {S : Nat → Prop} (h : ArenaAt W1 b m pv fv ps fs) (hS : ∀ k, (k = b ∨ pv.ownBlock = some k ∨ fv.ownBlock = some k) ↔ S k) (ho : OnlyS S W W1) (hl : fs.length < ps.length) (hn : fs.length = n) (hX : Below W1.heap.size W1 X)
    (hown : w5.ownsRow (b + 1) 3 1 (.slice (some ⟨g, 0, none⟩) (n + 1) cap) (n + 1) (nats fs ++ [.int .i64 (k : Int)])) (hg : X.grownBy w5 fv.ownBlock) (hgo : fv.ownBlock = some g ∨ W1.heap.size ≤ g) :
    (w5.cell? ⟨b, 2, none⟩ = some fv ∧ w5.frozen? ⟨b, 2, none⟩ = false) ∧ Does W b S v m ps (fs ++ [k]) (.returned v) (w5.setCell ⟨b, 2, none⟩ (.slice (some ⟨g, 0, none⟩) (n + 1) cap)) := by
  subst hn
  have hlt := h.lt
  have hk : ∀ j, j < W1.heap.size → fv.ownBlock ≠ some j → w5.heap[j]? = W1.heap[j]? := fun j hj hne => (hg.block j (Nat.lt_of_lt_of_le hj hX.size) (fun e => hne e.symm)).trans (hX.block j hj)
  have hb5 : w5.heap[b]? = W1.heap[b]? := hk b hlt (fun e => by have := (h.rf.lt b e).1; omega)
  have q0 : ∀ o, w5.cell? ⟨b, o, none⟩ = W1.cell? ⟨b, o, none⟩ := fun o => World.cell?_of_block (w := W1) (a := ⟨b, o, none⟩) hb5
  have q1 : ∀ o, w5.frozen? ⟨b, o, none⟩ = W1.frozen? ⟨b, o, none⟩ := fun o => World.frozen?_of_block (w := W1) (a := ⟨b, o, none⟩) hb5
  have q2 : ∀ o, o ≠ 2 → (w5.setCell ⟨b, 2, none⟩ (.slice (some ⟨g, 0, none⟩) (fs.length + 1) cap)).cell? ⟨b, o, none⟩ = W1.cell? ⟨b, o, none⟩ := fun o ho => by
    rw [World.cell?_setCell_other (h := fun e => ho (by injection e with e1 e2; exact e2.symm))]
    exact q0 o
  refine ⟨⟨(q0 2).trans h.c2, (q1 2).trans h.f2⟩, fun j => j = b ∨ pv.ownBlock = some j ∨ (Value.slice (some ⟨g, 0, none⟩) (fs.length + 1) cap).ownBlock = some j, rfl, ⟨pv, _, ⟨?_, ?_, ?_, ?_, ?_, ?_, ?_, ?_, ?_, h.ple, h.mle⟩, fun _ => Iff.rfl⟩, ?_, ?_⟩
  · exact (q2 0 (by omega)).trans h.c0
  · exact (q2 1 (by omega)).trans h.c1
  · exact World.cell?_setCell_same' _ _ _ (by rw [q0, h.c2]; rfl)
  · rw [World.frozen?_setCell]; exact (q1 1).trans h.f1
  · rw [World.frozen?_setCell]; exact (q1 2).trans h.f2
  · refine row_keep h.rp fun j hj => ?_
    have hj2 := h.rp.lt j hj
    refine (Below.heap_setCell w5 ⟨b, 2, none⟩ _ j (fun e => ?_)).trans (hk j hj2.2 (h.ne j hj))
    have e' : j = b := e
    omega
  · rw [nats_snoc, List.length_append]
    exact ownsRow_setCell_below hown (Nat.lt_succ_self b) _
  · intro j hj e
    obtain rfl : g = j := by simpa [Value.ownBlock] using e
    rcases hgo with q | q
    · exact h.ne g hj q
    · have := (h.rp.lt g hj).2; omega
  · rw [List.length_append]; exact hl
  · refine (OnlyS.grown (w1 := X) (ho.trans (OnlyS.of_below hX)) hg (fun j hj => .inl ((hS j).1 (.inr (.inr hj))))).setIn b 2 _ (.inl ((hS b).1 (.inl rfl)))
  · rintro j (rfl | hj | hj)
    · exact .inl ((hS _).1 (.inl rfl))
    · exact .inl ((hS _).1 (.inr (.inl hj)))
    · obtain rfl : g = j := by simpa [Value.ownBlock] using hj
      rcases hgo with q | q
      · exact .inl ((hS _).1 (.inr (.inr q)))
      · exact .inr (Nat.le_trans ho.size q)
theorem new_nat (W : World) (k : Nat) : ∀ j u, ([.int .i64 (k : Int)] : List Value)[j]? = some u → (W.alloc (.cells #[.int .i64 (k : Int)] 3)).cell? ((⟨W.heap.size, 0, none⟩ : Addr).add j) = some u := by
  intro j u hj
  rw [add_at]
  match j, hj with
  | 0, hj => simp at hj; subst hj; simp [go_sem]
theorem one_nat (k : Int) : ∀ u ∈ ([.int .i64 k] : List Value), u.oneCell' = true := by
  intro u hu
  simp at hu
  subst hu
  rfl
theorem free_none (W : World) (i : Int) : Calls Try.prog 11 #[.pointer none, .int .i64 i] W fun e w' => e = .returned (.bool false) ∧ W = w' := by
  go_enter Try.func11, Try.ntmps11
  go_wp2_with (go_at_call 19; ((with_reducible refine (at_none W i).mono ?_); rintro e w' ⟨rfl, rfl⟩))
  go_ret
  exact ⟨rfl, rfl⟩
theorem free_no {W : World} {b m : Nat} {S : Nat → Prop} {ps : List Pl} {fs : List Nat} (h : Ar W b S m ps fs) {i : Int} (hu : usedB ps i = false) :
    Calls Try.prog 11 #[wp b, .int .i64 i] W (Does W b S (.bool false) m ps fs) := by
  have H0 := Lib.hid h
  obtain ⟨pv, fv, h, hS⟩ := h
  have H := Lib.hid (at_no h hu)
  clear h hu hS
  go_enter Try.func11, Try.ntmps11
  go_wp2_with (go_at_call 19; ((with_reducible refine H.out.mono ?_); rintro e w' ⟨rfl, rfl⟩))
  go_ret
  exact Does.same H0.out (Below.refl _ _)
set_option maxHeartbeats 2000000 in
theorem free_yes {W : World} {b m : Nat} {S : Nat → Prop} {ps : List Pl} {fs : List Nat} (h : Ar W b S m ps fs) {k : Nat} (hk : k < ps.length) (hu : ps[k].2 = true) (hl : fs.length < ps.length) :
    Calls Try.prog 11 #[wp b, .int .i64 (k : Int)] W (Does W b S (.bool true) m (ps.set k (0, false)) (fs ++ [k])) := by
  obtain ⟨pv, fv, h, hS⟩ := h
  obtain ⟨g, c, rfl, hbg, hgl⟩ := h.form (by omega)
  have H := Lib.hid (at_yes h hk hu)
  obtain ⟨e1, e2, e3, e4⟩ := h.place hk
  have hr := row_store (row_store h.rp (k * 2) (.int .i64 0)) (k * 2 + 1) (.bool false)
  rw [← flat_set ps k (0, false) hk] at hr
  have hon : OnlyS (· = g) W ((W.setCell ⟨g, k * 2, none⟩ (.int .i64 0)).setCell ⟨g, k * 2 + 1, none⟩ (.bool false)) := (OnlyS.set g _ W _).trans (OnlyS.set g _ _ _)
  have hA := arena_store (ps' := ps.set k (0, false)) h (by simp) hon (by rw [List.length_set]; exact hr)
  have ho : OnlyS S W ((W.setCell ⟨g, k * 2, none⟩ (.int .i64 0)).setCell ⟨g, k * 2 + 1, none⟩ (.bool false)) := hon.mono (fun j _ hj => (hS j).1 (.inr (.inl (by rw [hj]; rfl))))
  have q2 := h.c2
  have q3 := h.f2
  have hblt := h.lt
  have q4 : fs.length ≤ 4096 := Nat.le_trans h.fle (Nat.le_trans h.ple h.mle)
  have HL := Lib.hid (show fs.length < (ps.set k (0, false)).length by rw [List.length_set]; exact hl)
  have HA := Lib.hid hA
  have HO := Lib.hid ho
  have HS := Lib.hid hS
  obtain ⟨A2, c2, rfl, _⟩ := row_slice h.rf
  have hsz : W.heap.size = ((W.setCell ⟨g, k * 2, none⟩ (.int .i64 0)).setCell ⟨g, k * 2 + 1, none⟩ (.bool false)).heap.size := by simp [World.setCell]
  have HZ := Lib.hid hsz
  obtain ⟨n, hn⟩ : ∃ n, fs.length = n := ⟨_, rfl⟩
  have HN := Lib.hid hn
  rw [hn] at q2 q4 HA HS
  obtain ⟨i0, hi, hz0, hz1, hz2⟩ := info_parts info3
  generalize ps[k].1 = y1 at *
  generalize ps[k].2 = y2 at *
  clear hA ho hS h hr hon hsz hn hl hu
  go_enter Try.func11, Try.ntmps11
  go_wp2_with (first
    | (go_at_call 19; ((with_reducible refine H.out.mono ?_); rintro e w' ⟨rfl, rfl⟩))
    | (at_builtin; refine wpList_append_lies _ rfl _ _ 34 rfl (b + 1) 3 i0 (.int .i64 0) 1 8 Try.underlying34 hi hz0 hz1 hz2 rfl (by decide) (.slice A2 n c2) n (nats fs) rfl ?a0 ⟨W.heap.size, 0, none⟩ 1 1 [.int .i64 (k : Int)] rfl rfl ?a1 (one_nat _) (by decide) (by unfold maxLen; omega) (by omega) ?a2 (W.heap.size + 1) (by simp) ?_))
  case a0 => have := HA.out.rf; rw [HN.out] at this; exact this.alloc _
  case a1 => rw [HZ.out]; exact new_nat _ k
  case a2 => have := HZ.out; simp; omega
  intro g' cap w5 hown hgrow hgo hglt
  obtain ⟨⟨r1, r2⟩, hD⟩ := freed_done (v := .bool true) HA.out HS.out HO.out HL.out HN.out (box_below _ _) hown hgrow (hgo.imp id (fun e => by have := HZ.out; omega))
  have HD := Lib.hid hD
  clear hD hown hgrow HA HS HO e1 e2 e3 e4 q2 q3
  go_wp2
  go_ret
  exact HD.out
end Go.Proofs.Ytdfkjojofhleaaa
