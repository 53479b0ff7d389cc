/- The place of a number; what it has is told, and set. -/
import Derived.Test.YtdfkjojofhleaaaA1
namespace Go.Proofs.Ytdfkjojofhleaaa
open Go Go.RowKit

/-- whether a number is a used place -/
def usedB (ps : List Pl) (i : Int) : Bool := decide (0 ≤ i) && (match ps[i.toNat]? with | some x => x.2 | none => false)
theorem used_yes {ps : List Pl} {i : Int} (h : usedB ps i = true) : ∃ k : Nat, ∃ hk : k < ps.length, i = k ∧ ps[k].2 = true := by
  unfold usedB at h
  rw [Bool.and_eq_true] at h
  obtain ⟨h1, h2⟩ := h
  have h1 : 0 ≤ i := of_decide_eq_true h1
  obtain ⟨k, rfl⟩ : ∃ k : Nat, i = k := ⟨i.toNat, by omega⟩
  rw [Int.toNat_natCast] at h2
  by_cases hk : k < ps.length
  · rw [List.getElem?_eq_getElem hk] at h2
    exact ⟨k, hk, rfl, h2⟩
  · rw [List.getElem?_eq_none (by omega)] at h2
    cases h2
theorem used_no {ps : List Pl} {i : Int} (h : usedB ps i = false) : i < 0 ∨ ∃ k : Nat, i = k ∧ (ps.length ≤ k ∨ ∃ hk : k < ps.length, ps[k].2 = false) := by
  unfold usedB at h
  by_cases h1 : 0 ≤ i
  · right
    obtain ⟨k, rfl⟩ : ∃ k : Nat, i = k := ⟨i.toNat, by omega⟩
    refine ⟨k, rfl, ?_⟩
    rw [Int.toNat_natCast] at h
    by_cases hk : k < ps.length
    · rw [List.getElem?_eq_getElem hk] at h
      exact .inr ⟨hk, by simpa [h1] using h⟩
    · exact .inl (by omega)
  · exact .inl (by omega)
theorem used_at {ps : List Pl} {k : Nat} (hk : k < ps.length) : usedB ps (k : Int) = ps[k].2 := by
  unfold usedB
  rw [Int.toNat_natCast, List.getElem?_eq_getElem hk]
  simp
theorem used_out {ps : List Pl} {k : Nat} (hk : ps.length ≤ k) : usedB ps (k : Int) = false := by
  unfold usedB
  rw [Int.toNat_natCast, List.getElem?_eq_none hk]
  simp
theorem used_neg {ps : List Pl} {i : Int} (hi : i < 0) : usedB ps i = false := by
  unfold usedB
  rw [decide_eq_false (by omega)]
  rfl
/-- what a number's place has -/
def hasI (ps : List Pl) (i : Int) : Int := if usedB ps i then (match ps[i.toNat]? with | some x => x.1 | none => 0) else 0
theorem has_at {ps : List Pl} {k : Nat} (hk : k < ps.length) (hu : ps[k].2 = true) : hasI ps (k : Int) = ps[k].1 := by
  unfold hasI
  rw [used_at hk, hu, Int.toNat_natCast, List.getElem?_eq_getElem hk]
  rfl
theorem has_no {ps : List Pl} {i : Int} (h : usedB ps i = false) : hasI ps i = 0 := by unfold hasI; rw [h]; rfl

theorem ArenaAt.place {W : World} {b m g n c : Nat} {fv : Value} {ps : List Pl} {fs : List Nat} (h : ArenaAt W b m (.slice (some ⟨g, 0, none⟩) n c) fv ps fs) {i : Nat} (hi : i < ps.length) :
    W.cell? ⟨g, i * 2, none⟩ = some (.int .i64 ps[i].1) ∧ W.cell? ⟨g, i * 2 + 1, none⟩ = some (.bool ps[i].2) ∧ W.frozen? ⟨g, i * 2, none⟩ = false ∧ W.frozen? ⟨g, i * 2 + 1, none⟩ = false := by
  obtain ⟨e1, e2⟩ := flat_at ps i hi
  have h1 := h.rp.cells (g := g) rfl (i * 2) _ e1
  have h2 := h.rp.cells (g := g) rfl (i * 2 + 1) _ e2
  rw [add_at] at h1 h2
  obtain ⟨_, _, hv, _⟩ := row_slice h.rp
  cases hv
  exact ⟨h1, h2, h.rp.frozenAt _, h.rp.frozenAt _⟩
theorem ArenaAt.form {W : World} {b m : Nat} {pv fv : Value} {ps : List Pl} {fs : List Nat} (h : ArenaAt W b m pv fv ps fs) (hp : 0 < ps.length) : ∃ g c, pv = .slice (some ⟨g, 0, none⟩) ps.length c ∧ b < g ∧ g < W.heap.size := by
  obtain ⟨A, c, rfl, h1⟩ := row_slice h.rp
  rcases h1 with h1 | ⟨g, rfl⟩
  · omega
  · have := h.rp.lt g rfl
    exact ⟨g, c, rfl, by omega, this.2⟩

theorem at_none (W : World) (i : Int) : Calls Try.prog 19 #[.pointer none, .int .i64 i] W fun e w' => e = .returned (.pointer none) ∧ W = w' := by
  go_enter Try.func19, Try.ntmps19
  go_wp2
  go_ret
  exact ⟨rfl, rfl⟩
set_option maxHeartbeats 1000000 in
theorem at_yes {W : World} {b m g c : Nat} {fv : Value} {ps : List Pl} {fs : List Nat} (h : ArenaAt W b m (.slice (some ⟨g, 0, none⟩) ps.length c) fv ps fs) {i : Nat} (hi : i < ps.length) (hu : ps[i].2 = true) :
    Calls Try.prog 19 #[wp b, .int .i64 (i : Int)] W fun e w' => e = .returned (.pointer (some ⟨g, i * 2, none⟩)) ∧ W = w' := by
  obtain ⟨e1, e2, _, _⟩ := h.place hi
  rw [hu] at e2
  clear e1
  have q1 := h.c1
  have q4 : ps.length ≤ 4096 := Nat.le_trans h.ple h.mle
  clear hu h
  generalize ps.length = n at *
  have d1 : ¬ ((n : Int) ≤ (i : Int)) := by omega
  have d2 : decide (n ≤ i) = false := by simp; omega
  have d3 : ¬ (n ≤ i) := by omega
  go_enter Try.func19, Try.ntmps19
  go_wp2
  go_ret
  exact ⟨rfl, rfl⟩
set_option maxHeartbeats 1000000 in
theorem at_no {W : World} {b m : Nat} {pv fv : Value} {ps : List Pl} {fs : List Nat} (h : ArenaAt W b m pv fv ps fs) {i : Int} (hu : usedB ps i = false) :
    Calls Try.prog 19 #[wp b, .int .i64 i] W fun e w' => e = .returned (.pointer none) ∧ W = w' := by
  rcases used_no hu with h0 | ⟨k, rfl, hk | ⟨hk, hf⟩⟩
  · clear hu h
    have d0 : decide (i < 0) = true := by simpa using h0
    go_enter Try.func19, Try.ntmps19
    go_wp2
    go_ret
    exact ⟨rfl, rfl⟩
  · obtain ⟨A, c, rfl, _⟩ := row_slice h.rp
    have q1 := h.c1
    have q4 : ps.length ≤ 4096 := Nat.le_trans h.ple h.mle
    clear hu h
    generalize ps.length = n at *
    have d2 : decide (n ≤ k) = true := by simp; omega
    go_enter Try.func19, Try.ntmps19
    go_wp2
    go_ret
    exact ⟨rfl, rfl⟩
  · obtain ⟨g, c, rfl, _⟩ := h.form (by omega)
    obtain ⟨e1, e2, _, _⟩ := h.place hk
    rw [hf] at e2
    clear e1
    have q1 := h.c1
    have q4 : ps.length ≤ 4096 := Nat.le_trans h.ple h.mle
    clear hf h hu
    generalize ps.length = n at *
    have d2 : decide (n ≤ k) = false := by simp; omega
    go_enter Try.func19, Try.ntmps19
    go_wp2
    go_ret
    exact ⟨rfl, rfl⟩

/-- an arena that has these places, in these blocks -/
def Ar (W : World) (b : Nat) (S : Nat → Prop) (m : Nat) (ps : List Pl) (fs : List Nat) : Prop :=
  ∃ pv fv, ArenaAt W b m pv fv ps fs ∧ ∀ k, (k = b ∨ pv.ownBlock = some k ∨ fv.ownBlock = some k) ↔ S k
/-- what a call that may change this arena alone leaves -/
def Does (W : World) (b : Nat) (S : Nat → Prop) (v : Value) (m : Nat) (ps : List Pl) (fs : List Nat) (e : Ending) (w' : World) : Prop :=
  ∃ S', e = .returned v ∧ Ar w' b S' m ps fs ∧ OnlyS S W w' ∧ ∀ k, S' k → S k ∨ W.heap.size ≤ k
theorem Ar.lt {W : World} {b m : Nat} {S : Nat → Prop} {ps : List Pl} {fs : List Nat} (h : Ar W b S m ps fs) {k : Nat} (hk : S k) : b ≤ k ∧ k < W.heap.size := by
  obtain ⟨pv, fv, h1, h2⟩ := h
  rcases (h2 k).2 hk with rfl | hg | hg
  · exact ⟨Nat.le_refl _, h1.lt⟩
  · have := h1.rp.lt k hg; omega
  · have := h1.rf.lt k hg; omega
theorem Ar.own {W : World} {b m : Nat} {S : Nat → Prop} {ps : List Pl} {fs : List Nat} (h : Ar W b S m ps fs) : S b := by
  obtain ⟨pv, fv, h1, h2⟩ := h
  exact (h2 b).1 (.inl rfl)
theorem Ar.keep {W W' : World} {b m : Nat} {S T : Nat → Prop} {ps : List Pl} {fs : List Nat} (h : Ar W b S m ps fs) (ho : OnlyS T W W') (hd : ∀ k, S k → ¬ T k) : Ar W' b S m ps fs := by
  have h0 := h
  obtain ⟨pv, fv, h1, h2⟩ := h
  have hk : ∀ k, S k → W'.heap[k]? = W.heap[k]? := fun k hk => ho.block k (h0.lt hk).2 (hd k hk)
  exact ⟨pv, fv, h1.keep (hk b ((h2 b).1 (.inl rfl))) (fun g hg => hk g ((h2 g).1 (.inr (.inl hg)))) (fun g hg => hk g ((h2 g).1 (.inr (.inr hg)))), h2⟩
theorem Ar.below {W W' : World} {b m : Nat} {S : Nat → Prop} {ps : List Pl} {fs : List Nat} (h : Ar W b S m ps fs) (hb : Below W.heap.size W W') : Ar W' b S m ps fs :=
  h.keep (OnlyS.of_below (S := fun _ => False) hb) (fun _ _ h => h)
theorem Ar.bounds {W : World} {b m : Nat} {S : Nat → Prop} {ps : List Pl} {fs : List Nat} (h : Ar W b S m ps fs) : fs.length ≤ ps.length ∧ ps.length ≤ m ∧ m ≤ 4096 := by
  obtain ⟨pv, fv, h1, h2⟩ := h
  exact ⟨h1.fle, h1.ple, h1.mle⟩
theorem Does.same {W w' : World} {b m : Nat} {S : Nat → Prop} {ps : List Pl} {fs : List Nat} {v : Value} (h : Ar W b S m ps fs) (hb : Below W.heap.size W w') : Does W b S v m ps fs (.returned v) w' :=
  ⟨S, rfl, h.below hb, OnlyS.of_below hb, fun _ h => .inl h⟩

theorem get_none (W : World) (i : Int) : Calls Try.prog 15 #[.pointer none, .int .i64 i] W fun e w' => e = .returned (.tuple #[.int .i64 0, .bool false]) ∧ W = w' := by
  go_enter Try.func15, Try.ntmps15
  go_wp2_with (go_at_call 19; ((with_reducible refine (at_none W i).mono ?_); rintro e w' ⟨rfl, rfl⟩))
  go_ret2
  exact ⟨rfl, rfl⟩
set_option maxHeartbeats 1000000 in
theorem get_any {W : World} {b m : Nat} {S : Nat → Prop} {ps : List Pl} {fs : List Nat} (h : Ar W b S m ps fs) (i : Int) :
    Calls Try.prog 15 #[wp b, .int .i64 i] W fun e w' => e = .returned (.tuple #[.int .i64 (hasI ps i), .bool (usedB ps i)]) ∧ W = w' := by
  obtain ⟨pv, fv, h, _⟩ := h
  cases hu : usedB ps i
  · rw [has_no hu]
    have H := Lib.hid (at_no h hu)
    clear h hu
    go_enter Try.func15, Try.ntmps15
    go_wp2_with (go_at_call 19; ((with_reducible refine H.out.mono ?_); rintro e w' ⟨rfl, rfl⟩))
    go_ret2
    exact ⟨rfl, rfl⟩
  · obtain ⟨k, hk, rfl, hv⟩ := used_yes hu
    obtain ⟨g, c, rfl, _⟩ := h.form (by omega)
    rw [has_at hk hv]
    have H := Lib.hid (at_yes h hk hv)
    obtain ⟨e1, e2, _, _⟩ := h.place hk
    clear e2 h hu hv
    generalize ps[k].1 = x at *
    go_enter Try.func15, Try.ntmps15
    go_wp2_with (go_at_call 19; ((with_reducible refine H.out.mono ?_); rintro e w' ⟨rfl, rfl⟩))
    go_ret2
    exact ⟨rfl, rfl⟩
theorem flat_set1 (zs : List Pl) (i : Nat) (x : Int) (h : i < zs.length) : flat (zs.set i (x, zs[i].2)) = (flat zs).set (i * 2) (.int .i64 x) := by
  induction zs generalizing i with
  | nil => simp at h
  | cons z zs ih =>
    cases i with
    | zero => simp [flat_cons]
    | succ i =>
      have h' : i < zs.length := by simpa using h
      rw [List.set_cons_succ, flat_cons, flat_cons, List.getElem_cons_succ, ih i h', show (i + 1) * 2 = i * 2 + 1 + 1 by omega]
      simp
/-- the places with one set -/
def setP (ps : List Pl) (i x : Int) : List Pl := if usedB ps i then ps.set i.toNat (x, true) else ps
theorem set_none (W : World) (i x : Int) : Calls Try.prog 13 #[.pointer none, .int .i64 i, .int .i64 x] W fun e w' => e = .returned (.bool false) ∧ W = w' := by
  go_enter Try.func13, Try.ntmps13
  go_wp2_with (go_at_call 19; ((with_reducible refine (at_none W i).mono ?_); rintro e w' ⟨rfl, rfl⟩))
  go_ret
  exact ⟨rfl, rfl⟩
/-- the cells of a row's block are set -/
theorem arena_store {W W' : World} {b m g n c : Nat} {fv : Value} {ps ps' : List Pl} {fs : List Nat} (h : ArenaAt W b m (.slice (some ⟨g, 0, none⟩) n c) fv ps fs) (hl : ps'.length = ps.length) (ho : OnlyS (· = g) W W')
    (hr : W'.ownsRow (b + 1) 49 2 (.slice (some ⟨g, 0, none⟩) n c) ps'.length (flat ps')) : ArenaAt W' b m (.slice (some ⟨g, 0, none⟩) n c) fv ps' fs := by
  have hgb := h.rp.lt g rfl
  have hb : W'.heap[b]? = W.heap[b]? := ho.block b h.lt (by omega)
  exact ⟨(World.cell?_of_block (w := W) (a := ⟨b, 0, none⟩) hb).trans h.c0, (World.cell?_of_block (w := W) (a := ⟨b, 1, none⟩) hb).trans h.c1, (World.cell?_of_block (w := W) (a := ⟨b, 2, none⟩) hb).trans h.c2,
    (World.frozen?_of_block (w := W) (a := ⟨b, 1, none⟩) hb).trans h.f1, (World.frozen?_of_block (w := W) (a := ⟨b, 2, none⟩) hb).trans h.f2, hr, row_keep h.rf (fun k hk => ho.block k (h.rf.lt k hk).2 (fun e => h.ne g rfl (by rw [← e]; exact hk))), h.ne, by rw [hl]; exact h.fle, by rw [hl]; exact h.ple, h.mle⟩
set_option maxHeartbeats 1000000 in
theorem set_any {W : World} {b m : Nat} {S : Nat → Prop} {ps : List Pl} {fs : List Nat} (h : Ar W b S m ps fs) (i x : Int) :
    Calls Try.prog 13 #[wp b, .int .i64 i, .int .i64 x] W (Does W b S (.bool (usedB ps i)) m (setP ps i x) fs) := by
  have h0 := h
  obtain ⟨pv, fv, h, hS⟩ := h
  cases hu : usedB ps i
  · rw [show setP ps i x = ps by unfold setP; rw [hu]; rfl]
    have H := Lib.hid (at_no h hu)
    have H0 := Lib.hid h0
    clear h hu h0 hS
    go_enter Try.func13, Try.ntmps13
    go_wp2_with (go_at_call 19; ((with_reducible refine H.out.mono ?_); rintro e w' ⟨rfl, rfl⟩))
    go_ret
    exact Does.same H0.out (Below.refl _ _)
  · have hset : setP ps i x = ps.set i.toNat (x, true) := by unfold setP; rw [hu]; rfl
    obtain ⟨k, hk, rfl, hv⟩ := used_yes hu
    rw [Int.toNat_natCast] at hset
    rw [hset]
    obtain ⟨g, c, rfl, _⟩ := h.form (by omega)
    have H := Lib.hid (at_yes h hk hv)
    obtain ⟨e1, _, e3, _⟩ := h.place hk
    have HD : Does W b S (.bool true) m (ps.set k (x, true)) fs (.returned (.bool true)) (W.setCell ⟨g, k * 2, none⟩ (.int .i64 x)) := by
      have hr := row_store h.rp (k * 2) (.int .i64 x)
      rw [← flat_set1 ps k x hk, hv] at hr
      refine ⟨S, rfl, ⟨_, fv, arena_store h (by simp) (OnlyS.set g (k * 2) W _) (by rw [List.length_set]; exact hr), hS⟩, (OnlyS.set g (k * 2) W _).mono (fun j _ hj => (hS j).1 (.inr (.inl (by rw [hj]; rfl)))), fun _ hk => .inl hk⟩
    have HDD := Lib.hid HD
    clear HD h hu hv hS hset h0
    generalize ps[k].1 = y at *
    go_enter Try.func13, Try.ntmps13
    go_wp2_with (go_at_call 19; ((with_reducible refine H.out.mono ?_); rintro e w' ⟨rfl, rfl⟩))
    go_ret
    exact HDD.out
end Go.Proofs.Ytdfkjojofhleaaa
