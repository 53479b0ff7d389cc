/- The arena of the heads of nodes: what it has in memory, and its calls. -/
import Derived.Test.YtlhhopanegnliaaGreatDoorR1
import Derived.Test.YtlhhopanegnliaaGreatDoorPa
import Derived.BigQuiet
import Derived.Deep.AppendLies
import Derived.Deep.RegionLaw
import Derived.OwnWalk
import Derived.WalkSmall
import Derived.StillTailTactics
namespace Go.Proofs.YtlhhopanegnliaaGreatDoor.An
open Go Go.RowKit Go.Shelf
set_option maxRecDepth 100000

/-- a place: free, or a node and the block of its queue -/
abbrev Pl := Option (Pa.Pt × Nat)
/-- the cells of a head -/
abbrev hcs (p : Pa.Pt) (q : Nat) : List Value := [.int .i64 p.a, .int .i64 p.b, .int .i64 p.c, .int .i64 p.d, .int .i64 p.e, .pointer (some ⟨q, 0, none⟩)]
abbrev hv (p : Pa.Pt) (q : Nat) : Value := .agg #[.int .i64 p.a, .int .i64 p.b, .int .i64 p.c, .int .i64 p.d, .int .i64 p.e, .pointer (some ⟨q, 0, none⟩)]
def plv : Pl → List Value
  | none => [.int .i64 0, .int .i64 0, .int .i64 0, .int .i64 0, .int .i64 0, .pointer none, .bool false]
  | some (p, q) => [.int .i64 p.a, .int .i64 p.b, .int .i64 p.c, .int .i64 p.d, .int .i64 p.e, .pointer (some ⟨q, 0, none⟩), .bool true]
theorem plv_length (x : Pl) : (plv x).length = 7 := by rcases x with _ | ⟨p, q⟩ <;> rfl
/-- the cells of places -/
def flat (xs : List Pl) : List Value := xs.flatMap plv
theorem flat_cons (x : Pl) (xs : List Pl) : flat (x :: xs) = plv x ++ flat xs := by simp [flat]
theorem flat_length (xs : List Pl) : (flat xs).length = xs.length * 7 := by
  induction xs with
  | nil => rfl
  | cons x xs ih => rw [flat_cons, List.length_append, ih, plv_length]; simp; omega
theorem flat_snoc (xs : List Pl) (x : Pl) : flat (xs ++ [x]) = flat xs ++ plv x := by simp [flat]
theorem flat_at (xs : List Pl) (i j : Nat) (h : i < xs.length) (hj : j < 7) : (flat xs)[i * 7 + j]? = (plv xs[i])[j]? := by
  induction xs generalizing i with
  | nil => simp at h
  | cons x xs ih =>
    cases i with
    | zero => rw [flat_cons, Nat.zero_mul, Nat.zero_add, List.getElem?_append_left (by rw [plv_length]; exact hj)]; rfl
    | succ i =>
      have h' : i < xs.length := by simpa using h
      rw [flat_cons, List.getElem?_append_right (by rw [plv_length]; omega), plv_length, show (i + 1) * 7 + j - 7 = i * 7 + j by omega, ih i h']
      rfl
theorem set_app_left {α : Type} (l m : List α) (k : Nat) (v : α) (h : k < l.length) : (l ++ m).set k v = l.set k v ++ m := by
  rw [List.set_append_left _ _ h]
theorem set_app_right {α : Type} (l m : List α) (k : Nat) (v : α) (h : l.length ≤ k) : (l ++ m).set k v = l ++ m.set (k - l.length) v := by
  rw [List.set_append_right _ _ h]
/-- seven cells of a row set one behind the other -/
def set7 (l : List Value) (o : Nat) (v0 v1 v2 v3 v4 v5 v6 : Value) : List Value :=
  ((((((l.set o v0).set (o + 1) v1).set (o + 2) v2).set (o + 3) v3).set (o + 4) v4).set (o + 5) v5).set (o + 6) v6
theorem set7_here (x : List Value) (m : List Value) (v0 v1 v2 v3 v4 v5 v6 : Value) (hx : x.length = 7) : set7 (x ++ m) 0 v0 v1 v2 v3 v4 v5 v6 = [v0, v1, v2, v3, v4, v5, v6] ++ m := by
  match x, hx with
  | [a, b, c, d, e, f, g], _ => rfl
theorem set7_past (x : List Value) (m : List Value) (o : Nat) (v0 v1 v2 v3 v4 v5 v6 : Value) (hx : x.length = 7) : set7 (x ++ m) (o + 7) v0 v1 v2 v3 v4 v5 v6 = x ++ set7 m o v0 v1 v2 v3 v4 v5 v6 := by
  unfold set7
  rw [set_app_right _ _ _ _ (by omega), set_app_right _ _ _ _ (by omega), set_app_right _ _ _ _ (by omega), set_app_right _ _ _ _ (by omega), set_app_right _ _ _ _ (by omega), set_app_right _ _ _ _ (by omega), set_app_right _ _ _ _ (by omega), hx]
  simp only [show ∀ k, o + 7 + k - 7 = o + k from fun k => by omega, show o + 7 - 7 = o by omega]
theorem flat_set (zs : List Pl) (i : Nat) (x : Pl) (v0 v1 v2 v3 v4 v5 v6 : Value) (hx : plv x = [v0, v1, v2, v3, v4, v5, v6]) (h : i < zs.length) : flat (zs.set i x) = set7 (flat zs) (i * 7) v0 v1 v2 v3 v4 v5 v6 := by
  induction zs generalizing i with
  | nil => simp at h
  | cons z zs ih =>
    cases i with
    | zero => rw [List.set_cons_zero, flat_cons, flat_cons, Nat.zero_mul, set7_here _ _ _ _ _ _ _ _ _ (plv_length z), hx]
    | succ i =>
      have h' : i < zs.length := by simpa using h
      rw [List.set_cons_succ, flat_cons, flat_cons, ih i h', show (i + 1) * 7 = i * 7 + 7 by omega, set7_past _ _ _ _ _ _ _ _ _ _ (plv_length z)]
/-- the cells of numbers of places -/
def nats (fs : List Nat) : List Value := fs.map fun (i : Nat) => .int .i64 (i : Int)
theorem nats_length (fs : List Nat) : (nats fs).length = fs.length * 1 := by simp [nats]

/-- an arena lies in a block -/
structure ArenaAt (W : World) (b m : Nat) (pv fv : Value) (ps : List Pl) (fs : List Nat) : Prop where
  c0 : W.cell? ⟨b, 0, none⟩ = some (.int .i64 m)
  c1 : W.cell? ⟨b, 1, none⟩ = some pv
  c2 : W.cell? ⟨b, 2, none⟩ = some fv
  f1 : W.frozen? ⟨b, 1, none⟩ = false
  f2 : W.frozen? ⟨b, 2, none⟩ = false
  rp : W.ownsRow (b + 1) 198 7 pv ps.length (flat ps)
  rf : W.ownsRow (b + 1) 3 1 fv fs.length (nats fs)
  ne : ∀ g, pv.ownBlock = some g → fv.ownBlock ≠ some g
  fle : fs.length ≤ ps.length
  ple : ps.length ≤ m
  mle : m ≤ 4096
abbrev wp (b : Nat) : Value := .pointer (some ⟨b, 0, none⟩)

theorem ArenaAt.lt {W : World} {b m : Nat} {pv fv : Value} {ps : List Pl} {fs : List Nat} (h : ArenaAt W b m pv fv ps fs) : b < W.heap.size := cell_lt h.c0
theorem ArenaAt.keep {W W' : World} {b m : Nat} {pv fv : Value} {ps : List Pl} {fs : List Nat} (h : ArenaAt W b m pv fv ps fs) (hb : W'.heap[b]? = W.heap[b]?) (hp : ∀ g, pv.ownBlock = some g → W'.heap[g]? = W.heap[g]?) (hf : ∀ g, fv.ownBlock = some g → W'.heap[g]? = W.heap[g]?) : ArenaAt W' b m pv fv ps fs :=
  ⟨(World.cell?_of_block (w := W) (a := ⟨b, 0, none⟩) hb).trans h.c0, (World.cell?_of_block (w := W) (a := ⟨b, 1, none⟩) hb).trans h.c1, (World.cell?_of_block (w := W) (a := ⟨b, 2, none⟩) hb).trans h.c2,
   (World.frozen?_of_block (w := W) (a := ⟨b, 1, none⟩) hb).trans h.f1, (World.frozen?_of_block (w := W) (a := ⟨b, 2, none⟩) hb).trans h.f2, row_keep h.rp hp, row_keep h.rf hf, h.ne, h.fle, h.ple, h.mle⟩
theorem ArenaAt.below {W W' : World} {b m : Nat} {pv fv : Value} {ps : List Pl} {fs : List Nat} (h : ArenaAt W b m pv fv ps fs) (hb : Below W.heap.size W W') : ArenaAt W' b m pv fv ps fs :=
  h.keep (hb.block b h.lt) (fun g hg => hb.block g (h.rp.lt g hg).2) (fun g hg => hb.block g (h.rf.lt g hg).2)

def cl (n : Int) : Nat := if n < 0 then 0 else if 4096 < n then 4096 else n.toNat
theorem cl_le (n : Int) : cl n ≤ 4096 := by unfold cl; split <;> (try split) <;> omega
theorem arena_new (W : World) (m : Nat) (hm : m ≤ 4096) : ArenaAt (W.alloc (.cells #[.int .i64 m, .slice none 0 0, .slice none 0 0] 118)) W.heap.size m (.slice none 0 0) (.slice none 0 0) [] [] := by
  refine ⟨?_, ?_, ?_, ?_, ?_, World.ownsRow_nil _ _ _ _, World.ownsRow_nil _ _ _ _, by simp [Value.ownBlock], Nat.le_refl _, Nat.zero_le _, hm⟩ <;> simp [go_sem]
theorem new_any (n : Int) (W : World) : Calls Tryz.prog 26 #[.int .i64 n] W fun e w' => e = .returned (wp W.heap.size) ∧ ArenaAt w' W.heap.size (cl n) (.slice none 0 0) (.slice none 0 0) [] [] ∧ Below W.heap.size W w' := by
  have hm := cl_le n
  by_cases h0 : n < 0
  · have H := Lib.hid (show cl n = 0 by unfold cl; rw [if_pos h0])
    go_enter Tryz.func26, Tryz.ntmps26
    go_wp2
    go_ret
    exact ⟨rfl, by rw [H.out]; exact arena_new _ 0 (by omega), box_below _ _⟩
  · by_cases h1 : 4096 < n
    · have H := Lib.hid (show cl n = 4096 by unfold cl; rw [if_neg h0, if_pos h1])
      go_enter Tryz.func26, Tryz.ntmps26
      go_wp2
      go_ret
      exact ⟨rfl, by rw [H.out]; exact arena_new _ 4096 (by omega), box_below _ _⟩
    · obtain ⟨k, rfl⟩ : ∃ k : Nat, n = k := ⟨n.toNat, by omega⟩
      have H := Lib.hid (show cl (k : Int) = k by unfold cl; rw [if_neg h0, if_neg h1]; simp)
      go_enter Tryz.func26, Tryz.ntmps26
      go_wp2
      go_ret
      exact ⟨rfl, by rw [H.out]; exact arena_new _ k (by omega), box_below _ _⟩
theorem len_any {W : World} {b m : Nat} {pv fv : Value} {ps : List Pl} {fs : List Nat} (h : ArenaAt W b m pv fv ps fs) :
    Calls Tryz.prog 68 #[wp b] W fun e w' => e = .returned (.int .i64 ((ps.length : Int) - (fs.length : Int))) ∧ ∃ k, w' = W.drewN k := by
  obtain ⟨A, c, rfl, _⟩ := row_slice h.rp
  obtain ⟨A2, c2, rfl, _⟩ := row_slice h.rf
  have q1 := h.c1
  have q2 := h.c2
  have q3 := h.fle
  have q4 : ps.length ≤ 4096 := Nat.le_trans h.ple h.mle
  clear h
  generalize ps.length = n at *
  generalize fs.length = k at *
  go_enter Tryz.func68, Tryz.ntmps68
  go_wp2
  go_quiet (fail)
  go_wp2
  go_ret
  exact ⟨rfl, _, rfl⟩
theorem len_none (W : World) : Calls Tryz.prog 68 #[.pointer none] W fun e w' => e = .returned (.int .i64 0) ∧ W = w' := by
  go_enter Tryz.func68, Tryz.ntmps68
  go_wp2
  go_ret
  exact ⟨rfl, rfl⟩
theorem left_none (W : World) : Calls Tryz.prog 93 #[.pointer none] W fun e w' => e = .returned (.int .i64 0) ∧ W = w' := by
  go_enter Tryz.func93, Tryz.ntmps93
  go_wp2
  go_ret
  exact ⟨rfl, rfl⟩
theorem left_any {W : World} {b m : Nat} {pv fv : Value} {ps : List Pl} {fs : List Nat} (h : ArenaAt W b m pv fv ps fs) :
    Calls Tryz.prog 93 #[wp b] W fun e w' => e = .returned (.int .i64 ((m : Int) - ((ps.length : Int) - (fs.length : Int)))) ∧ ∃ k, w' = W.drewN k := by
  have q0 := h.c0
  have q3 := h.fle
  have q4 := h.ple
  have q5 := h.mle
  have HL : ∀ k, Calls Tryz.prog 68 #[wp b] (W.drewN k) fun e w' => e = .returned (.int .i64 ((ps.length : Int) - (fs.length : Int))) ∧ ∃ j, w' = (W.drewN k).drewN j := fun k => len_any (h.below (drew_below W k))
  have H := Lib.hid HL
  clear HL h
  generalize ps.length = n at *
  generalize fs.length = k at *
  go_enter Tryz.func93, Tryz.ntmps93
  go_wp2
  go_quiet ((go_at_call 68; exact Calls.quiet_of (H.out _)))
  go_wp2
  go_ret
  exact ⟨rfl, _, rfl⟩

section
variable {W W' : World} {b m g n c : Nat} {pv fv : Value} {ps ps' : List Pl} {fs : List Nat}
theorem ArenaAt.place (h : ArenaAt W b m (.slice (some ⟨g, 0, none⟩) n c) fv ps fs) {i j : Nat} (hi : i < ps.length) (hj : j < 7) {u : Value} (hu : (plv ps[i])[j]? = some u) :
    W.cell? ⟨g, i * 7 + j, none⟩ = some u := by
  have h1 := h.rp.cells (g := g) rfl (i * 7 + j) u ((flat_at ps i j hi hj).trans hu)
  rw [add_at] at h1
  exact h1
theorem ArenaAt.free (h : ArenaAt W b m (.slice (some ⟨g, 0, none⟩) n c) fv ps fs) (k : Nat) : W.frozen? ⟨g, k, none⟩ = false := by
  obtain ⟨_, _, hv, _⟩ := row_slice h.rp
  cases hv
  exact h.rp.frozenAt _
theorem ArenaAt.form (h : ArenaAt W b m pv fv ps fs) (hp : 0 < ps.length) : ∃ g c, pv = .slice (some ⟨g, 0, none⟩) ps.length c ∧ b < g ∧ g < W.heap.size := by
  obtain ⟨A, c, rfl, h1⟩ := row_slice h.rp
  rcases h1 with h1 | ⟨g, rfl⟩
  · omega
  · have := h.rp.lt g rfl
    exact ⟨g, c, rfl, by omega, this.2⟩
/-- the cells of a used place -/
structure HeadAt (W : World) (g o : Nat) (p : Pa.Pt) (q : Nat) : Prop where
  c0 : W.cell? ⟨g, o, none⟩ = some (.int .i64 p.a)
  c1 : W.cell? ⟨g, o + 1, none⟩ = some (.int .i64 p.b)
  c2 : W.cell? ⟨g, o + 2, none⟩ = some (.int .i64 p.c)
  c3 : W.cell? ⟨g, o + 3, none⟩ = some (.int .i64 p.d)
  c4 : W.cell? ⟨g, o + 4, none⟩ = some (.int .i64 p.e)
  c5 : W.cell? ⟨g, o + 5, none⟩ = some (.pointer (some ⟨q, 0, none⟩))
  c6 : W.cell? ⟨g, o + 6, none⟩ = some (.bool true)
theorem ArenaAt.head (h : ArenaAt W b m (.slice (some ⟨g, 0, none⟩) n c) fv ps fs) {i q : Nat} {p : Pa.Pt} (hi : ps[i]? = some (some (p, q))) : HeadAt W g (i * 7) p q := by
  obtain ⟨hl, he⟩ := List.getElem?_eq_some_iff.1 hi
  have e : plv ps[i] = plv (some (p, q)) := by rw [he]
  refine ⟨?_, ?_, ?_, ?_, ?_, ?_, ?_⟩
  · exact h.place (j := 0) hl (by omega) (by rw [e]; rfl)
  · exact h.place (j := 1) hl (by omega) (by rw [e]; rfl)
  · exact h.place (j := 2) hl (by omega) (by rw [e]; rfl)
  · exact h.place (j := 3) hl (by omega) (by rw [e]; rfl)
  · exact h.place (j := 4) hl (by omega) (by rw [e]; rfl)
  · exact h.place (j := 5) hl (by omega) (by rw [e]; rfl)
  · exact h.place (j := 6) hl (by omega) (by rw [e]; rfl)
theorem at_yes {c : Nat} (h : ArenaAt W b m (.slice (some ⟨g, 0, none⟩) ps.length c) fv ps fs) {i q : Nat} {p : Pa.Pt} (hi : ps[i]? = some (some (p, q))) :
    Calls Tryz.prog 155 #[wp b, .int .i64 (i : Int)] W fun e w' => e = .returned (.pointer (some ⟨g, i * 7, none⟩)) ∧ W = w' := by
  have e2 := (h.head hi).c6
  obtain ⟨hil, -⟩ := List.getElem?_eq_some_iff.1 hi
  have q1 := h.c1
  have q4 : ps.length ≤ 4096 := Nat.le_trans h.ple h.mle
  clear h hi
  generalize ps.length = n at *
  have d1 : ¬ ((n : Int) ≤ (i : Int)) := by omega
  have d2 : decide (n ≤ i) = false := by simp; omega
  have d3 : ¬ (n ≤ i) := by omega
  go_enter Tryz.func155, Tryz.ntmps155
  go_wp2
  go_ret
  exact ⟨rfl, rfl⟩
theorem info_int : (Tryz.prog.info? 3).map (fun i => (i.zero, i.size, i.bytes)) = some (some (.int .i64 0), 1, 8) := by kernel_rfl
theorem info_place : (Tryz.prog.info? 198).map (fun i => (i.zero, i.size, i.bytes)) = some (some (.agg #[.int .i64 0, .int .i64 0, .int .i64 0, .int .i64 0, .int .i64 0, .pointer none, .bool false]), 7, 56) := by kernel_rfl
theorem nats_snoc (fs : List Nat) (k : Nat) : nats (fs ++ [k]) = nats fs ++ [.int .i64 (k : Int)] := by simp [nats]
end
/-- an arena that has these places, in these blocks -/
def Ar (W : World) (b : Nat) (S : Nat → Prop) (m : Nat) (ps : List Pl) (fs : List Nat) : Prop :=
  ∃ pv fv, ArenaAt W b m pv fv ps fs ∧ ∀ k, (k = b ∨ pv.ownBlock = some k ∨ fv.ownBlock = some k) ↔ S k
/-- what a call that may change this arena alone leaves -/
def Does (W : World) (b : Nat) (S : Nat → Prop) (v : Value) (m : Nat) (ps : List Pl) (fs : List Nat) (e : Ending) (w' : World) : Prop :=
  ∃ S', e = .returned v ∧ Ar w' b S' m ps fs ∧ OnlyS S W w' ∧ ∀ k, S' k → S k ∨ W.heap.size ≤ k
theorem Ar.lt {W : World} {b m : Nat} {S : Nat → Prop} {ps : List Pl} {fs : List Nat} (h : Ar W b S m ps fs) {k : Nat} (hk : S k) : b ≤ k ∧ k < W.heap.size := by
  obtain ⟨pv, fv, h1, h2⟩ := h
  rcases (h2 k).2 hk with rfl | hg | hg
  · exact ⟨Nat.le_refl _, h1.lt⟩
  · have := h1.rp.lt k hg; omega
  · have := h1.rf.lt k hg; omega
theorem Ar.own {W : World} {b m : Nat} {S : Nat → Prop} {ps : List Pl} {fs : List Nat} (h : Ar W b S m ps fs) : S b := by
  obtain ⟨pv, fv, h1, h2⟩ := h
  exact (h2 b).1 (.inl rfl)
theorem Ar.keep {W W' : World} {b m : Nat} {S T : Nat → Prop} {ps : List Pl} {fs : List Nat} (h : Ar W b S m ps fs) (ho : OnlyS T W W') (hd : ∀ k, S k → ¬ T k) : Ar W' b S m ps fs := by
  have h0 := h
  obtain ⟨pv, fv, h1, h2⟩ := h
  have hk : ∀ k, S k → W'.heap[k]? = W.heap[k]? := fun k hk => ho.block k (h0.lt hk).2 (hd k hk)
  exact ⟨pv, fv, h1.keep (hk b ((h2 b).1 (.inl rfl))) (fun g hg => hk g ((h2 g).1 (.inr (.inl hg)))) (fun g hg => hk g ((h2 g).1 (.inr (.inr hg)))), h2⟩
theorem Ar.below {W W' : World} {b m : Nat} {S : Nat → Prop} {ps : List Pl} {fs : List Nat} (h : Ar W b S m ps fs) (hb : Below W.heap.size W W') : Ar W' b S m ps fs :=
  h.keep (OnlyS.of_below (S := fun _ => False) hb) (fun _ _ h => h)
theorem Ar.bounds {W : World} {b m : Nat} {S : Nat → Prop} {ps : List Pl} {fs : List Nat} (h : Ar W b S m ps fs) : fs.length ≤ ps.length ∧ ps.length ≤ m ∧ m ≤ 4096 := by
  obtain ⟨pv, fv, h1, h2⟩ := h
  exact ⟨h1.fle, h1.ple, h1.mle⟩
theorem Does.same {W w' : World} {b m : Nat} {S : Nat → Prop} {ps : List Pl} {fs : List Nat} {v : Value} (h : Ar W b S m ps fs) (hb : Below W.heap.size W w') : Does W b S v m ps fs (.returned v) w' :=
  ⟨S, rfl, h.below hb, OnlyS.of_below hb, fun _ h => .inl h⟩
theorem results_get {fn : Func} {p q : Tmp} (h : fn.results = #[.cell p 70, .tmp q]) {tmps : Array Value} {w : World} {b : Nat} {x0 x1 x2 x3 x4 x5 y : Value} (hp : tmps.getD p undef = .pointer (some ⟨b, 0, none⟩)) (hq : tmps.getD q undef = y)
    (h0 : w.cell? ⟨b, 0, none⟩ = some x0) (h1 : w.cell? ⟨b, 1, none⟩ = some x1) (h2 : w.cell? ⟨b, 2, none⟩ = some x2) (h3 : w.cell? ⟨b, 3, none⟩ = some x3) (h4 : w.cell? ⟨b, 4, none⟩ = some x4) (h5 : w.cell? ⟨b, 5, none⟩ = some x5) :
    (results fn tmps).run Tryz.prog w = .ok (.tuple #[.agg #[x0, x1, x2, x3, x4, x5], y]) w := by
  have hp' : tmps[p]?.getD undef = .pointer (some ⟨b, 0, none⟩) := by simpa using hp
  have hq' : tmps[q]?.getD undef = y := by simpa using hq
  simp [results, h, hp', hq', go_sem, h0, h1, h2, h3, h4, h5]
/-- what a used place has is told -/
theorem get_yes {W : World} {b m : Nat} {S : Nat → Prop} {ps : List Pl} {fs : List Nat} (h : Ar W b S m ps fs) {i q : Nat} {p : Pa.Pt} (hi : ps[i]? = some (some (p, q))) :
    Calls Tryz.prog 115 #[wp b, .int .i64 (i : Int)] W fun e w' => e = .returned (.tuple #[hv p q, .bool true]) ∧ Below W.heap.size W w' := by
  obtain ⟨pv, fv, h, _⟩ := h
  obtain ⟨hil, -⟩ := List.getElem?_eq_some_iff.1 hi
  obtain ⟨g, c, rfl, _, hg⟩ := h.form (by omega)
  have hx := box_below W (.cells #[.int .i64 0, .int .i64 0, .int .i64 0, .int .i64 0, .int .i64 0, .pointer none] 70)
  have HX := Lib.hid hx
  have H := Lib.hid (at_yes (h.below hx) hi)
  obtain ⟨c0, c1, c2, c3, c4, c5, -⟩ := (h.below hx).head hi
  have hgl : g ≠ W.heap.size := by omega
  clear h hx hi
  generalize i * 7 = o at *
  go_enter Tryz.func115, Tryz.ntmps115
  go_wp2_with fail
  refine H.out.mono ?_
  rintro e w' ⟨rfl, rfl⟩
  go_wp2_with fail
  exact bodyPost_ret (results_get rfl rfl rfl (by simp [go_sem]) (by simp [go_sem]) (by simp [go_sem]) (by simp [go_sem]) (by simp [go_sem]) (by simp [go_sem])) rfl ⟨rfl, box_below _ _⟩
end Go.Proofs.YtlhhopanegnliaaGreatDoor.An
/- The arena of the heads of nodes: a place is freed, and taken. -/
namespace Go.Proofs.YtlhhopanegnliaaGreatDoor.An
open Go Go.RowKit Go.Shelf
set_option maxRecDepth 100000

abbrev store7 (W : World) (g o : Nat) (v0 v1 v2 v3 v4 v5 v6 : Value) : World :=
  ((((((W.setCell ⟨g, o, none⟩ v0).setCell ⟨g, o + 1, none⟩ v1).setCell ⟨g, o + 2, none⟩ v2).setCell ⟨g, o + 3, none⟩ v3).setCell ⟨g, o + 4, none⟩ v4).setCell ⟨g, o + 5, none⟩ v5).setCell ⟨g, o + 6, none⟩ v6
theorem only7 (W : World) (g o : Nat) (v0 v1 v2 v3 v4 v5 v6 : Value) : OnlyS (· = g) W (store7 W g o v0 v1 v2 v3 v4 v5 v6) :=
  ((((((OnlyS.set g _ W _).setIn g _ _ (.inl rfl)).setIn g _ _ (.inl rfl)).setIn g _ _ (.inl rfl)).setIn g _ _ (.inl rfl)).setIn g _ _ (.inl rfl)).setIn g _ _ (.inl rfl)
theorem size7 (W : World) (g o : Nat) (v0 v1 v2 v3 v4 v5 v6 : Value) : (store7 W g o v0 v1 v2 v3 v4 v5 v6).heap.size = W.heap.size := by simp [World.setCell]
theorem row_store7 {W : World} {base g n cap size : Nat} {e : TypeId} {xs : List Value} (h : W.ownsRow base e size (.slice (some ⟨g, 0, none⟩) n cap) n xs) (o : Nat) (v0 v1 v2 v3 v4 v5 v6 : Value) : (store7 W g o v0 v1 v2 v3 v4 v5 v6).ownsRow base e size (.slice (some ⟨g, 0, none⟩) n cap) n (set7 xs o v0 v1 v2 v3 v4 v5 v6) :=
  row_store (row_store (row_store (row_store (row_store (row_store (row_store h _ _) _ _) _ _) _ _) _ _) _ _) _ _
/-- the cells of a row's block are set -/
theorem arena_store {W W' : World} {b m g n c : Nat} {fv : Value} {ps ps' : List Pl} {fs : List Nat} (h : ArenaAt W b m (.slice (some ⟨g, 0, none⟩) n c) fv ps fs) (hl : ps'.length = ps.length) (ho : OnlyS (· = g) W W')
    (hr : W'.ownsRow (b + 1) 198 7 (.slice (some ⟨g, 0, none⟩) n c) ps'.length (flat ps')) : ArenaAt W' b m (.slice (some ⟨g, 0, none⟩) n c) fv ps' fs := by
  have hgb := h.rp.lt g rfl
  have hb : W'.heap[b]? = W.heap[b]? := ho.block b h.lt (by omega)
  exact ⟨(World.cell?_of_block (w := W) (a := ⟨b, 0, none⟩) hb).trans h.c0, (World.cell?_of_block (w := W) (a := ⟨b, 1, none⟩) hb).trans h.c1, (World.cell?_of_block (w := W) (a := ⟨b, 2, none⟩) hb).trans h.c2,
    (World.frozen?_of_block (w := W) (a := ⟨b, 1, none⟩) hb).trans h.f1, (World.frozen?_of_block (w := W) (a := ⟨b, 2, none⟩) hb).trans h.f2, hr, row_keep h.rf (fun k hk => ho.block k (h.rf.lt k hk).2 (fun e => h.ne g rfl (by rw [← e]; exact hk))), h.ne, by rw [hl]; exact h.fle, by rw [hl]; exact h.ple, h.mle⟩
/-- behind an append to those that were freed -/
theorem freed_done {W W1 X w5 : World} {b m k g cap n : Nat} {pv fv v : Value} {ps : List Pl} {fs : List Nat} {S : Nat → Prop} (h : ArenaAt W1 b m pv fv ps fs) (hS : ∀ k, (k = b ∨ pv.ownBlock = some k ∨ fv.ownBlock = some k) ↔ S k) (ho : OnlyS S W W1) (hl : fs.length < ps.length) (hn : fs.length = n) (hX : Below W1.heap.size W1 X)
    (hown : w5.ownsRow (b + 1) 3 1 (.slice (some ⟨g, 0, none⟩) (n + 1) cap) (n + 1) (nats fs ++ [.int .i64 (k : Int)])) (hg : X.grownBy w5 fv.ownBlock) (hgo : fv.ownBlock = some g ∨ W1.heap.size ≤ g) :
    (w5.cell? ⟨b, 2, none⟩ = some fv ∧ w5.frozen? ⟨b, 2, none⟩ = false) ∧ Does W b S v m ps (fs ++ [k]) (.returned v) (w5.setCell ⟨b, 2, none⟩ (.slice (some ⟨g, 0, none⟩) (n + 1) cap)) := by
  subst hn
  have hlt := h.lt
  have hk : ∀ j, j < W1.heap.size → fv.ownBlock ≠ some j → w5.heap[j]? = W1.heap[j]? := fun j hj hne => (hg.block j (Nat.lt_of_lt_of_le hj hX.size) (fun e => hne e.symm)).trans (hX.block j hj)
  have hb5 : w5.heap[b]? = W1.heap[b]? := hk b hlt (fun e => by have := (h.rf.lt b e).1; omega)
  have q0 : ∀ o, w5.cell? ⟨b, o, none⟩ = W1.cell? ⟨b, o, none⟩ := fun o => World.cell?_of_block (w := W1) (a := ⟨b, o, none⟩) hb5
  have q1 : ∀ o, w5.frozen? ⟨b, o, none⟩ = W1.frozen? ⟨b, o, none⟩ := fun o => World.frozen?_of_block (w := W1) (a := ⟨b, o, none⟩) hb5
  have q2 : ∀ o, o ≠ 2 → (w5.setCell ⟨b, 2, none⟩ (.slice (some ⟨g, 0, none⟩) (fs.length + 1) cap)).cell? ⟨b, o, none⟩ = W1.cell? ⟨b, o, none⟩ := fun o ho => by
    rw [World.cell?_setCell_other (h := fun e => ho (by injection e with e1 e2; exact e2.symm))]
    exact q0 o
  refine ⟨⟨(q0 2).trans h.c2, (q1 2).trans h.f2⟩, fun j => j = b ∨ pv.ownBlock = some j ∨ (Value.slice (some ⟨g, 0, none⟩) (fs.length + 1) cap).ownBlock = some j, rfl, ⟨pv, _, ⟨?_, ?_, ?_, ?_, ?_, ?_, ?_, ?_, ?_, h.ple, h.mle⟩, fun _ => Iff.rfl⟩, ?_, ?_⟩
  · exact (q2 0 (by omega)).trans h.c0
  · exact (q2 1 (by omega)).trans h.c1
  · exact World.cell?_setCell_same' _ _ _ (by rw [q0, h.c2]; rfl)
  · rw [World.frozen?_setCell]; exact (q1 1).trans h.f1
  · rw [World.frozen?_setCell]; exact (q1 2).trans h.f2
  · refine row_keep h.rp fun j hj => ?_
    have hj2 := h.rp.lt j hj
    refine (Below.heap_setCell w5 ⟨b, 2, none⟩ _ j (fun e => ?_)).trans (hk j hj2.2 (h.ne j hj))
    have e' : j = b := e
    omega
  · rw [nats_snoc, List.length_append]
    exact ownsRow_setCell_below hown (Nat.lt_succ_self b) _
  · intro j hj e
    obtain rfl : g = j := by simpa [Value.ownBlock] using e
    rcases hgo with q | q
    · exact h.ne g hj q
    · have := (h.rp.lt g hj).2; omega
  · rw [List.length_append]; exact hl
  · refine (OnlyS.grown (w1 := X) (ho.trans (OnlyS.of_below hX)) hg (fun j hj => .inl ((hS j).1 (.inr (.inr hj))))).setIn b 2 _ (.inl ((hS b).1 (.inl rfl)))
  · rintro j (rfl | hj | hj)
    · exact .inl ((hS _).1 (.inl rfl))
    · exact .inl ((hS _).1 (.inr (.inl hj)))
    · obtain rfl : g = j := by simpa [Value.ownBlock] using hj
      rcases hgo with q | q
      · exact .inl ((hS _).1 (.inr (.inr q)))
      · exact .inr (Nat.le_trans ho.size q)
theorem new_nat (W : World) (k : Nat) : ∀ j u, ([.int .i64 (k : Int)] : List Value)[j]? = some u → (W.alloc (.cells #[.int .i64 (k : Int)] 3)).cell? ((⟨W.heap.size, 0, none⟩ : Addr).add j) = some u := by
  intro j u hj
  rw [add_at]
  match j, hj with
  | 0, hj => simp at hj; subst hj; simp [go_sem]
theorem one_nat (k : Int) : ∀ u ∈ ([.int .i64 k] : List Value), u.oneCell' = true := by
  intro u hu
  simp at hu
  subst hu
  rfl
set_option maxHeartbeats 1000000 in
theorem free_yes {W : World} {b m : Nat} {S : Nat → Prop} {ps : List Pl} {fs : List Nat} (h : Ar W b S m ps fs) {k q : Nat} {p : Pa.Pt} (hi : ps[k]? = some (some (p, q))) (hl : fs.length < ps.length) :
    Calls Tryz.prog 205 #[wp b, .int .i64 (k : Int)] W (Does W b S (.bool true) m (ps.set k none) (fs ++ [k])) := by
  obtain ⟨pv, fv, h, hS⟩ := h
  obtain ⟨hk, -⟩ := List.getElem?_eq_some_iff.1 hi
  obtain ⟨g, c, rfl, hbg, hgl⟩ := h.form (by omega)
  have H := Lib.hid (at_yes h hi)
  obtain ⟨e0, e1, e2, e3, e4, e5, e6⟩ := h.head hi
  have g0 := h.free (k * 7)
  have g1 := h.free (k * 7 + 1)
  have g2 := h.free (k * 7 + 2)
  have g3 := h.free (k * 7 + 3)
  have g4 := h.free (k * 7 + 4)
  have g5 := h.free (k * 7 + 5)
  have g6 := h.free (k * 7 + 6)
  have hr := row_store7 h.rp (k * 7) (.int .i64 0) (.int .i64 0) (.int .i64 0) (.int .i64 0) (.int .i64 0) (.pointer none) (.bool false)
  rw [← flat_set ps k none _ _ _ _ _ _ _ rfl hk] at hr
  have hon := only7 W g (k * 7) (.int .i64 0) (.int .i64 0) (.int .i64 0) (.int .i64 0) (.int .i64 0) (.pointer none) (.bool false)
  have hA := arena_store (ps' := ps.set k none) h (by simp) hon (by rw [List.length_set]; exact hr)
  have ho : OnlyS S W (store7 W g (k * 7) (.int .i64 0) (.int .i64 0) (.int .i64 0) (.int .i64 0) (.int .i64 0) (.pointer none) (.bool false)) := hon.mono (fun j _ hj => (hS j).1 (.inr (.inl (by rw [hj]; rfl))))
  have q2 := h.c2
  have q3 := h.f2
  have hblt := h.lt
  have q4 : fs.length ≤ 4096 := Nat.le_trans h.fle (Nat.le_trans h.ple h.mle)
  have HL := Lib.hid (show fs.length < (ps.set k none).length by rw [List.length_set]; exact hl)
  have HA := Lib.hid hA
  have HO := Lib.hid ho
  have HS := Lib.hid hS
  obtain ⟨A2, c2, rfl, _⟩ := row_slice h.rf
  have hsz := (size7 W g (k * 7) (.int .i64 0) (.int .i64 0) (.int .i64 0) (.int .i64 0) (.int .i64 0) (.pointer none) (.bool false)).symm
  have HZ := Lib.hid hsz
  obtain ⟨n, hn⟩ : ∃ n, fs.length = n := ⟨_, rfl⟩
  have HN := Lib.hid hn
  rw [hn] at q2 q4 HA HS
  obtain ⟨i0, hinf, hz0, hz1, hz2⟩ := info_parts info_int
  clear hA ho hS h hr hon hsz hn hl hi
  go_enter Tryz.func205, Tryz.ntmps205
  go_wp2_with (first
    | (go_at_call 155; ((with_reducible refine H.out.mono ?_); rintro e w' ⟨rfl, rfl⟩))
    | (at_builtin; refine wpList_append_lies _ rfl _ _ 50 rfl (b + 1) 3 i0 (.int .i64 0) 1 8 Tryz.underlying50 hinf hz0 hz1 hz2 rfl (by decide) (.slice A2 n c2) n (nats fs) rfl ?a0 ⟨W.heap.size, 0, none⟩ 1 1 [.int .i64 (k : Int)] rfl rfl ?a1 (one_nat _) (by decide) (by unfold maxLen; omega) (by omega) ?a2 (W.heap.size + 1) (by simp) ?_))
  case a0 => have := HA.out.rf; rw [HN.out] at this; exact this.alloc _
  case a1 => rw [HZ.out]; exact new_nat _ k
  case a2 => have := HZ.out; simp; omega
  intro g' cap w5 hown hgrow hgo hglt
  obtain ⟨⟨r1, r2⟩, hD⟩ := freed_done (v := .bool true) HA.out HS.out HO.out HL.out HN.out (box_below _ _) hown hgrow (hgo.imp id (fun e => by have := HZ.out; omega))
  have HD := Lib.hid hD
  clear hD hown hgrow HA HS HO e0 e1 e2 e3 e4 e5 e6 g0 g1 g2 g3 g4 g5 g6 q2 q3
  go_wp2
  go_ret
  exact HD.out
end Go.Proofs.YtlhhopanegnliaaGreatDoor.An
/- The arena of the heads of nodes: a place is taken. -/
namespace Go.Proofs.YtlhhopanegnliaaGreatDoor.An
open Go Go.RowKit Go.Shelf
set_option maxRecDepth 100000

/-- behind an append to the places -/
theorem placed_done {W W1 X w5 : World} {b m g cap n : Nat} {pv fv v : Value} {ps : List Pl} {fs : List Nat} {x : Pl} {S : Nat → Prop} (h : ArenaAt W1 b m pv fv ps fs) (hS : ∀ k, (k = b ∨ pv.ownBlock = some k ∨ fv.ownBlock = some k) ↔ S k) (ho : OnlyS S W W1) (hl : ps.length < m) (hn : ps.length = n) (hX : Below W1.heap.size W1 X)
    (hown : w5.ownsRow (b + 1) 198 7 (.slice (some ⟨g, 0, none⟩) (n + 1) cap) (n + 1) (flat ps ++ plv x)) (hg : X.grownBy w5 pv.ownBlock) (hgo : pv.ownBlock = some g ∨ W1.heap.size ≤ g) :
    (w5.cell? ⟨b, 1, none⟩ = some pv ∧ w5.frozen? ⟨b, 1, none⟩ = false) ∧ Does W b S v m (ps ++ [x]) fs (.returned v) (w5.setCell ⟨b, 1, none⟩ (.slice (some ⟨g, 0, none⟩) (n + 1) cap)) := by
  subst hn
  have hlt := h.lt
  have hk : ∀ j, j < W1.heap.size → pv.ownBlock ≠ some j → w5.heap[j]? = W1.heap[j]? := fun j hj hne => (hg.block j (Nat.lt_of_lt_of_le hj hX.size) (fun e => hne e.symm)).trans (hX.block j hj)
  have hb5 : w5.heap[b]? = W1.heap[b]? := hk b hlt (fun e => by have := (h.rp.lt b e).1; omega)
  have q0 : ∀ o, w5.cell? ⟨b, o, none⟩ = W1.cell? ⟨b, o, none⟩ := fun o => World.cell?_of_block (w := W1) (a := ⟨b, o, none⟩) hb5
  have q1 : ∀ o, w5.frozen? ⟨b, o, none⟩ = W1.frozen? ⟨b, o, none⟩ := fun o => World.frozen?_of_block (w := W1) (a := ⟨b, o, none⟩) hb5
  have q2 : ∀ o, o ≠ 1 → (w5.setCell ⟨b, 1, none⟩ (.slice (some ⟨g, 0, none⟩) (ps.length + 1) cap)).cell? ⟨b, o, none⟩ = W1.cell? ⟨b, o, none⟩ := fun o ho => by
    rw [World.cell?_setCell_other (h := fun e => ho (by injection e with e1 e2; exact e2.symm))]
    exact q0 o
  refine ⟨⟨(q0 1).trans h.c1, (q1 1).trans h.f1⟩, fun j => j = b ∨ (Value.slice (some ⟨g, 0, none⟩) (ps.length + 1) cap).ownBlock = some j ∨ fv.ownBlock = some j, rfl, ⟨_, fv, ⟨?_, ?_, ?_, ?_, ?_, ?_, ?_, ?_, ?_, ?_, h.mle⟩, fun _ => Iff.rfl⟩, ?_, ?_⟩
  · exact (q2 0 (by omega)).trans h.c0
  · exact World.cell?_setCell_same' _ _ _ (by rw [q0, h.c1]; rfl)
  · exact (q2 2 (by omega)).trans h.c2
  · rw [World.frozen?_setCell]; exact (q1 1).trans h.f1
  · rw [World.frozen?_setCell]; exact (q1 2).trans h.f2
  · rw [flat_snoc, List.length_append]
    exact ownsRow_setCell_below hown (Nat.lt_succ_self b) _
  · refine row_keep h.rf fun j hj => ?_
    have hj2 := h.rf.lt j hj
    refine (Below.heap_setCell w5 ⟨b, 1, none⟩ _ j (fun e => ?_)).trans (hk j hj2.2 (fun e => h.ne j e hj))
    have e' : j = b := e
    omega
  · intro j hj e
    obtain rfl : g = j := by simpa [Value.ownBlock] using hj
    rcases hgo with q | q
    · exact h.ne g q e
    · have := (h.rf.lt g e).2; omega
  · rw [List.length_append]; exact Nat.le_trans h.fle (Nat.le_add_right _ _)
  · rw [List.length_append]; exact hl
  · refine (OnlyS.grown (w1 := X) (ho.trans (OnlyS.of_below hX)) hg (fun j hj => .inl ((hS j).1 (.inr (.inl hj))))).setIn b 1 _ (.inl ((hS b).1 (.inl rfl)))
  · rintro j (rfl | hj | hj)
    · exact .inl ((hS _).1 (.inl rfl))
    · obtain rfl : g = j := by simpa [Value.ownBlock] using hj
      rcases hgo with q | q
      · exact .inl ((hS _).1 (.inr (.inl q)))
      · exact .inr (Nat.le_trans ho.size q)
    · exact .inl ((hS _).1 (.inr (.inr hj)))
/-- the cells of what is taken -/
abbrev pcs (p : Pa.Pt) (q : Nat) : Array Value := #[.int .i64 p.a, .int .i64 p.b, .int .i64 p.c, .int .i64 p.d, .int .i64 p.e, .pointer (some ⟨q, 0, none⟩), .bool true]
abbrev hca (p : Pa.Pt) (q : Nat) : Array Value := #[.int .i64 p.a, .int .i64 p.b, .int .i64 p.c, .int .i64 p.d, .int .i64 p.e, .pointer (some ⟨q, 0, none⟩)]
theorem new_place (W : World) (p : Pa.Pt) (q : Nat) : ∀ j u, (plv (some (p, q)))[j]? = some u → (W.alloc (.cells (pcs p q) 198)).cell? ((⟨W.heap.size, 0, none⟩ : Addr).add j) = some u := by
  intro j u hj
  rw [add_at]
  match j, hj with
  | 0, hj => simp [plv] at hj; subst hj; simp [go_sem]
  | 1, hj => simp [plv] at hj; subst hj; simp [go_sem]
  | 2, hj => simp [plv] at hj; subst hj; simp [go_sem]
  | 3, hj => simp [plv] at hj; subst hj; simp [go_sem]
  | 4, hj => simp [plv] at hj; subst hj; simp [go_sem]
  | 5, hj => simp [plv] at hj; subst hj; simp [go_sem]
  | 6, hj => simp [plv] at hj; subst hj; simp [go_sem]
  | k + 7, hj => simp [plv] at hj
theorem one_place (p : Pa.Pt) (q : Nat) : ∀ u ∈ plv (some (p, q)), u.oneCell' = true := by
  intro u hu
  simp [plv] at hu
  rcases hu with rfl | rfl | rfl | rfl | rfl | rfl | rfl <;> rfl
/-- a head that was boxed, at the beginning of its block -/
structure Bxd (w : World) (B : Nat) (p : Pa.Pt) (q : Nat) : Prop where
  c0 : w.cell? ⟨B, 0, none⟩ = some (.int .i64 p.a)
  c1 : w.cell? ⟨B, 1, none⟩ = some (.int .i64 p.b)
  c2 : w.cell? ⟨B, 2, none⟩ = some (.int .i64 p.c)
  c3 : w.cell? ⟨B, 3, none⟩ = some (.int .i64 p.d)
  c4 : w.cell? ⟨B, 4, none⟩ = some (.int .i64 p.e)
  c5 : w.cell? ⟨B, 5, none⟩ = some (.pointer (some ⟨q, 0, none⟩))
theorem Bxd.lt {w : World} {B q : Nat} {p : Pa.Pt} (h : Bxd w B p q) : B < w.heap.size := cell_lt h.c0
theorem Bxd.below {w w' : World} {B q : Nat} {p : Pa.Pt} (h : Bxd w B p q) (hb : Below w.heap.size w w') : Bxd w' B p q := by
  have k : ∀ o, w'.cell? ⟨B, o, none⟩ = w.cell? ⟨B, o, none⟩ := fun o => hb.cell (p := ⟨B, o, none⟩) h.lt
  exact ⟨(k 0).trans h.c0, (k 1).trans h.c1, (k 2).trans h.c2, (k 3).trans h.c3, (k 4).trans h.c4, (k 5).trans h.c5⟩
theorem Bxd.new (w : World) (p : Pa.Pt) (q : Nat) (t : TypeId) : Bxd (w.alloc (.cells (hca p q) t)) w.heap.size p q := by
  refine ⟨?_, ?_, ?_, ?_, ?_, ?_⟩ <;> simp [go_sem]
theorem Bxd.newp (w : World) (p : Pa.Pt) (q : Nat) : Bxd (w.alloc (.cells (pcs p q) 198)) w.heap.size p q := by
  refine ⟨?_, ?_, ?_, ?_, ?_, ?_⟩ <;> simp [go_sem]
set_option maxHeartbeats 2000000 in
/-- one that was never taken -/
theorem take_new {W : World} {b m : Nat} {S : Nat → Prop} {ps : List Pl} (h : Ar W b S m ps []) (p : Pa.Pt) (q : Nat) (hm : ps.length < m) :
    Calls Tryz.prog 147 #[wp b, hv p q] W (Does W b S (.tuple #[.int .i64 (ps.length : Int), .bool true]) m (ps ++ [some (p, q)]) []) := by
  have hx0 := box_below W (.cells (hca p q) 70)
  have HX0 := Lib.hid hx0
  have HB := Lib.hid (Bxd.new W p q 70)
  obtain ⟨pv, fv, h, hS⟩ := h
  have HL := Lib.hid (left_any (h.below hx0))
  obtain ⟨z, hz⟩ : ∃ z : Nat, ((m : Int) - ((ps.length : Int) - (([] : List Nat).length : Int))) = (z : Int) + 1 := ⟨m - ps.length - 1, by simp; omega⟩
  rw [hz] at HL
  have HS := Lib.hid hS
  have H := Lib.hid (h.below hx0)
  have hm' := h.mle
  have HM := Lib.hid hm
  have hn4 : ps.length ≤ 4096 := by omega
  obtain ⟨A, c, rfl, _⟩ := row_slice h.rp
  obtain ⟨A2, c2, rfl, _⟩ := row_slice h.rf
  obtain ⟨n, hn⟩ : ∃ n, ps.length = n := ⟨_, rfl⟩
  have HN := Lib.hid hn
  rw [hn] at H HS hn4
  rw [hn]
  have hnz : ((z : Int) + 1 == 0) = false := by simp; omega
  obtain ⟨i0, hi, hz0, hz1, hz2⟩ := info_parts info_place
  obtain ⟨pa, pb, pc, pd, pe⟩ := p
  clear h hm hS hz hn hx0
  go_enter Tryz.func147, Tryz.ntmps147
  go_wp2_with fail
  refine HL.out.mono ?_
  rintro e w1 ⟨rfl, j, rfl⟩
  have hb1 := drew_below (W.alloc (.cells #[.int .i64 pa, .int .i64 pb, .int .i64 pc, .int .i64 pd, .int .i64 pe, .pointer (some ⟨q, 0, none⟩)] 70)) j
  have HB1 := Lib.hid (HB.out.below hb1)
  have HO1 := Lib.hid (HX0.out.trans (hb1.mono HX0.out.size))
  have hH1 := H.out.below hb1
  clear HB HX0
  generalize World.drewN _ j = w1 at HB1 HO1 hH1 ⊢
  clear hb1 HL
  have H1 := Lib.hid hH1
  have hx := box_below w1 (.cells #[.int .i64 pa, .int .i64 pb, .int .i64 pc, .int .i64 pd, .int .i64 pe, .pointer (some ⟨q, 0, none⟩), .bool true] 198)
  have hA1 := hH1.below hx
  have HA1 := Lib.hid hA1
  have HO := Lib.hid (OnlyS.of_below (S := S) (HO1.out.trans (hx.mono HO1.out.size)))
  obtain ⟨b0, b1, b2, b3, b4, b5⟩ := HB1.out
  have HN1 := Lib.hid (Bxd.newp w1 ⟨pa, pb, pc, pd, pe⟩ q)
  have d6 : (w1.alloc (.cells #[.int .i64 pa, .int .i64 pb, .int .i64 pc, .int .i64 pd, .int .i64 pe, .pointer (some ⟨q, 0, none⟩), .bool true] 198)).cell? ⟨w1.heap.size, 6, none⟩ = some (.bool true) := by simp [go_sem]
  have D6 := Lib.hid d6
  have k4 := hH1.c2
  have hlt1 := hH1.lt
  clear hA1 hx hH1 d6
  simp only at b0 b1 b2 b3 b4 b5
  go_wp2_with fail
  have d6 := D6.out
  obtain ⟨d0, d1, d2, d3, d4, d5⟩ := HN1.out
  simp only at d0 d1 d2 d3 d4 d5
  have k1 := HA1.out.c1
  have k2 := HA1.out.c2
  have k3 := HA1.out.f1
  have hlt := HA1.out.lt
  clear k4 hlt1 H H1 HN1 D6 b0 b1 b2 b3 b4 b5 HB1 HO1
  generalize w1.heap.size = B0 at d0 d1 d2 d3 d4 d5 d6 ⊢
  generalize w1.alloc (.cells #[.int .i64 pa, .int .i64 pb, .int .i64 pc, .int .i64 pd, .int .i64 pe, .pointer (some ⟨q, 0, none⟩), .bool true] 198) = w2 at HA1 HO d0 d1 d2 d3 d4 d5 d6 k1 k2 k3 hlt ⊢
  have hrow5 : ((w2.alloc (.cells #[.int .i64 pa, .int .i64 pb, .int .i64 pc, .int .i64 pd, .int .i64 pe, .pointer (some ⟨q, 0, none⟩), .bool true] 198)).drew).ownsRow (b + 1) 198 7 (.slice A n c) n (flat ps) := by
    have := HA1.out.rp.alloc (.cells #[.int .i64 pa, .int .i64 pb, .int .i64 pc, .int .i64 pd, .int .i64 pe, .pointer (some ⟨q, 0, none⟩), .bool true] 198)
    rw [HN.out] at this
    exact this
  have hc5 : ∀ j u, (plv (some (⟨pa, pb, pc, pd, pe⟩, q)))[j]? = some u → ((w2.alloc (.cells #[.int .i64 pa, .int .i64 pb, .int .i64 pc, .int .i64 pd, .int .i64 pe, .pointer (some ⟨q, 0, none⟩), .bool true] 198)).drew).cell? ((⟨w2.heap.size, 0, none⟩ : Addr).add j) = some u := new_place w2 ⟨pa, pb, pc, pd, pe⟩ q
  have hz5 : b + 1 ≤ ((w2.alloc (.cells #[.int .i64 pa, .int .i64 pb, .int .i64 pc, .int .i64 pd, .int .i64 pe, .pointer (some ⟨q, 0, none⟩), .bool true] 198)).drew).heap.size := by
    show b + 1 ≤ (w2.alloc (.cells #[.int .i64 pa, .int .i64 pb, .int .i64 pc, .int .i64 pd, .int .i64 pe, .pointer (some ⟨q, 0, none⟩), .bool true] 198)).heap.size
    simp
    omega
  have hH5 : ((w2.alloc (.cells #[.int .i64 pa, .int .i64 pb, .int .i64 pc, .int .i64 pd, .int .i64 pe, .pointer (some ⟨q, 0, none⟩), .bool true] 198)).drew).heap.size = w2.heap.size + 1 := by
    show (w2.alloc (.cells #[.int .i64 pa, .int .i64 pb, .int .i64 pc, .int .i64 pd, .int .i64 pe, .pointer (some ⟨q, 0, none⟩), .bool true] 198)).heap.size = _
    simp
  have HC5 := Lib.hid hc5
  have HR5 := Lib.hid hrow5
  have HH5 := Lib.hid hH5
  have HZ5 := Lib.hid hz5
  have hX : Below w2.heap.size w2 ((w2.alloc (.cells #[.int .i64 pa, .int .i64 pb, .int .i64 pc, .int .i64 pd, .int .i64 pe, .pointer (some ⟨q, 0, none⟩), .bool true] 198)).drew) := by
    have := box_below w2 (.cells #[.int .i64 pa, .int .i64 pb, .int .i64 pc, .int .i64 pd, .int .i64 pe, .pointer (some ⟨q, 0, none⟩), .bool true] 198)
    exact ⟨this.os, this.tape, this.output, this.size, this.block⟩
  have HX := Lib.hid hX
  clear hc5 hrow5 hz5 hH5 hX
  go_region_law (first
    | (refine step_append_lies _ rfl (.tmp 26) (.tmp 28) 116 rfl (b + 1) 198 i0 (.agg #[.int .i64 0, .int .i64 0, .int .i64 0, .int .i64 0, .int .i64 0, .pointer none, .bool false]) 7 56 Tryz.underlying116 hi hz0 hz1 hz2 rfl (by decide) (.slice A n c) n (flat ps) rfl HR5.out ⟨w2.heap.size, 0, none⟩ 1 1 (plv (some (⟨pa, pb, pc, pd, pe⟩, q))) rfl rfl HC5.out (one_place ⟨pa, pb, pc, pd, pe⟩ q) (by decide) (by unfold maxLen; omega) (by omega) HZ5.out (w2.heap.size + 1) HH5.out ?_; intro g cap w5 hown hgrow hg hglt; obtain ⟨⟨r1, r2⟩, hD⟩ := placed_done (x := some (⟨pa, pb, pc, pd, pe⟩, q)) (v := .tuple #[.int .i64 (n : Int), .bool true]) HA1.out HS.out HO.out HM.out HN.out HX.out hown hgrow (hg.imp id (fun e => by omega)); have HD := Lib.hid hD; clear hD))
  all_goals
    go_wp2
    go_ret2
    exact HD.out
end Go.Proofs.YtlhhopanegnliaaGreatDoor.An
/- The arena of the heads of nodes: a place that was freed is taken again. -/
namespace Go.Proofs.YtlhhopanegnliaaGreatDoor.An
open Go Go.RowKit Go.Shelf
set_option maxRecDepth 100000

theorem row_cap {W : World} {base n size g c : Nat} {e : TypeId} {xs : List Value} (h : W.ownsRow base e size (.slice (some ⟨g, 0, none⟩) n c) n xs) : n ≤ c ∧ c ≤ maxLen := by
  rcases h.2 with ⟨h0, _⟩ | ⟨g', cap', cur, e', hb, hg, h1, h2, h3, h4⟩
  · cases h0
  · cases e'
    exact ⟨h1, h2⟩
/-- the last of those that were freed goes -/
theorem pop_done {W : World} {b m gf k cf i : Nat} {pv : Value} {ps : List Pl} {gs : List Nat} (h : ArenaAt W b m pv (.slice (some ⟨gf, 0, none⟩) (k + 1) cf) ps (gs ++ [i])) (hk : gs.length = k) :
    ArenaAt (W.setCell ⟨b, 2, none⟩ (.slice (some ⟨gf, 0, none⟩) k cf)) b m pv (.slice (some ⟨gf, 0, none⟩) k cf) ps gs := by
  subst hk
  have hrf := h.rf
  rw [List.length_append, nats_snoc] at hrf
  have hr := ownsRow_pop (nats_length gs) hrf
  have q2 : ∀ o, o ≠ 2 → (W.setCell ⟨b, 2, none⟩ (.slice (some ⟨gf, 0, none⟩) gs.length cf)).cell? ⟨b, o, none⟩ = W.cell? ⟨b, o, none⟩ := fun o ho => by
    rw [World.cell?_setCell_other (h := fun e => ho (by injection e with e1 e2; exact e2.symm))]
  have hl := h.fle
  rw [List.length_append] at hl
  refine ⟨(q2 0 (by omega)).trans h.c0, (q2 1 (by omega)).trans h.c1, World.cell?_setCell_same' _ _ _ (by rw [h.c2]; rfl), by rw [World.frozen?_setCell]; exact h.f1, by rw [World.frozen?_setCell]; exact h.f2, ?_, ?_, h.ne, by omega, h.ple, h.mle⟩
  · exact ownsRow_setCell_below h.rp (Nat.lt_succ_self b) _
  · exact ownsRow_setCell_below hr (Nat.lt_succ_self b) _
theorem old_done {W W1 : World} {b m gf gp k cf cp i q : Nat} {p : Pa.Pt} {v : Value} {ps : List Pl} {gs : List Nat} {S : Nat → Prop} (h1 : ArenaAt W1 b m (.slice (some ⟨gp, 0, none⟩) ps.length cp) (.slice (some ⟨gf, 0, none⟩) k cf) ps gs) (hi : i < ps.length)
    (hS : ∀ j, (j = b ∨ (Value.slice (some ⟨gp, 0, none⟩) ps.length cp).ownBlock = some j ∨ (Value.slice (some ⟨gf, 0, none⟩) k cf).ownBlock = some j) ↔ S j) (ho : OnlyS S W W1) :
    Does W b S v m (ps.set i (some (p, q))) gs (.returned v) (store7 W1 gp (i * 7) (.int .i64 p.a) (.int .i64 p.b) (.int .i64 p.c) (.int .i64 p.d) (.int .i64 p.e) (.pointer (some ⟨q, 0, none⟩)) (.bool true)) := by
  have hr := row_store7 h1.rp (i * 7) (.int .i64 p.a) (.int .i64 p.b) (.int .i64 p.c) (.int .i64 p.d) (.int .i64 p.e) (.pointer (some ⟨q, 0, none⟩)) (.bool true)
  rw [← flat_set ps i (some (p, q)) _ _ _ _ _ _ _ rfl hi] at hr
  have hg : S gp := (hS gp).1 (.inr (.inl rfl))
  have h7 := only7 W1 gp (i * 7) (.int .i64 p.a) (.int .i64 p.b) (.int .i64 p.c) (.int .i64 p.d) (.int .i64 p.e) (.pointer (some ⟨q, 0, none⟩)) (.bool true)
  exact ⟨S, rfl, ⟨_, _, arena_store (ps' := ps.set i (some (p, q))) h1 (by simp) h7 (by rw [List.length_set]; exact hr), hS⟩, ho.trans (h7.mono fun j _ hj => by rw [hj]; exact hg), fun _ hk => .inl hk⟩
set_option maxHeartbeats 2000000 in
theorem take_old {W : World} {b m : Nat} {S : Nat → Prop} {ps : List Pl} {gs : List Nat} {i : Nat} (h : Ar W b S m ps (gs ++ [i])) (p : Pa.Pt) (q : Nat) (hi : i < ps.length) :
    Calls Tryz.prog 147 #[wp b, hv p q] W (Does W b S (.tuple #[.int .i64 (i : Int), .bool true]) m (ps.set i (some (p, q))) gs) := by
  have hx0 := box_below W (.cells (hca p q) 70)
  have HX0 := Lib.hid hx0
  have HB := Lib.hid (Bxd.new W p q 70)
  obtain ⟨pv, fv, h, hS⟩ := h
  have HL := Lib.hid (left_any (h.below hx0))
  have b1 := h.fle
  have b2 := h.ple
  have b3 := h.mle
  rw [List.length_append, List.length_singleton] at b1
  obtain ⟨z, hz⟩ : ∃ z : Nat, ((m : Int) - ((ps.length : Int) - ((gs ++ [i]).length : Int))) = (z : Int) + 1 := ⟨m - (ps.length - (gs.length + 1)) - 1, by simp; omega⟩
  rw [hz] at HL
  obtain ⟨gp, cp, rfl, hbg, _⟩ := h.form (by omega)
  obtain ⟨A2, cf, rfl, hA2⟩ := row_slice h.rf
  rcases hA2 with hA2 | ⟨gf, rfl⟩
  · simp at hA2
  have hne : gp ≠ gf := fun e => h.ne gp rfl (by rw [e]; rfl)
  have hfb := (h.rf.lt gf rfl).1
  have hcf := row_cap h.rf
  obtain ⟨k, hk⟩ : ∃ k, gs.length = k := ⟨_, rfl⟩
  have hkl : (gs ++ [i]).length = k + 1 := by simp [hk]
  rw [hkl] at h hS hcf
  have hcf1 : k ≤ cf := by omega
  have hcf2 : cf ≤ 9223372036854775807 := by have := hcf.2; unfold maxLen at this; exact this
  clear hcf
  have HK := Lib.hid hk
  have HS := Lib.hid hS
  have H := Lib.hid (h.below hx0)
  have HI := Lib.hid hi
  obtain ⟨n, hn⟩ : ∃ n, ps.length = n := ⟨_, rfl⟩
  have HN := Lib.hid hn
  have hnz : ((z : Int) + 1 == 0) = false := by simp; omega
  have hin : i < n := by omega
  have hkn : k + 1 ≤ n := by omega
  have hn4 : n ≤ 4096 := by omega
  obtain ⟨pa, pb, pc, pd, pe⟩ := p
  clear h hS hz hn hk hkl b1 b2 hi hx0
  go_enter Tryz.func147, Tryz.ntmps147
  go_wp2_with fail
  refine HL.out.mono ?_
  rintro e w1 ⟨rfl, j, rfl⟩
  have hb1 := drew_below (W.alloc (.cells #[.int .i64 pa, .int .i64 pb, .int .i64 pc, .int .i64 pd, .int .i64 pe, .pointer (some ⟨q, 0, none⟩)] 70)) j
  have HB1 := Lib.hid (HB.out.below hb1)
  have HO1 := Lib.hid (HX0.out.trans (hb1.mono HX0.out.size))
  have hold := H.out.below hb1
  clear HB HX0
  generalize World.drewN _ j = w1 at HB1 HO1 hold ⊢
  clear hb1 HL
  obtain ⟨b0, b1, b2, b3, b4, b5⟩ := HB1.out
  simp only at b0 b1 b2 b3 b4 b5
  have k4 := hold.c2
  have hlt1 := hold.lt
  have k5 : w1.cell? ⟨gf, k, none⟩ = some (.int .i64 (i : Int)) := by
    have := hold.rf.cells (g := gf) rfl k (.int .i64 (i : Int)) (by rw [nats_snoc, List.getElem?_append_right (by rw [nats_length, HK.out]; omega), nats_length, HK.out]; simp)
    rw [add_at] at this
    exact this
  have hgf1 := (hold.rf.lt gf rfl).2
  have k7 := hold.f2
  have hpop := pop_done hold HK.out
  have hx := box_below (w1.setCell ⟨b, 2, none⟩ (.slice (some ⟨gf, 0, none⟩) k cf)) (.cells #[.int .i64 pa, .int .i64 pb, .int .i64 pc, .int .i64 pd, .int .i64 pe, .pointer (some ⟨q, 0, none⟩), .bool true] 198)
  have HA1 := Lib.hid (hpop.below hx)
  have HO := Lib.hid (((OnlyS.of_below (S := S) HO1.out).setIn b 2 (.slice (some ⟨gf, 0, none⟩) k cf) (.inl ((HS.out b).1 (.inl rfl)))).alloc (.cells #[.int .i64 pa, .int .i64 pb, .int .i64 pc, .int .i64 pd, .int .i64 pe, .pointer (some ⟨q, 0, none⟩), .bool true] 198))
  have HN1 := Lib.hid (show Bxd ((w1.setCell ⟨b, 2, none⟩ (.slice (some ⟨gf, 0, none⟩) k cf)).alloc (.cells #[.int .i64 pa, .int .i64 pb, .int .i64 pc, .int .i64 pd, .int .i64 pe, .pointer (some ⟨q, 0, none⟩), .bool true] 198)) w1.heap.size ⟨pa, pb, pc, pd, pe⟩ q by refine ⟨?_, ?_, ?_, ?_, ?_, ?_⟩ <;> simp [go_sem])
  have D6 := Lib.hid (show ((w1.setCell ⟨b, 2, none⟩ (.slice (some ⟨gf, 0, none⟩) k cf)).alloc (.cells #[.int .i64 pa, .int .i64 pb, .int .i64 pc, .int .i64 pd, .int .i64 pe, .pointer (some ⟨q, 0, none⟩), .bool true] 198)).cell? ⟨w1.heap.size, 6, none⟩ = some (.bool true) by simp [go_sem])
  clear hx hold H hpop HB1 HO1
  go_wp2_with fail
  clear k4 k5 k7 hgf1 hlt1 b0 b1 b2 b3 b4 b5
  generalize (w1.setCell ⟨b, 2, none⟩ (.slice (some ⟨gf, 0, none⟩) k cf)).alloc (.cells #[.int .i64 pa, .int .i64 pb, .int .i64 pc, .int .i64 pd, .int .i64 pe, .pointer (some ⟨q, 0, none⟩), .bool true] 198) = w2 at HA1 HO HN1 D6 ⊢
  generalize w1.heap.size = B0 at HN1 D6 ⊢
  obtain ⟨d0, d1, d2, d3, d4, d5⟩ := HN1.out
  simp only at d0 d1 d2 d3 d4 d5
  have d6 := D6.out
  have k6 := HA1.out.c1
  have hlt2 := HA1.out.lt
  have hgp2 := (HA1.out.rp.lt gp rfl).2
  have hB0 : B0 < w2.heap.size := cell_lt d0
  rw [HN.out] at k6
  have p0 : ∀ j, j < 7 → ∃ y, w2.cell? ⟨gp, i * 7 + j, none⟩ = some y := fun j hj => ⟨_, HA1.out.place (j := j) HI.out hj (List.getElem?_eq_getElem (by rw [plv_length]; exact hj))⟩
  have f0 := HA1.out.free (i * 7)
  have f1 := HA1.out.free (i * 7 + 1)
  have f2 := HA1.out.free (i * 7 + 2)
  have f3 := HA1.out.free (i * 7 + 3)
  have f4 := HA1.out.free (i * 7 + 4)
  have f5 := HA1.out.free (i * 7 + 5)
  have f6 := HA1.out.free (i * 7 + 6)
  obtain ⟨y0, q0⟩ := p0 0 (by omega)
  obtain ⟨y1, q1⟩ := p0 1 (by omega)
  obtain ⟨y2, q2⟩ := p0 2 (by omega)
  obtain ⟨y3, q3⟩ := p0 3 (by omega)
  obtain ⟨y4, q4⟩ := p0 4 (by omega)
  obtain ⟨y5, q5⟩ := p0 5 (by omega)
  obtain ⟨y6, q6⟩ := p0 6 (by omega)
  simp only [Nat.add_zero] at q0
  clear p0 HN1 D6
  have HA4 := Lib.hid (show ArenaAt w2.drew b m (.slice (some ⟨gp, 0, none⟩) ps.length cp) (.slice (some ⟨gf, 0, none⟩) k cf) ps gs from HA1.out.below (drew_below w2 1))
  have HO4 := Lib.hid (show OnlyS S W w2.drew from HO.out.drewN 1)
  go_still_tail 7, (by kernel_rfl)
  clear d0 d1 d2 d3 d4 d5 d6 k6 hlt2 hgp2 hB0 q0 q1 q2 q3 q4 q5 q6 f0 f1 f2 f3 f4 f5 f6 HA1 HO
  change wpList _ _ _ _ _ w2.drew
  generalize w2.drew = w4 at HA4 HO4 ⊢
  have p0 : ∀ j, j < 7 → ∃ y, w4.cell? ⟨gp, i * 7 + j, none⟩ = some y := fun j hj => ⟨_, HA4.out.place (j := j) HI.out hj (List.getElem?_eq_getElem (by rw [plv_length]; exact hj))⟩
  have f0 := HA4.out.free (i * 7)
  have f1 := HA4.out.free (i * 7 + 1)
  have f2 := HA4.out.free (i * 7 + 2)
  have f3 := HA4.out.free (i * 7 + 3)
  have f4 := HA4.out.free (i * 7 + 4)
  have f5 := HA4.out.free (i * 7 + 5)
  have f6 := HA4.out.free (i * 7 + 6)
  obtain ⟨z0, q0⟩ := p0 0 (by omega)
  obtain ⟨z1, q1⟩ := p0 1 (by omega)
  obtain ⟨z2, q2⟩ := p0 2 (by omega)
  obtain ⟨z3, q3⟩ := p0 3 (by omega)
  obtain ⟨z4, q4⟩ := p0 4 (by omega)
  obtain ⟨z5, q5⟩ := p0 5 (by omega)
  obtain ⟨z6, q6⟩ := p0 6 (by omega)
  simp only [Nat.add_zero] at q0
  clear p0
  go_wp2
  go_ret2
  exact old_done (p := ⟨pa, pb, pc, pd, pe⟩) HA4.out HI.out HS.out HO4.out
end Go.Proofs.YtlhhopanegnliaaGreatDoor.An
