/- The arena of the heads of nodes: what it has in memory, and its calls. -/
import Derived.Test.YtmolohncllcgbaaGreatDoorR1
import Derived.Test.YtmolohncllcgbaaGreatDoorPa
import Derived.BigQuiet
import Derived.Deep.AppendLies
import Derived.Deep.RegionLaw
import Derived.OwnWalk
import Derived.WalkSmall
namespace Go.Proofs.YtmolohncllcgbaaGreatDoor.An
open Go Go.RowKit Go.Shelf
set_option maxRecDepth 100000

/-- a place: free, or a node and the block of its queue -/
abbrev Pl := Option (Pa.Pt × Nat)
/-- the cells of a head -/
abbrev hcs (p : Pa.Pt) (q : Nat) : List Value := [.int .i64 p.a, .int .i64 p.b, .int .i64 p.c, .int .i64 p.d, .int .i64 p.e, .pointer (some ⟨q, 0, none⟩)]
abbrev hv (p : Pa.Pt) (q : Nat) : Value := .agg #[.int .i64 p.a, .int .i64 p.b, .int .i64 p.c, .int .i64 p.d, .int .i64 p.e, .pointer (some ⟨q, 0, none⟩)]
def plv : Pl → List Value
  | none => [.int .i64 0, .int .i64 0, .int .i64 0, .int .i64 0, .int .i64 0, .pointer none, .bool false]
  | some (p, q) => [.int .i64 p.a, .int .i64 p.b, .int .i64 p.c, .int .i64 p.d, .int .i64 p.e, .pointer (some ⟨q, 0, none⟩), .bool true]
theorem plv_length (x : Pl) : (plv x).length = 7 := by rcases x with _ | ⟨p, q⟩ <;> rfl
/-- the cells of places -/
def flat (xs : List Pl) : List Value := xs.flatMap plv
theorem flat_cons (x : Pl) (xs : List Pl) : flat (x :: xs) = plv x ++ flat xs := by simp [flat]
theorem flat_length (xs : List Pl) : (flat xs).length = xs.length * 7 := by
  induction xs with
  | nil => rfl
  | cons x xs ih => rw [flat_cons, List.length_append, ih, plv_length]; simp; omega
theorem flat_snoc (xs : List Pl) (x : Pl) : flat (xs ++ [x]) = flat xs ++ plv x := by simp [flat]
theorem flat_at (xs : List Pl) (i j : Nat) (h : i < xs.length) (hj : j < 7) : (flat xs)[i * 7 + j]? = (plv xs[i])[j]? := by
  induction xs generalizing i with
  | nil => simp at h
  | cons x xs ih =>
    cases i with
    | zero => rw [flat_cons, Nat.zero_mul, Nat.zero_add, List.getElem?_append_left (by rw [plv_length]; exact hj)]; rfl
    | succ i =>
      have h' : i < xs.length := by simpa using h
      rw [flat_cons, List.getElem?_append_right (by rw [plv_length]; omega), plv_length, show (i + 1) * 7 + j - 7 = i * 7 + j by omega, ih i h']
      rfl
theorem set_app_left {α : Type} (l m : List α) (k : Nat) (v : α) (h : k < l.length) : (l ++ m).set k v = l.set k v ++ m := by
  rw [List.set_append_left _ _ h]
theorem set_app_right {α : Type} (l m : List α) (k : Nat) (v : α) (h : l.length ≤ k) : (l ++ m).set k v = l ++ m.set (k - l.length) v := by
  rw [List.set_append_right _ _ h]
/-- seven cells of a row set one behind the other -/
def set7 (l : List Value) (o : Nat) (v0 v1 v2 v3 v4 v5 v6 : Value) : List Value :=
  ((((((l.set o v0).set (o + 1) v1).set (o + 2) v2).set (o + 3) v3).set (o + 4) v4).set (o + 5) v5).set (o + 6) v6
theorem set7_here (x : List Value) (m : List Value) (v0 v1 v2 v3 v4 v5 v6 : Value) (hx : x.length = 7) : set7 (x ++ m) 0 v0 v1 v2 v3 v4 v5 v6 = [v0, v1, v2, v3, v4, v5, v6] ++ m := by
  match x, hx with
  | [a, b, c, d, e, f, g], _ => rfl
theorem set7_past (x : List Value) (m : List Value) (o : Nat) (v0 v1 v2 v3 v4 v5 v6 : Value) (hx : x.length = 7) : set7 (x ++ m) (o + 7) v0 v1 v2 v3 v4 v5 v6 = x ++ set7 m o v0 v1 v2 v3 v4 v5 v6 := by
  unfold set7
  rw [set_app_right _ _ _ _ (by omega), set_app_right _ _ _ _ (by omega), set_app_right _ _ _ _ (by omega), set_app_right _ _ _ _ (by omega), set_app_right _ _ _ _ (by omega), set_app_right _ _ _ _ (by omega), set_app_right _ _ _ _ (by omega), hx]
  simp only [show ∀ k, o + 7 + k - 7 = o + k from fun k => by omega, show o + 7 - 7 = o by omega]
theorem flat_set (zs : List Pl) (i : Nat) (x : Pl) (v0 v1 v2 v3 v4 v5 v6 : Value) (hx : plv x = [v0, v1, v2, v3, v4, v5, v6]) (h : i < zs.length) : flat (zs.set i x) = set7 (flat zs) (i * 7) v0 v1 v2 v3 v4 v5 v6 := by
  induction zs generalizing i with
  | nil => simp at h
  | cons z zs ih =>
    cases i with
    | zero => rw [List.set_cons_zero, flat_cons, flat_cons, Nat.zero_mul, set7_here _ _ _ _ _ _ _ _ _ (plv_length z), hx]
    | succ i =>
      have h' : i < zs.length := by simpa using h
      rw [List.set_cons_succ, flat_cons, flat_cons, ih i h', show (i + 1) * 7 = i * 7 + 7 by omega, set7_past _ _ _ _ _ _ _ _ _ _ (plv_length z)]
/-- the cells of numbers of places -/
def nats (fs : List Nat) : List Value := fs.map fun (i : Nat) => .int .i64 (i : Int)
theorem nats_length (fs : List Nat) : (nats fs).length = fs.length * 1 := by simp [nats]

/-- an arena lies in a block -/
structure ArenaAt (W : World) (b m : Nat) (pv fv : Value) (ps : List Pl) (fs : List Nat) : Prop where
  c0 : W.cell? ⟨b, 0, none⟩ = some (.int .i64 m)
  c1 : W.cell? ⟨b, 1, none⟩ = some pv
  c2 : W.cell? ⟨b, 2, none⟩ = some fv
  f1 : W.frozen? ⟨b, 1, none⟩ = false
  f2 : W.frozen? ⟨b, 2, none⟩ = false
  rp : W.ownsRow (b + 1) 169 7 pv ps.length (flat ps)
  rf : W.ownsRow (b + 1) 3 1 fv fs.length (nats fs)
  ne : ∀ g, pv.ownBlock = some g → fv.ownBlock ≠ some g
  fle : fs.length ≤ ps.length
  ple : ps.length ≤ m
  mle : m ≤ 4096
abbrev wp (b : Nat) : Value := .pointer (some ⟨b, 0, none⟩)

theorem ArenaAt.lt {W : World} {b m : Nat} {pv fv : Value} {ps : List Pl} {fs : List Nat} (h : ArenaAt W b m pv fv ps fs) : b < W.heap.size := cell_lt h.c0
theorem ArenaAt.keep {W W' : World} {b m : Nat} {pv fv : Value} {ps : List Pl} {fs : List Nat} (h : ArenaAt W b m pv fv ps fs) (hb : W'.heap[b]? = W.heap[b]?) (hp : ∀ g, pv.ownBlock = some g → W'.heap[g]? = W.heap[g]?) (hf : ∀ g, fv.ownBlock = some g → W'.heap[g]? = W.heap[g]?) : ArenaAt W' b m pv fv ps fs :=
  ⟨(World.cell?_of_block (w := W) (a := ⟨b, 0, none⟩) hb).trans h.c0, (World.cell?_of_block (w := W) (a := ⟨b, 1, none⟩) hb).trans h.c1, (World.cell?_of_block (w := W) (a := ⟨b, 2, none⟩) hb).trans h.c2,
   (World.frozen?_of_block (w := W) (a := ⟨b, 1, none⟩) hb).trans h.f1, (World.frozen?_of_block (w := W) (a := ⟨b, 2, none⟩) hb).trans h.f2, row_keep h.rp hp, row_keep h.rf hf, h.ne, h.fle, h.ple, h.mle⟩
theorem ArenaAt.below {W W' : World} {b m : Nat} {pv fv : Value} {ps : List Pl} {fs : List Nat} (h : ArenaAt W b m pv fv ps fs) (hb : Below W.heap.size W W') : ArenaAt W' b m pv fv ps fs :=
  h.keep (hb.block b h.lt) (fun g hg => hb.block g (h.rp.lt g hg).2) (fun g hg => hb.block g (h.rf.lt g hg).2)

def cl (n : Int) : Nat := if n < 0 then 0 else if 4096 < n then 4096 else n.toNat
theorem cl_le (n : Int) : cl n ≤ 4096 := by unfold cl; split <;> (try split) <;> omega
theorem arena_new (W : World) (m : Nat) (hm : m ≤ 4096) : ArenaAt (W.alloc (.cells #[.int .i64 m, .slice none 0 0, .slice none 0 0] 121)) W.heap.size m (.slice none 0 0) (.slice none 0 0) [] [] := by
  refine ⟨?_, ?_, ?_, ?_, ?_, World.ownsRow_nil _ _ _ _, World.ownsRow_nil _ _ _ _, by simp [Value.ownBlock], Nat.le_refl _, Nat.zero_le _, hm⟩ <;> simp [go_sem]
theorem new_any (n : Int) (W : World) : Calls Tryz.prog 29 #[.int .i64 n] W fun e w' => e = .returned (wp W.heap.size) ∧ ArenaAt w' W.heap.size (cl n) (.slice none 0 0) (.slice none 0 0) [] [] ∧ Below W.heap.size W w' := by
  have hm := cl_le n
  by_cases h0 : n < 0
  · have H := Lib.hid (show cl n = 0 by unfold cl; rw [if_pos h0])
    go_enter Tryz.func29, Tryz.ntmps29
    go_wp2
    go_ret
    exact ⟨rfl, by rw [H.out]; exact arena_new _ 0 (by omega), box_below _ _⟩
  · by_cases h1 : 4096 < n
    · have H := Lib.hid (show cl n = 4096 by unfold cl; rw [if_neg h0, if_pos h1])
      go_enter Tryz.func29, Tryz.ntmps29
      go_wp2
      go_ret
      exact ⟨rfl, by rw [H.out]; exact arena_new _ 4096 (by omega), box_below _ _⟩
    · obtain ⟨k, rfl⟩ : ∃ k : Nat, n = k := ⟨n.toNat, by omega⟩
      have H := Lib.hid (show cl (k : Int) = k by unfold cl; rw [if_neg h0, if_neg h1]; simp)
      go_enter Tryz.func29, Tryz.ntmps29
      go_wp2
      go_ret
      exact ⟨rfl, by rw [H.out]; exact arena_new _ k (by omega), box_below _ _⟩
theorem len_any {W : World} {b m : Nat} {pv fv : Value} {ps : List Pl} {fs : List Nat} (h : ArenaAt W b m pv fv ps fs) :
    Calls Tryz.prog 61 #[wp b] W fun e w' => e = .returned (.int .i64 ((ps.length : Int) - (fs.length : Int))) ∧ ∃ k, w' = W.drewN k := by
  obtain ⟨A, c, rfl, _⟩ := row_slice h.rp
  obtain ⟨A2, c2, rfl, _⟩ := row_slice h.rf
  have q1 := h.c1
  have q2 := h.c2
  have q3 := h.fle
  have q4 : ps.length ≤ 4096 := Nat.le_trans h.ple h.mle
  clear h
  generalize ps.length = n at *
  generalize fs.length = k at *
  go_enter Tryz.func61, Tryz.ntmps61
  go_wp2
  go_quiet (fail)
  go_wp2
  go_ret
  exact ⟨rfl, _, rfl⟩
theorem len_none (W : World) : Calls Tryz.prog 61 #[.pointer none] W fun e w' => e = .returned (.int .i64 0) ∧ W = w' := by
  go_enter Tryz.func61, Tryz.ntmps61
  go_wp2
  go_ret
  exact ⟨rfl, rfl⟩
theorem left_none (W : World) : Calls Tryz.prog 42 #[.pointer none] W fun e w' => e = .returned (.int .i64 0) ∧ W = w' := by
  go_enter Tryz.func42, Tryz.ntmps42
  go_wp2
  go_ret
  exact ⟨rfl, rfl⟩
theorem left_any {W : World} {b m : Nat} {pv fv : Value} {ps : List Pl} {fs : List Nat} (h : ArenaAt W b m pv fv ps fs) :
    Calls Tryz.prog 42 #[wp b] W fun e w' => e = .returned (.int .i64 ((m : Int) - ((ps.length : Int) - (fs.length : Int)))) ∧ ∃ k, w' = W.drewN k := by
  have q0 := h.c0
  have q3 := h.fle
  have q4 := h.ple
  have q5 := h.mle
  have HL : ∀ k, Calls Tryz.prog 61 #[wp b] (W.drewN k) fun e w' => e = .returned (.int .i64 ((ps.length : Int) - (fs.length : Int))) ∧ ∃ j, w' = (W.drewN k).drewN j := fun k => len_any (h.below (drew_below W k))
  have H := Lib.hid HL
  clear HL h
  generalize ps.length = n at *
  generalize fs.length = k at *
  go_enter Tryz.func42, Tryz.ntmps42
  go_wp2
  go_quiet ((go_at_call 61; exact Calls.quiet_of (H.out _)))
  go_wp2
  go_ret
  exact ⟨rfl, _, rfl⟩

section
variable {W W' : World} {b m g n c : Nat} {pv fv : Value} {ps ps' : List Pl} {fs : List Nat}
theorem ArenaAt.place (h : ArenaAt W b m (.slice (some ⟨g, 0, none⟩) n c) fv ps fs) {i j : Nat} (hi : i < ps.length) (hj : j < 7) {u : Value} (hu : (plv ps[i])[j]? = some u) :
    W.cell? ⟨g, i * 7 + j, none⟩ = some u := by
  have h1 := h.rp.cells (g := g) rfl (i * 7 + j) u ((flat_at ps i j hi hj).trans hu)
  rw [add_at] at h1
  exact h1
theorem ArenaAt.free (h : ArenaAt W b m (.slice (some ⟨g, 0, none⟩) n c) fv ps fs) (k : Nat) : W.frozen? ⟨g, k, none⟩ = false := by
  obtain ⟨_, _, hv, _⟩ := row_slice h.rp
  cases hv
  exact h.rp.frozenAt _
theorem ArenaAt.form (h : ArenaAt W b m pv fv ps fs) (hp : 0 < ps.length) : ∃ g c, pv = .slice (some ⟨g, 0, none⟩) ps.length c ∧ b < g ∧ g < W.heap.size := by
  obtain ⟨A, c, rfl, h1⟩ := row_slice h.rp
  rcases h1 with h1 | ⟨g, rfl⟩
  · omega
  · have := h.rp.lt g rfl
    exact ⟨g, c, rfl, by omega, this.2⟩
/-- the cells of a used place -/
structure HeadAt (W : World) (g o : Nat) (p : Pa.Pt) (q : Nat) : Prop where
  c0 : W.cell? ⟨g, o, none⟩ = some (.int .i64 p.a)
  c1 : W.cell? ⟨g, o + 1, none⟩ = some (.int .i64 p.b)
  c2 : W.cell? ⟨g, o + 2, none⟩ = some (.int .i64 p.c)
  c3 : W.cell? ⟨g, o + 3, none⟩ = some (.int .i64 p.d)
  c4 : W.cell? ⟨g, o + 4, none⟩ = some (.int .i64 p.e)
  c5 : W.cell? ⟨g, o + 5, none⟩ = some (.pointer (some ⟨q, 0, none⟩))
  c6 : W.cell? ⟨g, o + 6, none⟩ = some (.bool true)
theorem ArenaAt.head (h : ArenaAt W b m (.slice (some ⟨g, 0, none⟩) n c) fv ps fs) {i q : Nat} {p : Pa.Pt} (hi : ps[i]? = some (some (p, q))) : HeadAt W g (i * 7) p q := by
  obtain ⟨hl, he⟩ := List.getElem?_eq_some_iff.1 hi
  have e : plv ps[i] = plv (some (p, q)) := by rw [he]
  refine ⟨?_, ?_, ?_, ?_, ?_, ?_, ?_⟩
  · exact h.place (j := 0) hl (by omega) (by rw [e]; rfl)
  · exact h.place (j := 1) hl (by omega) (by rw [e]; rfl)
  · exact h.place (j := 2) hl (by omega) (by rw [e]; rfl)
  · exact h.place (j := 3) hl (by omega) (by rw [e]; rfl)
  · exact h.place (j := 4) hl (by omega) (by rw [e]; rfl)
  · exact h.place (j := 5) hl (by omega) (by rw [e]; rfl)
  · exact h.place (j := 6) hl (by omega) (by rw [e]; rfl)
theorem at_yes {c : Nat} (h : ArenaAt W b m (.slice (some ⟨g, 0, none⟩) ps.length c) fv ps fs) {i q : Nat} {p : Pa.Pt} (hi : ps[i]? = some (some (p, q))) :
    Calls Tryz.prog 108 #[wp b, .int .i64 (i : Int)] W fun e w' => e = .returned (.pointer (some ⟨g, i * 7, none⟩)) ∧ W = w' := by
  have e2 := (h.head hi).c6
  obtain ⟨hil, -⟩ := List.getElem?_eq_some_iff.1 hi
  have q1 := h.c1
  have q4 : ps.length ≤ 4096 := Nat.le_trans h.ple h.mle
  clear h hi
  generalize ps.length = n at *
  have d1 : ¬ ((n : Int) ≤ (i : Int)) := by omega
  have d2 : decide (n ≤ i) = false := by simp; omega
  have d3 : ¬ (n ≤ i) := by omega
  go_enter Tryz.func108, Tryz.ntmps108
  go_wp2
  go_ret
  exact ⟨rfl, rfl⟩
theorem info_int : (Tryz.prog.info? 3).map (fun i => (i.zero, i.size, i.bytes)) = some (some (.int .i64 0), 1, 8) := by kernel_rfl
theorem info_place : (Tryz.prog.info? 169).map (fun i => (i.zero, i.size, i.bytes)) = some (some (.agg #[.int .i64 0, .int .i64 0, .int .i64 0, .int .i64 0, .int .i64 0, .pointer none, .bool false]), 7, 56) := by kernel_rfl
theorem nats_snoc (fs : List Nat) (k : Nat) : nats (fs ++ [k]) = nats fs ++ [.int .i64 (k : Int)] := by simp [nats]
end
/-- an arena that has these places, in these blocks -/
def Ar (W : World) (b : Nat) (S : Nat → Prop) (m : Nat) (ps : List Pl) (fs : List Nat) : Prop :=
  ∃ pv fv, ArenaAt W b m pv fv ps fs ∧ ∀ k, (k = b ∨ pv.ownBlock = some k ∨ fv.ownBlock = some k) ↔ S k
/-- what a call that may change this arena alone leaves -/
def Does (W : World) (b : Nat) (S : Nat → Prop) (v : Value) (m : Nat) (ps : List Pl) (fs : List Nat) (e : Ending) (w' : World) : Prop :=
  ∃ S', e = .returned v ∧ Ar w' b S' m ps fs ∧ OnlyS S W w' ∧ ∀ k, S' k → S k ∨ W.heap.size ≤ k
theorem Ar.lt {W : World} {b m : Nat} {S : Nat → Prop} {ps : List Pl} {fs : List Nat} (h : Ar W b S m ps fs) {k : Nat} (hk : S k) : b ≤ k ∧ k < W.heap.size := by
  obtain ⟨pv, fv, h1, h2⟩ := h
  rcases (h2 k).2 hk with rfl | hg | hg
  · exact ⟨Nat.le_refl _, h1.lt⟩
  · have := h1.rp.lt k hg; omega
  · have := h1.rf.lt k hg; omega
theorem Ar.own {W : World} {b m : Nat} {S : Nat → Prop} {ps : List Pl} {fs : List Nat} (h : Ar W b S m ps fs) : S b := by
  obtain ⟨pv, fv, h1, h2⟩ := h
  exact (h2 b).1 (.inl rfl)
theorem Ar.keep {W W' : World} {b m : Nat} {S T : Nat → Prop} {ps : List Pl} {fs : List Nat} (h : Ar W b S m ps fs) (ho : OnlyS T W W') (hd : ∀ k, S k → ¬ T k) : Ar W' b S m ps fs := by
  have h0 := h
  obtain ⟨pv, fv, h1, h2⟩ := h
  have hk : ∀ k, S k → W'.heap[k]? = W.heap[k]? := fun k hk => ho.block k (h0.lt hk).2 (hd k hk)
  exact ⟨pv, fv, h1.keep (hk b ((h2 b).1 (.inl rfl))) (fun g hg => hk g ((h2 g).1 (.inr (.inl hg)))) (fun g hg => hk g ((h2 g).1 (.inr (.inr hg)))), h2⟩
theorem Ar.below {W W' : World} {b m : Nat} {S : Nat → Prop} {ps : List Pl} {fs : List Nat} (h : Ar W b S m ps fs) (hb : Below W.heap.size W W') : Ar W' b S m ps fs :=
  h.keep (OnlyS.of_below (S := fun _ => False) hb) (fun _ _ h => h)
theorem Ar.bounds {W : World} {b m : Nat} {S : Nat → Prop} {ps : List Pl} {fs : List Nat} (h : Ar W b S m ps fs) : fs.length ≤ ps.length ∧ ps.length ≤ m ∧ m ≤ 4096 := by
  obtain ⟨pv, fv, h1, h2⟩ := h
  exact ⟨h1.fle, h1.ple, h1.mle⟩
theorem Does.same {W w' : World} {b m : Nat} {S : Nat → Prop} {ps : List Pl} {fs : List Nat} {v : Value} (h : Ar W b S m ps fs) (hb : Below W.heap.size W w') : Does W b S v m ps fs (.returned v) w' :=
  ⟨S, rfl, h.below hb, OnlyS.of_below hb, fun _ h => .inl h⟩
theorem results_get {fn : Func} {p q : Tmp} (h : fn.results = #[.cell p 68, .tmp q]) {tmps : Array Value} {w : World} {b : Nat} {x0 x1 x2 x3 x4 x5 y : Value} (hp : tmps.getD p undef = .pointer (some ⟨b, 0, none⟩)) (hq : tmps.getD q undef = y)
    (h0 : w.cell? ⟨b, 0, none⟩ = some x0) (h1 : w.cell? ⟨b, 1, none⟩ = some x1) (h2 : w.cell? ⟨b, 2, none⟩ = some x2) (h3 : w.cell? ⟨b, 3, none⟩ = some x3) (h4 : w.cell? ⟨b, 4, none⟩ = some x4) (h5 : w.cell? ⟨b, 5, none⟩ = some x5) :
    (results fn tmps).run Tryz.prog w = .ok (.tuple #[.agg #[x0, x1, x2, x3, x4, x5], y]) w := by
  have hp' : tmps[p]?.getD undef = .pointer (some ⟨b, 0, none⟩) := by simpa using hp
  have hq' : tmps[q]?.getD undef = y := by simpa using hq
  simp [results, h, hp', hq', go_sem, h0, h1, h2, h3, h4, h5]
/-- what a used place has is told -/
theorem get_yes {W : World} {b m : Nat} {S : Nat → Prop} {ps : List Pl} {fs : List Nat} (h : Ar W b S m ps fs) {i q : Nat} {p : Pa.Pt} (hi : ps[i]? = some (some (p, q))) :
    Calls Tryz.prog 77 #[wp b, .int .i64 (i : Int)] W fun e w' => e = .returned (.tuple #[hv p q, .bool true]) ∧ Below W.heap.size W w' := by
  obtain ⟨pv, fv, h, _⟩ := h
  obtain ⟨hil, -⟩ := List.getElem?_eq_some_iff.1 hi
  obtain ⟨g, c, rfl, _, hg⟩ := h.form (by omega)
  have hx := box_below W (.cells #[.int .i64 0, .int .i64 0, .int .i64 0, .int .i64 0, .int .i64 0, .pointer none] 68)
  have HX := Lib.hid hx
  have H := Lib.hid (at_yes (h.below hx) hi)
  obtain ⟨c0, c1, c2, c3, c4, c5, -⟩ := (h.below hx).head hi
  have hgl : g ≠ W.heap.size := by omega
  clear h hx hi
  generalize i * 7 = o at *
  go_enter Tryz.func77, Tryz.ntmps77
  go_wp2_with fail
  refine H.out.mono ?_
  rintro e w' ⟨rfl, rfl⟩
  go_wp2_with fail
  exact bodyPost_ret (results_get rfl rfl rfl (by simp [go_sem]) (by simp [go_sem]) (by simp [go_sem]) (by simp [go_sem]) (by simp [go_sem]) (by simp [go_sem])) rfl ⟨rfl, box_below _ _⟩
end Go.Proofs.YtmolohncllcgbaaGreatDoor.An
