/- Links beside the document's rows, with a deed. -/
import Derived.Test.YthgcedhplbhiiaaP5
import Derived.Test.YthgcedhplbhiiaaB3
import Derived.Deep.RegionHeld3
namespace Go.Proofs.Ythgcedhplbhiiaa
open Go Go.RowKit

/-- links and the document's rows -/
structure Dh (w W : World) (b g bx gx K N : Nat) (L1 L2 : Nat → List Nat) : Prop where
  ln : Ln W b g N L1
  rf : Rf W bx gx K N L2
  bel : Below w.heap.size w W
  ne : g ≠ bx ∧ g ≠ gx ∧ gx ≠ b ∧ g < K
  lo : w.heap.size ≤ g ∧ w.heap.size ≤ gx
/-- .. with a deed -/
structure Du (w W : World) (b g bx gx K N Bd : Nat) (d1 d2 d3 : Int) (L1 L2 : Nat → List Nat) : Prop where
  dh : Dh w W b g bx gx K N L1 L2
  c1 : W.cell? ⟨Bd, 1, none⟩ = some (.int .i64 d1)
  c2 : W.cell? ⟨Bd, 2, none⟩ = some (.int .i64 d2)
  c3 : W.cell? ⟨Bd, 3, none⟩ = some (.int .i64 d3)
  nd : Bd ≠ g ∧ Bd ≠ gx
section
variable {w W W' : World} {b g bx gx K N Bd : Nat} {d1 d2 d3 : Int} {L1 L2 L' : Nat → List Nat} {v : Value} {e : Ending} {q qa : Spot}
theorem Dh.below (h : Dh w W b g bx gx K N L1 L2) (hb : Below W.heap.size W W') : Dh w W' b g bx gx K N L1 L2 := ⟨h.ln.below hb, h.rf.below hb, h.bel.trans (hb.mono h.bel.size), h.ne, h.lo⟩
theorem Dh.did (h : Dh w W b g bx gx K N L1 L2) (hd : Did W b g N v L' e W') : e = .returned v ∧ Dh w W' b g bx gx K N L' L2 := by
  obtain ⟨h1, h2, ho⟩ := hd
  exact ⟨h1, h2, h.rf.only ho (fun e => h.ne.1 e.symm) (fun e => h.ne.2.1 e.symm) (fun k e => by rw [e]; exact h.ne.2.2.2), h.bel.trans (ho.below (fun k e => by rw [e]; exact h.lo.1) h.bel.size), h.ne, h.lo⟩
theorem Dh.rdid (h : Dh w W b g bx gx K N L1 L2) (hd : RDid W bx gx K N v L' e W') : e = .returned v ∧ Dh w W' b g bx gx K N L1 L' := by
  obtain ⟨h1, h2, ho⟩ := hd
  exact ⟨h1, h.ln.only ho (fun e => h.ne.2.2.1 e.symm) (fun e => h.ne.2.1 e), h2, h.bel.trans (ho.below (fun k e => by rw [e]; exact h.lo.2) h.bel.size), h.ne, h.lo⟩
theorem Dh.du (h : Dh w W b g bx gx K N L1 L2) (kd d1 d2 d3 : Int) : Du w (W.alloc (.cells #[.int .i64 kd, .int .i64 d1, .int .i64 d2, .int .i64 d3] 29)) b g bx gx K N W.heap.size d1 d2 d3 L1 L2 := by
  have h1 := h.ln.lt
  have h2 := h.rf.gl
  exact ⟨h.below (box_below _ _), by simp [go_sem], by simp [go_sem], by simp [go_sem], by omega, by omega⟩
theorem Du.below (h : Du w W b g bx gx K N Bd d1 d2 d3 L1 L2) (hb : Below W.heap.size W W') : Du w W' b g bx gx K N Bd d1 d2 d3 L1 L2 :=
  ⟨h.dh.below hb, by rw [hb.cell (p := ⟨Bd, 1, none⟩) (cell_lt h.c1)]; exact h.c1, by rw [hb.cell (p := ⟨Bd, 2, none⟩) (cell_lt h.c2)]; exact h.c2, by rw [hb.cell (p := ⟨Bd, 3, none⟩) (cell_lt h.c3)]; exact h.c3, h.nd⟩
theorem Du.only {T : Nat → Prop} (h : Du w W b g bx gx K N Bd d1 d2 d3 L1 L2) (ho : OnlyS T W W') (hT : ¬ T Bd) {M1 M2 : Nat → List Nat} (hd : Dh w W' b g bx gx K N M1 M2) : Du w W' b g bx gx K N Bd d1 d2 d3 M1 M2 :=
  ⟨hd, ho.cell h.c1 hT, ho.cell h.c2 hT, ho.cell h.c3 hT, h.nd⟩
theorem Du.did (h : Du w W b g bx gx K N Bd d1 d2 d3 L1 L2) (hd : Did W b g N v L' e W') : e = .returned v ∧ Du w W' b g bx gx K N Bd d1 d2 d3 L' L2 := by
  obtain ⟨h1, h2⟩ := h.dh.did hd
  exact ⟨h1, h.only hd.2.2 (fun e => h.nd.1 e) h2⟩
theorem Du.rdid (h : Du w W b g bx gx K N Bd d1 d2 d3 L1 L2) (hd : RDid W bx gx K N v L' e W') : e = .returned v ∧ Du w W' b g bx gx K N Bd d1 d2 d3 L1 L' := by
  obtain ⟨h1, h2⟩ := h.dh.rdid hd
  exact ⟨h1, h.only hd.2.2 (fun e => h.nd.2 e) h2⟩
theorem Du.deed (h : Du w W b g bx gx K N Bd d1 d2 d3 L1 L2) : W.cell? ⟨Bd, 1, none⟩ = some (.int .i64 d1) ∧ W.cell? ⟨Bd, 2, none⟩ = some (.int .i64 d2) ∧ W.cell? ⟨Bd, 3, none⟩ = some (.int .i64 d3) := ⟨h.c1, h.c2, h.c3⟩
theorem du_back (h : Du w W b g bx gx K N Bd d1 d2 d3 L1 L2) (hq : At N L1 d3 q) : Calls Try.prog 9 #[wp b, .int .i64 d1, .int .i64 d3] W fun e w' => e = .returned (.bool (backB N q d1 d3)) ∧ Du w w' b g bx gx K N Bd d1 d2 d3 (backL N L1 q d1 d3) L2 :=
  (h.dh.ln.back hq d1).mono fun _ _ hd => h.did hd
theorem du_rback (h : Du w W b g bx gx K N Bd d1 d2 d3 L1 L2) (hq : At N L2 d3 q) : Calls Try.prog 10 #[wp bx, .int .i64 d1, .int .i64 d3] W fun e w' => e = .returned (.bool (backB N q d1 d3)) ∧ Du w w' b g bx gx K N Bd d1 d2 d3 L1 (backL N L2 q d1 d3) :=
  (h.dh.rf.back hq d1).mono fun _ _ hd => h.rdid hd
theorem du_ahead (h : Du w W b g bx gx K N Bd d1 d2 d3 L1 L2) (ha : At N L1 d2 qa) (hq : At N L1 d3 q) : Calls Try.prog 11 #[wp b, .int .i64 d1, .int .i64 d2, .int .i64 d3] W fun e w' => e = .returned (.bool (aheadB N qa q d1 d3)) ∧ Du w w' b g bx gx K N Bd d1 d2 d3 (aheadL N L1 qa q d1 d3) L2 :=
  (h.dh.ln.ahead ha hq d1).mono fun _ _ hd => h.did hd
theorem du_rahead (h : Du w W b g bx gx K N Bd d1 d2 d3 L1 L2) (ha : At N L2 d2 qa) (hq : At N L2 d3 q) : Calls Try.prog 12 #[wp bx, .int .i64 d1, .int .i64 d2, .int .i64 d3] W fun e w' => e = .returned (.bool (aheadB N qa q d1 d3)) ∧ Du w w' b g bx gx K N Bd d1 d2 d3 L1 (aheadL N L2 qa q d1 d3) :=
  (h.dh.rf.ahead ha hq d1).mono fun _ _ hd => h.rdid hd
theorem du_cut (h : Du w W b g bx gx K N Bd d1 d2 d3 L1 L2) (hq : At N L1 d3 q) : Calls Try.prog 13 #[wp b, .int .i64 d3] W fun e w' => e = .returned (.bool q.isSome) ∧ Du w w' b g bx gx K N Bd d1 d2 d3 (cutL L1 q) L2 :=
  (h.dh.ln.cut hq).mono fun _ _ hd => h.did hd
theorem du_rcut (h : Du w W b g bx gx K N Bd d1 d2 d3 L1 L2) (hq : At N L2 d3 q) : Calls Try.prog 14 #[wp bx, .int .i64 d3] W fun e w' => e = .returned (.bool q.isSome) ∧ Du w w' b g bx gx K N Bd d1 d2 d3 L1 (cutL L2 q) :=
  (h.dh.rf.cut hq).mono fun _ _ hd => h.rdid hd
end
theorem does_long (n : Int) (A : Option Addr) (M c : Nat) (w : World) (h : 40 < M ∨ 30 < n) (hm : M ≤ maxLen) :
    Calls Try.prog 3 #[.int .i64 n, .slice A M c] w fun e w' => e = .returned (.bool true) ∧ Below w.heap.size w w' := by
  unfold maxLen at hm
  by_cases h1 : 40 < M
  · have h2 : (40 : Int) < (M : Int) := by omega
    have h3 : decide ((40 : Int) < (M : Int)) = true := by simp; omega
    clear h
    set_option maxRecDepth 100000 in
    go_enter Try.func3, Try.ntmps3
    go_wp2_with fail
    refine (awake_any _).mono ?_
    rintro e w1 ⟨rfl, hb1⟩
    go_wp2_with fail
    go_ret
    exact ⟨rfl, hb1⟩
  · have h2 : ¬ (40 : Int) < (M : Int) := by omega
    have h3 : 30 < n := by omega
    have h4 : decide ((40 : Int) < (M : Int)) = false := by simp; omega
    have h5 : decide (30 < n) = true := by simpa using h3
    clear h
    set_option maxRecDepth 100000 in
    go_enter Try.func3, Try.ntmps3
    go_wp2_with fail
    refine (awake_any _).mono ?_
    rintro e w1 ⟨rfl, hb1⟩
    go_wp2_with fail
    go_ret
    exact ⟨rfl, hb1⟩
end Go.Proofs.Ythgcedhplbhiiaa
