/- Latches beside the document's, with a deed. -/
import Derived.Test.YtmaiogaeibmpnaaP2
import Derived.Test.YtmaiogaeibmpnaaB1
namespace Go.Proofs.Ytmaiogaeibmpnaa
open Go Go.RowKit

/-- latches and the document's -/
structure Dh (w W : World) (b g bx gx N c : Nat) (wh1 wh2 : Nat → Int) : Prop where
  one : One w W b g N wh1
  rf : Rf W bx gx N c wh2
  ne : g ≠ bx ∧ g ≠ gx ∧ gx ≠ b
  lo : w.heap.size ≤ gx
/-- .. with a deed -/
structure Du (w W : World) (b g bx gx N c Bd : Nat) (d1 d2 : Int) (wh1 wh2 : Nat → Int) : Prop where
  dh : Dh w W b g bx gx N c wh1 wh2
  c1 : W.cell? ⟨Bd, 1, none⟩ = some (.int .i64 d1)
  c2 : W.cell? ⟨Bd, 2, none⟩ = some (.int .i64 d2)
  nd : Bd ≠ g ∧ Bd ≠ gx
/-- are these all nobody's -/
def frB (wh : Nat → Int) : Nat → Bool
  | 0 => true
  | k + 1 => frB wh k && decide (wh k < 0)
theorem free_is {N : Nat} {wh : Nat → Int} (h : ∀ k, -1 ≤ wh k) : decide ((fitL (fun k => fit false 0 (wh k)) N).length = N) = frB wh N := by
  induction N with
  | zero => rfl
  | succ N ih =>
    have hl := fitL_len (fun k => fit false 0 (wh k)) N
    unfold frB
    rw [← ih]
    cases hf : fit false 0 (wh N)
    · have hx : ¬ wh N < 0 := fun hx => by
        have := (fit_none (h N)).2 (by have := h N; omega)
        rw [hf] at this
        cases this
      rw [fitL_no hf, decide_eq_false hx, Bool.and_false, decide_eq_false (by omega)]
    · have hx := (fit_none (h N)).1 hf
      rw [fitL_yes hf, List.length_append, decide_eq_true (show wh N < 0 by omega), Bool.and_true]
      simp
section
variable {w W W' : World} {b g bx gx N c Bd : Nat} {d1 d2 x : Int} {wh wh1 wh2 wh' : Nat → Int} {v : Value} {e : Ending}
theorem Dh.below (h : Dh w W b g bx gx N c wh1 wh2) (hb : Below W.heap.size W W') : Dh w W' b g bx gx N c wh1 wh2 := ⟨h.one.below hb, h.rf.below hb, h.ne, h.lo⟩
theorem Dh.did (h : Dh w W b g bx gx N c wh1 wh2) (hd : Did W b g N x wh' e W') : e = .returned (.int .i64 x) ∧ Dh w W' b g bx gx N c wh' wh2 := by
  obtain ⟨h1, h2, ho⟩ := h.one.did hd
  exact ⟨h1, h2, h.rf.only ho (fun e => h.ne.1 e.symm) (fun e => h.ne.2.1 e.symm), h.ne, h.lo⟩
theorem Dh.rdid (h : Dh w W b g bx gx N c wh1 wh2) (hd : RDid W bx gx N c x wh' e W') : e = .returned (.int .i64 x) ∧ Dh w W' b g bx gx N c wh1 wh' := by
  obtain ⟨h1, h2, ho⟩ := hd
  exact ⟨h1, ⟨h.one.lat.only ho (fun e => h.ne.2.2 e.symm) (fun e => h.ne.2.1 e), h.one.bel.trans (ho.below (fun k e => by rw [e]; exact h.lo) h.one.bel.size), h.one.hb, h.one.hg⟩, h2, h.ne, h.lo⟩
theorem Dh.du (h : Dh w W b g bx gx N c wh1 wh2) (kd d1 d2 : Int) : Du w (W.alloc (.cells #[.int .i64 kd, .int .i64 d1, .int .i64 d2] 29)) b g bx gx N c W.heap.size d1 d2 wh1 wh2 := by
  have h1 := h.one.lat.gl
  have h2 := h.rf.gl
  exact ⟨h.below (box_below _ _), by simp [go_sem], by simp [go_sem], by omega, by omega⟩
theorem Du.below (h : Du w W b g bx gx N c Bd d1 d2 wh1 wh2) (hb : Below W.heap.size W W') : Du w W' b g bx gx N c Bd d1 d2 wh1 wh2 :=
  ⟨h.dh.below hb, by rw [hb.cell (p := ⟨Bd, 1, none⟩) (cell_lt h.c1)]; exact h.c1, by rw [hb.cell (p := ⟨Bd, 2, none⟩) (cell_lt h.c2)]; exact h.c2, h.nd⟩
theorem Du.did (h : Du w W b g bx gx N c Bd d1 d2 wh1 wh2) (hd : Did W b g N x wh' e W') : e = .returned (.int .i64 x) ∧ Du w W' b g bx gx N c Bd d1 d2 wh' wh2 := by
  obtain ⟨h1, h2⟩ := h.dh.did hd
  exact ⟨h1, h2, hd.2.2.cell h.c1 (fun e => h.nd.1 e), hd.2.2.cell h.c2 (fun e => h.nd.1 e), h.nd⟩
theorem Du.rdid (h : Du w W b g bx gx N c Bd d1 d2 wh1 wh2) (hd : RDid W bx gx N c x wh' e W') : e = .returned (.int .i64 x) ∧ Du w W' b g bx gx N c Bd d1 d2 wh1 wh' := by
  obtain ⟨h1, h2⟩ := h.dh.rdid hd
  exact ⟨h1, h2, hd.2.2.cell h.c1 (fun e => h.nd.2 e), hd.2.2.cell h.c2 (fun e => h.nd.2 e), h.nd⟩
theorem Du.deed (h : Du w W b g bx gx N c Bd d1 d2 wh1 wh2) : W.cell? ⟨Bd, 1, none⟩ = some (.int .i64 d1) ∧ W.cell? ⟨Bd, 2, none⟩ = some (.int .i64 d2) := ⟨h.c1, h.c2⟩
theorem Du.head (h : Du w W b g bx gx N c Bd d1 d2 wh1 wh2) : W.cell? ⟨Bd, 1, none⟩ = some (.int .i64 d1) ∧ W.cell? ⟨bx, 0, none⟩ = some (.slice (some ⟨gx, 0, none⟩) N c) := ⟨h.c1, h.dh.rf.c0⟩
theorem du_take (h : Du w W b g bx gx N c Bd d1 d2 wh1 wh2) : Calls Try.prog 9 #[wp b, .int .i64 d1, .int .i64 d2] W fun e w' => e = .returned (.int .i64 (takeE N wh1 d1 d2)) ∧ Du w w' b g bx gx N c Bd d1 d2 (takeW N wh1 d1 d2) wh2 :=
  (h.dh.one.lat.take d1 d2).mono fun _ _ hd => h.did hd
theorem du_rtake (h : Du w W b g bx gx N c Bd d1 d2 wh1 wh2) : Calls Try.prog 10 #[wp bx, .int .i64 d1, .int .i64 d2] W fun e w' => e = .returned (.int .i64 (takeE N wh2 d1 d2)) ∧ Du w w' b g bx gx N c Bd d1 d2 wh1 (takeW N wh2 d1 d2) :=
  (h.dh.rf.take d1 d2).mono fun _ _ hd => h.rdid hd
theorem du_give (h : Du w W b g bx gx N c Bd d1 d2 wh1 wh2) : Calls Try.prog 11 #[wp b, .int .i64 d1, .int .i64 d2] W fun e w' => e = .returned (.int .i64 (giveE N wh1 d1 d2)) ∧ Du w w' b g bx gx N c Bd d1 d2 (giveW N wh1 d1 d2) wh2 :=
  (h.dh.one.lat.give d1 d2).mono fun _ _ hd => h.did hd
theorem du_rgive (h : Du w W b g bx gx N c Bd d1 d2 wh1 wh2) : Calls Try.prog 12 #[wp bx, .int .i64 d1, .int .i64 d2] W fun e w' => e = .returned (.int .i64 (giveE N wh2 d1 d2)) ∧ Du w w' b g bx gx N c Bd d1 d2 wh1 (giveW N wh2 d1 d2) :=
  (h.dh.rf.give d1 d2).mono fun _ _ hd => h.rdid hd
/-- what is handed out, beside both -/
def DuL (w W : World) (b g bx gx N c Bd : Nat) (d1 d2 : Int) (wh : Nat → Int) (l : List Nat) (e : Ending) (w' : World) : Prop :=
  ∃ A c', e = .returned (.slice A l.length c') ∧ Rd w' W.heap.size A c' l ∧ Below W.heap.size W w' ∧ Du w w' b g bx gx N c Bd d1 d2 wh wh
theorem du_held {l : List Nat} (h : Du w W b g bx gx N c Bd d1 d2 wh wh) (hl : heldL N wh d1 = l) : Calls Try.prog 15 #[wp b, .int .i64 d1] W (DuL w W b g bx gx N c Bd d1 d2 wh l) := by
  subst hl
  exact (h.dh.one.lat.held d1).mono fun _ _ ⟨A, c', h1, h2, h3⟩ => ⟨A, c', h1, h2, h3, h.below h3⟩
theorem du_rheld {l : List Nat} (h : Du w W b g bx gx N c Bd d1 d2 wh wh) (hl : heldL N wh d1 = l) : Calls Try.prog 16 #[wp bx, .int .i64 d1] W (DuL w W b g bx gx N c Bd d1 d2 wh l) := by
  subst hl
  exact (h.dh.rf.held d1).mono fun _ _ ⟨A, c', h1, h2, h3⟩ => ⟨A, c', h1, h2, h3, h.below h3⟩
theorem du_free {fb : Bool} (h : Du w W b g bx gx N c Bd d1 d2 wh wh) (hf : frB wh N = fb) : Calls Try.prog 17 #[wp b] W fun e w' => e = .returned (.bool fb) ∧ Du w w' b g bx gx N c Bd d1 d2 wh wh := by
  subst hf
  rw [← free_is h.dh.one.lat.mn]
  exact h.dh.one.lat.free.mono fun _ _ ⟨h1, h3⟩ => ⟨h1, h.below h3⟩
theorem du_len (h : Du w W b g bx gx N c Bd d1 d2 wh wh) : Calls Try.prog 18 #[wp b] W fun e w' => e = .returned (.int .i64 (N : Int)) ∧ Du w w' b g bx gx N c Bd d1 d2 wh wh :=
  h.dh.one.lat.len.mono fun _ _ ⟨h1, h3⟩ => ⟨h1, by rw [← h3]; exact h⟩
end
theorem does_long (n : Int) (A : Option Addr) (M c : Nat) (w : World) (h : 40 < M) (hm : M ≤ maxLen) :
    Calls Try.prog 3 #[.int .i64 n, .slice A M c] w fun e w' => e = .returned (.bool true) ∧ Below w.heap.size w w' := by
  unfold maxLen at hm
  have h2 : (40 : Int) < (M : Int) := by omega
  have h3 : decide ((40 : Int) < (M : Int)) = true := by simp; omega
  clear h
  set_option maxRecDepth 100000 in
  go_enter Try.func3, Try.ntmps3
  go_wp2_with fail
  refine (awake_any _).mono ?_
  rintro e w1 ⟨rfl, hb1⟩
  go_wp2_with fail
  go_ret
  exact ⟨rfl, hb1⟩
end Go.Proofs.Ytmaiogaeibmpnaa
