/- A place is put behind a row of the document's. -/
import Derived.Test.YthgcedhplbhiiaaP1
import Derived.Test.YthgcedhplbhiiaaM4
import Derived.IntWalk
namespace Go.Proofs.Ythgcedhplbhiiaa
open Go Go.RowKit

/-- what a call that may change the document's rows alone leaves -/
def RDid (W : World) (bx gx K N : Nat) (v : Value) (L : Nat → List Nat) (e : Ending) (w' : World) : Prop := e = .returned v ∧ Rf w' bx gx K N L ∧ OnlyS (· = gx) W w'
section
variable {W W' : World} {bx gx K N : Nat} {L L' : Nat → List Nat} {i : Int} {q qa : Spot}
theorem RDid.same (h : Rf W bx gx K N L) (v : Value) : RDid W bx gx K N v L (.returned v) W := ⟨rfl, h, OnlyS.refl _ _⟩
theorem Rd.full {A : Option Addr} {c : Nat} {l : List Nat} (h : Rd W K A c l) : Rd W K A l.length l :=
  ⟨Nat.le_refl _, Nat.le_trans h.cap h.room, fun e => by have := h.nil e; exact ⟨this.1, by rw [this.1]; rfl⟩, h.at'⟩
/-- a new row is stored -/
theorem Rf.store {w5 : World} {r c' : Nat} {A' : Option Addr} {l : List Nat} (h : Rf W bx gx K N L) (hb : Below W.heap.size W w5) (hr : r < N) (hrd : Rd w5 K A' c' l) (hg : Good N (upd L r l)) (v : Value) :
    RDid W bx gx K N v (upd L r l) (.returned v) (w5.setCell ⟨gx, r, none⟩ (.slice A' l.length c')) :=
  ⟨rfl, (h.below hb).set hr hrd hg, (OnlyS.of_below (S := (· = gx)) hb).setIn gx r _ (.inl rfl)⟩
set_option maxHeartbeats 4000000 in
theorem Rf.back (h : Rf W bx gx K N L) (hq : At N L i q) (row : Int) : Calls Try.prog 10 #[wp bx, .int .i64 row, .int .i64 i] W (RDid W bx gx K N (.bool (backB N q row i)) (backL N L q row i)) := by
  have HF := Lib.hid (h.free hq row)
  have H := Lib.hid h
  cases h1 : backB N q row i
  · rw [h1] at HF
    rw [show backL N L q row i = L by unfold backL; rw [h1]; rfl]
    clear h h1 hq
    go_enter Try.func10, Try.ntmps10
    go_wp2_with (go_at_call 27; ((with_reducible refine HF.out.mono ?_); rintro e w' ⟨rfl, rfl⟩))
    go_ret
    exact RDid.same H.out _
  · rw [h1] at HF
    have h2 := h1
    unfold backB at h2
    rw [Bool.and_eq_true, Bool.and_eq_true] at h2
    obtain ⟨r, rfl, hr⟩ := has_yes h2.1.1
    obtain ⟨j, rfl, hj⟩ := has_yes h2.1.2
    have hqn : q = none := by cases q with | none => rfl | some p => simp at h2
    subst hqn
    have eL : backL N L none (r : Int) (j : Int) = upd L r (L r ++ [j]) := by unfold backL; rw [h1]; simp
    have hgd : Good N (upd L r (L r ++ [j])) := h.good.put (post := []) hr hj (fun s hs hm => hq s hs j hm rfl) (by simp)
    rw [eL]
    have hnb := h.nb
    have hlr := h.good.len hr
    obtain ⟨A, c, q2, hrd⟩ := h.rows r hr
    have q1 := h.c1
    have hbl := h.lt
    have hgl := h.gl
    have hcap := hrd.cap
    have hroom := hrd.room
    have hnil : A = none → (L r).length = 0 ∧ c = 0 := fun e => ⟨by rw [(hrd.nil e).1]; rfl, (hrd.nil e).2⟩
    have f2 := h.fz r
    have hB1 : Below W.heap.size W (W.drew.alloc (.cells #[.int .i64 (j : Int)] 3)) := (drew1_below W).trans (box_below W.drew _)
    obtain ⟨A', c', w6, hrun, hjn⟩ := join_some (W := W.drew.alloc (.cells #[.int .i64 (j : Int)] 3)) (K := K) (hrd.below hB1).full (Rd.lit W.drew j).from (by simp) (by simp; omega) 1 37
    have hB6 : Below W.heap.size W w6 := hB1.trans (hjn.bel.mono hB1.size)
    have h6 := h.below hB6
    obtain ⟨A1, c1, r2, -⟩ := h6.rows r hr
    have r1 := h6.c1
    have rf := h6.fz r
    have HS := Lib.hid (h.store hB6 hr (hjn.rd.weak (Nat.le_trans h.kw hB1.size)) hgd (.bool true))
    have HR := Lib.hid hrun
    have H6l := Lib.hid h6.lt
    obtain ⟨n, hn⟩ : ∃ n, (L r).length = n := ⟨_, rfl⟩
    rw [List.length_append, hn] at HS
    rw [hn] at HR q2 hlr hcap r2 hnil
    clear h h1 h2 hq eL hgd hrd hB1 hrun hjn hB6 h6 hn H
    have w1 : W.drew.heap.size = W.heap.size := rfl
    rw [w1] at HR
    clear w1
    have HR' : Hid ((Builtin.append_ #[37, 37] 37 #[.slice A n n, .slice (some ⟨W.heap.size, 0, none⟩) 1 1]).run Try.prog (W.drew.alloc (.cells #[.int .i64 (j : Int)] 3)) = .ok (.slice A' (n + 1) c') w6) := HR
    clear HR
    generalize upd L r (L r ++ [j]) = L2 at *
    unfold maxLen at hroom
    cases A with
    | none =>
      obtain ⟨rfl, rfl⟩ := hnil rfl
      clear hnil
      go_enter Try.func10, Try.ntmps10
      go_wp2_with (go_at_call 27; ((with_reducible refine HF.out.mono ?_); rintro e w' ⟨rfl, rfl⟩))
      go_region_law (first
        | (refine step_append_run rfl (.tmp 30) (.tmp 32) 37 rfl _ _ rfl rfl _ _ HR'.out ?_))
      all_goals
        go_wp2
        go_ret
        exact HS.out
    | some a =>
      clear hnil
      go_enter Try.func10, Try.ntmps10
      go_wp2_with (go_at_call 27; ((with_reducible refine HF.out.mono ?_); rintro e w' ⟨rfl, rfl⟩))
      go_region_law (first
        | (refine step_append_run rfl (.tmp 30) (.tmp 32) 37 rfl _ _ rfl rfl _ _ HR'.out ?_))
      all_goals
        go_wp2
        go_ret
        exact HS.out
end
end Go.Proofs.Ythgcedhplbhiiaa
