/- The document's own latches in memory: one's; what is taken and given; so many are made. -/
import Derived.Test.YtmaiogaeibmpnaaM1
namespace Go.Proofs.Ytmaiogaeibmpnaa
open Go Go.RowKit

/-- the document's latches lie in a block -/
structure Rf (W : World) (bx gx N c : Nat) (wh : Nat → Int) : Prop where
  c0 : W.cell? ⟨bx, 0, none⟩ = some (.slice (some ⟨gx, 0, none⟩) N c)
  r : ∀ k, k < N → W.cell? ⟨gx, k, none⟩ = some (.int .i64 (wh k))
  fz : ∀ o, W.frozen? ⟨gx, o, none⟩ = false
  gl : gx < W.heap.size
  ne : bx ≠ gx
  nc : N ≤ c
  nb : N ≤ 64
theorem fit_ref (y x : Int) : fit true y x = (x == y && decide (0 ≤ y)) := by
  rw [Bool.eq_iff_iff, fit_yes, Bool.and_eq_true, decide_eq_true_iff, beq_iff_eq]
  omega
section
variable {W W' : World} {bx gx N c : Nat} {wh : Nat → Int}
theorem Rf.lt (h : Rf W bx gx N c wh) : bx < W.heap.size := cell_lt h.c0
theorem Rf.keep (h : Rf W bx gx N c wh) (hs : W.heap.size ≤ W'.heap.size) (hb : W'.heap[bx]? = W.heap[bx]?) (hg : W'.heap[gx]? = W.heap[gx]?) : Rf W' bx gx N c wh :=
  ⟨(World.cell?_of_block (w := W) (a := ⟨bx, 0, none⟩) hb).trans h.c0, fun k hk => (World.cell?_of_block (w := W) (a := ⟨gx, k, none⟩) hg).trans (h.r k hk), fun o => (World.frozen?_of_block (w := W) (a := ⟨gx, o, none⟩) hg).trans (h.fz o), Nat.lt_of_lt_of_le h.gl hs, h.ne, h.nc, h.nb⟩
theorem Rf.only {T : Nat → Prop} (h : Rf W bx gx N c wh) (ho : OnlyS T W W') (h1 : ¬ T bx) (h2 : ¬ T gx) : Rf W' bx gx N c wh :=
  h.keep ho.size (ho.block bx h.lt h1) (ho.block gx h.gl h2)
theorem Rf.below (h : Rf W bx gx N c wh) (hb : Below W.heap.size W W') : Rf W' bx gx N c wh :=
  h.keep hb.size (hb.block bx h.lt) (hb.block gx h.gl)
theorem Rf.set (h : Rf W bx gx N c wh) (i : Nat) (x : Int) : Rf (W.setCell ⟨gx, i, none⟩ (.int .i64 x)) bx gx N c (upd wh i x) := by
  refine ⟨?_, fun k hk => ?_, fun o => by rw [World.frozen?_setCell]; exact h.fz o, by simpa [World.setCell] using h.gl, h.ne, h.nc, h.nb⟩
  · rw [World.cell?_of_block (w := W) (a := ⟨bx, 0, none⟩) (set_other h.ne)]; exact h.c0
  · by_cases e : k = i
    · subst e; rw [upd_same]; exact cell_near (h.r k hk)
    · rw [upd_other e, cell_far e]; exact h.r k hk
set_option maxHeartbeats 1000000 in
theorem Rf.held (h : Rf W bx gx N c wh) (who : Int) : Calls Try.prog 16 #[wp bx, .int .i64 who] W (Lists W (heldL N wh who)) := by
  have q0 := h.c0
  have hnb := h.nb
  have hnc := h.nc
  have H := Lib.hid h
  clear h
  unfold heldL
  go_enter Try.func16, Try.ntmps16
  go_wp2
  go_loopw [13, 5] (fun t v wr => ∃ k : Nat, k ≤ N ∧ t = .int .i64 k ∧ Fnd W (fun k => fit true who (wh k)) k v wr) (fun t _ _ => N - (intOf t).toNat)
  case atStart => exact ⟨0, by omega, rfl, World.ownsRow_nil _ _ _ _, Below.refl _ _⟩
  case round =>
    obtain ⟨k, hk, rfl, hf⟩ := hrel
    obtain ⟨A, c1, hv, -⟩ := row_slice hf.row
    have hm1 := fitL_len (fun k => fit true who (wh k)) k
    obtain ⟨m, hm⟩ : ∃ m, (fitL (fun k => fit true who (wh k)) k).length = m := ⟨_, rfl⟩
    have HM := Lib.hid hm
    rw [hm] at hv hm1
    subst hv
    have F := Lib.hid hf
    clear hf hm
    by_cases hlt : k < N
    · have q1 := (H.out.below F.out.bel).r k hlt
      have HF := Lib.hid (fit_ref who (wh k))
      obtain ⟨x, hx⟩ : ∃ x, wh k = x := ⟨_, rfl⟩
      have HX := Lib.hid hx
      rw [hx] at q1 HF
      clear hx
      by_cases hxw : x = who
      · have d0 : (x == who) = true := by simpa using hxw
        rw [d0] at HF
        by_cases hw : 0 ≤ who
        · have d1 : decide (0 ≤ who) = true := by simpa using hw
          rw [d1] at HF
          have HP := Lib.hid (show fit true who (wh k) = true by rw [HX.out, HF.out]; rfl)
          obtain ⟨i0, hi, hz0, hz1, hz2⟩ := info_parts info3
          have hs2 := F.out.bel.size
          clear HF hxw
          go_wp2_with (at_builtin; refine wpList_append_lies _ rfl _ _ 33 rfl W.heap.size 3 i0 (.int .i64 0) 1 8 Try.underlying33 hi hz0 hz1 hz2 rfl (by decide) (.slice A m c1) m (nats (fitL (fun k => fit true who (wh k)) k)) rfl ?a0 ⟨wr.heap.size, 0, none⟩ 1 1 [.int .i64 (k : Int)] rfl rfl (cells_nat wr k) (one_nat _) (by decide) (by unfold maxLen; omega) (by omega) ?a2 (wr.heap.size + 1) (by simp) ?_)
          case a0 => have := F.out.row; rw [HM.out] at this; exact this.alloc _
          case a2 => simp; omega
          intro g' cap w5 hown hgrow hgo hglt
          have F3 := Lib.hid (F.out.yes HP.out HM.out hown hgrow)
          clear hown hgrow hgo hglt F hi hz0 hz1 hz2
          go_wp2
          go_roundw
          case rel => exact ⟨k + 1, by omega, by go_num, F3.out⟩
          case measure => simp [intOf]; omega
        · have d1 : decide (0 ≤ who) = false := by simpa using hw
          rw [d1] at HF
          have F2 := Lib.hid (F.out.no (by show fit true who (wh k) = false; rw [HX.out, HF.out]; rfl))
          clear F HF hxw
          go_wp2
          go_roundw
          case rel => exact ⟨k + 1, by omega, by go_num, F2.out⟩
          case measure => simp [intOf]; omega
      · have d0 : (x == who) = false := by simpa using hxw
        rw [d0] at HF
        have F2 := Lib.hid (F.out.no (by show fit true who (wh k) = false; rw [HX.out, HF.out]; rfl))
        clear F HF hxw
        go_wp2
        go_roundw
        case rel => exact ⟨k + 1, by omega, by go_num, F2.out⟩
        case measure => simp [intOf]; omega
    · obtain rfl : k = N := by omega
      have hr := F.out.row
      rw [HM.out] at hr
      obtain ⟨A', c', hv, hd⟩ := Rd.of_row hr HM.out
      cases hv
      have HD := Lib.hid hd
      have HB := Lib.hid F.out.bel
      clear hr hd F
      go_wp2
      go_ret
      exact ⟨A, c1, by rw [HM.out]; rfl, HD.out, HB.out⟩
/-- what a call leaves -/
def RDid (W : World) (bx gx N c : Nat) (x : Int) (wh : Nat → Int) (e : Ending) (w' : World) : Prop := e = .returned (.int .i64 x) ∧ Rf w' bx gx N c wh ∧ OnlyS (· = gx) W w'
theorem may_no {N : Nat} {who i : Int} (h : mayB N who i = false) : who < 0 ∨ 0 ≤ who ∧ i < 0 ∨ 0 ≤ who ∧ 0 ≤ i ∧ (N : Int) ≤ i := by
  unfold mayB isB at h
  simp at h
  omega
theorem Rf.give (h : Rf W bx gx N c wh) (who i : Int) : Calls Try.prog 12 #[wp bx, .int .i64 who, .int .i64 i] W (RDid W bx gx N c (giveE N wh who i) (giveW N wh who i)) := by
  have q0 := h.c0
  have hnb := h.nb
  have hnc := h.nc
  have H := Lib.hid h
  cases hm : mayB N who i
  · have e : giveE N wh who i = 1 := by unfold giveE; rw [if_pos hm]
    have e2 : giveW N wh who i = wh := by unfold giveW; rw [e]; rfl
    rw [e, e2]
    clear h e e2
    rcases may_no hm with h1 | ⟨h1, h2⟩ | ⟨h1, h2, h3⟩
    · have d0 : decide (who < 0) = true := by simpa using h1
      clear hm
      go_enter Try.func12, Try.ntmps12
      go_wp2
      go_ret
      exact ⟨rfl, H.out, OnlyS.refl _ _⟩
    · have d0 : decide (who < 0) = false := by simpa using h1
      have d1 : decide (i < 0) = true := by simpa using h2
      clear hm
      go_enter Try.func12, Try.ntmps12
      go_wp2
      go_ret
      exact ⟨rfl, H.out, OnlyS.refl _ _⟩
    · have d0 : decide (who < 0) = false := by simpa using h1
      have d1 : decide (i < 0) = false := by simpa using h2
      have d2 : decide ((N : Int) ≤ i) = true := by simpa using h3
      clear hm
      go_enter Try.func12, Try.ntmps12
      go_wp2
      go_ret
      exact ⟨rfl, H.out, OnlyS.refl _ _⟩
  · obtain ⟨hw, k, rfl, hk⟩ := may_yes hm
    have d0 : decide (who < 0) = false := by simpa using hw
    have d2 : decide ((N : Int) ≤ (k : Int)) = false := by simp; omega
    have q1 := h.r k hk
    have f1 := h.fz k
    clear hm
    by_cases hx : wh k = who
    · obtain ⟨e1, e2⟩ := give_yes hk hw hx
      rw [e1, e2]
      have HE := Lib.hid (h.set k (-1))
      rw [hx] at q1
      clear h hx e1 e2
      go_enter Try.func12, Try.ntmps12
      go_wp2
      go_ret
      exact ⟨rfl, HE.out, OnlyS.set _ _ _ _⟩
    · obtain ⟨e1, e2⟩ := give_no hk hw hx
      rw [e1, e2]
      have hxb : (wh k != who) = true := by simpa using hx
      clear h e1 e2 hx
      generalize wh k = x at q1 hxb
      go_enter Try.func12, Try.ntmps12
      go_wp2
      go_ret
      exact ⟨rfl, H.out, OnlyS.refl _ _⟩
end
end Go.Proofs.Ytmaiogaeibmpnaa
