/- The document's own latches: one is taken; so many are made. -/
import Derived.Test.YtmaiogaeibmpnaaP1
namespace Go.Proofs.Ytmaiogaeibmpnaa
open Go Go.RowKit

section
variable {W W' : World} {bx gx N c : Nat} {wh : Nat → Int}
set_option maxHeartbeats 2000000 in
theorem Rf.take (h : Rf W bx gx N c wh) (who i : Int) : Calls Try.prog 10 #[wp bx, .int .i64 who, .int .i64 i] W (RDid W bx gx N c (takeE N wh who i) (takeW N wh who i)) := by
  have q0 := h.c0
  have hnb := h.nb
  have hnc := h.nc
  have H := Lib.hid h
  cases hm : mayB N who i
  · have e : takeE N wh who i = 1 := by unfold takeE; rw [if_pos hm]
    have e2 : takeW N wh who i = wh := by unfold takeW; rw [e]; rfl
    rw [e, e2]
    clear h e e2
    rcases may_no hm with h1 | ⟨h1, h2⟩ | ⟨h1, h2, h3⟩
    · have d0 : decide (who < 0) = true := by simpa using h1
      clear hm
      go_enter Try.func10, Try.ntmps10
      go_wp2
      go_ret
      exact ⟨rfl, H.out, OnlyS.refl _ _⟩
    · have d0 : decide (who < 0) = false := by simpa using h1
      have d1 : decide (i < 0) = true := by simpa using h2
      clear hm
      go_enter Try.func10, Try.ntmps10
      go_wp2
      go_ret
      exact ⟨rfl, H.out, OnlyS.refl _ _⟩
    · have d0 : decide (who < 0) = false := by simpa using h1
      have d1 : decide (i < 0) = false := by simpa using h2
      have d2 : decide ((N : Int) ≤ i) = true := by simpa using h3
      clear hm
      go_enter Try.func10, Try.ntmps10
      go_wp2
      go_ret
      exact ⟨rfl, H.out, OnlyS.refl _ _⟩
  · obtain ⟨hw, k, rfl, hk⟩ := may_yes hm
    have d0 : decide (who < 0) = false := by simpa using hw
    have d2 : decide ((N : Int) ≤ (k : Int)) = false := by simp; omega
    have q1 := h.r k hk
    have HEa := Lib.hid (show takeE N wh who (k : Int) = if wh k = who then 3 else if rankB N wh who k = true then 30 else if 0 ≤ wh k then 31 else 0 by unfold takeE; rw [if_neg (by rw [hm]; simp), Int.toNat_natCast])
    have HWa := Lib.hid (show takeW N wh who (k : Int) = if takeE N wh who (k : Int) = 0 then upd wh k who else wh by unfold takeW; rw [Int.toNat_natCast])
    generalize takeE N wh who (k : Int) = E at *
    generalize takeW N wh who (k : Int) = WH at *
    clear hm
    by_cases hx : wh k = who
    · obtain rfl : 3 = E := by rw [HEa.out, if_pos hx]
      obtain rfl : wh = WH := by rw [HWa.out]; rfl
      rw [hx] at q1
      clear h hx HEa HWa
      go_enter Try.func10, Try.ntmps10
      go_wp2
      go_ret
      exact ⟨rfl, H.out, OnlyS.refl _ _⟩
    · rw [if_neg hx] at HEa
      have HH := Lib.hid (h.held who)
      have hlen : (heldL N wh who).length ≤ N := fitL_len _ _
      obtain ⟨m, hmm⟩ : ∃ m, (heldL N wh who).length = m := ⟨_, rfl⟩
      have HM := Lib.hid hmm
      rw [hmm] at hlen
      have hxb : (wh k == who) = false := by simpa using hx
      obtain ⟨x, hxe⟩ : ∃ x, wh k = x := ⟨_, rfl⟩
      have HX := Lib.hid hxe
      rw [hxe] at q1 hxb HEa
      clear h hx hmm hxe
      go_enter Try.func10, Try.ntmps10
      go_wp2_with fail
      refine HH.out.mono ?_
      rintro e w1 ⟨A, c1, rfl, hd, hb⟩
      rw [HM.out]
      have H1 := Lib.hid (H.out.below hb)
      have HB := Lib.hid hb
      have HD := Lib.hid hd
      have q0 := H1.out.c0
      have q1 := H1.out.r k hk
      have f1 := H1.out.fz k
      rw [HX.out] at q1
      clear HH H hd hb
      go_wp2_with fail
      go_loopw [37] (fun t wr => ∃ y : Nat, y ≤ m ∧ t = .int .i64 y ∧ (∀ z ∈ (heldL N wh who).take y, ¬ k < z) ∧ w1 = wr) (fun t _ => m - (intOf t).toNat)
      case atStart => exact ⟨0, by omega, rfl, by simp, rfl⟩
      case round =>
        obtain ⟨y, hy, rfl, hn, rfl⟩ := hrel
        have HN := Lib.hid hn
        clear hn
        by_cases hym : y < m
        · have hyl : y < (heldL N wh who).length := by rw [HM.out]; exact hym
          obtain ⟨g2, rfl, q3⟩ := HD.out.cell hyl
          by_cases hlt : k < (heldL N wh who)[y]
          · have hr : rankB N wh who k = true := by unfold rankB; rw [List.any_eq_true]; exact ⟨_, List.getElem_mem hyl, by simpa using hlt⟩
            obtain rfl : 30 = E := by rw [HEa.out, if_pos hr]
            obtain rfl : wh = WH := by rw [HWa.out]; rfl
            generalize (heldL N wh who)[y] = v at *
            clear hr HEa HWa HN hyl
            go_wp2
            go_ret
            exact ⟨rfl, H1.out, OnlyS.of_below HB.out⟩
          · have HN2 := Lib.hid (show ∀ z ∈ (heldL N wh who).take (y + 1), ¬ k < z from fun z hz => by
              rw [List.take_succ_eq_append_getElem hyl] at hz
              rcases List.mem_append.1 hz with hz | hz
              · exact HN.out z hz
              · rw [List.mem_singleton.1 hz]; exact hlt)
            generalize (heldL N wh who)[y] = v at *
            clear hyl HN HEa HWa
            go_wp2
            go_roundw
            case rel => exact ⟨y + 1, by omega, by go_num, HN2.out, trivial⟩
            case measure => simp [intOf]; omega
        · obtain rfl : y = m := by omega
          have hr : ¬ rankB N wh who k = true := by
            unfold rankB
            rw [List.any_eq_true]
            rintro ⟨z, hz, hlt⟩
            exact HN.out z (by rw [List.take_of_length_le (by rw [HM.out]; exact Nat.le_refl _)]; exact hz) (by simpa using hlt)
          rw [if_neg hr] at HEa
          clear hr HN
          by_cases h0 : 0 ≤ x
          · obtain rfl : 31 = E := by rw [HEa.out, if_pos h0]
            obtain rfl : wh = WH := by rw [HWa.out]; rfl
            have h0b : decide (0 ≤ x) = true := by simpa using h0
            clear HEa HWa
            go_wp2
            go_ret
            exact ⟨rfl, H1.out, OnlyS.of_below HB.out⟩
          · obtain rfl : 0 = E := by rw [HEa.out, if_neg h0]
            rw [if_pos rfl] at HWa
            have h0b : decide (0 ≤ x) = false := by simpa using h0
            have HE := Lib.hid (H1.out.set k who)
            have HO := Lib.hid ((OnlyS.of_below (S := (· = gx)) HB.out).setIn gx k (.int .i64 who) (.inl rfl))
            clear HEa
            go_wp2
            go_ret
            exact ⟨rfl, by rw [HWa.out]; exact HE.out, HO.out⟩
end
/-- latches that are being made -/
structure Bld (W W1 : World) (bx k : Nat) : Prop where
  v : ∃ v, W1.cell? ⟨bx, 0, none⟩ = some v ∧ W1.ownsRow (bx + 1) 3 1 v k (List.replicate k (.int .i64 (-1)))
  fz : W1.frozen? ⟨bx, 0, none⟩ = false
  bel : Below W.heap.size W W1
  hb : W.heap.size ≤ bx
theorem Bld.put {W w1 w5 : World} {bx k g' cap : Nat} {v : Value} {o : Obj} (h : Bld W w1 bx k) (hv : w1.cell? ⟨bx, 0, none⟩ = some v) (hr : w1.ownsRow (bx + 1) 3 1 v k (List.replicate k (.int .i64 (-1))))
    (hown : w5.ownsRow (bx + 1) 3 1 (.slice (some ⟨g', 0, none⟩) (k + 1) cap) (k + 1) (List.replicate k (.int .i64 (-1)) ++ [.int .i64 (-1)])) (hgrow : (w1.alloc o).grownBy w5 v.ownBlock) :
    (w5.cell? ⟨bx, 0, none⟩ = some v ∧ w5.frozen? ⟨bx, 0, none⟩ = false) ∧ Bld W (w5.setCell ⟨bx, 0, none⟩ (.slice (some ⟨g', 0, none⟩) (k + 1) cap)) bx (k + 1) := by
  have ho : OnlyS (fun j => bx < j) w1 w5 := OnlyS.grown (w1 := w1.alloc o) (OnlyS.of_below (box_below _ _)) hgrow (fun j hj => .inl (by have := (hr.lt j hj).1; omega))
  have e1 : w5.heap[bx]? = w1.heap[bx]? := ho.block bx (cell_lt hv) (by omega)
  have c1 := World.cell?_of_block (w := w1) (a := ⟨bx, 0, none⟩) e1
  have f1 := World.frozen?_of_block (w := w1) (a := ⟨bx, 0, none⟩) e1
  have ho2 : OnlyS (fun j => bx ≤ j) w1 (w5.setCell ⟨bx, 0, none⟩ (.slice (some ⟨g', 0, none⟩) (k + 1) cap)) := (ho.mono (fun j _ (hj : bx < j) => Nat.le_of_lt hj)).setIn bx 0 _ (.inl (Nat.le_refl _))
  refine ⟨⟨c1.trans hv, f1.trans h.fz⟩, ⟨_, cell_near (c1.trans hv), ?_⟩, by rw [World.frozen?_setCell]; exact f1.trans h.fz, h.bel.trans (ho2.below (fun j (hj : bx ≤ j) => Nat.le_trans h.hb hj) h.bel.size), h.hb⟩
  rw [List.replicate_succ']
  refine row_keep hown fun j hj => ?_
  have := (hown.lt j hj).1
  exact set_other (by omega)
theorem cells_int (W : World) (x : Int) : ∀ j u, ([.int .i64 x] : List Value)[j]? = some u → (W.alloc (.cells #[.int .i64 x] 3)).cell? ((⟨W.heap.size, 0, none⟩ : Addr).add j) = some u := by
  intro j u hj
  rw [add_at]
  match j, hj with
  | 0, hj => simp at hj; subst hj; simp [go_sem]
def RNew (W : World) (N : Nat) (e : Ending) (w' : World) : Prop := ∃ bx gx c, e = .returned (wp bx) ∧ Rf w' bx gx N c (fun _ => -1) ∧ Below W.heap.size W w' ∧ W.heap.size ≤ bx ∧ W.heap.size ≤ gx
theorem Bld.rf {W w1 : World} {bx N : Nat} (h : Bld W w1 bx N) (h1 : 1 ≤ N) (h2 : N ≤ 64) : ∃ gx c, Rf w1 bx gx N c (fun _ => -1) ∧ W.heap.size ≤ gx := by
  obtain ⟨v, q0, hr⟩ := h.v
  rcases hr.2 with ⟨-, h0⟩ | ⟨g', cap', cur, rfl, hb, hg, k1, k2, k3, k4⟩
  · omega
  · have hbb := h.hb
    refine ⟨g', cap', ⟨q0, fun k hk => ?_, fun o => frozen_of_row _ _ _ _ _ hg, (Array.getElem?_eq_some_iff.1 hg).1, by omega, by omega, h2⟩, by omega⟩
    have e1 : (List.replicate N (Value.int .i64 (-1)))[k]? = some (.int .i64 (-1)) := by simp [hk]
    have := hr.cells (g := g') rfl k _ e1
    rwa [add_at] at this
set_option maxHeartbeats 1000000 in
theorem rnew_any (n : Int) (W : World) : Calls Try.prog 8 #[.int .i64 n] W (RNew W (cl n)) := by
  have H0 := Lib.hid (show Bld W (W.alloc (.cells #[.slice none 0 0] 35)) W.heap.size 0 from ⟨⟨_, by simp [go_sem], World.ownsRow_nil _ _ _ _⟩, by simp [go_sem], box_below _ _, Nat.le_refl _⟩)
  have h1 := (cl_le n).1
  have h2 := (cl_le n).2
  have HN := Lib.hid (show ∀ k : Nat, k < cl n → (k = 0 ∨ (k ≠ 0 ∧ (k : Int) < n ∧ (k : Int) < 64)) from fun k hk => by unfold cl at hk; split at hk <;> (try split at hk) <;> omega)
  have HZ := Lib.hid (show (cl n : Int) < n → ¬ (cl n : Int) < 64 from by unfold cl; split <;> (try split) <;> omega)
  generalize cl n = N at *
  go_enter Try.func8, Try.ntmps8
  go_wp2
  obtain ⟨bx, hbx⟩ : ∃ bx, W.heap.size = bx := ⟨_, rfl⟩
  rw [hbx] at H0 ⊢
  have HX := Lib.hid hbx
  clear hbx
  generalize W.alloc (.cells #[.slice none 0 0] 35) = W1 at H0 ⊢
  go_loopw [4] (fun t wr => ∃ k : Nat, k ≤ N ∧ t = .int .i64 k ∧ Bld W wr bx k) (fun t _ => N - (intOf t).toNat)
  case atStart => exact ⟨0, by omega, rfl, H0.out⟩
  case round =>
    obtain ⟨k, hk, rfl, hf⟩ := hrel
    have F := Lib.hid hf
    clear hf H0
    by_cases hlt : k < N
    · obtain ⟨v, q0, hr⟩ := F.out.v
      obtain ⟨A, c1, rfl, -⟩ := row_slice hr
      have f0 := F.out.fz
      have HR := Lib.hid hr
      have hlb := cell_lt q0
      have hlb2 : bx < wr.heap.size := hlb
      obtain ⟨i0, hi, hz0, hz1, hz2⟩ := info_parts info3
      rcases HN.out k hlt with rfl | ⟨h3, h4, h5⟩
      · clear hr hlb HN HZ
        go_wp2_with (at_builtin; refine wpList_append_lies _ rfl _ _ 33 rfl (bx + 1) 3 i0 (.int .i64 0) 1 8 Try.underlying33 hi hz0 hz1 hz2 rfl (by decide) (.slice A 0 c1) 0 (List.replicate 0 (.int .i64 (-1))) rfl ?a0 ⟨wr.heap.size, 0, none⟩ 1 1 [.int .i64 (-1)] rfl rfl (cells_int wr (-1)) (one_nat _) (by decide) (by unfold maxLen; omega) (by omega) ?a2 (wr.heap.size + 1) (by simp) ?_)
        case a0 => exact HR.out.alloc _
        case a2 => simp; omega
        intro g' cap w5 hown hgrow hgo hglt
        obtain ⟨⟨r1, r2⟩, hE⟩ := F.out.put q0 HR.out hown hgrow
        have HE := Lib.hid hE
        clear hown hgrow hgo hglt hE q0 f0 hi hz0 hz1 hz2 F HR
        go_wp2
        go_roundw
        case rel => exact ⟨0 + 1, by omega, by go_num, HE.out⟩
        case measure => simp [intOf]; omega
      · have hk0 : ((k : Int) == 0) = false := by simp; omega
        have d1 : decide ((k : Int) < n) = true := by simpa using h4
        have d2 : decide ((k : Int) < 64) = true := by simpa using h5
        clear hr hlb HN HZ h3 h4
        go_wp2_with (at_builtin; refine wpList_append_lies _ rfl _ _ 33 rfl (bx + 1) 3 i0 (.int .i64 0) 1 8 Try.underlying33 hi hz0 hz1 hz2 rfl (by decide) (.slice A k c1) k (List.replicate k (.int .i64 (-1))) rfl ?a0 ⟨wr.heap.size, 0, none⟩ 1 1 [.int .i64 (-1)] rfl rfl (cells_int wr (-1)) (one_nat _) (by decide) (by unfold maxLen; omega) (by omega) ?a2 (wr.heap.size + 1) (by simp) ?_)
        case a0 => exact HR.out.alloc _
        case a2 => simp; omega
        intro g' cap w5 hown hgrow hgo hglt
        obtain ⟨⟨r1, r2⟩, hE⟩ := F.out.put q0 HR.out hown hgrow
        have HE := Lib.hid hE
        clear hown hgrow hgo hglt hE q0 f0 hi hz0 hz1 hz2 F HR
        go_wp2
        go_roundw
        case rel => exact ⟨k + 1, by omega, by go_num, HE.out⟩
        case measure => simp [intOf]; omega
    · obtain rfl : k = N := by omega
      have hk0 : ((k : Int) == 0) = false := by simp; omega
      obtain ⟨gx, c1, hrf, hge⟩ := F.out.rf h1 h2
      have HRf := Lib.hid hrf
      have HB := Lib.hid F.out.bel
      have HG := Lib.hid hge
      clear hrf hge
      by_cases h3 : (k : Int) < n
      · have h4 := HZ.out h3
        have d1 : decide ((k : Int) < n) = true := by simpa using h3
        have d2 : decide ((k : Int) < 64) = false := by simpa using h4
        clear h3 h4 F HN HZ
        go_wp2
        go_ret
        exact ⟨bx, gx, c1, rfl, HRf.out, HB.out, by rw [HX.out]; exact Nat.le_refl _, HG.out⟩
      · have d1 : decide ((k : Int) < n) = false := by simpa using h3
        clear h3 F HN HZ
        go_wp2
        go_ret
        exact ⟨bx, gx, c1, rfl, HRf.out, HB.out, by rw [HX.out]; exact Nat.le_refl _, HG.out⟩
end Go.Proofs.Ytmaiogaeibmpnaa
