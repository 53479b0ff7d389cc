/- The walk of the law that those that wait without converting are granted in the order in which they came. -/
import Derived.Test.YteaibamkfccplaaDoorM4
namespace Go.Proofs.YteaibamkfccplaaDoor
open Go Go.RowKit Go.Shelf
set_option maxRecDepth 100000

/-- a queue behind some Asks -/
structure Nv (w W : World) (b : Nat) (H : List Hs.Hd) (L : List Ws.Wt) (n : Nat) : Prop where
  one : One w W b H L
  inv : Inv H L
  len : H.length + L.length ≤ n
section
variable {w W W' : World} {b n : Nat} {H : List Hs.Hd} {L : List Ws.Wt}
theorem Nv.below (h : Nv w W b H L n) (hb : Below W.heap.size W W') : Nv w W' b H L n := ⟨h.one.below hb, h.inv, h.len⟩
theorem Nv.ask (h : Nv w W b H L n) (ht : TabG w) (hn : n ≤ 400) (tx m fl : Int) :
    Calls Tryd.prog 18 #[qp b, .int .i64 tx, .int .i64 m, .int .i64 fl] W fun e w' => ∃ x y H' L', e = .returned (.tuple #[.int .i64 x, .int .i64 y]) ∧ Nv w w' b H' L' (n + 1) := by
  have h4 := h.len
  refine (h.one.ask ht (by omega) tx m fl).mono ?_
  rintro e w' ⟨rfl, ho⟩
  exact ⟨_, _, _, _, rfl, ho, h.inv.ask tx m fl, by have := ask_len tx m fl H L; omega⟩
theorem Nv.release (h : Nv w W b H L n) (ht : TabG w) (hn : n ≤ 400) (tx : Int) :
    Calls Tryd.prog 12 #[qp b, .int .i64 tx] W fun e w' => ∃ A c, e = .returned (.tuple #[.slice A (rel tx H L).told.length c, .int .i64 (rel tx H L).err]) ∧ Ws.Ls w' A c (rel tx H L).told ∧ Nv w w' b (rel tx H L).hs (rel tx H L).ws n ∧
      ∀ A c zs, Ni W A c zs → Ni w' A c zs := by
  have h4 := h.len
  obtain ⟨A1, c1, A2, c2, hq⟩ := h.one.q
  refine (release_any (ht.later h.one.bel) hq (by omega) h.inv.once tx).mono ?_
  rintro e w' ⟨A, c, rfl, hls, hl⟩
  exact ⟨A, c, rfl, hls, ⟨h.one.left hl, h.inv.rel tx, by have := rel_len tx H L; omega⟩, fun A c zs hz => hz.off (fun k x => hq.noint k x) hl.2⟩
theorem told_len (h : Nv w W b H L n) {tx : Int} (hf : Ws.fndI tx L < 0) : (rel tx H L).told.length ≤ n := by
  have h4 := h.len
  have := congrArg List.length (rel_split (H := H) hf)
  rw [List.length_append] at this
  omega
end
theorem turn_long (A : Option Addr) (n c : Nat) (A2 : Option Addr) (n2 k2 : Nat) (w : World) (ht : TabG w) (hm : n ≤ maxLen) (hm2 : n2 ≤ maxLen) (h : 40 < n ∨ 60 < n2) :
    Calls Tryd.prog 5 #[.slice A n c, .slice A2 n2 k2] w fun e w' => e = .returned (.bool true) ∧ Below w.heap.size w w' := by
  unfold maxLen at hm hm2
  have HA := Lib.hid (awake_any w ht)
  clear ht
  by_cases h1 : 40 < n
  · have q1 : (40 : Int) < (n : Int) := by omega
    have q1' : decide ((40 : Int) < (n : Int)) = true := by simp; omega
    clear h h1
    go_enter Tryd.func5, Tryd.ntmps5
    go_wp2_with fail
    refine HA.out.mono ?_
    rintro e w1 ⟨rfl, hb1⟩
    go_wp2_with fail
    go_ret
    exact ⟨rfl, hb1⟩
  · have q1 : ¬ (40 : Int) < (n : Int) := by omega
    have q1' : decide ((40 : Int) < (n : Int)) = false := by simp; omega
    have q2 : (60 : Int) < (n2 : Int) := by omega
    have q2' : decide ((60 : Int) < (n2 : Int)) = true := by simp; omega
    clear h h1
    go_enter Tryd.func5, Tryd.ntmps5
    go_wp2_with fail
    refine HA.out.mono ?_
    rintro e w1 ⟨rfl, hb1⟩
    go_wp2_with fail
    go_ret
    exact ⟨rfl, hb1⟩
set_option maxHeartbeats 8000000 in
theorem turn_short (A : Option Addr) (n c : Nat) (d : Nat → Dd) (A2 : Option Addr) (n2 k2 : Nat) (w : World) (ht : TabG w) (h1 : ¬ 40 < n) (h2 : ¬ 60 < n2) (hd : InD w A n d) (hi : InI w A2 n2) :
    Calls Tryd.prog 5 #[.slice A n c, .slice A2 n2 k2] w fun e w' => e = .returned (.bool true) ∧ Below w.heap.size w w' := by
  have HA := Lib.hid (awake_any w ht)
  have HT := Lib.hid ht
  have I := Lib.hid hi
  have D := Lib.hid hd
  have q1 : ¬ (40 : Int) < (n : Int) := by omega
  have q1' : decide ((40 : Int) < (n : Int)) = false := by simp; omega
  have q2 : ¬ (60 : Int) < (n2 : Int) := by omega
  have q2' : decide ((60 : Int) < (n2 : Int)) = false := by simp; omega
  clear ht hi hd
  go_enter Tryd.func5, Tryd.ntmps5
  go_wp2_with fail
  refine HA.out.mono ?_
  rintro e w1 ⟨rfl, hb1⟩
  have H0 := Lib.hid (show Nv w (w1.alloc (.cells #[.slice none 0 0, .slice none 0 0] 28)) w1.heap.size [] [] 0 from ⟨One.new w w1 hb1, Inv.nil, Nat.le_refl _⟩)
  have hbb : ∃ b, b = w1.heap.size := ⟨_, rfl⟩
  go_wp2_with fail
  clear hb1 HA
  generalize w1.alloc (.cells #[.slice none 0 0, .slice none 0 0] 28) = w2 at *
  generalize w1.heap.size = b at *
  clear hbb
  go_loopw [31] (fun t wr => ∃ (k : Nat) (H : List Hs.Hd) (L : List Ws.Wt), k ≤ n ∧ t = .int .i64 k ∧ Nv w wr b H L k) (fun t _ => n - (intOf t).toNat)
  case atStart => exact ⟨0, _, _, by omega, rfl, H0.out⟩
  case round =>
    obtain ⟨k, H, L, hk, rfl, ho⟩ := hrel
    have HN := Lib.hid ho
    clear ho H0
    by_cases hlt : k < n
    · obtain ⟨ad, rfl, ⟨e0, e1, e2, e3⟩⟩ := D.out.at HN.out.one.bel hlt
      have HC := Lib.hid ((HN.out.below (box_below wr (.cells #[.int .i64 (d k).k, .int .i64 (d k).t, .int .i64 (d k).m, .int .i64 (d k).f] 36))).ask HT.out (by omega) (d k).t (d k).m (d k).f)
      generalize d k = dj at e0 e1 e2 e3 HC
      obtain ⟨kk, tt, mm, ff⟩ := dj
      simp only at e0 e1 e2 e3 HC
      clear HN
      go_wp2_with fail
      refine HC.out.mono ?_
      rintro e w3 ⟨x3, y3, H', L', rfl, ho3⟩
      have HN3 := Lib.hid ho3
      clear ho3 HC e0 e1 e2 e3
      go_wp2_with fail
      go_roundw
      case rel => exact ⟨k + 1, H', L', by omega, by go_num, HN3.out⟩
      case measure => simp [intOf]; omega
    · obtain rfl : k = n := by omega
      clear hlt D
      have HWa := Lib.hid (HN.out.one.waits (by have := HN.out.len; omega))
      go_wp2_with fail
      refine HWa.out.mono ?_
      rintro e w4 ⟨A4, c4, rfl, hls4, hb4, -⟩
      have HN4 := Lib.hid (HN.out.below hb4)
      have HL4 := Lib.hid hls4
      obtain ⟨nl, hnl⟩ : ∃ nl, L.length = nl := ⟨_, rfl⟩
      have HNl := Lib.hid hnl
      rw [hnl]
      have hnl60 : nl ≤ 40 := by have := HN4.out.len; omega
      clear HWa HN hls4 hb4 hnl
      go_wp2_with fail
      go_loopw [8, 47] (fun v t wr => ∃ j : Nat, j ≤ nl ∧ t = .int .i64 j ∧ Nr wr w4.heap.size v (txs (L.take j)) ∧ Below w4.heap.size w4 wr) (fun _ t _ => nl - (intOf t).toNat)
      case atStart => exact ⟨0, by omega, rfl, World.ownsRow_nil _ _ _ _, Below.refl _ _⟩
      case round =>
        obtain ⟨w5, rfl⟩ : ∃ w5, w5 = wr := ⟨_, rfl⟩
        obtain ⟨j, hj, rfl, hrow, hb⟩ := hrel
        have HB5 := Lib.hid hb
        have HR5 := Lib.hid hrow
        clear hb hrow
        by_cases hjl : j < nl
        · have hjl' : j < L.length := by rw [HNl.out]; exact hjl
          obtain ⟨a, rfl, ⟨s0, s1, s2, s3⟩⟩ := (HL4.out.below HB5.out).here hjl'
          have hY := fun h => txs_snoc_yes hjl' h
          have hZ := fun h => txs_snoc_no hjl' h
          generalize L[j]'hjl' = x at s0 s1 s2 s3 hY hZ
          obtain ⟨xt, xm, cv, ii⟩ := x
          simp only at s0 s1 s2 s3 hY hZ
          have hbx := box_below w5 (.cells #[.int .i64 xt, .int .i64 xm, .bool cv, .bool ii] 60)
          have HB6 := Lib.hid (HB5.out.trans (hbx.mono HB5.out.size))
          have HR6 := Lib.hid (row_below HR5.out hbx)
          clear hjl' hbx
          cases cv
          · have HZ := Lib.hid (hZ rfl)
            have hlen := txs_len (L.take j)
            rw [List.length_take] at hlen
            obtain ⟨v', w7, hrun, hrow7, hb7⟩ := nr_app HR6.out (by omega) HB6.out.size xt 61
            have HR7 := Lib.hid hrow7
            have HB7 := Lib.hid (HB6.out.trans hb7)
            rw [← HZ.out] at HR7
            rw [show (w5.alloc (.cells #[.int .i64 xt, .int .i64 xm, .bool false, .bool ii] 60)).heap.size = w5.heap.size + 1 by simp] at hrun
            clear hY hZ hlen hrow7 hb7 HR5 HR6 HB6
            go_wp2_with (at_builtin; refine Lib.wpList_append_run _ rfl _ _ _ _ rfl _ _ rfl rfl _ _ hrun ?_)
            go_roundw
            case rel => exact ⟨j + 1, by omega, by go_num, HR7.out, HB7.out⟩
            case measure => simp [intOf]; omega
          · have HY := Lib.hid (hY rfl)
            clear hY hZ HR5
            go_wp2_with fail
            go_roundw
            case rel => exact ⟨j + 1, by omega, by go_num, by rw [HY.out]; exact HR6.out, HB6.out⟩
            case measure => simp [intOf]; omega
        · obtain rfl : j = nl := by omega
          clear hjl
          have hrow := HR5.out
          rw [List.take_of_length_le (Nat.le_of_eq HNl.out)] at hrow
          obtain ⟨A5, c5, rfl, hni⟩ := nr_lies hrow
          have HI5 := Lib.hid hni
          have HN5 := Lib.hid (HN4.out.below HB5.out)
          clear hrow hni HR5 HL4 HNl HB5 HN4
          go_wp2_with fail
          go_loopw [8, 62] (fun v t wr => ∃ (i : Nat) (H : List Hs.Hd) (L : List Ws.Wt) (A : Option Addr) (c : Nat), i ≤ n2 ∧ t = .int .i64 i ∧ v = .slice A (txs L).length c ∧ Ni wr A c (txs L) ∧ Nv w wr b H L k) (fun _ t _ => n2 - (intOf t).toNat)
          case atStart => exact ⟨0, H, L, A5, c5, by omega, rfl, rfl, HI5.out, HN5.out⟩
          case round =>
            obtain ⟨w6, rfl⟩ : ∃ w6, w6 = wr := ⟨_, rfl⟩
            clear HI5 HN5
            obtain ⟨i, H, L, A, c, hi, rfl, rfl, hni, hnv⟩ := hrel
            have HI6 := Lib.hid hni
            have HN6 := Lib.hid hnv
            clear hni hnv
            by_cases hin : i < n2
            · obtain ⟨ad, tx, rfl, e0⟩ := I.out.at HN6.out.one.bel hin
              have HWa := Lib.hid (HN6.out.one.waits (by have := HN6.out.len; omega))
              obtain ⟨nt, hnt⟩ : ∃ nt, (txs L).length = nt := ⟨_, rfl⟩
              have HNt := Lib.hid hnt
              rw [hnt]
              clear hnt
              go_wp2_with fail
              refine HWa.out.mono ?_
              rintro e w7 ⟨A7, c7, rfl, hls7, hb7, -⟩
              have HF := Lib.hid (Ws.find_any hls7 (by have := HN6.out.len; omega) tx)
              have HN7 := Lib.hid (HN6.out.below hb7)
              have HI7 := Lib.hid (HI6.out.below hb7)
              obtain ⟨nl, hnl⟩ : ∃ nl, L.length = nl := ⟨_, rfl⟩
              rw [hnl] at HF ⊢
              clear hls7 hb7 hnl HWa HN6 HI6 e0
              go_wp2_with fail
              refine HF.out.mono ?_
              rintro e w8 ⟨rfl, hb8⟩
              have HN8 := Lib.hid (HN7.out.below hb8)
              have HI8 := Lib.hid (HI7.out.below hb8)
              clear hb8 HF HN7 HI7
              by_cases hf : 0 ≤ Ws.fndI tx L
              · go_wp2_with fail
                go_roundw
                case rel => exact ⟨i + 1, H, L, A, c, by omega, by go_num, by rw [HNt.out], HI8.out, HN8.out⟩
                case measure => simp [intOf]; omega
              · have HSp := Lib.hid (rel_split (H := H) (show Ws.fndI tx L < 0 by omega))
                have HC := Lib.hid (HN8.out.release HT.out (by omega) tx)
                have htl := told_len HN8.out (show Ws.fndI tx L < 0 by omega)
                go_wp2_with fail
                refine HC.out.mono ?_
                rintro e w9 ⟨A9, c9, rfl, hls9, hn9, hk9⟩
                have HI9 := Lib.hid (hk9 _ _ _ HI8.out)
                have HL9 := Lib.hid hls9
                have HN9 := Lib.hid hn9
                clear hls9 hn9 hk9 HI8 HN8 HC hf
                generalize (rel tx H L).told = T at *
                generalize (rel tx H L).ws = L9 at *
                generalize (rel tx H L).hs = H9 at *
                generalize (rel tx H L).err = E9 at *
                obtain ⟨m, hm⟩ : ∃ m, T.length = m := ⟨_, rfl⟩
                have HM := Lib.hid hm
                rw [hm] at htl ⊢
                clear hm
                go_wp2_with fail
                go_loopw [8, 79] (fun v t wr => ∃ (j : Nat) (A : Option Addr) (c : Nat), j ≤ m ∧ t = .int .i64 j ∧ v = .slice A (txs (T.drop j ++ L9)).length c ∧ Ni wr A c (txs (T.drop j ++ L9)) ∧ Below w9.heap.size w9 wr) (fun _ t _ => m - (intOf t).toNat)
                case atStart => exact ⟨0, A, c, by omega, rfl, by rw [List.drop_zero, ← HSp.out, HNt.out], by rw [List.drop_zero, ← HSp.out]; exact HI9.out, Below.refl _ _⟩
                case round =>
                  obtain ⟨w10, rfl⟩ : ∃ w10, w10 = wr := ⟨_, rfl⟩
                  clear HI9
                  obtain ⟨j, A, c, hj, rfl, rfl, hni, hb⟩ := hrel
                  have HI10 := Lib.hid hni
                  have HB10 := Lib.hid hb
                  clear hni hb
                  by_cases hjm : j < m
                  · have hjl : j < T.length := by rw [HM.out]; exact hjm
                    obtain ⟨a, rfl, ⟨s0, s1, s2, s3⟩⟩ := (HL9.out.below HB10.out).here hjl
                    have hdr := List.drop_eq_getElem_cons hjl
                    generalize T[j]'hjl = x at s0 s1 s2 s3 hdr
                    obtain ⟨xt, xm, cv, ii⟩ := x
                    simp only at s0 s1 s2 s3 hdr
                    have hbx := box_below w10 (.cells #[.int .i64 xt, .int .i64 xm, .bool cv, .bool ii] 60)
                    have HB11 := Lib.hid (HB10.out.trans (hbx.mono HB10.out.size))
                    have HI11 := Lib.hid (HI10.out.below hbx)
                    rw [hdr, List.cons_append] at HI11 ⊢
                    clear hjl hbx hdr HI10
                    cases cv
                    · rw [txs_no rfl] at HI11 ⊢
                      simp only at HI11
                      simp only [List.length_cons]
                      have b0 := (Bx.new w10 xt xm false ii).b0
                      simp only at b0
                      obtain ⟨g, off, rfl, l0⟩ := HI11.out.head
                      have hlenb : (txs (T.drop (j + 1) ++ L9)).length ≤ 400 := by
                        have h1 := txs_len (T.drop (j + 1) ++ L9)
                        rw [List.length_append, List.length_drop, HM.out] at h1
                        have := HN9.out.len
                        omega
                      have hcp := HI11.out.cap
                      have hrm := HI11.out.room
                      simp only [List.length_cons] at hcp
                      obtain ⟨q, hq⟩ : ∃ q, (txs (T.drop (j + 1) ++ L9)).length = q := ⟨_, rfl⟩
                      have HQ := Lib.hid hq
                      rw [hq] at hlenb hcp ⊢
                      clear hq
                      have z1 : ((q : Int) + 1 == 0) = false := by rw [beq_eq_false_iff_ne]; omega
                      have z2 : (0 : Int) < (q : Int) + 1 := by omega
                      have z3 : decide ((0 : Int) < (q : Int) + 1) = true := decide_eq_true z2
                      have z4 : (1 : Int) ≤ (q : Int) + 1 := by omega
                      have z5 : 1 ≤ q + 1 := by omega
                      go_wp2_with fail
                      clear s0 s1 s2 s3
                      generalize w10.alloc (.cells #[.int .i64 xt, .int .i64 xm, .bool false, .bool ii] 60) = w11 at *
                      generalize w10.heap.size = K11 at *
                      go_quiet (fail)
                      have HB12 := Lib.hid (HB11.out.trans ((drew_below w11 nq).mono HB11.out.size))
                      have HI12 := Lib.hid (HI11.out.below (drew_below w11 nq))
                      generalize w11.drewN nq = w12 at *
                      clear b0 l0 HI11 HB11
                      by_cases hc1 : c = 1
                      · subst hc1
                        have hnil := HI12.out.last
                        have hq0 : q = 0 := by rw [← HQ.out, hnil]; rfl
                        subst hq0
                        have HI13 := Lib.hid (show Ni w12 (some ⟨g, off, none⟩) 0 (txs (T.drop (j + 1) ++ L9)) by rw [hnil]; exact Ni.nils _ (Nat.zero_le _))
                        clear HI12 hnil
                        go_wp2_with fail
                        go_roundw
                        case rel => exact ⟨j + 1, some ⟨g, off, none⟩, 0, by omega, by go_num, by rw [HQ.out], HI13.out, HB12.out⟩
                        case measure => simp [intOf]; omega
                      · have HI13 := Lib.hid HI12.out.tail
                        clear HI12
                        go_wp2_with fail
                        go_roundw
                        case rel => exact ⟨j + 1, some ⟨g, off + 1, none⟩, c - 1, by omega, by go_num, by rw [HQ.out], HI13.out, HB12.out⟩
                        case measure => simp [intOf]; omega
                    · rw [txs_yes rfl] at HI11 ⊢
                      go_wp2_with fail
                      go_roundw
                      case rel => exact ⟨j + 1, A, c, by omega, by go_num, rfl, HI11.out, HB11.out⟩
                      case measure => simp [intOf]; omega
                  · obtain rfl : j = m := by omega
                    have HI12 := Lib.hid HI10.out
                    rw [show T.drop j ++ L9 = L9 by rw [List.drop_eq_nil_of_le (Nat.le_of_eq HM.out)]; rfl] at HI12 ⊢
                    have HN12 := Lib.hid (HN9.out.below HB10.out)
                    clear hjm HI10 HB10 HN9 HL9
                    go_wp2_with fail
                    go_roundw
                    case rel => exact ⟨i + 1, H9, L9, A, c, by omega, by go_num, rfl, HI12.out, HN12.out⟩
                    case measure => simp [intOf]; omega
            · obtain rfl : i = n2 := by omega
              have HB := Lib.hid HN6.out.one.bel
              clear HI6 HN6 hin
              go_wp2_with fail
              go_ret
              exact ⟨rfl, HB.out⟩
theorem turn_walk (A : Option Addr) (n c : Nat) (d : Nat → Dd) (A2 : Option Addr) (n2 k2 : Nat) (w : World) (ht : TabG w) (hm : n ≤ maxLen) (hd : InD w A n d) (hm2 : n2 ≤ maxLen) (hi : InI w A2 n2) :
    Calls Tryd.prog 5 #[.slice A n c, .slice A2 n2 k2] w fun e w' => e = .returned (.bool true) ∧ Below w.heap.size w w' := by
  by_cases h : 40 < n ∨ 60 < n2
  · exact turn_long A n c A2 n2 k2 w ht hm hm2 h
  · exact turn_short A n c d A2 n2 k2 w ht (by omega) (by omega) hd hi
end Go.Proofs.YteaibamkfccplaaDoor
