/- Which lock may come in the place of many: the document's answer. -/
import Derived.Test.YthjlapcccmbhbaaYj
namespace Go.Proofs.Ythjlapcccmbhbaa.Lk
open Go Go.RowKit Go.Shelf Pa
set_option maxRecDepth 100000

/-- a node in its box, and what was there at first -/
abbrev SP (B : Nat) (ua ub uc ud ue : Int) (w1 w' : World) : Prop :=
  w'.cell? ⟨B, 0, none⟩ = some (.int .i64 ua) ∧ w'.cell? ⟨B, 1, none⟩ = some (.int .i64 ub) ∧ w'.cell? ⟨B, 2, none⟩ = some (.int .i64 uc) ∧ w'.cell? ⟨B, 3, none⟩ = some (.int .i64 ud) ∧ w'.cell? ⟨B, 4, none⟩ = some (.int .i64 ue) ∧ Below w1.heap.size w1 w'
section
variable {B : Nat} {ua ub uc ud ue : Int} {w1 w' : World}
theorem sp_of (h : PtAt w1 B ⟨ua, ub, uc, ud, ue⟩) (hb : Below w1.heap.size w1 w') : SP B ua ub uc ud ue w1 w' := by
  obtain ⟨h0, h1, h2, h3, h4, -⟩ := h.later hb
  exact ⟨h0, h1, h2, h3, h4, hb⟩
theorem sp_drew (h : PtAt w1 B ⟨ua, ub, uc, ud, ue⟩) : SP B ua ub uc ud ue w1 w1.drew := sp_of h (drew_below _ 1)
end
section
variable {W W' : World} {A : Option Addr} {c : Nat} {xs : List Hd}
set_option maxHeartbeats 16000000 in
theorem rpick_any (hr : Ls W A c xs) (hl : xs.length ≤ 300) (nn : Int) : Calls Try.prog 9 #[.slice A xs.length c, .int .i64 nn] W (Told W xs nn) := by
  have h1 := Go.Proofs.Ythjlapcccmbhbaa.box_below W (.cells #[.int .i64 0, .int .i64 0, .int .i64 0, .int .i64 0, .int .i64 0, .int .i64 0] 27)
  have h2 := Go.Proofs.Ythjlapcccmbhbaa.box_below (W.alloc (.cells #[.int .i64 0, .int .i64 0, .int .i64 0, .int .i64 0, .int .i64 0, .int .i64 0] 27)) (.cells #[.int .i64 0, .int .i64 0, .int .i64 0, .int .i64 0, .int .i64 0, .int .i64 0] 27)
  have HB0 := Lib.hid (h1.trans (h2.mono h1.size))
  have HZ0 : Hid (Bx ((W.alloc (.cells #[.int .i64 0, .int .i64 0, .int .i64 0, .int .i64 0, .int .i64 0, .int .i64 0] 27)).alloc (.cells #[.int .i64 0, .int .i64 0, .int .i64 0, .int .i64 0, .int .i64 0, .int .i64 0] 27)) W.heap.size (⟨0, 0, 0, 0, 0⟩, 0)) := Bx.below (show Bx (W.alloc (.cells #[.int .i64 0, .int .i64 0, .int .i64 0, .int .i64 0, .int .i64 0, .int .i64 0] 27)) W.heap.size (⟨0, 0, 0, 0, 0⟩, 0) from heap_alloc_new W _) h2
  have HX0 : Hid (Bx ((W.alloc (.cells #[.int .i64 0, .int .i64 0, .int .i64 0, .int .i64 0, .int .i64 0, .int .i64 0] 27)).alloc (.cells #[.int .i64 0, .int .i64 0, .int .i64 0, .int .i64 0, .int .i64 0, .int .i64 0] 27)) (W.heap.size + 1) (⟨0, 0, 0, 0, 0⟩, 0)) := by
    have := heap_alloc_new (W.alloc (.cells #[.int .i64 0, .int .i64 0, .int .i64 0, .int .i64 0, .int .i64 0, .int .i64 0] 27)) (.cells #[.int .i64 0, .int .i64 0, .int .i64 0, .int .i64 0, .int .i64 0, .int .i64 0] 27)
    rw [World.size_alloc] at this
    exact this
  have HR := Lib.hid hr
  obtain ⟨n, hn⟩ : ∃ n, xs.length = n := ⟨_, rfl⟩
  have HN := Lib.hid hn
  have HL := Lib.hid hl
  rw [hn] at hl ⊢
  clear hr hn h1 h2
  go_enter Try.func9, Try.ntmps9
  go_wp2_with fail
  obtain ⟨W2, hW2⟩ : ∃ W2, (W.alloc (.cells #[.int .i64 0, .int .i64 0, .int .i64 0, .int .i64 0, .int .i64 0, .int .i64 0] 27)).alloc (.cells #[.int .i64 0, .int .i64 0, .int .i64 0, .int .i64 0, .int .i64 0, .int .i64 0] 27) = W2 := ⟨_, rfl⟩
  rw [hW2] at HB0 HZ0 HX0 ⊢
  obtain ⟨B4, hB4⟩ : ∃ B4, W.heap.size = B4 := ⟨_, rfl⟩
  obtain ⟨B6, hB6⟩ : ∃ B6, B4 + 1 = B6 := ⟨_, rfl⟩
  have HB4 := Lib.hid hB4
  have HB64 : Hid (B4 < B6 ∧ W.heap.size = B4) := ⟨by omega, hB4⟩
  rw [hB4] at HZ0 HX0 ⊢
  rw [hB6] at HX0 ⊢
  clear hW2 hB4 hB6
  go_loopw [7, 16] (fun b i wr => ∃ (k : Nat) (x : Hd) (r : Bool), k ≤ n ∧ i = .int .i64 (k : Nat) ∧ b = .bool r ∧ PickAt xs (xs.take k) nn x r ∧ Bx wr B4 (⟨0, 0, 0, 0, 0⟩, 0) ∧ Bx wr B6 x ∧ Below W.heap.size W wr) (fun _ i _ => n - (intOf i).toNat)
  case atStart => exact ⟨0, (⟨0, 0, 0, 0, 0⟩, 0), false, by omega, rfl, rfl, PickAt.nil, HZ0.out, HX0.out, HB0.out⟩
  case round =>
    obtain ⟨k, x, b, hk, rfl, rfl, hp, hz, hx, hb⟩ := hrel
    have HP := Lib.hid hp
    have HZ := Lib.hid hz
    have HX := Lib.hid hx
    have HB := Lib.hid hb
    clear hp hz hx hb HB0 HZ0 HX0
    by_cases hlt : k < n
    · have i1 : (0 : Int) ≤ (k : Int) := by omega
      have i2 : (k : Int) < (n : Int) := by omega
      have hkl : k < xs.length := by rw [HN.out]; exact hlt
      obtain ⟨a, rfl, hh⟩ := (HR.out.below HB.out).here hkl
      obtain ⟨y, hy⟩ : ∃ y, xs[k] = y := ⟨_, rfl⟩
      rw [hy] at hh
      have HT : Hid (xs.take (k + 1) = xs.take k ++ [y]) := by
        unfold Hid
        rw [List.take_succ_eq_append_getElem hkl, hy]
      have HYm : Hid (y ∈ xs) := by unfold Hid; rw [← hy]; exact List.getElem_mem _
      clear hy
      obtain ⟨c0, c1', c2, c3, c4, c5⟩ := hh
      have HBy := Lib.hid (Go.Proofs.Ythjlapcccmbhbaa.box_below wr (.cells #[.int .i64 y.1.a, .int .i64 y.1.b, .int .i64 y.1.c, .int .i64 y.1.d, .int .i64 y.1.e, .int .i64 y.2] 27))
      have hUp := fun w => rup_any y.1 w
      obtain ⟨u, r, hu, hkd⟩ := up_kids y.1
      simp only [hu] at hUp
      have HUp := Lib.hid hUp
      have HKd := Lib.hid hkd
      clear hu hkd hUp
      obtain ⟨⟨ya, yb, yc, yd, ye⟩, ym⟩ := y
      obtain ⟨ua, ub, uc, ud, ue⟩ := u
      simp only at c0 c1' c2 c3 c4 c5 HBy HUp HKd
      go_wp2_with fail
      refine (HUp.out _).mono ?_
      rintro e3 w3 ⟨rfl, hb3⟩
      have hbu := Go.Proofs.Ythjlapcccmbhbaa.box_below w3 (.cells #[.int .i64 ua, .int .i64 ub, .int .i64 uc, .int .i64 ud, .int .i64 ue] 25)
      have hall := thenCall (thenCall HBy.out hb3) hbu
      have HZ4 := Lib.hid (HZ.out.below hall)
      have HX4 := Lib.hid (HX.out.below hall)
      have HB4w := Lib.hid (thenCall HB.out hall)
      have HPt := Lib.hid (PtAt.new w3 ua ub uc ud ue)
      unfold boxed at HPt
      clear hb3 hbu hall HUp HBy HZ HX HB c0 c1' c2 c3 c4 c5
      have HB4 := HB4w
      cases r
      · have HKn : Hid (∀ p, kidB (⟨ya, yb, yc, yd, ye⟩ : Pt) p = false) := fun p => by rw [HKd.out]; rfl
        go_wp2_with fail
        go_roundw
        case rel => exact ⟨k + 1, x, b, by omega, by go_num, rfl, by rw [HT.out]; exact HP.out.none HKn.out, HZ4.out, HX4.out, HB4.out⟩
        case measure => simp [intOf]; omega
      · have HK : Hid (∀ p, kidB (⟨ya, yb, yc, yd, ye⟩ : Pt) p = eqP ⟨ua, ub, uc, ud, ue⟩ p) := fun p => by rw [HKd.out]; rfl
        have HCn : Hid (0 < cntL xs ⟨ua, ub, uc, ud, ue⟩) := cnt_kid HYm.out (by rw [HK.out]; exact eqP_self _)
        by_cases h1 : nn < 1
        · have HNc : Hid (¬ (1 ≤ nn ∧ candB xs nn ⟨ua, ub, uc, ud, ue⟩ = true)) := fun h => by omega
          have z0 : decide (nn < 1) = true := decide_eq_true h1
          go_wp2_with fail
          go_roundw
          case rel => exact ⟨k + 1, x, b, by omega, by go_num, rfl, by rw [HT.out]; exact HP.out.not HK.out HNc.out, HZ4.out, HX4.out, HB4.out⟩
          case measure => simp [intOf]; omega
        · have HN1 := Lib.hid h1
          have z0 : decide (nn < 1) = false := decide_eq_false h1
          have HKi := Lib.hid (rkids_any (HR.out.below HB4.out) HL.out ⟨ua, ub, uc, ud, ue⟩)
          rw [HN.out] at HKi
          obtain ⟨p0, p1, p2, p3, p4, plt⟩ := HPt.out
          simp only at p0 p1 p2 p3 p4 plt
          go_wp2_with fail
          refine HKi.out.mono ?_
          rintro e5 w5 ⟨zs, hbk, A5, c5, rfl, -, hb5⟩
          have hcl : zs.length = cntL xs ⟨ua, ub, uc, ud, ue⟩ := hbk.len
          have HZ5 := Lib.hid (HZ4.out.below hb5)
          have HX5 := Lib.hid (HX4.out.below hb5)
          have HB5 := Lib.hid (thenCall HB4.out hb5)
          have HP5 := Lib.hid (HPt.out.later hb5)
          obtain ⟨cn, hcn⟩ : ∃ cn, zs.length = cn := ⟨_, rfl⟩
          rw [hcn] at hcl ⊢
          have HCl := Lib.hid hcl
          clear hbk hb5 hcl hcn p0 p1 p2 p3 p4 plt HKi HZ4 HX4 HPt
          by_cases hcc : (cn : Int) < nn
          · have HNc : Hid (¬ (1 ≤ nn ∧ candB xs nn ⟨ua, ub, uc, ud, ue⟩ = true)) := fun h => by
              have h2 := h.2
              unfold candB at h2
              rw [← HCl.out, Bool.and_eq_true, decide_eq_true_iff] at h2
              omega
            have z1 : decide ((cn : Int) < nn) = true := decide_eq_true hcc
            go_wp2_with fail
            go_roundw
            case rel => exact ⟨k + 1, x, b, by omega, by go_num, rfl, by rw [HT.out]; exact HP.out.not HK.out HNc.out, HZ5.out, HX5.out, HB5.out⟩
            case measure => simp [intOf]; omega
          · have z1 : decide ((cn : Int) < nn) = false := decide_eq_false hcc
            obtain ⟨had, hhad⟩ : ∃ h, ofL xs ⟨ua, ub, uc, ud, ue⟩ = h := ⟨_, rfl⟩
            obtain ⟨mx, hmx⟩ : ∃ m, mxL xs ⟨ua, ub, uc, ud, ue⟩ = m := ⟨_, rfl⟩
            have hm3 : mx ≤ 3 := by rw [← hmx]; exact mx_le _ _
            obtain ⟨dm, hdm⟩ : ∃ d, doN mx = d := ⟨_, rfl⟩
            have HOf : Hid (∀ w, SP w3.heap.size ua ub uc ud ue w5 w → Calls Try.prog 33 #[.slice (some a) n c, .agg #[.int .i64 ua, .int .i64 ub, .int .i64 uc, .int .i64 ud, .int .i64 ue]] w fun e w' => e = .returned (.int .i64 had) ∧ SP w3.heap.size ua ub uc ud ue w5 w' ∧ Below w.heap.size w w') := fun w hs => by
              have h := rof_any (HR.out.below (thenCall HB5.out hs.2.2.2.2.2)) (Nat.le_trans HL.out (by omega)) ⟨ua, ub, uc, ud, ue⟩
              rw [HN.out, hhad] at h
              exact h.mono fun e w' ⟨he, hb⟩ => ⟨he, sp_of HP5.out (thenCall hs.2.2.2.2.2 hb), hb⟩
            have HBe : Hid (∀ w, SP w3.heap.size ua ub uc ud ue w5 w → Calls Try.prog 14 #[.slice (some a) n c, .agg #[.int .i64 ua, .int .i64 ub, .int .i64 uc, .int .i64 ud, .int .i64 ue]] w fun e w' => ∃ ys A c, e = .returned (.slice A ys.length c) ∧ topL ys = mx ∧ Ls w' A c ys ∧ ys.length ≤ 1000 ∧ SP w3.heap.size ua ub uc ud ue w5 w') := fun w hs => by
              have h := rbelow_any (HR.out.below (thenCall HB5.out hs.2.2.2.2.2)) HL.out ⟨ua, ub, uc, ud, ue⟩
              rw [HN.out] at h
              refine h.mono ?_
              rintro e w' ⟨ys, hbk, A, c, he, hls, hb⟩
              exact ⟨ys, A, c, he, by rw [bk_top hbk, hmx], hls, by rw [hbk.len]; exact Nat.le_trans (fit_len _ _) (Nat.le_trans HL.out (by omega)), sp_of HP5.out (thenCall hs.2.2.2.2.2 hb)⟩
            have HOne : Hid (∀ w ys A c, Ls w A c ys → topL ys = mx → ys.length ≤ 1000 → SP w3.heap.size ua ub uc ud ue w5 w → Calls Try.prog 16 #[.slice A ys.length c] w fun e w' => e = .returned (.int .i64 (dm : Nat)) ∧ SP w3.heap.size ua ub uc ud ue w5 w') := fun w ys A c hls ht hle hs => by
              have h := rone_any hls hle
              rw [ht, hdm] at h
              exact h.mono fun e w' ⟨he, hb⟩ => ⟨he, sp_of HP5.out (thenCall hs.2.2.2.2.2 hb)⟩
            have hkd : kn (dm : Int) = dm := kn_nat (by rw [← hdm]; exact doN_le _)
            have HRe1 := Lib.hid (fun w => rre_any had w)
            have hRe2 := fun w => rre_any (dm : Int) w
            rw [hkd, ← hdm, re_do mx hm3, hdm] at hRe2
            have HRe2 := Lib.hid hRe2
            obtain ⟨rh, hrh⟩ : ∃ r, reN (kn had) = r := ⟨_, rfl⟩
            rw [hrh] at HRe1
            have HCdv : Hid (candB xs nn ⟨ua, ub, uc, ud, ue⟩ = decide (rh < mx)) := by
              unfold Hid candB
              rw [← HCl.out, hhad, hmx, hrh, decide_eq_true (by omega : nn ≤ (cn : Int)), Bool.true_and]
            obtain ⟨sm, hsm⟩ : ∃ s, supN (kn had) dm = s := ⟨_, rfl⟩
            have HSm := Lib.hid hsm
            have HIt : Hid (itemG xs ⟨ua, ub, uc, ud, ue⟩ = (((⟨ua, ub, uc, ud, ue⟩ : Pt), (sm : Int)) : Hd)) := by
              unfold Hid itemG
              rw [hhad, hmx, hdm, hsm]
            have HKd2 := Lib.hid hkd
            clear hhad hmx hm3 hdm hRe2 hrh hkd hsm
            go_wp2_with fail
            go_region_held3 (SP w3.heap.size ua ub uc ud ue w5) (first | exact sp_drew HP5.out | assumption) (first
              | (go_at_call 33; (refine (HOf.out _ (by assumption)).mono ?_); rintro e wz ⟨rfl, hs, hb33⟩)
              | (go_at_call 14; (refine (HBe.out _ (by assumption)).mono ?_); rintro e wz ⟨ys, A6, c6, rfl, htop, hls, hly, hs⟩)
              | (go_at_call 16; (refine (HOne.out _ ys A6 c6 (by first | exact hls | exact hls.below hb33) htop hly (by assumption)).mono ?_); rintro e wz ⟨rfl, hs⟩))
            all_goals
              have hb6 := hs.2.2.2.2.2
              have HZ6 := Lib.hid (HZ5.out.below hb6)
              have HX6 := Lib.hid (HX5.out.below hb6)
              have HB6w := Lib.hid (thenCall HB5.out hb6)
              have HP6 := Lib.hid (HP5.out.later hb6)
              clear hb6 hs hls htop hly hb33
              go_wp2_with fail
              refine (HRe1.out _).mono ?_
              rintro e7 w7 ⟨rfl, hb7⟩
              go_wp2_with fail
              refine (HRe2.out _).mono ?_
              rintro e8 wq ⟨rfl, hb8⟩
              have hb9 := thenCall hb7 hb8
              have HZ7 := Lib.hid (HZ6.out.below hb9)
              have HX7 := Lib.hid (HX6.out.below hb9)
              have HB7 := Lib.hid (thenCall HB6w.out hb9)
              have HP7 := Lib.hid (HP6.out.later hb9)
              clear hb7 hb8 hb9 HRe1 HRe2 HOf HBe HOne HZ6 HX6 HB6w HP6
              by_cases hge : mx ≤ rh
              · have HNc : Hid (¬ (1 ≤ nn ∧ candB xs nn ⟨ua, ub, uc, ud, ue⟩ = true)) := fun h => by
                  have h2 := h.2
                  rw [HCdv.out, decide_eq_true_iff] at h2
                  omega
                have z2 : decide ((mx : Int) ≤ (rh : Int)) = true := decide_eq_true (by omega)
                have z3 : decide (mx ≤ rh) = true := decide_eq_true hge
                have z4 : (mx : Int) ≤ (rh : Int) := by omega
                go_wp2_with fail
                go_roundw
                case rel => exact ⟨k + 1, x, b, by omega, by go_num, rfl, by rw [HT.out]; exact HP.out.not HK.out HNc.out, HZ7.out, HX7.out, HB7.out⟩
                case measure => simp [intOf]; omega
              · have HCd : Hid (candB xs nn ⟨ua, ub, uc, ud, ue⟩ = true) := by unfold Hid; rw [HCdv.out]; exact decide_eq_true (by omega)
                have z2 : decide ((mx : Int) ≤ (rh : Int)) = false := decide_eq_false (by omega)
                have z3 : decide (mx ≤ rh) = false := decide_eq_false hge
                have z4 : ¬ (mx : Int) ≤ (rh : Int) := by omega
                cases b
                · skip
                  have HSup : Hid (∀ w, Below wq.heap.size wq w → Calls Try.prog 35 #[.int .i64 had, .int .i64 (dm : Nat)] w fun e w' => e = .returned (.int .i64 (sm : Nat)) ∧ Below wq.heap.size wq w') := fun w hs => by
                    have h := rsup_any had (dm : Int) wq w hs
                    rw [HKd2.out, HSm.out] at h
                    exact h
                  have hput := HP.out.put (y := (⟨ya, yb, yc, yd, ye⟩, ym)) (fun p h => cnt_take h) HK.out (by have := HN1.out; omega) HCn.out HCd.out (.inl rfl)
                  rw [HIt.out] at hput
                  have HPut := Lib.hid hput
                  obtain ⟨v0, v1, v2, v3, v4, vlt⟩ := HP7.out
                  simp only at v0 v1 v2 v3 v4 vlt
                  clear hput HP
                  go_wp2_with fail
                  go_region_with ((go_at_call 35; ((refine (HSup.out _ (drew_below _ 1)).mono ?_); rintro e wy ⟨rfl, hby⟩; obtain ⟨t0, t1, t2, t3, t4, tlt⟩ := HP7.out.later hby; obtain ⟨s0, s1, s2, s3, s4, s5, f0, f1, f2, f3, f4, f5, slt⟩ := (HX7.out.below hby).at; simp only at t0 t1 t2 t3 t4 tlt)))
                  all_goals
                    have hb9 := thenCall HB7.out hby
                    have HZ9 := Lib.hid (Bx.beside (w := wy) (C := B4) (HZ7.out.below hby) (B := B6) (by have := HB64.out; omega) ((⟨ua, ub, uc, ud, ue⟩, (sm : Int)) : Hd))
                    have HX9 := Lib.hid (Bx.put (w := wy) (B := B6) (HX7.out.below hby) ((⟨ua, ub, uc, ud, ue⟩, (sm : Int)) : Hd))
                    have HB9 := Lib.hid (hb9.trans (told_below (w := wy) (B := B6) ((⟨ua, ub, uc, ud, ue⟩, (sm : Int)) : Hd) (K := W.heap.size) (by have := HB64.out; omega) hb9.size))
                    clear hby hb9
                    go_wp2_with fail
                    go_roundw
                    case rel => exact ⟨k + 1, ((⟨ua, ub, uc, ud, ue⟩, (sm : Int)) : Hd), true, by omega, by go_num, rfl, by rw [HT.out]; exact HPut.out, HZ9.out, HX9.out, HB9.out⟩
                    case measure => simp [intOf]; omega
                · obtain ⟨lt, hlt0⟩ : ∃ lt, ltU (itemG xs ⟨ua, ub, uc, ud, ue⟩) x = lt := ⟨_, rfl⟩
                  have hpr := ltU_parts hlt0
                  have HLt := Lib.hid hlt0
                  clear hlt0
                  obtain ⟨⟨xa, xb, xc, xd, xe⟩, xm⟩ := x
                  rw [HIt.out] at hpr
                  obtain ⟨r0, r1, r2, r3, r4, rlt⟩ := HP7.out
                  obtain ⟨s0, s1, s2, s3, s4, s5, -, -, -, -, -, -, slt⟩ := HX7.out.at
                  simp only at r0 r1 r2 r3 r4 rlt hpr s0 s1 s2 s3 s4 s5
                  rcases hpr with ⟨g1, rfl⟩ | ⟨g1, rfl⟩ | ⟨g1, g2⟩
                  · have k0 : decide (xe < ue) = true := decide_eq_true g1
                    clear r0 r1 r2 r3 s0 s1 s2 s3 s5
                    have HSup : Hid (∀ w, Below wq.heap.size wq w → Calls Try.prog 35 #[.int .i64 had, .int .i64 (dm : Nat)] w fun e w' => e = .returned (.int .i64 (sm : Nat)) ∧ Below wq.heap.size wq w') := fun w hs => by
                      have h := rsup_any had (dm : Int) wq w hs
                      rw [HKd2.out, HSm.out] at h
                      exact h
                    have hput := HP.out.put (y := (⟨ya, yb, yc, yd, ye⟩, ym)) (fun p h => cnt_take h) HK.out (by have := HN1.out; omega) HCn.out HCd.out (.inr HLt.out)
                    rw [HIt.out] at hput
                    have HPut := Lib.hid hput
                    obtain ⟨v0, v1, v2, v3, v4, vlt⟩ := HP7.out
                    simp only at v0 v1 v2 v3 v4 vlt
                    clear hput HP
                    go_wp2_with fail
                    go_region_with ((go_at_call 35; ((refine (HSup.out _ (drew_below _ 1)).mono ?_); rintro e wy ⟨rfl, hby⟩; obtain ⟨t0, t1, t2, t3, t4, tlt⟩ := HP7.out.later hby; obtain ⟨s0, s1, s2, s3, s4, s5, f0, f1, f2, f3, f4, f5, slt⟩ := (HX7.out.below hby).at; simp only at t0 t1 t2 t3 t4 tlt)))
                    all_goals
                      have hb9 := thenCall HB7.out hby
                      have HZ9 := Lib.hid (Bx.beside (w := wy) (C := B4) (HZ7.out.below hby) (B := B6) (by have := HB64.out; omega) ((⟨ua, ub, uc, ud, ue⟩, (sm : Int)) : Hd))
                      have HX9 := Lib.hid (Bx.put (w := wy) (B := B6) (HX7.out.below hby) ((⟨ua, ub, uc, ud, ue⟩, (sm : Int)) : Hd))
                      have HB9 := Lib.hid (hb9.trans (told_below (w := wy) (B := B6) ((⟨ua, ub, uc, ud, ue⟩, (sm : Int)) : Hd) (K := W.heap.size) (by have := HB64.out; omega) hb9.size))
                      clear hby hb9
                      go_wp2_with fail
                      go_roundw
                      case rel => exact ⟨k + 1, ((⟨ua, ub, uc, ud, ue⟩, (sm : Int)) : Hd), true, by omega, by go_num, rfl, by rw [HT.out]; exact HPut.out, HZ9.out, HX9.out, HB9.out⟩
                      case measure => simp [intOf]; omega
                  · have k0 : decide (xe < ue) = false := decide_eq_false (by omega)
                    have k1 : ¬ xe < ue := by omega
                    have k2 : ¬ ue = xe := by omega
                    have k3 : (ue == xe) = false := by simpa using k2
                    have k4 : decide (ue = xe) = false := decide_eq_false k2
                    go_wp2_with fail
                    go_roundw
                    case rel => exact ⟨k + 1, ((⟨xa, xb, xc, xd, xe⟩, xm) : Hd), true, by omega, by go_num, rfl, by rw [HT.out]; exact HP.out.keep HK.out HLt.out, HZ7.out, HX7.out, HB7.out⟩
                    case measure => simp [intOf]; omega
                  · have HLs := Lib.hid (fun w => rless_any (⟨ua, ub, uc, ud, ue⟩ : Pt) (⟨xa, xb, xc, xd, xe⟩ : Pt) w)
                    simp only [g2] at HLs
                    subst g1
                    clear g2
                    go_wp2_with fail
                    refine (HLs.out _).mono ?_
                    rintro e10 wx ⟨rfl, hb10⟩
                    replace HZ7 := Lib.hid (HZ7.out.below hb10)
                    replace HX7 := Lib.hid (HX7.out.below hb10)
                    replace HB7 := Lib.hid (thenCall HB7.out hb10)
                    replace HP7 := Lib.hid (HP7.out.later hb10)
                    clear hb10 r0 r1 r2 r3 r4 rlt s0 s1 s2 s3 s4 s5 slt
                    cases lt
                    · skip
                      go_wp2_with fail
                      go_roundw
                      case rel => exact ⟨k + 1, ((⟨xa, xb, xc, xd, ue⟩, xm) : Hd), true, by omega, by go_num, rfl, by rw [HT.out]; exact HP.out.keep HK.out HLt.out, HZ7.out, HX7.out, HB7.out⟩
                      case measure => simp [intOf]; omega
                    · skip
                      have HSup : Hid (∀ w, Below wx.heap.size wx w → Calls Try.prog 35 #[.int .i64 had, .int .i64 (dm : Nat)] w fun e w' => e = .returned (.int .i64 (sm : Nat)) ∧ Below wx.heap.size wx w') := fun w hs => by
                        have h := rsup_any had (dm : Int) wx w hs
                        rw [HKd2.out, HSm.out] at h
                        exact h
                      have hput := HP.out.put (y := (⟨ya, yb, yc, yd, ye⟩, ym)) (fun p h => cnt_take h) HK.out (by have := HN1.out; omega) HCn.out HCd.out (.inr HLt.out)
                      rw [HIt.out] at hput
                      have HPut := Lib.hid hput
                      obtain ⟨v0, v1, v2, v3, v4, vlt⟩ := HP7.out
                      simp only at v0 v1 v2 v3 v4 vlt
                      clear hput HP
                      go_wp2_with fail
                      go_region_with ((go_at_call 35; ((refine (HSup.out _ (drew_below _ 1)).mono ?_); rintro e wy ⟨rfl, hby⟩; obtain ⟨t0, t1, t2, t3, t4, tlt⟩ := HP7.out.later hby; obtain ⟨s0, s1, s2, s3, s4, s5, f0, f1, f2, f3, f4, f5, slt⟩ := (HX7.out.below hby).at; simp only at t0 t1 t2 t3 t4 tlt)))
                      all_goals
                        have hb9 := thenCall HB7.out hby
                        have HZ9 := Lib.hid (Bx.beside (w := wy) (C := B4) (HZ7.out.below hby) (B := B6) (by have := HB64.out; omega) ((⟨ua, ub, uc, ud, ue⟩, (sm : Int)) : Hd))
                        have HX9 := Lib.hid (Bx.put (w := wy) (B := B6) (HX7.out.below hby) ((⟨ua, ub, uc, ud, ue⟩, (sm : Int)) : Hd))
                        have HB9 := Lib.hid (hb9.trans (told_below (w := wy) (B := B6) ((⟨ua, ub, uc, ud, ue⟩, (sm : Int)) : Hd) (K := W.heap.size) (by have := HB64.out; omega) hb9.size))
                        clear hby hb9
                        go_wp2_with fail
                        go_roundw
                        case rel => exact ⟨k + 1, ((⟨ua, ub, uc, ud, ue⟩, (sm : Int)) : Hd), true, by omega, by go_num, rfl, by rw [HT.out]; exact HPut.out, HZ9.out, HX9.out, HB9.out⟩
                        case measure => simp [intOf]; omega
    · obtain rfl : k = n := by omega
      have HTk : Hid (xs.take k = xs) := List.take_of_length_le (Nat.le_of_eq HN.out)
      rw [HTk.out] at HP
      obtain ⟨p0, p1, p2, p3, p4, p5, f0, f1, f2, f3, f4, f5, plt⟩ := HX.out.at
      obtain ⟨q0, q1, q2, q3, q4, q5, g0, g1, g2, g3, g4, g5, qlt⟩ := HZ.out.at
      obtain ⟨⟨xa, xb, xc, xd, xe⟩, xm⟩ := x
      go_wp2_with fail
      refine bodyPost_ret (v := .tuple #[wv (⟨xa, xb, xc, xd, xe⟩, xm), .bool b]) (by simp [results, Try.results9, go_sem, q0, q1, q2, q3, q4, q5]) rfl ⟨_, _, rfl, HP.out.is, ?_⟩
      exact HB.out.trans (told_below (⟨xa, xb, xc, xd, xe⟩, xm) (by have := HB64.out; omega) HB.out.size)
end
end Go.Proofs.Ythjlapcccmbhbaa.Lk
