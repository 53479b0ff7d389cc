/- The walk of the law that the locks at a node always go together, that requests stand in order, and that the first one that waits can't be granted. -/
import Derived.Test.YteaibamkfccplaaDoorM3
import Derived.Test.YteaibamkfccplaaDoorWG2
namespace Go.Proofs.YteaibamkfccplaaDoor
open Go Go.RowKit Go.Shelf
set_option maxRecDepth 100000

/-- a queue behind some deeds -/
structure Rt (w W : World) (b : Nat) (H : List Hs.Hd) (L : List Ws.Wt) (n : Nat) : Prop where
  one : One w W b H L
  inv : Inv H L
  all : AllP Hs.wf64 H L
  len : H.length + L.length ≤ n
section
variable {w W W' : World} {b n : Nat} {H : List Hs.Hd} {L : List Ws.Wt}
theorem Rt.below (h : Rt w W b H L n) (hb : Below W.heap.size W W') : Rt w W' b H L n := ⟨h.one.below hb, h.inv, h.all, h.len⟩
theorem Rt.ask (h : Rt w W b H L n) (ht : TabG w) (hn : n ≤ 400) (tx m fl : Int) (hp : Hs.wf64 tx) :
    Calls Tryd.prog 18 #[qp b, .int .i64 tx, .int .i64 m, .int .i64 fl] W fun e w' => ∃ x y H' L', e = .returned (.tuple #[.int .i64 x, .int .i64 y]) ∧ Rt w w' b H' L' (n + 1) := by
  have h4 := h.len
  refine (h.one.ask ht (by omega) tx m fl).mono ?_
  rintro e w' ⟨rfl, ho⟩
  exact ⟨_, _, _, _, rfl, ho, h.inv.ask tx m fl, h.all.ask hp, by have := ask_len tx m fl H L; omega⟩
theorem Rt.release (h : Rt w W b H L n) (ht : TabG w) (hn : n ≤ 400) (tx : Int) :
    Calls Tryd.prog 12 #[qp b, .int .i64 tx] W fun e w' => ∃ A k c x H' L', e = .returned (.tuple #[.slice A k c, .int .i64 x]) ∧ Rt w w' b H' L' n := by
  have h4 := h.len
  refine (h.one.release ht (by omega) h.inv.once tx).mono ?_
  rintro e w' ⟨A, c, rfl, -, ho⟩
  exact ⟨_, _, _, _, _, _, rfl, ho, h.inv.rel tx, (h.all.rel h.inv tx).mono fun t ht => ht.1, by have := rel_len tx H L; omega⟩
theorem Rt.cancel (h : Rt w W b H L n) (ht : TabG w) (hn : n ≤ 400) (tx : Int) :
    Calls Tryd.prog 15 #[qp b, .int .i64 tx] W fun e w' => ∃ A k c x H' L', e = .returned (.tuple #[.slice A k c, .int .i64 x]) ∧ Rt w w' b H' L' n := by
  have h4 := h.len
  refine (h.one.cancel ht (by omega) h.inv.once tx).mono ?_
  rintro e w' ⟨A, c, rfl, -, ho⟩
  exact ⟨_, _, _, _, _, _, rfl, ho, h.inv.can tx, h.all.can tx, by have := can_len tx H L; omega⟩
end
theorem add_in (b o n : Nat) : (⟨b, o, none⟩ : Addr).add n = ⟨b, o + n, none⟩ := by
  unfold Addr.add
  split
  · rename_i h; subst h; rfl
  · rfl
theorem right_long (A : Option Addr) (n c : Nat) (w : World) (ht : TabG w) (hm : n ≤ maxLen) (h : 60 < n) :
    Calls Tryd.prog 4 #[.slice A n c] w fun e w' => e = .returned (.bool true) ∧ Below w.heap.size w w' := by
  unfold maxLen at hm
  have HA := Lib.hid (awake_any w ht)
  have q1 : (60 : Int) < (n : Int) := by omega
  have q1' : decide ((60 : Int) < (n : Int)) = true := by simp; omega
  clear h ht
  go_enter Tryd.func4, Tryd.ntmps4
  go_wp2_with fail
  refine HA.out.mono ?_
  rintro e w1 ⟨rfl, hb1⟩
  go_wp2_with fail
  go_ret
  exact ⟨rfl, hb1⟩
set_option maxHeartbeats 4000000 in
theorem right_short (A : Option Addr) (n c : Nat) (d : Nat → Dd) (w : World) (ht : TabG w) (h1 : ¬ 60 < n) (hd : InD w A n d) :
    Calls Tryd.prog 4 #[.slice A n c] w fun e w' => e = .returned (.bool true) ∧ Below w.heap.size w w' := by
  have HA := Lib.hid (awake_any w ht)
  have HT := Lib.hid ht
  have D := Lib.hid hd
  have q1 : ¬ (60 : Int) < (n : Int) := by omega
  have q1' : decide ((60 : Int) < (n : Int)) = false := by simp; omega
  clear ht hd
  go_enter Tryd.func4, Tryd.ntmps4
  go_wp2_with fail
  refine HA.out.mono ?_
  rintro e w1 ⟨rfl, hb1⟩
  have H0 := Lib.hid (show Rt w (w1.alloc (.cells #[.slice none 0 0, .slice none 0 0] 28)) w1.heap.size [] [] 0 from ⟨One.new w w1 hb1, Inv.nil, AllP.nil _, Nat.le_refl _⟩)
  have hbb : ∃ b, b = w1.heap.size := ⟨_, rfl⟩
  go_wp2_with fail
  clear hb1 HA
  generalize w1.alloc (.cells #[.slice none 0 0, .slice none 0 0] 28) = w2 at *
  generalize w1.heap.size = b at *
  clear hbb
  go_loopw [26] (fun t wr => ∃ (k : Nat) (H : List Hs.Hd) (L : List Ws.Wt), k ≤ n ∧ t = .int .i64 k ∧ Rt w wr b H L k) (fun t _ => n - (intOf t).toNat)
  case atStart => exact ⟨0, _, _, by omega, rfl, H0.out⟩
  case round =>
    obtain ⟨k, H, L, hk, rfl, ho⟩ := hrel
    have HR := Lib.hid ho
    clear ho H0
    by_cases hlt : k < n
    · obtain ⟨ad, rfl, ⟨e0, e1, e2, e3⟩⟩ := D.out.at HR.out.one.bel hlt
      have hwf : Hs.wf64 (d k).t := by obtain ⟨_, _, _, _, q⟩ := D.out k hlt; exact q
      have HR1 := Lib.hid (HR.out.below (box_below wr (.cells #[.int .i64 (d k).k, .int .i64 (d k).t, .int .i64 (d k).m, .int .i64 (d k).f] 36)))
      generalize d k = dj at e0 e1 e2 e3 HR1 hwf
      obtain ⟨kk, tt, mm, ff⟩ := dj
      simp only at e0 e1 e2 e3 HR1 hwf
      have HW := Lib.hid hwf
      clear HR hwf
      by_cases hk3 : kk = 3
      · subst hk3
        have HC := Lib.hid (HR1.out.release HT.out (by omega) tt)
        go_wp2_with fail
        refine HC.out.mono ?_
        rintro e w3 ⟨A3, k3, c3, x3, H', L', rfl, ho3⟩
        have HR3 := Lib.hid (show Rt w w3 b H' L' (k + 1) from ⟨ho3.one, ho3.inv, ho3.all, by have := ho3.len; omega⟩)
        clear ho3 HC e0 e1 e2 e3 HR1
        clear D
        have HHo := Lib.hid (HR3.out.one.holds (by have := HR3.out.len; omega))
        go_wp2_with fail
        refine HHo.out.mono ?_
        rintro e w4 ⟨A4, c4, rfl, hls4, hb4, -⟩
        have HR4 := Lib.hid (HR3.out.below hb4)
        have HLs4 := Lib.hid hls4
        have HWa := Lib.hid (HR4.out.one.waits (by have := HR4.out.len; omega))
        clear HHo HR3 hls4 hb4
        obtain ⟨nh, hnh⟩ : ∃ nh, H'.length = nh := ⟨_, rfl⟩
        have HNh := Lib.hid hnh
        rw [hnh]
        clear hnh
        go_wp2_with fail
        refine HWa.out.mono ?_
        rintro e w5 ⟨A5, c5, rfl, hls5, hb5, -⟩
        have HR5 := Lib.hid (HR4.out.below hb5)
        have HH5 := Lib.hid (HLs4.out.below hb5)
        have HL5 := Lib.hid hls5
        have g25 : Gives w5 25 #[.slice A4 nh c4] (.bool true) := fun w' hb => by
          have := acc hb (Hs.right_any ((HT.out.later HR5.out.one.bel).later hb) (HH5.out.below hb) HR5.out.all.1 (by have := HR5.out.len; omega))
          rw [HNh.out, (Hs.right_iff H').2 HR5.out.inv.rh] at this
          exact this
        obtain ⟨nl, hnl⟩ : ∃ nl, L'.length = nl := ⟨_, rfl⟩
        have HNl := Lib.hid hnl
        have g26 : Gives w5 26 #[.slice A5 nl c5] (.bool true) := fun w' hb => by
          have := acc hb (Ws.right_any (HL5.out.below hb) HR5.out.all.2 (by have := HR5.out.len; omega))
          rw [HNl.out, (Ws.right_iff L').2 HR5.out.inv.rl] at this
          exact this
        have hb27 : nl = 0 ∨ ∃ ab ao tx m, A5 = some ⟨ab, ao, none⟩ ∧ ab < w5.heap.size ∧ w5.cell? ⟨ab, ao, none⟩ = some (.int .i64 tx) ∧ w5.cell? ⟨ab, ao + 1, none⟩ = some (.int .i64 m) ∧ Gives w5 27 #[.slice A4 nh c4, .int .i64 tx, .int .i64 m] (.bool false) ∧ 0 < nl := by
          cases hL : L' with
          | nil => left; rw [← hnl, hL]; rfl
          | cons x L2 =>
            right
            obtain ⟨tx, m, cv, ii⟩ := x
            have hl5 := HL5.out
            rw [hL] at hl5
            obtain ⟨a, rfl, e0, e1, -⟩ := first_at hl5
            obtain ⟨ab, ao, sp⟩ := a
            obtain rfl : sp = none := by
              cases sp with
              | none => rfl
              | some s => unfold World.cell? at e0; split at e0 <;> simp at e0
            refine ⟨ab, ao, tx, m, rfl, cell_lt e0, e0, e1, fun w' hb => ?_, by rw [← hnl, hL]; simp⟩
            have := acc hb (Hs.goes_any ((HT.out.later HR5.out.one.bel).later hb) (HH5.out.below hb) (by have := HR5.out.len; omega) tx m)
            rw [HNh.out, HR5.out.inv.st _ _ hL] at this
            exact this
        have hnl60 : nl ≤ 61 := by have := HR5.out.len; omega
        rw [hnl]
        clear hls5 hb5 HR4 HLs4 HWa hnl
        have hw6 : ∀ (K : World → Prop), (∀ w6, Below w5.heap.size w5 w6 → K w6) → ∀ w6, (∃ x : Later w5, w6 = x.w) → K w6 := fun K h w6 hx => h w6 (in_later hx)
        rcases hb27 with rfl | ⟨ab, ao, tx, m, rfl, hab, a0, a1, g27, hnl0⟩
        · go_wp2_with fail
          refine wp_region_later w5 (by kernel_rfl) (by kernel_rfl) (Below.refl _ _) ?_
          repeat (go_big_quiet_step (((first | go_at_call 25 | go_at_call 26); exact Gives.later (by with_reducible assumption))))
          refine wpQuiet_nil ?_
          intro w6 hx6
          have HB6 := Lib.hid (in_later hx6)
          clear hx6 hw6 g25 g26
          go_wp2_with fail
          go_loopw [83] (fun t wr => ∃ j : Nat, j ≤ 0 ∧ t = .int .i64 j ∧ Below w5.heap.size w5 wr) (fun t _ => 0 - (intOf t).toNat)
          case atStart => exact ⟨0, by omega, rfl, HB6.out⟩
          case round =>
            obtain ⟨w7, rfl⟩ : ∃ w7, w7 = wr := ⟨_, rfl⟩
            obtain ⟨j, hj, rfl, hb⟩ := hrel
            have HB7 := Lib.hid hb
            clear hb HB6
            by_cases hjl : j < 0
            · omega
            · obtain rfl : j = 0 := by omega
              clear hjl
              have HR7 := Lib.hid (HR5.out.below HB7.out)
              clear HR5 HH5 HL5 HB7
              go_wp2_with fail
              go_roundw
              case rel => exact ⟨k + 1, H', L', by omega, by go_num, HR7.out⟩
              case measure => simp [intOf]; omega
        · have hnlI : (0 : Int) < (nl : Int) := by omega
          have hnlD : decide ((0 : Int) < (nl : Int)) = true := by simpa using hnl0
          go_wp2_with fail
          refine wp_region_later w5 (by kernel_rfl) (by kernel_rfl) (Below.refl _ _) ?_
          repeat (go_big_quiet_step (((first | go_at_call 25 | go_at_call 26 | go_at_call 27); exact Gives.later (by with_reducible assumption))))
          refine wpQuiet_nil ?_
          intro w6 hx6
          have HB6 := Lib.hid (in_later hx6)
          clear hx6 hw6 g25 g26 g27 a0 a1 hab hnlI hnlD
          go_wp2_with fail
          go_loopw [83] (fun t wr => ∃ j : Nat, j ≤ nl ∧ t = .int .i64 j ∧ Below w5.heap.size w5 wr) (fun t _ => nl - (intOf t).toNat)
          case atStart => exact ⟨0, by omega, rfl, HB6.out⟩
          case round =>
            obtain ⟨w7, rfl⟩ : ∃ w7, w7 = wr := ⟨_, rfl⟩
            obtain ⟨j, hj, rfl, hb⟩ := hrel
            have HB7 := Lib.hid hb
            clear hb HB6
            by_cases hjl : j < nl
            · have hjl' : j < L'.length := by rw [HNl.out]; exact hjl
              have hcv := HR5.out.inv.cv _ (List.getElem_mem hjl')
              obtain ⟨a, ha, ⟨s0, s1, s2, s3⟩⟩ := (HL5.out.below HB7.out).here hjl'
              generalize L'[j]'hjl' = x at hcv s0 s1 s2 s3
              obtain ⟨xt, xm, cv, ii⟩ := x
              simp only at hcv s0 s1 s2 s3
              obtain rfl : (⟨ab, ao, none⟩ : Addr) = a := by simpa using ha
              rw [add_in] at s0 s1 s2 s3
              simp only at s1 s2 s3
              have hbx := box_below w7 (.cells #[.int .i64 xt, .int .i64 xm, .bool cv, .bool ii] 60)
              have hx0 := (Bx.new w7 xt xm cv ii).b0
              have hx2 := (Bx.new w7 xt xm cv ii).b2
              have hxl := (Bx.new w7 xt xm cv ii).lt
              simp only at hx0 hx2
              have HB8 := Lib.hid (HB7.out.trans (hbx.mono HB7.out.size))
              obtain ⟨z, hz⟩ : ∃ z, Hs.fst xt H' = z := ⟨_, rfl⟩
              have g28 : Gives (w7.alloc (.cells #[.int .i64 xt, .int .i64 xm, .bool cv, .bool ii] 60)) 28 #[.slice A4 nh c4, .int .i64 xt] (.int .i64 z) := fun w' hb => by
                have := acc hb (Hs.modeOf_any ((HH5.out.below HB8.out).below hb) (by have := HR5.out.len; omega) xt)
                rw [HNh.out, hz] at this
                exact this
              rw [hz] at hcv
              subst hcv
              clear hz hbx hjl'
              go_wp2_with fail
              clear s0 s1 s2 s3
              generalize w7.alloc (.cells #[.int .i64 xt, .int .i64 xm, .bool (z != 0), .bool ii] 60) = w8 at *
              generalize w7.heap.size = K8 at *
              obtain ⟨cz, hcz⟩ : ∃ cz, (z != 0) = cz := ⟨_, rfl⟩
              rw [hcz] at hx2 ⊢
              have e : Op.move (.tmp 0) = Op.move (.tmp 0) := rfl
              refine wp_region_later w8 (by kernel_rfl) (by kernel_rfl) (Below.refl _ _) ?_
              repeat (go_big_quiet_step ((go_at_call 28; exact Gives.later (by with_reducible assumption))))
              refine wpQuiet_nil ?_
              intro w9 hx9
              have HB9 := Lib.hid (HB8.out.trans ((in_later hx9).mono HB8.out.size))
              clear hx9 g28 hx0 hx2 hxl e
              go_wp2_with fail
              go_roundw
              case rel => exact ⟨j + 1, by omega, by go_num, HB9.out⟩
              case measure => simp [intOf]; omega
            · obtain rfl : j = nl := by omega
              clear hjl
              have HR7 := Lib.hid (HR5.out.below HB7.out)
              clear HR5 HH5 HL5 HB7
              go_wp2_with fail
              go_roundw
              case rel => exact ⟨k + 1, H', L', by omega, by go_num, HR7.out⟩
              case measure => simp [intOf]; omega
      · have hk3b : (kk == 3) = false := by simpa using hk3
        by_cases hk4 : kk = 4
        · subst hk4
          have HC := Lib.hid (HR1.out.cancel HT.out (by omega) tt)
          clear hk3
          go_wp2_with fail
          refine HC.out.mono ?_
          rintro e w3 ⟨A3, k3, c3, x3, H', L', rfl, ho3⟩
          have HR3 := Lib.hid (show Rt w w3 b H' L' (k + 1) from ⟨ho3.one, ho3.inv, ho3.all, by have := ho3.len; omega⟩)
          clear ho3 HC e0 e1 e2 e3 HR1
          clear D
          have HHo := Lib.hid (HR3.out.one.holds (by have := HR3.out.len; omega))
          go_wp2_with fail
          refine HHo.out.mono ?_
          rintro e w4 ⟨A4, c4, rfl, hls4, hb4, -⟩
          have HR4 := Lib.hid (HR3.out.below hb4)
          have HLs4 := Lib.hid hls4
          have HWa := Lib.hid (HR4.out.one.waits (by have := HR4.out.len; omega))
          clear HHo HR3 hls4 hb4
          obtain ⟨nh, hnh⟩ : ∃ nh, H'.length = nh := ⟨_, rfl⟩
          have HNh := Lib.hid hnh
          rw [hnh]
          clear hnh
          go_wp2_with fail
          refine HWa.out.mono ?_
          rintro e w5 ⟨A5, c5, rfl, hls5, hb5, -⟩
          have HR5 := Lib.hid (HR4.out.below hb5)
          have HH5 := Lib.hid (HLs4.out.below hb5)
          have HL5 := Lib.hid hls5
          have g25 : Gives w5 25 #[.slice A4 nh c4] (.bool true) := fun w' hb => by
            have := acc hb (Hs.right_any ((HT.out.later HR5.out.one.bel).later hb) (HH5.out.below hb) HR5.out.all.1 (by have := HR5.out.len; omega))
            rw [HNh.out, (Hs.right_iff H').2 HR5.out.inv.rh] at this
            exact this
          obtain ⟨nl, hnl⟩ : ∃ nl, L'.length = nl := ⟨_, rfl⟩
          have HNl := Lib.hid hnl
          have g26 : Gives w5 26 #[.slice A5 nl c5] (.bool true) := fun w' hb => by
            have := acc hb (Ws.right_any (HL5.out.below hb) HR5.out.all.2 (by have := HR5.out.len; omega))
            rw [HNl.out, (Ws.right_iff L').2 HR5.out.inv.rl] at this
            exact this
          have hb27 : nl = 0 ∨ ∃ ab ao tx m, A5 = some ⟨ab, ao, none⟩ ∧ ab < w5.heap.size ∧ w5.cell? ⟨ab, ao, none⟩ = some (.int .i64 tx) ∧ w5.cell? ⟨ab, ao + 1, none⟩ = some (.int .i64 m) ∧ Gives w5 27 #[.slice A4 nh c4, .int .i64 tx, .int .i64 m] (.bool false) ∧ 0 < nl := by
            cases hL : L' with
            | nil => left; rw [← hnl, hL]; rfl
            | cons x L2 =>
              right
              obtain ⟨tx, m, cv, ii⟩ := x
              have hl5 := HL5.out
              rw [hL] at hl5
              obtain ⟨a, rfl, e0, e1, -⟩ := first_at hl5
              obtain ⟨ab, ao, sp⟩ := a
              obtain rfl : sp = none := by
                cases sp with
                | none => rfl
                | some s => unfold World.cell? at e0; split at e0 <;> simp at e0
              refine ⟨ab, ao, tx, m, rfl, cell_lt e0, e0, e1, fun w' hb => ?_, by rw [← hnl, hL]; simp⟩
              have := acc hb (Hs.goes_any ((HT.out.later HR5.out.one.bel).later hb) (HH5.out.below hb) (by have := HR5.out.len; omega) tx m)
              rw [HNh.out, HR5.out.inv.st _ _ hL] at this
              exact this
          have hnl60 : nl ≤ 61 := by have := HR5.out.len; omega
          rw [hnl]
          clear hls5 hb5 HR4 HLs4 HWa hnl
          have hw6 : ∀ (K : World → Prop), (∀ w6, Below w5.heap.size w5 w6 → K w6) → ∀ w6, (∃ x : Later w5, w6 = x.w) → K w6 := fun K h w6 hx => h w6 (in_later hx)
          rcases hb27 with rfl | ⟨ab, ao, tx, m, rfl, hab, a0, a1, g27, hnl0⟩
          · go_wp2_with fail
            refine wp_region_later w5 (by kernel_rfl) (by kernel_rfl) (Below.refl _ _) ?_
            repeat (go_big_quiet_step (((first | go_at_call 25 | go_at_call 26); exact Gives.later (by with_reducible assumption))))
            refine wpQuiet_nil ?_
            intro w6 hx6
            have HB6 := Lib.hid (in_later hx6)
            clear hx6 hw6 g25 g26
            go_wp2_with fail
            go_loopw [83] (fun t wr => ∃ j : Nat, j ≤ 0 ∧ t = .int .i64 j ∧ Below w5.heap.size w5 wr) (fun t _ => 0 - (intOf t).toNat)
            case atStart => exact ⟨0, by omega, rfl, HB6.out⟩
            case round =>
              obtain ⟨w7, rfl⟩ : ∃ w7, w7 = wr := ⟨_, rfl⟩
              obtain ⟨j, hj, rfl, hb⟩ := hrel
              have HB7 := Lib.hid hb
              clear hb HB6
              by_cases hjl : j < 0
              · omega
              · obtain rfl : j = 0 := by omega
                clear hjl
                have HR7 := Lib.hid (HR5.out.below HB7.out)
                clear HR5 HH5 HL5 HB7
                go_wp2_with fail
                go_roundw
                case rel => exact ⟨k + 1, H', L', by omega, by go_num, HR7.out⟩
                case measure => simp [intOf]; omega
          · have hnlI : (0 : Int) < (nl : Int) := by omega
            have hnlD : decide ((0 : Int) < (nl : Int)) = true := by simpa using hnl0
            go_wp2_with fail
            refine wp_region_later w5 (by kernel_rfl) (by kernel_rfl) (Below.refl _ _) ?_
            repeat (go_big_quiet_step (((first | go_at_call 25 | go_at_call 26 | go_at_call 27); exact Gives.later (by with_reducible assumption))))
            refine wpQuiet_nil ?_
            intro w6 hx6
            have HB6 := Lib.hid (in_later hx6)
            clear hx6 hw6 g25 g26 g27 a0 a1 hab hnlI hnlD
            go_wp2_with fail
            go_loopw [83] (fun t wr => ∃ j : Nat, j ≤ nl ∧ t = .int .i64 j ∧ Below w5.heap.size w5 wr) (fun t _ => nl - (intOf t).toNat)
            case atStart => exact ⟨0, by omega, rfl, HB6.out⟩
            case round =>
              obtain ⟨w7, rfl⟩ : ∃ w7, w7 = wr := ⟨_, rfl⟩
              obtain ⟨j, hj, rfl, hb⟩ := hrel
              have HB7 := Lib.hid hb
              clear hb HB6
              by_cases hjl : j < nl
              · have hjl' : j < L'.length := by rw [HNl.out]; exact hjl
                have hcv := HR5.out.inv.cv _ (List.getElem_mem hjl')
                obtain ⟨a, ha, ⟨s0, s1, s2, s3⟩⟩ := (HL5.out.below HB7.out).here hjl'
                generalize L'[j]'hjl' = x at hcv s0 s1 s2 s3
                obtain ⟨xt, xm, cv, ii⟩ := x
                simp only at hcv s0 s1 s2 s3
                obtain rfl : (⟨ab, ao, none⟩ : Addr) = a := by simpa using ha
                rw [add_in] at s0 s1 s2 s3
                simp only at s1 s2 s3
                have hbx := box_below w7 (.cells #[.int .i64 xt, .int .i64 xm, .bool cv, .bool ii] 60)
                have hx0 := (Bx.new w7 xt xm cv ii).b0
                have hx2 := (Bx.new w7 xt xm cv ii).b2
                have hxl := (Bx.new w7 xt xm cv ii).lt
                simp only at hx0 hx2
                have HB8 := Lib.hid (HB7.out.trans (hbx.mono HB7.out.size))
                obtain ⟨z, hz⟩ : ∃ z, Hs.fst xt H' = z := ⟨_, rfl⟩
                have g28 : Gives (w7.alloc (.cells #[.int .i64 xt, .int .i64 xm, .bool cv, .bool ii] 60)) 28 #[.slice A4 nh c4, .int .i64 xt] (.int .i64 z) := fun w' hb => by
                  have := acc hb (Hs.modeOf_any ((HH5.out.below HB8.out).below hb) (by have := HR5.out.len; omega) xt)
                  rw [HNh.out, hz] at this
                  exact this
                rw [hz] at hcv
                subst hcv
                clear hz hbx hjl'
                go_wp2_with fail
                clear s0 s1 s2 s3
                generalize w7.alloc (.cells #[.int .i64 xt, .int .i64 xm, .bool (z != 0), .bool ii] 60) = w8 at *
                generalize w7.heap.size = K8 at *
                obtain ⟨cz, hcz⟩ : ∃ cz, (z != 0) = cz := ⟨_, rfl⟩
                rw [hcz] at hx2 ⊢
                have e : Op.move (.tmp 0) = Op.move (.tmp 0) := rfl
                refine wp_region_later w8 (by kernel_rfl) (by kernel_rfl) (Below.refl _ _) ?_
                repeat (go_big_quiet_step ((go_at_call 28; exact Gives.later (by with_reducible assumption))))
                refine wpQuiet_nil ?_
                intro w9 hx9
                have HB9 := Lib.hid (HB8.out.trans ((in_later hx9).mono HB8.out.size))
                clear hx9 g28 hx0 hx2 hxl e
                go_wp2_with fail
                go_roundw
                case rel => exact ⟨j + 1, by omega, by go_num, HB9.out⟩
                case measure => simp [intOf]; omega
              · obtain rfl : j = nl := by omega
                clear hjl
                have HR7 := Lib.hid (HR5.out.below HB7.out)
                clear HR5 HH5 HL5 HB7
                go_wp2_with fail
                go_roundw
                case rel => exact ⟨k + 1, H', L', by omega, by go_num, HR7.out⟩
                case measure => simp [intOf]; omega
        · have hk4b : (kk == 4) = false := by simpa using hk4
          have HC := Lib.hid (HR1.out.ask HT.out (by omega) tt mm ff HW.out)
          clear hk3 hk4
          go_wp2_with fail
          refine HC.out.mono ?_
          rintro e w3 ⟨x3, y3, H', L', rfl, ho3⟩
          have HR3 := Lib.hid ho3
          clear ho3 HC e0 e1 e2 e3 HR1
          clear D
          have HHo := Lib.hid (HR3.out.one.holds (by have := HR3.out.len; omega))
          go_wp2_with fail
          refine HHo.out.mono ?_
          rintro e w4 ⟨A4, c4, rfl, hls4, hb4, -⟩
          have HR4 := Lib.hid (HR3.out.below hb4)
          have HLs4 := Lib.hid hls4
          have HWa := Lib.hid (HR4.out.one.waits (by have := HR4.out.len; omega))
          clear HHo HR3 hls4 hb4
          obtain ⟨nh, hnh⟩ : ∃ nh, H'.length = nh := ⟨_, rfl⟩
          have HNh := Lib.hid hnh
          rw [hnh]
          clear hnh
          go_wp2_with fail
          refine HWa.out.mono ?_
          rintro e w5 ⟨A5, c5, rfl, hls5, hb5, -⟩
          have HR5 := Lib.hid (HR4.out.below hb5)
          have HH5 := Lib.hid (HLs4.out.below hb5)
          have HL5 := Lib.hid hls5
          have g25 : Gives w5 25 #[.slice A4 nh c4] (.bool true) := fun w' hb => by
            have := acc hb (Hs.right_any ((HT.out.later HR5.out.one.bel).later hb) (HH5.out.below hb) HR5.out.all.1 (by have := HR5.out.len; omega))
            rw [HNh.out, (Hs.right_iff H').2 HR5.out.inv.rh] at this
            exact this
          obtain ⟨nl, hnl⟩ : ∃ nl, L'.length = nl := ⟨_, rfl⟩
          have HNl := Lib.hid hnl
          have g26 : Gives w5 26 #[.slice A5 nl c5] (.bool true) := fun w' hb => by
            have := acc hb (Ws.right_any (HL5.out.below hb) HR5.out.all.2 (by have := HR5.out.len; omega))
            rw [HNl.out, (Ws.right_iff L').2 HR5.out.inv.rl] at this
            exact this
          have hb27 : nl = 0 ∨ ∃ ab ao tx m, A5 = some ⟨ab, ao, none⟩ ∧ ab < w5.heap.size ∧ w5.cell? ⟨ab, ao, none⟩ = some (.int .i64 tx) ∧ w5.cell? ⟨ab, ao + 1, none⟩ = some (.int .i64 m) ∧ Gives w5 27 #[.slice A4 nh c4, .int .i64 tx, .int .i64 m] (.bool false) ∧ 0 < nl := by
            cases hL : L' with
            | nil => left; rw [← hnl, hL]; rfl
            | cons x L2 =>
              right
              obtain ⟨tx, m, cv, ii⟩ := x
              have hl5 := HL5.out
              rw [hL] at hl5
              obtain ⟨a, rfl, e0, e1, -⟩ := first_at hl5
              obtain ⟨ab, ao, sp⟩ := a
              obtain rfl : sp = none := by
                cases sp with
                | none => rfl
                | some s => unfold World.cell? at e0; split at e0 <;> simp at e0
              refine ⟨ab, ao, tx, m, rfl, cell_lt e0, e0, e1, fun w' hb => ?_, by rw [← hnl, hL]; simp⟩
              have := acc hb (Hs.goes_any ((HT.out.later HR5.out.one.bel).later hb) (HH5.out.below hb) (by have := HR5.out.len; omega) tx m)
              rw [HNh.out, HR5.out.inv.st _ _ hL] at this
              exact this
          have hnl60 : nl ≤ 61 := by have := HR5.out.len; omega
          rw [hnl]
          clear hls5 hb5 HR4 HLs4 HWa hnl
          have hw6 : ∀ (K : World → Prop), (∀ w6, Below w5.heap.size w5 w6 → K w6) → ∀ w6, (∃ x : Later w5, w6 = x.w) → K w6 := fun K h w6 hx => h w6 (in_later hx)
          rcases hb27 with rfl | ⟨ab, ao, tx, m, rfl, hab, a0, a1, g27, hnl0⟩
          · go_wp2_with fail
            refine wp_region_later w5 (by kernel_rfl) (by kernel_rfl) (Below.refl _ _) ?_
            repeat (go_big_quiet_step (((first | go_at_call 25 | go_at_call 26); exact Gives.later (by with_reducible assumption))))
            refine wpQuiet_nil ?_
            intro w6 hx6
            have HB6 := Lib.hid (in_later hx6)
            clear hx6 hw6 g25 g26
            go_wp2_with fail
            go_loopw [83] (fun t wr => ∃ j : Nat, j ≤ 0 ∧ t = .int .i64 j ∧ Below w5.heap.size w5 wr) (fun t _ => 0 - (intOf t).toNat)
            case atStart => exact ⟨0, by omega, rfl, HB6.out⟩
            case round =>
              obtain ⟨w7, rfl⟩ : ∃ w7, w7 = wr := ⟨_, rfl⟩
              obtain ⟨j, hj, rfl, hb⟩ := hrel
              have HB7 := Lib.hid hb
              clear hb HB6
              by_cases hjl : j < 0
              · omega
              · obtain rfl : j = 0 := by omega
                clear hjl
                have HR7 := Lib.hid (HR5.out.below HB7.out)
                clear HR5 HH5 HL5 HB7
                go_wp2_with fail
                go_roundw
                case rel => exact ⟨k + 1, H', L', by omega, by go_num, HR7.out⟩
                case measure => simp [intOf]; omega
          · have hnlI : (0 : Int) < (nl : Int) := by omega
            have hnlD : decide ((0 : Int) < (nl : Int)) = true := by simpa using hnl0
            go_wp2_with fail
            refine wp_region_later w5 (by kernel_rfl) (by kernel_rfl) (Below.refl _ _) ?_
            repeat (go_big_quiet_step (((first | go_at_call 25 | go_at_call 26 | go_at_call 27); exact Gives.later (by with_reducible assumption))))
            refine wpQuiet_nil ?_
            intro w6 hx6
            have HB6 := Lib.hid (in_later hx6)
            clear hx6 hw6 g25 g26 g27 a0 a1 hab hnlI hnlD
            go_wp2_with fail
            go_loopw [83] (fun t wr => ∃ j : Nat, j ≤ nl ∧ t = .int .i64 j ∧ Below w5.heap.size w5 wr) (fun t _ => nl - (intOf t).toNat)
            case atStart => exact ⟨0, by omega, rfl, HB6.out⟩
            case round =>
              obtain ⟨w7, rfl⟩ : ∃ w7, w7 = wr := ⟨_, rfl⟩
              obtain ⟨j, hj, rfl, hb⟩ := hrel
              have HB7 := Lib.hid hb
              clear hb HB6
              by_cases hjl : j < nl
              · have hjl' : j < L'.length := by rw [HNl.out]; exact hjl
                have hcv := HR5.out.inv.cv _ (List.getElem_mem hjl')
                obtain ⟨a, ha, ⟨s0, s1, s2, s3⟩⟩ := (HL5.out.below HB7.out).here hjl'
                generalize L'[j]'hjl' = x at hcv s0 s1 s2 s3
                obtain ⟨xt, xm, cv, ii⟩ := x
                simp only at hcv s0 s1 s2 s3
                obtain rfl : (⟨ab, ao, none⟩ : Addr) = a := by simpa using ha
                rw [add_in] at s0 s1 s2 s3
                simp only at s1 s2 s3
                have hbx := box_below w7 (.cells #[.int .i64 xt, .int .i64 xm, .bool cv, .bool ii] 60)
                have hx0 := (Bx.new w7 xt xm cv ii).b0
                have hx2 := (Bx.new w7 xt xm cv ii).b2
                have hxl := (Bx.new w7 xt xm cv ii).lt
                simp only at hx0 hx2
                have HB8 := Lib.hid (HB7.out.trans (hbx.mono HB7.out.size))
                obtain ⟨z, hz⟩ : ∃ z, Hs.fst xt H' = z := ⟨_, rfl⟩
                have g28 : Gives (w7.alloc (.cells #[.int .i64 xt, .int .i64 xm, .bool cv, .bool ii] 60)) 28 #[.slice A4 nh c4, .int .i64 xt] (.int .i64 z) := fun w' hb => by
                  have := acc hb (Hs.modeOf_any ((HH5.out.below HB8.out).below hb) (by have := HR5.out.len; omega) xt)
                  rw [HNh.out, hz] at this
                  exact this
                rw [hz] at hcv
                subst hcv
                clear hz hbx hjl'
                go_wp2_with fail
                clear s0 s1 s2 s3
                generalize w7.alloc (.cells #[.int .i64 xt, .int .i64 xm, .bool (z != 0), .bool ii] 60) = w8 at *
                generalize w7.heap.size = K8 at *
                obtain ⟨cz, hcz⟩ : ∃ cz, (z != 0) = cz := ⟨_, rfl⟩
                rw [hcz] at hx2 ⊢
                have e : Op.move (.tmp 0) = Op.move (.tmp 0) := rfl
                refine wp_region_later w8 (by kernel_rfl) (by kernel_rfl) (Below.refl _ _) ?_
                repeat (go_big_quiet_step ((go_at_call 28; exact Gives.later (by with_reducible assumption))))
                refine wpQuiet_nil ?_
                intro w9 hx9
                have HB9 := Lib.hid (HB8.out.trans ((in_later hx9).mono HB8.out.size))
                clear hx9 g28 hx0 hx2 hxl e
                go_wp2_with fail
                go_roundw
                case rel => exact ⟨j + 1, by omega, by go_num, HB9.out⟩
                case measure => simp [intOf]; omega
              · obtain rfl : j = nl := by omega
                clear hjl
                have HR7 := Lib.hid (HR5.out.below HB7.out)
                clear HR5 HH5 HL5 HB7
                go_wp2_with fail
                go_roundw
                case rel => exact ⟨k + 1, H', L', by omega, by go_num, HR7.out⟩
                case measure => simp [intOf]; omega
    · obtain rfl : k = n := by omega
      have HB := Lib.hid HR.out.one.bel
      clear HR D
      have F1 := fun w => Lib.hid (ask_none 1 1 0 w)
      have F2 := fun w => Lib.hid (release_none 1 w)
      have F3 := fun w => Lib.hid (cancel_none 1 w)
      have F4 := fun w => Lib.hid (size_any (Its.none w) (by simp) (by simp))
      have F5 := fun w => Lib.hid (qmode_any (Its.none w) (by simp) 1)
      have F6 := fun w => Lib.hid (copy_none w)
      have F7 := fun w => Lib.hid (holds_any (Its.none w) (by simp))
      have F8 := fun w => Lib.hid (waits_any (Its.none w) (by simp))
      go_wp2_with fail
      refine (F1 _).out.mono ?_
      rintro e w3 ⟨rfl, hb3⟩
      have HB3 := Lib.hid (HB.out.trans (hb3.mono HB.out.size))
      clear hb3 HB F1
      go_wp2_with fail
      refine (F2 _).out.mono ?_
      rintro e w4 ⟨rfl, rfl⟩
      go_wp2_with fail
      refine (F3 _).out.mono ?_
      rintro e w4 ⟨rfl, rfl⟩
      go_wp2_with fail
      refine (F4 _).out.mono ?_
      rintro e w5 ⟨rfl, hb5⟩
      have HB5 := Lib.hid (HB3.out.trans (hb5.mono HB3.out.size))
      clear hb5 HB3 F2 F3 F4
      go_wp2_with fail
      refine (F5 _).out.mono ?_
      rintro e w6 ⟨rfl, hb6⟩
      have HB6 := Lib.hid (HB5.out.trans (hb6.mono HB5.out.size))
      clear hb6 HB5 F5
      go_wp2_with fail
      refine (F6 _).out.mono ?_
      rintro e w7 ⟨rfl, rfl⟩
      go_wp2_with fail
      refine (F7 _).out.mono ?_
      rintro e w8 ⟨A8, c8, rfl, -, hb8⟩
      have HB8 := Lib.hid (HB6.out.trans (hb8.mono HB6.out.size))
      clear hb8 HB6 F7 F6
      go_wp2_with fail
      refine (F8 _).out.mono ?_
      rintro e w9 ⟨A9, c9, rfl, -, hb9⟩
      have HB9 := Lib.hid (HB8.out.trans (hb9.mono HB8.out.size))
      clear hb9 HB8 F8
      go_wp2_with fail
      go_ret
      exact ⟨rfl, HB9.out⟩
theorem right_walk (A : Option Addr) (n c : Nat) (d : Nat → Dd) (w : World) (ht : TabG w) (hm : n ≤ maxLen) (hd : InD w A n d) :
    Calls Tryd.prog 4 #[.slice A n c] w fun e w' => e = .returned (.bool true) ∧ Below w.heap.size w w' := by
  by_cases h : 60 < n
  · exact right_long A n c w ht hm h
  · exact right_short A n c d w ht h hd
end Go.Proofs.YteaibamkfccplaaDoor
