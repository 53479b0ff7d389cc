/- The walk of the law on right requests that stay so: it returns true and changes nothing that was there. -/
import Derived.Test.YtpoibgiajaeegaaB2
namespace Go.Proofs.Ytpoibgiajaeegaa
open Go Go.RowKit Go.Shelf

set_option maxRecDepth 100000 in
set_option maxHeartbeats 4000000 in
theorem stays_walk (A : Option Addr) (n c : Nat) (xs : List Wt) (x : Wt) (W : World) (hn : xs.length = n) (hr : Ls W A c xs) (hw : ∀ x ∈ xs, wf64 x.1) (hm : n ≤ maxLen) (hx : wf64 x.1) :
    Calls Try.prog 4 #[.slice A n c, wv x] W fun e w' => e = .returned (.bool true) ∧ Below W.heap.size W w' := by
  have hmx : n ≤ 9223372036854775807 := by unfold maxLen at hm; omega
  obtain ⟨tx, md, cv, ii⟩ := x
  simp only at hx
  have hbx := box_below W (.cells #[.int .i64 tx, .int .i64 md, .bool cv, .bool ii] 24)
  have hs4 : S4 W.heap.size tx md cv ii (W.alloc (.cells #[.int .i64 tx, .int .i64 md, .bool cv, .bool ii] 24)) := by
    obtain ⟨ad, had, e0, e1, e2, e3⟩ := (box_ls W (tx, md, cv, ii)).here (i := 0) (by simp)
    cases had
    simp only [List.getElem_cons_zero, Nat.zero_mul, add_at, Nat.zero_add] at e0 e1 e2 e3
    exact ⟨e0, e1, e2, e3⟩
  have HN := Lib.hid hn
  have HR := Lib.hid (hr.below hbx)
  have HW := Lib.hid hw
  have HX := Lib.hid hx
  have HBX := Lib.hid hbx
  have HS4 := Lib.hid hs4
  have qa := Lib.hid (awake_g (W.alloc (.cells #[.int .i64 tx, .int .i64 md, .bool cv, .bool ii] 24)))
  have hb0 : Below (W.alloc (.cells #[.int .i64 tx, .int .i64 md, .bool cv, .bool ii] 24)).heap.size (W.alloc (.cells #[.int .i64 tx, .int .i64 md, .bool cv, .bool ii] 24)) (W.alloc (.cells #[.int .i64 tx, .int .i64 md, .bool cv, .bool ii] 24)) := Below.refl _ _
  have HB0 := Lib.hid hb0
  clear hn hr hw hm hx hbx hs4 hb0
  by_cases h30 : n ≤ 30
  · have d30 : decide (n ≤ 30) = true := by simpa using h30
    go_enter Try.func4, Try.ntmps4
    go_wp2_with fail
    refine Gives.use qa.out HB0.out ?_
    intro w1 hb1
    generalize W.heap.size = Bx at HS4 ⊢
    generalize W.alloc (.cells #[.int .i64 tx, .int .i64 md, .bool cv, .bool ii] 24) = w0 at *
    have HRt := Lib.hid (fun (w1 : World) (hb : Below w0.heap.size w0 w1) => (show Calls Try.prog 22 #[.slice A n c] w1 fun e w' => e = .returned (.bool (rightB xs)) ∧ Below w1.heap.size w1 w' by
      have := right_any (HR.out.below hb) HW.out (by have := HN.out; omega)
      rw [HN.out] at this
      exact this))
    have HRt1 := Lib.hid (HRt.out _ hb1)
    have HF1 := Lib.hid (few_any A n c w1)
    rw [d30] at HF1
    cases hrb : rightB xs
    · rw [hrb] at HRt1
      clear hrb
      go_wp2_with (first | (go_at_call 7; ((with_reducible refine HF1.out.mono ?_); rintro e w2 ⟨rfl, rfl⟩)) | (go_at_call 22; ((with_reducible refine HRt1.out.mono ?_); rintro e w3 ⟨rfl, hb3⟩)))
      have HB3 := Lib.hid (hb1.trans (hb3.mono hb1.size))
      clear hb1 hb3 HRt1 HF1
      go_ret
      exact ⟨rfl, HBX.out.trans (HB3.out.mono HBX.out.size)⟩
    · rw [hrb] at HRt1
      have HRG := Lib.hid ((right_iff xs).1 hrb)
      clear hrb HRt
      go_wp2_with (go_at_call 7; ((with_reducible refine HF1.out.mono ?_); rintro e w2 ⟨rfl, rfl⟩))
      refine HRt1.out.mono ?_
      rintro e w3 ⟨rfl, hb3⟩
      have hb4 := hb1.trans (hb3.mono hb1.size)
      have HB4 := Lib.hid hb4
      have HWo := Lib.hid (show Calls Try.prog 20 #[.slice A n c, .int .i64 tx] w3 (Lists w3 (wout tx xs)) by
        have := without_any (HR.out.below hb4) (by have := HN.out; omega) tx
        rw [HN.out] at this
        exact this)
      obtain ⟨s0, s1, s2, s3⟩ := s4_below HS4.out hb4
      clear hb1 hb3 hb4 HRt1 HF1
      go_wp2_with fail
      refine HWo.out.mono ?_
      rintro e w5 ⟨A1, c1, rfl, hl1, hb5⟩
      have hb6 := HB4.out.trans (hb5.mono HB4.out.size)
      have HB6 := Lib.hid hb6
      have HY := Lib.hid (show ∃ ys, ys = wout tx xs from ⟨_, rfl⟩)
      obtain ⟨ys, hys⟩ := HY.out
      have hylen : ys.length ≤ n := by rw [hys, ← HN.out]; exact wout_len _ _
      have HYR := Lib.hid (show Rg ys by rw [hys]; exact rg_wout HRG.out tx)
      have HYF := Lib.hid (show fndI tx ys = -1 by rw [hys]; exact fnd_wout tx xs)
      have HYW := Lib.hid (show ∀ y ∈ ys, wf64 y.1 from fun y hy => HW.out y (by rw [hys] at hy; exact (List.mem_filter.1 hy).1))
      have HYN := Lib.hid (show ∀ y ∈ ys, y.1 ≠ tx by rw [hys]; exact ne_wout tx xs)
      rw [← hys] at hl1 ⊢
      have HL1 := Lib.hid hl1
      obtain ⟨t0, t1, t2, t3⟩ := s4_below HS4.out hb6
      have HRt2 := Lib.hid (right_any hl1 HYW.out (by omega))
      rw [(right_iff ys).2 HYR.out] at HRt2
      clear s0 s1 s2 s3 hb5 hb6 hl1 hys HY HWo
      obtain ⟨k, hk⟩ : ∃ k, ys.length = k := ⟨_, rfl⟩
      rw [hk] at hylen HRt2 ⊢
      have HK := Lib.hid hk
      clear hk
      go_wp2_with fail
      refine HRt2.out.mono ?_
      rintro e w7 ⟨rfl, hb7⟩
      have HFd := Lib.hid (show Calls Try.prog 18 #[.slice A1 k c1, .int .i64 tx] w7 fun e w' => e = .returned (.int .i64 (-1)) ∧ Below w7.heap.size w7 w' by
        have := find_any (HL1.out.below hb7) (by have := HK.out; omega) tx
        rw [HK.out, HYF.out] at this
        exact this)
      have hb8 := HB6.out.trans (hb7.mono HB6.out.size)
      have HB7 := Lib.hid hb7
      have HB8 := Lib.hid hb8
      obtain ⟨s0, s1, s2, s3⟩ := s4_below HS4.out hb8
      clear t0 t1 t2 t3 hb7 hb8 HRt2
      go_wp2_with fail
      refine HFd.out.mono ?_
      rintro e w9 ⟨rfl, hb9⟩
      have hb10 := HB8.out.trans (hb9.mono HB8.out.size)
      have HB10 := Lib.hid hb10
      have HL9 := Lib.hid ((HL1.out.below HB7.out).below hb9)
      obtain ⟨t0, t1, t2, t3⟩ := s4_below HS4.out hb10
      have HC := Lib.hid (check_any tx md 0 w9)
      clear s0 s1 s2 s3 hb9 hb10 HFd
      cases hok : okB3 tx md 0
      · rw [hok, show errV false = 1 from rfl] at HC
        clear hok
        go_wp2_with (go_at_call 10; ((with_reducible refine HC.out.mono ?_); rintro e w2 ⟨rfl, rfl⟩))
        go_ret
        exact ⟨rfl, HBX.out.trans (HB10.out.mono HBX.out.size)⟩
      · rw [hok, show errV true = 0 from rfl] at HC
        have HOK := Lib.hid (show okW (tx, md, cv, ii) = true from hok)
        have hmd : 0 ≤ md ∧ md ≤ 6 := by
          unfold okB3 lockB at hok
          simp at hok
          omega
        have HMD := Lib.hid hmd
        clear hok hmd
        have HIn := Lib.hid (show Calls Try.prog 16 #[.slice A1 k c1, .agg #[.int .i64 tx, .int .i64 md, .bool cv, .bool ii]] w9 (Lists w9 (ins (tx, md, cv, ii) ys)) by
          have := insert_any HL9.out (by have := HK.out; omega) (tx, md, cv, ii)
          rw [HK.out] at this
          exact this)
        go_wp2_with (go_at_call 10; ((with_reducible refine HC.out.mono ?_); rintro e w2 ⟨rfl, rfl⟩))
        refine HIn.out.mono ?_
        rintro e w11 ⟨A2, c2, rfl, hl2, hb11⟩
        have hb12 := HB10.out.trans (hb11.mono HB10.out.size)
        have HB12 := Lib.hid hb12
        have HL11 := Lib.hid (HL9.out.below hb11)
        have hzl : (ins (tx, md, cv, ii) ys).length = k + 1 := by rw [ins_len, HK.out]
        have HZR := Lib.hid (rg_ins (x := (tx, md, cv, ii)) HYR.out HOK.out HYN.out)
        have HZW := Lib.hid (show wout tx (ins (tx, md, cv, ii) ys) = ys from wout_ins (x := (tx, md, cv, ii)) HYN.out)
        have HZF := Lib.hid (show ∀ y ∈ ins (tx, md, cv, ii) ys, wf64 y.1 from fun y hy => by
          unfold ins at hy
          rw [List.mem_append, List.mem_append, List.mem_singleton] at hy
          rcases hy with (hy | rfl) | hy
          · exact HYW.out y (List.mem_of_mem_take hy)
          · exact HX.out
          · exact HYW.out y (List.mem_of_mem_drop hy))
        generalize ins (tx, md, cv, ii) ys = zs at *
        have HL2 := Lib.hid hl2
        have HRt3 := Lib.hid (right_any hl2 HZF.out (by omega))
        rw [(right_iff zs).2 HZR.out, hzl] at HRt3
        rw [hzl]
        have HZL := Lib.hid hzl
        obtain ⟨s0, s1, s2, s3⟩ := s4_below HS4.out hb12
        clear t0 t1 t2 t3 hb11 hb12 hl2 hzl HIn HC HL9
        go_wp2_with fail
        refine HRt3.out.mono ?_
        rintro e w13 ⟨rfl, hb13⟩
        have HWo2 := Lib.hid (show Calls Try.prog 20 #[.slice A2 (k + 1 : Nat) c2, .int .i64 tx] w13 (Lists w13 ys) by
          have := without_any (HL2.out.below hb13) (by have := HZL.out; omega) tx
          rw [HZL.out, HZW.out] at this
          exact this)
        have hb14 := HB12.out.trans (hb13.mono HB12.out.size)
        have HB14 := Lib.hid hb14
        have HL13 := Lib.hid (HL11.out.below hb13)
        obtain ⟨t0, t1, t2, t3⟩ := s4_below HS4.out hb14
        clear s0 s1 s2 s3 hb13 hb14 HRt3
        go_wp2_with fail
        refine HWo2.out.mono ?_
        rintro e w15 ⟨A3, c3, rfl, hl3, hb15⟩
        have hb16 := HB14.out.trans (hb15.mono HB14.out.size)
        have HB16 := Lib.hid hb16
        have HSm := Lib.hid (show Calls Try.prog 15 #[.slice A3 k c3, .slice A1 k c1] w15 fun e w' => e = .returned (.bool true) ∧ Below w15.heap.size w15 w' by
          have := same_any hl3 (HL13.out.below hb15) (by have := HK.out; omega)
          rw [HK.out] at this
          exact this)
        rw [HK.out]
        clear t0 t1 t2 t3 hl3 hb15 HWo2 hb16
        go_wp2_with fail
        refine HSm.out.mono ?_
        rintro e w17 ⟨rfl, hb17⟩
        have hb18 := HB16.out.trans (hb17.mono HB16.out.size)
        have HB18 := Lib.hid hb18
        obtain ⟨s0, s1, s2, s3⟩ := s4_below HS4.out hb18
        clear hb17 hb18 HSm
        go_wp2_with (go_at_call 24; ((with_reducible refine (may_yes _ _ HMD.out.1 HMD.out.2).mono ?_); rintro e w2 ⟨rfl, rfl⟩))
        go_ret
        exact ⟨rfl, HBX.out.trans (HB18.out.mono HBX.out.size)⟩
  · have d30 : decide (n ≤ 30) = false := by simpa using h30
    go_enter Try.func4, Try.ntmps4
    go_wp2_with fail
    refine Gives.use qa.out HB0.out ?_
    intro w1 hb1
    have HF1 := Lib.hid (few_any A n c w1)
    rw [d30] at HF1
    go_wp2_with (go_at_call 7; ((with_reducible refine HF1.out.mono ?_); rintro e w2 ⟨rfl, rfl⟩))
    go_ret
    exact ⟨rfl, HBX.out.trans (hb1.mono HBX.out.size)⟩
end Go.Proofs.Ytpoibgiajaeegaa
