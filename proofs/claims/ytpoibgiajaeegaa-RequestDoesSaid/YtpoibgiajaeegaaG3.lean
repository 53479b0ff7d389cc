/- Whether requests are right: the document's answer. -/
import Derived.Test.YtpoibgiajaeegaaG2
namespace Go.Proofs.Ytpoibgiajaeegaa
open Go Go.RowKit Go.Shelf

section
variable {W W' : World} {A : Option Addr} {c : Nat} {xs : List Wt}
set_option maxRecDepth 100000 in
set_option maxHeartbeats 2000000 in
theorem rright_any (h : Ls W A c xs) (hl : xs.length ≤ 5000) : Calls Try.prog 23 #[.slice A xs.length c] W fun e w' => e = .returned (.bool (rightB xs)) ∧ Below W.heap.size W w' := by
  have H := Lib.hid h
  obtain ⟨n, hn⟩ : ∃ n, xs.length = n := ⟨_, rfl⟩
  have HF := Lib.hid (fun (w1 : World) (hb : Below W.heap.size W w1) (t : Int) => rfind_any (h.below hb) hl t)
  clear h
  rw [hn] at hl HF ⊢
  have HN := Lib.hid hn
  clear hn
  go_enter Try.func23, Try.ntmps23
  go_wp2
  go_loopw [7] (fun t wr => ∃ k : Nat, k ≤ n ∧ t = .int .i64 k ∧ (∀ i (_ : i < k) (h : i < xs.length), Gd xs i h) ∧ Below W.heap.size W wr) (fun t _ => n - (intOf t).toNat)
  case atStart => exact ⟨0, by omega, rfl, fun i hi => by omega, Below.refl _ _⟩
  case round =>
    obtain ⟨k, hk, rfl, hall, hb⟩ := hrel
    have HA := Lib.hid hall
    clear hall
    by_cases hlt : k < n
    · have hlt' : k < xs.length := by rw [HN.out]; exact hlt
      obtain ⟨a, rfl, hh⟩ := (H.out.below hb).here hlt'
      obtain ⟨x, hx⟩ : ∃ x, xs[k] = x := ⟨_, rfl⟩
      have HX := Lib.hid hx
      rw [hx] at hh
      clear hx
      obtain ⟨t, m, cv, ii⟩ := x
      obtain ⟨c0, c1, c2, c3⟩ := hh
      simp only at c0 c1 c2 c3
      have hx1 := box_below wr (.cells #[.int .i64 t, .int .i64 m, .bool cv, .bool ii] 24)
      have hb1 := hb.trans (hx1.mono hb.size)
      have hs4 : S4 wr.heap.size t m cv ii (wr.alloc (.cells #[.int .i64 t, .int .i64 m, .bool cv, .bool ii] 24)) := by
        obtain ⟨ad, had, e0, e1, e2, e3⟩ := (box_ls wr (t, m, cv, ii)).here (i := 0) (by simp)
        cases had
        simp only [List.getElem_cons_zero, Nat.zero_mul, add_at, Nat.zero_add] at e0 e1 e2 e3
        exact ⟨e0, e1, e2, e3⟩
      have HC := Lib.hid (rcheck_any t m 0 (wr.alloc (.cells #[.int .i64 t, .int .i64 m, .bool cv, .bool ii] 24)))
      have HFx := Lib.hid (HF.out _ hb1 t)
      have HS4 := Lib.hid hs4
      have HB1 := Lib.hid hb1
      have HOK := Lib.hid (show okW xs[k] = okB3 t m 0 by rw [HX.out]; rfl)
      obtain ⟨q, hq⟩ : ∃ q, okB3 t m 0 = q := ⟨_, rfl⟩
      have HFI := Lib.hid (show fndI xs[k].1 xs = fndI t xs by rw [HX.out])
      have HCV := Lib.hid (show xs[k].2.2.1 = cv by rw [HX.out])
      have hfc := idx_cases (fun y => y.1 == t) xs
      change (fndI t xs = -1 ∧ _) ∨ ∃ k hk, fndI t xs = _ ∧ _ at hfc
      have hf1 : -1 ≤ fndI t xs ∧ fndI t xs ≤ 5000 := by
        rcases hfc with ⟨h1, -⟩ | ⟨k', hk', h1, -⟩ <;> rw [h1] <;> (try have := HN.out) <;> omega
      clear hfc
      generalize fndI t xs = f at *
      rw [hq] at HC HOK
      have HLT := Lib.hid hlt'
      clear hx1 hb1 hs4 hq
      obtain ⟨hf1, hf2⟩ := hf1
      have HF12 := Lib.hid hf2
      clear hf2
      cases q
      · have HG := Lib.hid (gd_not HLT.out (fun hg => by have := hg.1; rw [HOK.out] at this; cases this))
        rw [show errV false = 1 from rfl] at HC
        go_wp2_with (go_at_call 11; ((with_reducible refine HC.out.mono ?_); rintro e w1 ⟨rfl, rfl⟩))
        go_ret
        exact ⟨by rw [HG.out]; rfl, HB1.out⟩
      · rw [show errV true = 0 from rfl] at HC
        by_cases hfk : f = (k : Int)
        · subst hfk
          by_cases hk0 : k = 0
          · have HG := Lib.hid (show Gd xs k HLT.out from ⟨HOK.out, HFI.out, fun j hj => by omega⟩)
            have hk1 : ¬ (0 < (k : Int)) := by omega
            have hk2 : ¬ (0 < k) := by omega
            have HK0 := Lib.hid hk0
            clear hk0
            go_wp2_with fail
            refine HC.out.mono ?_
            rintro e w1 ⟨rfl, rfl⟩
            go_wp2_with fail
            refine HFx.out.mono ?_
            rintro e w2 ⟨rfl, hb2⟩
            have HB2 := Lib.hid (HB1.out.trans (hb2.mono HB1.out.size))
            clear hb2 c0 c1 c2 c3
            go_wp2_with fail
            go_roundw
            case rel =>
              refine ⟨k + 1, by omega, by go_num, fun i hi h => ?_, HB2.out⟩
              have e0 := HK0.out
              obtain rfl : i = k := by omega
              exact HG.out
            case measure => simp [intOf]; omega
          · obtain ⟨j, rfl⟩ : ∃ j, k = j + 1 := ⟨k - 1, by omega⟩
            clear hk0
            have hjl : j < xs.length := by have := HLT.out; omega
            have HP := Lib.hid (fun (w2 : World) (hb2 : Below W.heap.size W w2) => (H.out.below hb2).here hjl)
            obtain ⟨pv, hpv⟩ : ∃ pv, xs[j].2.2.1 = pv := ⟨_, rfl⟩
            have HPV := Lib.hid hpv
            have hnext : ∀ i (_ : i < j + 1 + 1) (h : i < xs.length), Gd xs (j + 1) HLT.out → Gd xs i h := fun i hi h hg => by
              rcases Nat.lt_or_ge i (j + 1) with h' | h'
              · exact HA.out i h' h
              · obtain rfl : i = j + 1 := by omega
                exact hg
            have HNX := Lib.hid hnext
            clear hnext hpv
            cases cv
            · have HG := Lib.hid (show Gd xs (j + 1) HLT.out from ⟨HOK.out, HFI.out, fun j hj hc => by rw [HCV.out] at hc; cases hc⟩)
              go_wp2_with (first | (go_at_call 11; ((with_reducible refine HC.out.mono ?_); rintro e w1 ⟨rfl, rfl⟩)) | (go_at_call 19; ((with_reducible refine HFx.out.mono ?_); rintro e w2 ⟨rfl, hb2⟩; obtain ⟨s0, s1, s2, s3⟩ := s4_below HS4.out hb2)))
              have HB2 := Lib.hid (HB1.out.trans (hb2.mono HB1.out.size))
              go_roundw
              case rel => exact ⟨j + 1 + 1, by omega, by go_num, fun i hi h => HNX.out i hi h HG.out, HB2.out⟩
              case measure => simp [intOf]; omega
            · go_wp2_with fail
              refine HC.out.mono ?_
              rintro e w1 ⟨rfl, rfl⟩
              go_wp2_with fail
              refine HFx.out.mono ?_
              rintro e w2 ⟨rfl, hb2⟩
              have hb3 := HB1.out.trans (hb2.mono HB1.out.size)
              obtain ⟨s0, s1, s2, s3⟩ := s4_below HS4.out hb2
              obtain ⟨ad, had, -, -, p2, -⟩ := HP.out w2 hb3
              cases had
              rw [HPV.out] at p2
              have HB2 := Lib.hid hb3
              have hszz := hb2.size
              clear hb2 hb3 c0 c1 c2 c3
              cases pv
              · have HG := Lib.hid (gd_not HLT.out (fun hg => by have := hg.2.2 j rfl HCV.out; rw [HPV.out] at this; cases this))
                go_wp2_with fail
                go_ret
                exact ⟨by rw [HG.out]; rfl, HB2.out⟩
              · have HG := Lib.hid (show Gd xs (j + 1) HLT.out from ⟨HOK.out, HFI.out, fun j' hj' _ => by obtain rfl : j' = j := by omega
                                                                                                          exact HPV.out⟩)
                go_wp2_with fail
                go_roundw
                case rel => exact ⟨j + 1 + 1, by omega, by go_num, fun i hi h => HNX.out i hi h HG.out, HB2.out⟩
                case measure => simp [intOf]; omega
        · have hfk' : (f != (k : Int)) = true := by simpa using hfk
          have HG := Lib.hid (gd_not HLT.out (fun hg => by have := hg.2.1; rw [HFI.out] at this; exact hfk this))
          clear hfk
          go_wp2_with (first | (go_at_call 11; ((with_reducible refine HC.out.mono ?_); rintro e w1 ⟨rfl, rfl⟩)) | (go_at_call 19; ((with_reducible refine HFx.out.mono ?_); rintro e w2 ⟨rfl, hb2⟩)))
          have HB2 := Lib.hid (HB1.out.trans (hb2.mono HB1.out.size))
          go_ret
          exact ⟨by rw [HG.out]; rfl, HB2.out⟩
    · obtain rfl : k = n := by omega
      have HG := Lib.hid ((right_gd xs).2 (fun i hi => HA.out i (by have := HN.out; omega) hi))
      go_wp2
      go_ret
      exact ⟨by rw [HG.out]; rfl, hb⟩
end
end Go.Proofs.Ytpoibgiajaeegaa
