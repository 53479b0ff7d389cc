/- The walk of the law GroupStays: whatever holds and numbers came in, it returns true and changes nothing that was there. -/
import Derived.Test.YtfapgecpndlibaaDoorB1
namespace Go.Proofs.YtfapgecpndlibaaDoor
open Go Go.RowKit Go.Shelf

theorem setL_le (tx m : Int) (xs : List Hd) : (setL tx m xs).length ≤ xs.length + 1 := by rw [setL_len]; split <;> omega
set_option maxRecDepth 100000 in
set_option maxHeartbeats 4000000 in
theorem stays_walk (A : Option Addr) (n c : Nat) (xs : List Hd) (tx m : Int) (W : World) (ht : TabG W) (hn : xs.length = n) (hr : Ls W A c xs) (hw : ∀ x ∈ xs, wf64 x.1) (hm : n ≤ maxLen) (htx : wf64 tx) :
    Calls Tryd.prog 4 #[.slice A n c, .int .i64 tx, .int .i64 m] W fun e w' => e = .returned (.bool true) ∧ Below W.heap.size W w' := by
  have hmx : n ≤ 9223372036854775807 := by unfold maxLen at hm; omega
  have qa := Lib.hid (awake_g ht)
  have HN := Lib.hid hn
  have HT := Lib.hid ht
  have HB0 := Lib.hid (Below.refl W.heap.size W)
  by_cases h30 : n ≤ 30
  · have d30 : decide (n ≤ 30) = true := by simpa using h30
    have HRt := Lib.hid (fun (w1 : World) (hb : Below W.heap.size W w1) => right_any (ht.later hb) (hr.below hb) hw (by omega))
    have HD := Lib.hid (fun (w1 : World) (hb : Below W.heap.size W w1) => without_any (hr.below hb) (by omega) tx)
    have HGo := Lib.hid (fun (w1 : World) (hb : Below W.heap.size W w1) => goes_any (ht.later hb) (hr.below hb) (by omega) tx m)
    have HSe := Lib.hid (fun (w1 : World) (hb : Below W.heap.size W w1) => set_any (hr.below hb) (by omega) tx m)
    have HR1 := Lib.hid (fun (w1 : World) (A1 : Option Addr) (c1 : Nat) (hb : Below W.heap.size W w1) (h : Ls w1 A1 c1 (wout tx xs)) => right_any (ht.later hb) h (fun x hx => hw x (wout_mem hx).1) (by have := wout_len tx xs; omega))
    have HR2 := Lib.hid (fun (w1 : World) (A1 : Option Addr) (c1 : Nat) (hb : Below W.heap.size W w1) (h : Ls w1 A1 c1 (setL tx m xs)) => right_any (ht.later hb) h (fun x hx => by
      rcases setL_mem hx with hx | rfl
      · exact hw x hx
      · exact htx) (by have := setL_le tx m xs; omega))
    have HO2 := Lib.hid (fun (w1 : World) (A1 : Option Addr) (c1 : Nat) (h : Ls w1 A1 c1 (setL tx m xs)) => modeOf_any h (by have := setL_le tx m xs; omega) tx)
    rw [setL_fst] at HO2
    obtain ⟨r, hrr⟩ : ∃ r, rightB xs = r := ⟨_, rfl⟩
    obtain ⟨g, hg⟩ : ∃ g, goesB tx m xs = g := ⟨_, rfl⟩
    have HK1 := Lib.hid (fun (h : r = true) => (right_iff _).2 (wout_rg (a := tx) ((right_iff xs).1 (hrr.trans h))))
    have HK2 := Lib.hid (fun (h : r = true) (h2 : g = true) (q0 : 1 ≤ tx) (q1 : 1 ≤ m) (q2 : m ≤ 6) => (right_iff _).2 (setL_rg (tx := tx) (m := m) ((right_iff xs).1 (hrr.trans h)) q0 q1 q2 (hg.trans h2)))
    rw [hn, hrr] at HRt
    rw [hn, hg] at HGo
    rw [hn] at HD HSe
    generalize rightB (wout tx xs) = r1 at *
    generalize rightB (setL tx m xs) = r2 at *
    generalize wout tx xs = ys at *
    generalize setL tx m xs = zs at *
    clear hn hr hm ht hw htx hrr hg
    go_enter Tryd.func4, Tryd.ntmps4
    go_wp2_with fail
    refine Gives.use qa.out HB0.out ?_
    intro w1 hb1
    have HF1 := Lib.hid (few_any A n c w1)
    rw [d30] at HF1
    have HRt1 := Lib.hid (HRt.out _ hb1)
    have HB1 := Lib.hid hb1
    clear hb1 HRt
    go_wp2_with (go_at_call 7; ((with_reducible refine HF1.out.mono ?_); rintro e w2 ⟨rfl, rfl⟩))
    refine HRt1.out.mono ?_
    rintro e w2 ⟨rfl, hb2⟩
    have HB2 := Lib.hid (HB1.out.trans (hb2.mono HB1.out.size))
    clear hb2 HRt1 HF1
    cases r
    · go_wp2_with fail
      go_ret
      exact ⟨rfl, HB2.out⟩
    · obtain rfl : r1 = true := HK1.out rfl
      have HD2 := Lib.hid (HD.out _ HB2.out)
      clear HD HK1
      go_wp2_with fail
      refine HD2.out.mono ?_
      rintro e w3 ⟨A1, c1, rfl, hls, hb3⟩
      have hb4 := HB2.out.trans (hb3.mono HB2.out.size)
      have HX := Lib.hid (HR1.out _ _ _ hb4 hls)
      have HB4 := Lib.hid hb4
      clear hb3 hb4 hls HD2 HR1
      generalize ys.length = k1 at HX ⊢
      go_wp2_with fail
      refine HX.out.mono ?_
      rintro e w4 ⟨rfl, hb5⟩
      have HB5 := Lib.hid (HB4.out.trans (hb5.mono HB4.out.size))
      clear hb5 HX
      by_cases q0 : tx < 1
      · go_wp2_with fail
        go_ret
        exact ⟨rfl, HB5.out⟩
      · by_cases q1 : m < 1
        · go_wp2_with fail
          go_ret
          exact ⟨rfl, HB5.out⟩
        · by_cases q2 : 6 < m
          · go_wp2_with fail
            go_ret
            exact ⟨rfl, HB5.out⟩
          · have HG := Lib.hid (HGo.out _ HB5.out)
            cases g
            · clear HGo HK2
              go_wp2_with fail
              refine HG.out.mono ?_
              rintro e w5 ⟨rfl, hb6⟩
              have HB6 := Lib.hid (HB5.out.trans (hb6.mono HB5.out.size))
              clear hb6
              go_wp2_with fail
              go_ret
              exact ⟨rfl, HB6.out⟩
            · obtain rfl : r2 = true := HK2.out (by first | rfl | trivial) (by first | rfl | trivial) (by omega) (by omega) (by omega)
              clear HGo HK2
              go_wp2_with fail
              refine HG.out.mono ?_
              rintro e w5 ⟨rfl, hb6⟩
              have hb7 := HB5.out.trans (hb6.mono HB5.out.size)
              have HS6 := Lib.hid (HSe.out _ hb7)
              have HB7 := Lib.hid hb7
              clear hb6 hb7 HSe HG
              go_wp2_with fail
              refine HS6.out.mono ?_
              rintro e w6 ⟨A2, c2, rfl, hls, hb8⟩
              have hb9 := HB7.out.trans (hb8.mono HB7.out.size)
              have HX := Lib.hid (HR2.out _ _ _ hb9 hls)
              have HL := Lib.hid (fun (w7 : World) (hb : Below w6.heap.size w6 w7) => HO2.out w7 A2 c2 (hls.below hb))
              have HB9 := Lib.hid hb9
              clear hb8 hb9 hls HS6 HR2 HO2
              generalize zs.length = k2 at HX HL ⊢
              go_wp2_with fail
              refine HX.out.mono ?_
              rintro e w7 ⟨rfl, hb10⟩
              have HY := Lib.hid (HL.out _ hb10)
              have HB10 := Lib.hid (HB9.out.trans (hb10.mono HB9.out.size))
              clear hb10 HX HL
              go_wp2_with fail
              refine HY.out.mono ?_
              rintro e w8 ⟨rfl, hb11⟩
              have HB11 := Lib.hid (HB10.out.trans (hb11.mono HB10.out.size))
              clear hb11
              go_wp2_with fail
              go_ret
              exact ⟨rfl, HB11.out⟩
  · have d30 : decide (n ≤ 30) = false := by simpa using h30
    clear hn hr hm ht hw htx
    go_enter Tryd.func4, Tryd.ntmps4
    go_wp2_with fail
    refine Gives.use qa.out HB0.out ?_
    intro w1 hb1
    have HF1 := Lib.hid (few_any A n c w1)
    rw [d30] at HF1
    go_wp2_with (go_at_call 7; ((with_reducible refine HF1.out.mono ?_); rintro e w2 ⟨rfl, rfl⟩))
    go_ret
    exact ⟨rfl, hb1⟩
end Go.Proofs.YtfapgecpndlibaaDoor
