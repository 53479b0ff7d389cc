/- A queue: Ask and Cost. -/
import Derived.Test.YteaibamkfccplaaDoorQE
import Derived.Test.YteaibamkfccplaaDoorWG2
namespace Go.Proofs.YteaibamkfccplaaDoor
open Go Go.RowKit Go.Shelf
set_option maxRecDepth 100000

theorem ask_keep {tx m fl x y : Int} {H H' : List Hs.Hd} {L L' : List Ws.Wt} (h : ask tx m fl H L = (x, y, H', L')) (hy : y ≠ 0) : H' = H ∧ L' = L ∧ x = 0 := by
  rcases ask_cases tx m fl H L with ⟨_, _, _, e⟩ | ⟨_, _, e⟩ | ⟨_, _, _, e⟩ | ⟨_, _, _, _, e⟩ | ⟨_, _, _, _, e⟩ <;> rw [e] at h <;> simp only [Prod.mk.injEq] at h <;> obtain ⟨e1, e2, e3, e4⟩ := h
  · exact ⟨e3.symm, e4.symm, e1.symm⟩
  · exact absurd e2.symm hy
  · exact absurd e2.symm hy
  · exact ⟨e3.symm, e4.symm, e1.symm⟩
  · exact absurd e2.symm hy
theorem ins_len (x : Ws.Wt) (ys : List Ws.Wt) : (Ws.ins x ys).length = ys.length + 1 := by
  have := Ws.plc_le x.2.2.1 ys
  unfold Ws.ins
  rw [List.length_append, List.length_append, List.length_take, List.length_drop]
  simp
  omega
theorem grant_len (x : Ws.Wt) (H : List Hs.Hd) : (grantH x H).length ≤ H.length + 1 := by
  unfold grantH
  split
  · omega
  · rw [Hs.setL_len]; split <;> omega
theorem ask_len (tx m fl : Int) (H : List Hs.Hd) (L : List Ws.Wt) : (ask tx m fl H L).2.2.1.length + (ask tx m fl H L).2.2.2.length ≤ H.length + L.length + 1 := by
  rcases ask_cases tx m fl H L with ⟨_, _, _, e⟩ | ⟨_, _, e⟩ | ⟨_, _, _, e⟩ | ⟨_, _, _, _, e⟩ | ⟨_, _, _, _, e⟩ <;> rw [e] <;> simp only
  · omega
  · omega
  · have := grant_len (reqW tx m fl H) H; omega
  · omega
  · rw [ins_len]; omega
section
variable {W W' w w' : World} {b R N n1 n2 : Nat} {A1 A2 B1 B2 : Option Addr} {c1 c2 d1 d2 : Nat} {H H' : List Hs.Hd} {L L' : List Ws.Wt}
theorem asked_any (ht : TabG W) (h : QAt W b A1 c1 A2 c2 H L) (h1 : H.length ≤ 400) (h2 : L.length ≤ 400) (tx m fl : Int) :
    Calls Tryd.prog 31 #[qp b, .int .i64 tx, .int .i64 m, .int .i64 fl] W (Askd W (ask tx m fl H L)) := by
  by_cases he : errR tx m fl L = 0
  · exact asked_ok ht h h1 h2 tx m fl he
  · refine (asked_err h h2 tx m fl rfl he).mono ?_
    rintro e w' ⟨rfl, hb⟩
    exact askd_no (ask_err rfl he) he hb
theorem ret_two {k l : IntKind} {a b c d : Int} (h : a = b) (h' : c = d) : Ending.returned (.tuple #[.int k a, .int l c]) = .returned (.tuple #[.int k b, .int l d]) := by rw [h, h']
/-- what a call hands back that may change this queue alone -/
def Does (b : Nat) (W : World) (v : Value) (H : List Hs.Hd) (L : List Ws.Wt) (e : Ending) (w' : World) : Prop := e = .returned v ∧ Left b W H L w'
set_option maxHeartbeats 1000000 in
theorem ask_any (ht : TabG W) (h : QAt W b A1 c1 A2 c2 H L) (h1 : H.length ≤ 400) (h2 : L.length ≤ 400) (tx m fl : Int) :
    Calls Tryd.prog 18 #[qp b, .int .i64 tx, .int .i64 m, .int .i64 fl] W (Does b W (.tuple #[.int .i64 (ask tx m fl H L).1, .int .i64 (ask tx m fl H L).2.1]) (ask tx m fl H L).2.2.1 (ask tx m fl H L).2.2.2) := by
  have HF := Lib.hid (asked_any ht h h1 h2 tx m fl)
  have HK := Lib.hid (fun x y H' L' => @ask_keep tx m fl x y H H' L L')
  have HQ := Lib.hid h
  obtain ⟨⟨x, y, H', L'⟩, hX⟩ : ∃ X, ask tx m fl H L = X := ⟨_, rfl⟩
  rw [hX] at HF HK ⊢
  simp only
  clear h ht hX
  go_enter Tryd.func18, Tryd.ntmps18
  go_wp2_with fail
  refine HF.out.mono ?_
  rintro e w1 ⟨B1, d1, B2, d2, rfl, hh, hl, hb1⟩
  by_cases hy : y = 0
  · subst hy
    have hq1 := (HQ.out.below hb1).below (box_below w1 (.cells #[.slice B1 (okH (x, 0, H', L')).length d1, .slice B2 (okL (x, 0, H', L')).length d2] 28))
    have q0 := hq1.e0
    have q1 := hq1.e1
    have f0 := hq1.fz 0
    have f1 := hq1.fz 1
    have HN := Lib.hid ((hq1.set0 (hh.below (box_below _ _))).set1 ((hl.below (box_below w1 (.cells #[.slice B1 (okH (x, 0, H', L')).length d1, .slice B2 (okL (x, 0, H', L')).length d2] 28))).off (b := b) (fun k x _ => hq1.noint k x.1) (OnlyS.set _ _ _ _)))
    have HO := Lib.hid (((OnlyS.of_below (S := (· = b)) (hb1.trans ((box_below w1 (.cells #[.slice B1 (okH (x, 0, H', L')).length d1, .slice B2 (okL (x, 0, H', L')).length d2] 28)).mono hb1.size))).setIn b 0 (.slice B1 (okH (x, 0, H', L')).length d1) (.inl rfl)).setIn b 1 (.slice B2 (okL (x, 0, H', L')).length d2) (.inl rfl))
    rw [show okH (x, 0, H', L') = H' from rfl, show okL (x, 0, H', L') = L' from rfl] at *
    have hne : b ≠ w1.heap.size := by have := HQ.out.lt; have := hb1.size; omega
    clear hh hl hb1 hq1 HK HF
    generalize H'.length = n at *
    generalize L'.length = k at *
    go_wp2_with fail
    go_ret2
    exact ⟨rfl, ⟨_, _, _, _, HN.out⟩, HO.out⟩
  · obtain ⟨rfl, rfl, rfl⟩ := HK.out _ _ _ _ rfl hy
    have hyb : (y == 0) = false := by simpa using hy
    have HQ1 := Lib.hid ((HQ.out.below hb1).below (box_below w1 (.cells #[.slice B1 (okH (0, y, H', L')).length d1, .slice B2 (okL (0, y, H', L')).length d2] 28)))
    have HB := Lib.hid (hb1.trans ((box_below w1 (.cells #[.slice B1 (okH (0, y, H', L')).length d1, .slice B2 (okL (0, y, H', L')).length d2] 28)).mono hb1.size))
    clear hh hl hb1 HK hy HF HQ
    generalize (okH (0, y, H', L')).length = n at *
    generalize (okL (0, y, H', L')).length = k at *
    go_wp2_with fail
    go_ret2
    exact ⟨rfl, ⟨_, _, _, _, HQ1.out⟩, OnlyS.of_below HB.out⟩
theorem ask_none (tx m fl : Int) (W : World) : Calls Tryd.prog 18 #[.pointer none, .int .i64 tx, .int .i64 m, .int .i64 fl] W fun e w' => e = .returned (.tuple #[.int .i64 0, .int .i64 70]) ∧ Below W.heap.size W w' := by
  go_enter Tryd.func18, Tryd.ntmps18
  go_wp2_with fail
  refine (asked_none tx m fl W).mono ?_
  rintro e w1 ⟨rfl, hb1⟩
  have HB := Lib.hid (hb1.trans ((box_below w1 (.cells #[.slice none 0 0, .slice none 0 0] 28)).mono hb1.size))
  clear hb1
  go_wp2_with fail
  go_ret2
  exact ⟨rfl, HB.out⟩
/-- how much greater a queue is behind an Ask -/
def costV (X : Ans) (H : List Hs.Hd) (L : List Ws.Wt) : Int := if X.2.1 = 0 then ((X.2.2.1.length + X.2.2.2.length : Nat) : Int) - ((H.length + L.length : Nat) : Int) else 0
set_option maxHeartbeats 1000000 in
theorem cost_any (ht : TabG W) (h : QAt W b A1 c1 A2 c2 H L) (h1 : H.length ≤ 400) (h2 : L.length ≤ 400) (tx m fl : Int) :
    Calls Tryd.prog 8 #[qp b, .int .i64 tx, .int .i64 m, .int .i64 fl] W fun e w' => e = .returned (.tuple #[.int .i64 (costV (ask tx m fl H L) H L), .int .i64 (ask tx m fl H L).2.1]) ∧ Below W.heap.size W w' := by
  have HF := Lib.hid (asked_any ht h h1 h2 tx m fl)
  have hlen := ask_len tx m fl H L
  have HQ := Lib.hid h
  obtain ⟨⟨x, y, H', L'⟩, hX⟩ : ∃ X, ask tx m fl H L = X := ⟨_, rfl⟩
  rw [hX] at HF hlen ⊢
  simp only at hlen ⊢
  clear h ht hX
  go_enter Tryd.func8, Tryd.ntmps8
  go_wp2_with fail
  refine HF.out.mono ?_
  rintro e w1 ⟨B1, d1, B2, d2, rfl, hh, hl, hb1⟩
  by_cases hy : y = 0
  · subst hy
    have HS1 := Lib.hid (size_any (QAt.new w1 hh hl).its (by show H'.length ≤ 5000; omega) (by show L'.length ≤ 5000; omega))
    have HS2 := Lib.hid (fun (w2 : World) (hb : Below w1.heap.size w1 w2) => size_any ((HQ.out.below hb1).below hb).its (by omega) (by omega))
    have HV := Lib.hid (show costV (x, 0, H', L') H L = ((H'.length + L'.length : Nat) : Int) - ((H.length + L.length : Nat) : Int) from rfl)
    have HB := Lib.hid (hb1.trans ((box_below w1 (.cells #[.slice B1 (okH (x, 0, H', L')).length d1, .slice B2 (okL (x, 0, H', L')).length d2] 28)).mono hb1.size))
    have HB1 := Lib.hid (box_below w1 (.cells #[.slice B1 (okH (x, 0, H', L')).length d1, .slice B2 (okL (x, 0, H', L')).length d2] 28))
    rw [show okH (x, 0, H', L') = H' from rfl, show okL (x, 0, H', L') = L' from rfl] at *
    clear hh hl hb1 HF HQ
    generalize H'.length = n' at *
    generalize L'.length = k' at *
    generalize H.length = n at *
    generalize L.length = k at *
    go_wp2_with fail
    refine HS1.out.mono ?_
    rintro e w2 ⟨rfl, hb2⟩
    have HS3 := Lib.hid (HS2.out _ (HB1.out.trans (hb2.mono HB1.out.size)))
    have HB2 := Lib.hid (HB.out.trans (hb2.mono HB.out.size))
    clear hb2 HS2 HS1 HB HB1
    go_wp2_with fail
    refine HS3.out.mono ?_
    rintro e w3 ⟨rfl, hb3⟩
    have HB3 := Lib.hid (HB2.out.trans (hb3.mono HB2.out.size))
    clear hb3 HS3 HB2
    go_wp2_with fail
    go_ret2
    exact ⟨ret_two (by have := HV.out; omega) rfl, HB3.out⟩
  · have hyb : (y != 0) = true := by simpa using hy
    have HB := Lib.hid (hb1.trans ((box_below w1 (.cells #[.slice B1 (okH (x, y, H', L')).length d1, .slice B2 (okL (x, y, H', L')).length d2] 28)).mono hb1.size))
    have HV := Lib.hid (show costV (x, y, H', L') H L = 0 from if_neg hy)
    clear hh hl hb1 hy HF HQ
    generalize (okH (x, y, H', L')).length = n at *
    generalize (okL (x, y, H', L')).length = k at *
    go_wp2_with fail
    go_ret2
    exact ⟨ret_two HV.out.symm rfl, HB.out⟩
end
end Go.Proofs.YteaibamkfccplaaDoor
