/- A queue: Release and Cancel. -/
import Derived.Test.YteaibamkfccplaaDoorQG
namespace Go.Proofs.YteaibamkfccplaaDoor
open Go Go.RowKit Go.Shelf
set_option maxRecDepth 100000

/-- an error, who is told, the holds and the waits behind it -/
structure Out where
  err : Int
  told : List Ws.Wt
  hs : List Hs.Hd
  ws : List Ws.Wt
def swept (X : List Hs.Hd × List Ws.Wt × List Ws.Wt) : Out := ⟨0, X.2.2, X.1, X.2.1⟩
def isnt (tx : Int) (H : List Hs.Hd) (L : List Ws.Wt) : Bool := !(Hs.fst tx H != 0) && !decide (0 ≤ Ws.fndI tx L)
def rel (tx : Int) (H : List Hs.Hd) (L : List Ws.Wt) : Out := if isnt tx H L then ⟨2, [], H, L⟩ else swept (swp (Ws.wout tx L) (Hs.wout tx H))
def can (tx : Int) (H : List Hs.Hd) (L : List Ws.Wt) : Out := if decide (0 ≤ Ws.fndI tx L) then swept (swp (Ws.wout tx L) H) else ⟨2, [], H, L⟩
/-- what a Release or a Cancel leaves -/
def Gone (b : Nat) (W : World) (X : Out) (e : Ending) (w' : World) : Prop :=
  ∃ A c, e = .returned (.tuple #[.slice A X.told.length c, .int .i64 X.err]) ∧ Ws.Ls w' A c X.told ∧ Left b W X.hs X.ws w'
theorem once_out {L : List Ws.Wt} (h : Once L) (tx : Int) : Once (Ws.wout tx L) := List.Pairwise.filter _ h
section
variable {W W' w w' : World} {b n1 n2 : Nat} {A1 A2 B1 B2 : Option Addr} {c1 c2 d1 d2 : Nat} {H H' : List Hs.Hd} {L L' : List Ws.Wt} {X : Out}
theorem gone_no (hX : X = ⟨2, [], H, L⟩) (h : QAt w b A1 c1 A2 c2 H L) (hb : Below W.heap.size W w) : Gone b W X (.returned (.tuple #[.slice none 0 0, .int .i64 2])) w := by
  subst hX
  exact ⟨none, 0, rfl, Ws.Ls.nils _, ⟨_, _, _, _, h⟩, OnlyS.of_below hb⟩
theorem release_none (tx : Int) (W : World) : Calls Tryd.prog 12 #[.pointer none, .int .i64 tx] W fun e w' => e = .returned (.tuple #[.slice none 0 0, .int .i64 70]) ∧ W = w' := by
  go_enter Tryd.func12, Tryd.ntmps12
  go_wp2
  go_ret2
  exact ⟨rfl, rfl⟩
theorem cancel_none (tx : Int) (W : World) : Calls Tryd.prog 15 #[.pointer none, .int .i64 tx] W fun e w' => e = .returned (.tuple #[.slice none 0 0, .int .i64 70]) ∧ W = w' := by
  go_enter Tryd.func15, Tryd.ntmps15
  go_wp2
  go_ret2
  exact ⟨rfl, rfl⟩
theorem told_gone {Y : List Hs.Hd × List Ws.Wt × List Ws.Wt} {A : Option Addr} {c k : Nat} (hX : X = swept Y) (ho : OnlyS (· = b) W w) (hk : Y.2.2.length = k) (hl : Ws.Ls w' A c Y.2.2) (hg : Left b w Y.1 Y.2.1 w') :
    Gone b W X (.returned (.tuple #[.slice A k c, .int .i64 0])) w' := by
  subst hX
  subst hk
  exact ⟨A, c, rfl, hl, hg.1, ho.trans hg.2⟩
set_option maxHeartbeats 2000000 in
theorem release_any (ht : TabG W) (h : QAt W b A1 c1 A2 c2 H L) (hl : H.length + L.length ≤ 400) (ho : Once L) (tx : Int) :
    Calls Tryd.prog 12 #[qp b, .int .i64 tx] W (Gone b W (rel tx H L)) := by
  have HQ := Lib.hid h
  have hb0 := tab_not ht h
  have HH := Lib.hid (has_any h.its (by omega) tx)
  have HA := Lib.hid (fun (w1 : World) (hb : Below W.heap.size W w1) => awaits_any (h.below hb).its (by omega) tx)
  have HT := Lib.hid ht
  have HO := Lib.hid (once_out ho tx)
  have hle : (Hs.wout tx H).length ≤ H.length := List.length_filter_le _ _
  have hle2 : (Ws.wout tx L).length ≤ L.length := List.length_filter_le _ _
  have HI := Lib.hid (show isnt tx H L = (!(Hs.fst tx H != 0) && !decide (0 ≤ Ws.fndI tx L)) from rfl)
  have HX := Lib.hid (show rel tx H L = if isnt tx H L then ⟨2, [], H, L⟩ else swept (swp (Ws.wout tx L) (Hs.wout tx H)) from rfl)
  clear h ht ho
  generalize rel tx H L = X at *
  generalize isnt tx H L = is at *
  generalize (Hs.fst tx H != 0) = p at *
  generalize decide (0 ≤ Ws.fndI tx L) = q at *
  go_enter Tryd.func12, Tryd.ntmps12
  go_wp2_with fail
  refine HH.out.mono ?_
  rintro e w1 ⟨rfl, hb1⟩
  have HA1 := Lib.hid (HA.out _ hb1)
  have HB1 := Lib.hid hb1
  clear HH HA hb1
  cases p
  · go_wp2_with fail
    refine HA1.out.mono ?_
    rintro e w2 ⟨rfl, hb2⟩
    have HB2 := Lib.hid (HB1.out.trans (hb2.mono HB1.out.size))
    clear HA1 HB1 hb2
    cases q
    · rw [HI.out] at HX
      have HN := Lib.hid (gone_no HX.out (HQ.out.below HB2.out) HB2.out)
      go_wp2_with fail
      go_ret2
      exact HN.out
    · rw [HI.out] at HX
      have hqz := HQ.out.below HB2.out
      have HOz := Lib.hid (OnlyS.of_below (S := (· = b)) HB2.out)
      have HD := Lib.hid (Hs.without_any hqz.h (by omega) tx)
      have HQz := Lib.hid hqz
      have q0 := hqz.e0
      have q1 := hqz.e1
      have f0 := hqz.fz 0
      clear hqz HQ HB2
      go_wp2_with fail
      refine HD.out.mono ?_
      rintro e w3 ⟨B1, d1, rfl, hls3, hb3⟩
      have hq3 := HQz.out.below hb3
      have HO4 := Lib.hid ((HOz.out.trans (OnlyS.of_below hb3)).trans (OnlyS.set b 0 w3 (.slice B1 (Hs.wout tx H).length d1)))
      have hq4 := hq3.set0 hls3
      have HQ4 := Lib.hid hq4
      have j0 := hq3.e0
      have f3 := hq3.fz 0
      have q4 := hq4.e1
      have f4 := hq4.fz 1
      have HW := Lib.hid (Ws.without_any hq4.l (by omega) tx)
      clear HD HOz HQz q0 q1 f0 hls3 hb3 hq3 hq4
      go_wp2_with fail
      generalize w3.setCell ⟨b, 0, none⟩ (.slice B1 (Hs.wout tx H).length d1) = w4 at *
      clear j0 f3
      refine HW.out.mono ?_
      rintro e w5 ⟨B2, d2, rfl, hls5, hb5⟩
      have hq5 := HQ4.out.below hb5
      have HO6 := Lib.hid ((HO4.out.trans (OnlyS.of_below hb5)).trans (OnlyS.set b 1 w5 (.slice B2 (Ws.wout tx L).length d2)))
      have hq6 := hq5.set1 hls5
      have j1 := hq5.e1
      have f5 := hq5.fz 1
      have HG := Lib.hid (gather_any (HT.out.only HO6.out hb0) hq6 (by omega) HO.out)
      clear HW HO4 HQ4 q4 f4 hls5 hb5 hq5 hq6
      go_wp2_with fail
      refine HG.out.mono ?_
      rintro e w7 ⟨A7, c7, rfl, hls7, hg7⟩
      obtain ⟨k, hk⟩ : ∃ k, (swp (Ws.wout tx L) (Hs.wout tx H)).2.2.length = k := ⟨_, rfl⟩
      have HE := Lib.hid (told_gone HX.out HO6.out hk hls7 hg7)
      rw [hk]
      clear HG hls7 hg7 hk j1 f5
      go_wp2_with fail
      go_ret2
      exact HE.out
  · rw [HI.out] at HX
    clear HA1
    have hqz := HQ.out.below HB1.out
    have HOz := Lib.hid (OnlyS.of_below (S := (· = b)) HB1.out)
    have HD := Lib.hid (Hs.without_any hqz.h (by omega) tx)
    have HQz := Lib.hid hqz
    have q0 := hqz.e0
    have q1 := hqz.e1
    have f0 := hqz.fz 0
    clear hqz HQ HB1
    go_wp2_with fail
    refine HD.out.mono ?_
    rintro e w3 ⟨B1, d1, rfl, hls3, hb3⟩
    have hq3 := HQz.out.below hb3
    have HO4 := Lib.hid ((HOz.out.trans (OnlyS.of_below hb3)).trans (OnlyS.set b 0 w3 (.slice B1 (Hs.wout tx H).length d1)))
    have hq4 := hq3.set0 hls3
    have HQ4 := Lib.hid hq4
    have j0 := hq3.e0
    have f3 := hq3.fz 0
    have q4 := hq4.e1
    have f4 := hq4.fz 1
    have HW := Lib.hid (Ws.without_any hq4.l (by omega) tx)
    clear HD HOz HQz q0 q1 f0 hls3 hb3 hq3 hq4
    go_wp2_with fail
    generalize w3.setCell ⟨b, 0, none⟩ (.slice B1 (Hs.wout tx H).length d1) = w4 at *
    clear j0 f3
    refine HW.out.mono ?_
    rintro e w5 ⟨B2, d2, rfl, hls5, hb5⟩
    have hq5 := HQ4.out.below hb5
    have HO6 := Lib.hid ((HO4.out.trans (OnlyS.of_below hb5)).trans (OnlyS.set b 1 w5 (.slice B2 (Ws.wout tx L).length d2)))
    have hq6 := hq5.set1 hls5
    have j1 := hq5.e1
    have f5 := hq5.fz 1
    have HG := Lib.hid (gather_any (HT.out.only HO6.out hb0) hq6 (by omega) HO.out)
    clear HW HO4 HQ4 q4 f4 hls5 hb5 hq5 hq6
    go_wp2_with fail
    refine HG.out.mono ?_
    rintro e w7 ⟨A7, c7, rfl, hls7, hg7⟩
    obtain ⟨k, hk⟩ : ∃ k, (swp (Ws.wout tx L) (Hs.wout tx H)).2.2.length = k := ⟨_, rfl⟩
    have HE := Lib.hid (told_gone HX.out HO6.out hk hls7 hg7)
    rw [hk]
    clear HG hls7 hg7 hk j1 f5
    go_wp2_with fail
    go_ret2
    exact HE.out
set_option maxHeartbeats 2000000 in
theorem cancel_any (ht : TabG W) (h : QAt W b A1 c1 A2 c2 H L) (hl : H.length + L.length ≤ 400) (ho : Once L) (tx : Int) :
    Calls Tryd.prog 15 #[qp b, .int .i64 tx] W (Gone b W (can tx H L)) := by
  have HQ := Lib.hid h
  have hb0 := tab_not ht h
  have HA := Lib.hid (awaits_any h.its (by omega) tx)
  have HT := Lib.hid ht
  have HO := Lib.hid (once_out ho tx)
  have hle2 : (Ws.wout tx L).length ≤ L.length := List.length_filter_le _ _
  have HX := Lib.hid (show can tx H L = if decide (0 ≤ Ws.fndI tx L) then swept (swp (Ws.wout tx L) H) else ⟨2, [], H, L⟩ from rfl)
  clear h ht ho
  generalize can tx H L = X at *
  generalize decide (0 ≤ Ws.fndI tx L) = q at *
  go_enter Tryd.func15, Tryd.ntmps15
  go_wp2_with fail
  refine HA.out.mono ?_
  rintro e w2 ⟨rfl, hb2⟩
  have HB2 := Lib.hid hb2
  clear HA hb2
  cases q
  · have HN := Lib.hid (gone_no HX.out (HQ.out.below HB2.out) HB2.out)
    go_wp2_with fail
    go_ret2
    exact HN.out
  · have hqz := HQ.out.below HB2.out
    have HO4 := Lib.hid (OnlyS.of_below (S := (· = b)) HB2.out)
    have HQ4 := Lib.hid hqz
    have q4 := hqz.e1
    have f4 := hqz.fz 1
    have HW := Lib.hid (Ws.without_any hqz.l (by omega) tx)
    clear hqz HQ HB2
    go_wp2_with fail
    refine HW.out.mono ?_
    rintro e w5 ⟨B2, d2, rfl, hls5, hb5⟩
    have hq5 := HQ4.out.below hb5
    have HO6 := Lib.hid ((HO4.out.trans (OnlyS.of_below hb5)).trans (OnlyS.set b 1 w5 (.slice B2 (Ws.wout tx L).length d2)))
    have hq6 := hq5.set1 hls5
    have j1 := hq5.e1
    have f5 := hq5.fz 1
    have HG := Lib.hid (gather_any (HT.out.only HO6.out hb0) hq6 (by omega) HO.out)
    clear HW HO4 HQ4 q4 f4 hls5 hb5 hq5 hq6
    go_wp2_with fail
    refine HG.out.mono ?_
    rintro e w7 ⟨A7, c7, rfl, hls7, hg7⟩
    obtain ⟨k, hk⟩ : ∃ k, (swp (Ws.wout tx L) H).2.2.length = k := ⟨_, rfl⟩
    have HE := Lib.hid (told_gone HX.out HO6.out hk hls7 hg7)
    rw [hk]
    clear HG hls7 hg7 hk j1 f5
    go_wp2_with fail
    go_ret2
    exact HE.out
end
end Go.Proofs.YteaibamkfccplaaDoor
