/- The walk of the law that a wheel does what the document says. -/
import Derived.Test.YthoicmbpjcgdpaaQ2
import Derived.Deep.RegionHeld3
namespace Go.Proofs.Ythoicmbpjcgdpaa
open Go Go.RowKit Go.Shelf

theorem does_long (m n : Int) (A : Option Addr) (L c : Nat) (w : World) (h : 40 < L) (hm : L ≤ maxLen) :
    Calls Try.prog 3 #[.int .i64 m, .slice A L c, .int .i64 n] w fun e w' => e = .returned (.bool true) ∧ Below w.heap.size w w' := by
  unfold maxLen at hm
  have h1 : (40 : Int) < (L : Int) := by omega
  set_option maxRecDepth 100000 in
  go_enter Try.func3, Try.ntmps3
  go_wp2_with fail
  refine (awake_any _).mono ?_
  rintro e w1 ⟨rfl, hb1⟩
  go_wp2_with fail
  go_ret
  exact ⟨rfl, hb1⟩
theorem ref_new (W : World) : RefAt (W.alloc (.cells #[.slice none 0 0] 29)) W.heap.size none 0 [] :=
  ⟨by simp [go_sem], by simp [go_sem], ⟨fun _ => ⟨rfl, rfl⟩, by simp, by simp, by simp, fun a ha => by simp at ha⟩, fun ⟨a, ha, _⟩ => by simp at ha⟩
/-- a wheel and the document's wheel with the same alarms, its list named -/
def DwA (w W : World) (b bx : Nat) (l : List Al) (A : Option Addr) (c : Nat) : Prop :=
  ∃ S m, Wh W b S m ∧ m.Perm l ∧ RefAt W bx A c (srt l) ∧ ¬ S bx ∧ (∀ k, OfLst A k → ¬ S k) ∧ w.heap.size ≤ b ∧ w.heap.size ≤ bx ∧ Below w.heap.size w W
theorem Dw.named {w W : World} {b bx : Nat} {l : List Al} (h : Dw w W b bx l) : ∃ A c, DwA w W b bx l A c := by
  obtain ⟨S, m, A, c, h⟩ := h
  exact ⟨A, c, S, m, h⟩
theorem DwA.dw {w W : World} {b bx : Nat} {l : List Al} {A : Option Addr} {c : Nat} (h : DwA w W b bx l A c) : Dw w W b bx l := by
  obtain ⟨S, m, h⟩ := h
  exact ⟨S, m, A, c, h⟩
theorem DwA.below {w W W' : World} {b bx : Nat} {l : List Al} {A : Option Addr} {c : Nat} (h : DwA w W b bx l A c) (hb : Below W.heap.size W W') : DwA w W' b bx l A c := by
  obtain ⟨S, m, h1, p1, h2, n1, n2, q1, q2, hb0⟩ := h
  exact ⟨S, m, h1.below hb, p1, h2.below hb, n1, n2, q1, q2, hb0.trans (hb.mono hb0.size)⟩
theorem DwA.ref {w W : World} {b bx : Nat} {l : List Al} {A : Option Addr} {c : Nat} (h : DwA w W b bx l A c) : RefAt W bx A c (srt l) := by
  obtain ⟨S, m, h1, p1, h2, n1, n2, q1, q2, hb0⟩ := h
  exact h2
theorem DwA.cell {w W : World} {b bx : Nat} {l : List Al} {A : Option Addr} {c : Nat} (h : DwA w W b bx l A c) : W.cell? ⟨bx, 0, none⟩ = some (.slice A l.length c) := by
  have := h.ref.cell
  rwa [srt_length] at this
theorem DwA.reads {w W : World} {b bx : Nat} {l : List Al} {A : Option Addr} {c : Nat} (h : DwA w W b bx l A c) : Reads W (.slice A l.length c) (srt l) := by
  have := h.ref.lst.reads
  rwa [srt_length] at this
theorem dwa_all {w W : World} {b bx : Nat} {l : List Al} {A : Option Addr} {c : Nat} (h : DwA w W b bx l A c) (hl : l.length ≤ 1000) :
    Calls Try.prog 16 #[wp b] W fun e w' => ∃ v, e = .returned v ∧ Row w' W.heap.size v (srt l) ∧ DwA w w' b bx l A c := by
  refine (dw_all h.dw hl).mono ?_
  rintro e w' ⟨v, rfl, hr, _, hb⟩
  exact ⟨v, rfl, hr, h.below hb⟩
theorem dwa_len {w W : World} {b bx : Nat} {l : List Al} {A : Option Addr} {c : Nat} (h : DwA w W b bx l A c) (hl : l.length ≤ 1000) :
    Calls Try.prog 17 #[wp b] W fun e w' => e = .returned (.int .i64 l.length) ∧ DwA w w' b bx l A c := by
  refine (dw_len h.dw hl).mono ?_
  rintro e w' ⟨rfl, _, hb⟩
  exact ⟨rfl, h.below hb⟩
theorem new_dw {w w1 w2 : World} (hb1 : Below w.heap.size w w1) (hw : Wh w2 w1.heap.size (· = w1.heap.size) []) (hb2 : Below w1.heap.size w1 w2) : Dw w (w2.alloc (.cells #[.slice none 0 0] 29)) w1.heap.size w2.heap.size [] := by
  have hx := box_below w2 (.cells #[.slice none 0 0] 29)
  have hz := hb1.size
  have hz2 := hb2.size
  have hl := (hw.lt rfl).2
  refine ⟨_, [], none, 0, hw.below hx, List.Perm.refl _, by rw [show srt [] = [] by simp [srt]]; exact ref_new w2, fun e => ?_, fun k ⟨a, ha, _⟩ => by simp at ha, hz, by omega, ?_⟩
  · have e2 : w2.heap.size = w1.heap.size := e
    omega
  · exact (hb1.trans (hb2.mono hz)).alloc (by omega) _
/-- what is told of an alarm, and where it stands -/
theorem find_both {id : Int} {l : List Al} (hi : Ids l) : (findA id l = ((0, 0), false) ∧ idxP (isId id) (srt l) = -1) ∨ ∃ z i, ∃ h : i < (srt l).length, findA id l = (z, true) ∧ idxP (isId id) (srt l) = (i : Nat) ∧ (srt l)[i] = z := by
  have hi2 := hi.perm (srt_perm l).symm
  have ef : findA id (srt l) = findA id l := findA_perm hi2 (srt_perm l) id
  cases hf : (findA id l).2
  · left
    have hn := findA_no (l := srt l) (by rw [ef]; exact hf)
    exact ⟨by rw [← ef]; exact find_all_none hn, idx_none (fun y hy => by simpa [isId] using hn y hy)⟩
  · right
    obtain ⟨m1, m2⟩ := findA_yes (l := srt l) (by rw [ef]; exact hf)
    obtain ⟨i, hil, e⟩ := List.getElem_of_mem m1
    obtain ⟨_, s2⟩ := stop_parts (id := id) hi2 hil (by rw [e]; exact m2)
    refine ⟨_, i, hil, ?_, s2, e⟩
    rw [← ef]
    rw [← ef] at hf
    exact Prod.ext rfl hf
set_option maxHeartbeats 16000000 in
set_option maxRecDepth 100000 in
theorem does_short (m n : Int) (A : Option Addr) (L c : Nat) (w : World) (h : ¬ 40 < L) (hin : InD w A L) :
    Calls Try.prog 3 #[.int .i64 m, .slice A L c, .int .i64 n] w fun e w' => e = .returned (.bool true) ∧ Below w.heap.size w w' := by
  have I := Lib.hid hin
  clear hin
  have hL : ¬ (40 : Int) < (L : Int) := by omega
  go_enter Try.func3, Try.ntmps3
  go_wp2_with fail
  refine (awake_any _).mono ?_
  rintro e w1 ⟨rfl, hb1⟩
  go_wp2_with fail
  refine (fresh_new m w w1 hb1).mono ?_
  rintro e w2 ⟨rfl, _, hw2, hb2⟩
  have HT := Lib.hid (new_dw hb1 hw2 hb2)
  clear hw2 hb2 hb1
  go_wp2_with fail
  generalize w2.alloc (.cells #[.slice none 0 0] 29) = w3 at HT ⊢
  generalize w1.heap.size = b at HT ⊢
  generalize w2.heap.size = bx at HT ⊢
  go_loopw [26] (fun t wr => ∃ (k : Nat) (l : List Al), k ≤ L ∧ t = .int .i64 k ∧ l.length ≤ k ∧ Ids l ∧ Dw w wr b bx l) (fun t _ => L - (intOf t).toNat)
  case atStart => exact ⟨0, [], by omega, rfl, by simp, Ids.nil, HT.out⟩
  case round =>
    obtain ⟨k, l, hk, rfl, hlk, hid, htw⟩ := hrel
    clear HT
    have HI := Lib.hid hid
    have HTw := Lib.hid htw
    clear hid htw
    by_cases hlt : k < L
    · obtain ⟨ad, kd, x, y, rfl, c0, c1, c2⟩ := I.out.at HTw.out.bel hlt
      have HP := Lib.hid (HTw.out.duo kd x y)
      have hl : l.length ≤ 900 := by omega
      have hl' : l.length ≤ 1000 := by omega
      by_cases hk0 : kd = 0
      · subst hk0
        go_wp2_with fail
        have hp0 := HP.out.below (drew_below _)
        have hp1 := HP.out
        clear c0 c1 c2
        generalize wr.alloc (.cells #[.int .i64 0, .int .i64 x, .int .i64 y] 33) = W0 at hp0 hp1 HP ⊢
        generalize wr.heap.size = Bd at hp0 hp1 HP ⊢
        obtain ⟨d1, d2⟩ := hp1.deed
        go_region_held3 (fun w' => w'.cell? ⟨Bd, 1, none⟩ = some (.int .i64 x) ∧ w'.cell? ⟨Bd, 2, none⟩ = some (.int .i64 y)) (first | exact Duo.deed (by assumption)) (first | (go_at_call 9; ((with_reducible refine (duo_wset (x, y) (by assumption) HI.out hl').mono ?_); rintro e w1 ⟨rfl, hq1⟩)) | (go_at_call 10; ((with_reducible refine (duo_rset (x, y) (by assumption) HI.out hl).mono ?_); rintro e w2 ⟨rfl, hq2⟩)))
        have HQ := Lib.hid hq2.dw
        have HI2 := Lib.hid (HI.out.set (a := (x, y)))
        have hl1 : (setL (x, y) l).length ≤ k + 1 := Nat.le_trans (setL_length _ _) (by omega)
        have hl2 : (setL (x, y) l).length ≤ 1000 := by omega
        clear hp0 hp1 HP d1 d2 hq1 hq2
        obtain ⟨A2, c2', hda⟩ := HQ.out.named
        have hp0 := hda.below (drew_below _)
        have hp1 := hda
        have d1 := hp1.cell
        have hls : (srt (setL (x, y) l)).length ≤ 1000 := by rw [srt_length]; exact hl2
        clear HQ hda
        go_wp2_with fail
        go_region_held3 (fun w' => w'.cell? ⟨bx, 0, none⟩ = some (.slice A2 (setL (x, y) l).length c2')) (first | exact DwA.cell (by assumption)) (first | (go_at_call 16; ((with_reducible refine (dwa_all (by assumption) hl2).mono ?_); rintro e w3 ⟨v1, rfl, hr1, hq3⟩)) | (go_at_call 13; ((with_reducible refine (same_any hr1.reads (DwA.reads hq3) hls).mono ?_); rintro e w4 ⟨rfl, q, rfl⟩; have hq4 := hq3.below (drewN_below w3 q))) | (go_at_call 17; ((with_reducible refine (dwa_len hq4 hl2).mono ?_); rintro e w5 ⟨rfl, hq5⟩)))
        have HQ5 := Lib.hid hq5.dw
        clear hp0 hp1 d1 hr1 hq3 hq4 hq5
        go_wp2_with fail
        go_roundw
        case rel => exact ⟨k + 1, _, by omega, by go_num, hl1, HI2.out, HQ5.out⟩
        case measure => simp [intOf]; omega
      · have hk0b : (kd == 0) = false := by simpa using hk0
        clear hk0
        by_cases hk1 : kd = 1
        · subst hk1
          go_wp2_with fail
          have hp0 := HP.out.below (drew_below _)
          have hp1 := HP.out
          clear c0 c1 c2
          generalize wr.alloc (.cells #[.int .i64 1, .int .i64 x, .int .i64 y] 33) = W0 at hp0 hp1 HP ⊢
          generalize wr.heap.size = Bd at hp0 hp1 HP ⊢
          obtain ⟨d1, d2⟩ := hp1.deed
          go_region_held3 (fun w' => w'.cell? ⟨Bd, 1, none⟩ = some (.int .i64 x) ∧ w'.cell? ⟨Bd, 2, none⟩ = some (.int .i64 y)) (first | exact Duo.deed (by assumption)) (first | (go_at_call 11; ((with_reducible refine (duo_wstop x (by assumption) HI.out).mono ?_); rintro e w1 ⟨rfl, hq1⟩)) | (go_at_call 12; ((with_reducible refine (duo_rstop x (by assumption) HI.out).mono ?_); rintro e w2 ⟨rfl, hq2⟩)))
          have HQ := Lib.hid hq2.dw
          have HI2 := Lib.hid (HI.out.filter (fun z => !(z.1 == x)))
          have hl1 : (l.filter (fun z => !(z.1 == x))).length ≤ k + 1 := Nat.le_trans (List.length_filter_le _ _) (by omega)
          have hl2 : (l.filter (fun z => !(z.1 == x))).length ≤ 1000 := by omega
          clear hp0 hp1 HP d1 d2 hq1 hq2
          obtain ⟨A2, c2', hda⟩ := HQ.out.named
          have hp0 := hda.below (drew_below _)
          have hp1 := hda
          have d1 := hp1.cell
          have hls : (srt (l.filter (fun z => !(z.1 == x)))).length ≤ 1000 := by rw [srt_length]; exact hl2
          clear HQ hda
          go_wp2_with fail
          go_region_held3 (fun w' => w'.cell? ⟨bx, 0, none⟩ = some (.slice A2 (l.filter (fun z => !(z.1 == x))).length c2')) (first | exact DwA.cell (by assumption)) (first | (go_at_call 16; ((with_reducible refine (dwa_all (by assumption) hl2).mono ?_); rintro e w3 ⟨v1, rfl, hr1, hq3⟩)) | (go_at_call 13; ((with_reducible refine (same_any hr1.reads (DwA.reads hq3) hls).mono ?_); rintro e w4 ⟨rfl, q, rfl⟩; have hq4 := hq3.below (drewN_below w3 q))) | (go_at_call 17; ((with_reducible refine (dwa_len hq4 hl2).mono ?_); rintro e w5 ⟨rfl, hq5⟩)))
          have HQ5 := Lib.hid hq5.dw
          clear hp0 hp1 d1 hr1 hq3 hq4 hq5
          go_wp2_with fail
          go_roundw
          case rel => exact ⟨k + 1, _, by omega, by go_num, hl1, HI2.out, HQ5.out⟩
          case measure => simp [intOf]; omega
        · have hk1b : (kd == 1) = false := by simpa using hk1
          clear hk1
          have hdl : (dueL y (srt l)).length ≤ 1000 := Nat.le_trans (List.takeWhile_sublist _).length_le (by rw [srt_length]; exact hl')
          go_wp2_with fail
          have hp0 := HP.out.below (drew_below _)
          have hp1 := HP.out
          clear c0 c1 c2
          generalize wr.alloc (.cells #[.int .i64 kd, .int .i64 x, .int .i64 y] 33) = W0 at hp0 hp1 HP ⊢
          generalize wr.heap.size = Bd at hp0 hp1 HP ⊢
          obtain ⟨d1, d2⟩ := hp1.deed
          go_region_held3 (fun w' => w'.cell? ⟨Bd, 1, none⟩ = some (.int .i64 x) ∧ w'.cell? ⟨Bd, 2, none⟩ = some (.int .i64 y)) (first | exact Duo.deed (by assumption)) (first | (go_at_call 14; ((with_reducible refine (duo_wdue y (by assumption) hl').mono ?_); rintro e w1 ⟨v1, rfl, hr1, hq1⟩)) | (go_at_call 15; ((with_reducible refine (duo_rdue y (by assumption)).mono ?_); rintro e w2 ⟨v2, rfl, hr2, hq2, hk2⟩)) | (go_at_call 13; ((with_reducible refine (same_any (row_plus hr1 hk2).reads hr2 hdl).mono ?_); rintro e w3 ⟨rfl, kq, rfl⟩; have hq3 := hq2.below (drewN_below w2 kq))))
          have HQ := Lib.hid hq3.dw
          have HI2 := Lib.hid (HI.out.filter (fun z => !decide (z.2 ≤ y)))
          have hl1 : (l.filter (fun z => !decide (z.2 ≤ y))).length ≤ k + 1 := Nat.le_trans (List.length_filter_le _ _) (by omega)
          have hl2 : (l.filter (fun z => !decide (z.2 ≤ y))).length ≤ 1000 := by omega
          clear hp0 hp1 HP d1 d2 hq1 hq2 hq3 hr1 hr2 hk2
          generalize w2.drewN kq = W3 at HQ ⊢
          obtain ⟨A2, c2', hda⟩ := HQ.out.named
          have hp0 := hda.below (drew_below _)
          have hp1 := hda
          have d1 := hp1.cell
          have hls : (srt (l.filter (fun z => !decide (z.2 ≤ y)))).length ≤ 1000 := by rw [srt_length]; exact hl2
          clear HQ hda
          go_wp2_with fail
          go_region_held3 (fun w' => w'.cell? ⟨bx, 0, none⟩ = some (.slice A2 (l.filter (fun z => !decide (z.2 ≤ y))).length c2')) (first | exact DwA.cell (by assumption)) (first | (go_at_call 16; ((with_reducible refine (dwa_all (by assumption) hl2).mono ?_); rintro e w3 ⟨v1, rfl, hr1, hq3⟩)) | (go_at_call 13; ((with_reducible refine (same_any hr1.reads (DwA.reads hq3) hls).mono ?_); rintro e w4 ⟨rfl, q, rfl⟩; have hq4 := hq3.below (drewN_below w3 q))) | (go_at_call 17; ((with_reducible refine (dwa_len hq4 hl2).mono ?_); rintro e w5 ⟨rfl, hq5⟩)))
          have HQ5 := Lib.hid hq5.dw
          clear hp0 hp1 d1 hr1 hq3 hq4 hq5
          go_wp2_with fail
          go_roundw
          case rel => exact ⟨k + 1, _, by omega, by go_num, hl1, HI2.out, HQ5.out⟩
          case measure => simp [intOf]; omega
    · obtain rfl : k = L := by omega
      rcases find_both (id := n) HI.out with ⟨f1, f2⟩ | ⟨z, i, hil, f1, f2, f3⟩
      · have HA := Lib.hid (dw_at n HTw.out HI.out)
        rw [f1] at HA
        go_wp2_with fail
        refine HA.out.mono ?_
        rintro e w4 ⟨rfl, h4, _⟩
        have HF := Lib.hid (dw_find n h4)
        rw [f2] at HF
        clear HA h4 f1 f2
        go_wp2_with fail
        refine HF.out.mono ?_
        rintro e w5 ⟨rfl, h5, _⟩
        have hbe := h5.bel
        clear h5 HF
        go_wp2_with fail
        go_ret
        exact ⟨rfl, hbe⟩
      · have HA := Lib.hid (dw_at n HTw.out HI.out)
        rw [f1] at HA
        go_wp2_with fail
        refine HA.out.mono ?_
        rintro e w4 ⟨rfl, h4, _⟩
        have HF := Lib.hid (dw_find n h4)
        rw [f2] at HF
        clear HA h4 f1 f2
        go_wp2_with fail
        refine HF.out.mono ?_
        rintro e w5 ⟨rfl, h5, _⟩
        have hbe := h5.bel
        obtain ⟨A2, c2', hda⟩ := h5.named
        have hcell := hda.cell
        have hsm : l.length ≤ 1000 := by omega
        rw [srt_length] at hil
        obtain ⟨g, off, e1, k1, k2⟩ : ∃ g off, A2 = some ⟨g, off, none⟩ ∧ w5.cell? ⟨g, off + i * 2, none⟩ = some (.int .i64 z.1) ∧ w5.cell? ⟨g, off + i * 2 + 1, none⟩ = some (.int .i64 z.2) := by
          have hr := hda.ref.lst
          cases A2 with
          | none => have := (hr.nil rfl).1; rw [← srt_length, this] at hil; simp at hil
          | some a2 =>
            obtain ⟨g, off, rfl, _, hc⟩ := hr.at' a2 rfl
            have := hc i (by rw [srt_length]; exact hil)
            rw [f3] at this
            exact ⟨g, off, rfl, this.1, this.2⟩
        subst e1
        clear h5 HF hda f3 HI HTw
        generalize l.length = ln at *
        go_wp2_with fail
        go_ret
        exact ⟨rfl, hbe⟩
theorem does_walk (m n : Int) (A : Option Addr) (L c : Nat) (w : World) (hm : L ≤ maxLen) (hin : InD w A L) :
    Calls Try.prog 3 #[.int .i64 m, .slice A L c, .int .i64 n] w fun e w' => e = .returned (.bool true) ∧ Below w.heap.size w w' := by
  by_cases h : 40 < L
  · exact does_long m n A L c w h hm
  · exact does_short m n A L c w h hin
end Go.Proofs.Ythoicmbpjcgdpaa
