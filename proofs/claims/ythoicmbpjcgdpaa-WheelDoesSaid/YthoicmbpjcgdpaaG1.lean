/- The walk of the law that all that is set is told in order. -/
import Derived.Test.YthoicmbpjcgdpaaF1
namespace Go.Proofs.Ythoicmbpjcgdpaa
open Go Go.RowKit Go.Shelf

theorem wall_long (n : Int) (A : Option Addr) (L c : Nat) (w : World) (h : 40 < L) (hm : L ≤ maxLen) :
    Calls Try.prog 6 #[.int .i64 n, .slice A L c] w fun e w' => e = .returned (.bool true) ∧ Below w.heap.size w w' := by
  unfold maxLen at hm
  have h1 : (40 : Int) < (L : Int) := by omega
  set_option maxRecDepth 100000 in
  go_enter Try.func6, Try.ntmps6
  go_wp2_with fail
  refine (awake_any _).mono ?_
  rintro e w1 ⟨rfl, hb1⟩
  go_wp2_with fail
  go_ret
  exact ⟨rfl, hb1⟩
/-- the deeds of a list that came in -/
structure DeedAt (w : World) (ad : Addr) (i : Nat) (k x y : Int) : Prop where
  c0 : w.cell? (ad.add (i * 3)) = some (.int .i64 k)
  c1 : w.cell? ⟨(ad.add (i * 3)).block, (ad.add (i * 3)).off + 1, none⟩ = some (.int .i64 x)
  c2 : w.cell? ⟨(ad.add (i * 3)).block, (ad.add (i * 3)).off + 2, none⟩ = some (.int .i64 y)
def InD (w : World) (A : Option Addr) (L : Nat) : Prop := ∀ i, i < L → ∃ ad k x y, A = some ad ∧ ad.block < w.heap.size ∧ DeedAt w ad i k x y
theorem block_add (a : Addr) (n : Nat) : (a.add n).block = a.block := by unfold Addr.add; split <;> rfl
theorem InD.at {w w' : World} {A : Option Addr} {L i : Nat} (h : InD w A L) (hb : Below w.heap.size w w') (hi : i < L) : ∃ ad k x y, A = some ad ∧ DeedAt w' ad i k x y := by
  obtain ⟨ad, k, x, y, h1, h2, h3⟩ := h i hi
  refine ⟨ad, k, x, y, h1, ?_, ?_, ?_⟩
  · rw [hb.cell (p := ad.add (i * 3)) (by rw [block_add]; exact h2)]; exact h3.c0
  · rw [hb.cell (p := ⟨(ad.add (i * 3)).block, (ad.add (i * 3)).off + 1, none⟩) (by show (ad.add (i * 3)).block < _; rw [block_add]; exact h2)]; exact h3.c1
  · rw [hb.cell (p := ⟨(ad.add (i * 3)).block, (ad.add (i * 3)).off + 2, none⟩) (by show (ad.add (i * 3)).block < _; rw [block_add]; exact h2)]; exact h3.c2

theorem row_addr {W : World} {base n c : Nat} {A : Option Addr} {ys : List Al} (h : Row W base (.slice A n c) ys) (hp : 0 < ys.length) : ∃ g, A = some ⟨g, 0, none⟩ := by
  rcases h.2 with ⟨e0, h0⟩ | ⟨g, cap, cur, e0, _⟩
  · omega
  · injection e0 with e1; exact ⟨g, e1⟩
theorem strict_at {ys : List Al} (h : ys.Pairwise (fun x y => before x y = true)) {j : Nat} (hj : j + 1 < ys.length) : ys[j].2 < ys[j + 1].2 ∨ (ys[j].2 = ys[j + 1].2 ∧ ys[j].1 < ys[j + 1].1) := by
  have := List.pairwise_iff_getElem.1 h j (j + 1) (by omega) hj (by omega)
  simpa [before] using this
set_option maxHeartbeats 4000000 in
set_option maxRecDepth 100000 in
theorem wall_short (n : Int) (A : Option Addr) (L c : Nat) (w : World) (h : ¬ 40 < L) (hin : InD w A L) :
    Calls Try.prog 6 #[.int .i64 n, .slice A L c] w fun e w' => e = .returned (.bool true) ∧ Below w.heap.size w w' := by
  have I := Lib.hid hin
  clear hin
  have hL : ¬ (40 : Int) < (L : Int) := by omega
  go_enter Try.func6, Try.ntmps6
  go_wp2_with fail
  refine (awake_any _).mono ?_
  rintro e w1 ⟨rfl, hb1⟩
  go_wp2_with fail
  refine (fresh_new n w w1 hb1).mono ?_
  rintro e w2 ⟨rfl, hf, _, _⟩
  generalize w1.heap.size = b at hf ⊢
  have HF := Lib.hid hf
  clear hf hb1
  go_wp2_with fail
  go_loopw [22] (fun t wr => ∃ (k : Nat) (l : List Al), k ≤ L ∧ t = .int .i64 k ∧ l.length ≤ k ∧ Ids l ∧ Fresh w wr b l) (fun t _ => L - (intOf t).toNat)
  case atStart => exact ⟨0, [], by omega, rfl, by simp, Ids.nil, HF.out⟩
  case round =>
    obtain ⟨k, l, hk, rfl, hlk, hid, hfr⟩ := hrel
    clear HF
    have HI := Lib.hid hid
    have HFr := Lib.hid hfr
    clear hid hfr
    by_cases hlt : k < L
    · obtain ⟨ad, kd, x, y, rfl, c0, c1, c2⟩ := I.out.at (show Below w.heap.size w wr from by obtain ⟨_, _, _, _, _, hb⟩ := HFr.out; exact hb) hlt
      have hb1 := box_below wr (.cells #[.int .i64 kd, .int .i64 x, .int .i64 y] 33)
      have HF1 := Lib.hid (HFr.out.below hb1)
      have hl : l.length ≤ 1000 := by omega
      by_cases hk1 : kd = 1
      · subst hk1
        have HS := Lib.hid (fresh_stop x HF1.out HI.out)
        clear hb1
        go_wp2_with fail
        refine HS.out.mono ?_
        rintro e w3 ⟨rfl, hf3⟩
        have HF3 := Lib.hid hf3
        clear hf3 c0 c1 c2 HS
        go_wp2_with fail
        go_roundw
        case rel => exact ⟨k + 1, _, by omega, by go_num, Nat.le_trans (List.length_filter_le _ _) (by omega), HI.out.filter _, HF3.out⟩
        case measure => simp [intOf]; omega
      · have hkb : (kd == 1) = false := by simpa using hk1
        have HS := Lib.hid (fresh_set (x, y) HF1.out HI.out hl)
        clear hb1 hk1
        go_wp2_with fail
        refine HS.out.mono ?_
        rintro e w3 ⟨rfl, hf3⟩
        have HF3 := Lib.hid hf3
        clear hf3 c0 c1 c2 HS
        go_wp2_with fail
        go_roundw
        case rel => exact ⟨k + 1, _, by omega, by go_num, Nat.le_trans (setL_length _ _) (by omega), HI.out.set, HF3.out⟩
        case measure => simp [intOf]; omega
    · obtain rfl : k = L := by omega
      have hl : l.length ≤ 1000 := by omega
      clear I hk hlt
      go_wp2_with fail
      refine (fresh_all HFr.out hl).mono ?_
      rintro e w3 ⟨v, rfl, hr, hf3, hb3⟩
      have hst := srt_strict HI.out
      have hmem : ∀ y ∈ srt l, findA y.1 l = (y, true) := fun y hy => findA_mem HI.out ((srt_perm l).mem_iff.1 hy)
      have hsl : (srt l).length = l.length := srt_length l
      have HDL := Lib.hid (show ∀ now, (dueL now (srt l)).length ≤ l.length from fun now => by rw [← hsl]; exact (List.takeWhile_sublist _).length_le)
      generalize srt l = ys at hr hst hmem hsl
      have HST := Lib.hid hst
      have HM := Lib.hid hmem
      have HR := Lib.hid hr
      have HF3 := Lib.hid hf3
      obtain ⟨A', c', hvf⟩ := row_slice hr
      obtain ⟨N, hN⟩ : ∃ N, ys.length = N := ⟨_, rfl⟩
      have HN := Lib.hid hN
      have hN2 : l.length = N := by rw [← hsl, hN]
      have HN2 := Lib.hid hN2
      have hNb : N ≤ 1000 := by omega
      rw [hN] at hvf
      subst hvf
      clear hst hmem hr hf3 hb3 hN hN2 hsl hl hlk HFr
      go_wp2_with fail
      go_loopw [43] (fun t wr' => ∃ i : Nat, i ≤ N ∧ t = .int .i64 i ∧ Fresh w wr' b l ∧ Row wr' wr.heap.size (.slice A' N c') ys) (fun t _ => N - (intOf t).toNat)
      case atStart => exact ⟨0, by omega, rfl, HF3.out, HR.out⟩
      case round =>
        obtain ⟨i, hi, rfl, hfi, hri⟩ := hrel
        have HFi := Lib.hid hfi
        have HRi := Lib.hid hri
        clear hfi hri HF3 HR
        by_cases hin : i < N
        · have hil : i < ys.length := by rw [HN.out]; exact hin
          obtain ⟨g, rfl⟩ := row_addr HRi.out (by omega)
          obtain ⟨c1, c2⟩ := row_cells HRi.out hil
          obtain ⟨x, hx⟩ : ∃ x, ys[i] = x := ⟨_, rfl⟩
          rw [hx] at c1 c2
          have hfx := HM.out x (by rw [← hx]; exact List.getElem_mem hil)
          have hb1 := box_below wr (.cells #[.int .i64 x.1, .int .i64 x.2] 31)
          have HFb := Lib.hid (HFi.out.below hb1)
          have HAt := Lib.hid (fresh_at x.1 HFb.out HI.out)
          rw [hfx] at HAt
          have HX := Lib.hid hx
          clear hfx hx
          go_wp2_with fail
          refine HAt.out.mono ?_
          rintro e w4 ⟨rfl, hf4, hb4⟩
          have hba := BoxA.new wr x
          have d0 : w4.cell? ⟨wr.heap.size, 0, none⟩ = some (.int .i64 x.1) := (hb4.cell (p := ⟨wr.heap.size, 0, none⟩) (by simp)).trans hba.c0
          have d1 : w4.cell? ⟨wr.heap.size, 1, none⟩ = some (.int .i64 x.2) := (hb4.cell (p := ⟨wr.heap.size, 1, none⟩) (by simp)).trans hba.c1
          have hb5 : Below wr.heap.size wr w4 := hb1.trans (hb4.mono hb1.size)
          have HR4 := Lib.hid (HRi.out.keep (W' := w4) fun g' hg' => hb5.block g' (HRi.out.lt g' hg').2)
          have HF4 := Lib.hid hf4
          clear hf4 hb4 hba hb5 hb1 c1 c2 HAt HFb
          go_wp2_with fail
          cases i with
          | zero =>
            go_quiet (fail)
            go_wp2_with fail
            go_roundw
            case rel => exact ⟨1, by omega, by go_num, HF4.out.below ⟨rfl, rfl, rfl, Nat.le_refl _, fun _ _ => rfl⟩, HR4.out.keep fun _ _ => rfl⟩
            case measure => simp [intOf]; omega
          | succ j =>
            have hjl : j < ys.length := by omega
            obtain ⟨p1, p2⟩ := row_cells HR4.out hjl
            have hs := strict_at HST.out hil
            rw [HX.out] at hs
            obtain ⟨z, hz⟩ : ∃ z, ys[j] = z := ⟨_, rfl⟩
            rw [hz] at p1 p2 hs
            have q1 : IntKind.i64.wrap ((j : Int) + 1 - 1) = j := by rw [Int.add_sub_cancel]; exact IntWalk.i64_in _ (by omega)
            have q2 : IntKind.i64.wrap (((j + 1 : Nat) : Int) - 1) = j := by rw [Int.natCast_succ, Int.add_sub_cancel]; exact IntWalk.i64_in _ (by omega)
            have q3 : (0 : Int) < ((j + 1 : Nat) : Int) := by omega
            have q4 : decide ((0 : Int) < ((j + 1 : Nat) : Int)) = true := by simp
            have q5 : j < N := by omega
            have q6 : (j : Int) < N := by omega
            have r1 : decide (x.2 < z.2) = false := by simp; omega
            clear hz hjl
            rcases hs with hs | ⟨hs1, hs2⟩
            · have r2 : (x.2 == z.2) = false := by simp; omega
              clear hs
              go_quiet (fail)
              clear q1 q2
              go_wp2_with fail
              go_roundw
              case rel => exact ⟨j + 1 + 1, by omega, by go_num, HF4.out.below ⟨rfl, rfl, rfl, Nat.le_refl _, fun _ _ => rfl⟩, HR4.out.keep fun _ _ => rfl⟩
              case measure => simp [intOf]; omega
            · have r2 : (x.2 == z.2) = true := by simp; omega
              have r3 : decide (x.1 ≤ z.1) = false := by simp; omega
              clear hs1 hs2
              go_quiet (fail)
              clear q1 q2
              go_wp2_with fail
              go_roundw
              case rel => exact ⟨j + 1 + 1, by omega, by go_num, HF4.out.below ⟨rfl, rfl, rfl, Nat.le_refl _, fun _ _ => rfl⟩, HR4.out.keep fun _ _ => rfl⟩
              case measure => simp [intOf]; omega
        · obtain rfl : i = N := by omega
          have HL1 := Lib.hid (fresh_len HFi.out (by rw [HN2.out]; omega))
          rw [HN2.out] at HL1
          clear hi hin
          go_wp2_with fail
          refine HL1.out.mono ?_
          rintro e w4 ⟨rfl, hf4, _⟩
          have HF4 := Lib.hid hf4
          clear hf4
          go_wp2_with fail
          refine (fresh_due 4611686018427387904 HF4.out (by rw [HN2.out]; omega)).mono ?_
          rintro e w5 ⟨v, rfl, hr5, ⟨_, _, _, _, _, hb5⟩⟩
          obtain ⟨A5, c5, hv5⟩ := row_slice hr5
          have hle := HDL.out 4611686018427387904
          rw [HN2.out] at hle
          generalize (dueL 4611686018427387904 (srt l)).length = M at hv5 hle
          subst hv5
          clear hr5
          go_wp2_with fail
          go_ret
          exact ⟨by simp, hb5⟩
theorem wall_walk (n : Int) (A : Option Addr) (L c : Nat) (w : World) (hm : L ≤ maxLen) (hin : InD w A L) :
    Calls Try.prog 6 #[.int .i64 n, .slice A L c] w fun e w' => e = .returned (.bool true) ∧ Below w.heap.size w w' := by
  by_cases h : 40 < L
  · exact wall_long n A L c w h hm
  · exact wall_short n A L c w h hin
end Go.Proofs.Ythoicmbpjcgdpaa
