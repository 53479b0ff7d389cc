/- What goes with others: the program's answer and the document's. -/
import Derived.Test.YteaibamkfccplaaDoorHE1
namespace Go.Proofs.YteaibamkfccplaaDoor.Hs
open Go Go.RowKit Go.Shelf

/-- whether a mode goes with what others have -/
def goesB (tx m : Int) (xs : List Hd) : Bool := xs.all (fun x => x.1 == tx || goesN (kn x.2) (kn m))
theorem cntF_pos {xs : List Hd} {k : Nat} : 0 < cntF xs k ↔ ∃ x ∈ xs, kn x.2 = k := by
  unfold cntF
  rw [Int.natCast_pos, List.countP_pos_iff]
  simp
theorem each_goes (tx m : Int) (xs : List Hd) : eachB (cntF (wout tx xs)) (fun k => goesN k (kn m)) = goesB tx m xs := by
  rw [Bool.eq_iff_iff, eachB_iff]
  unfold goesB
  rw [List.all_eq_true]
  constructor
  · intro h x hx
    cases e : x.1 == tx
    · rw [Bool.false_or]
      exact h _ (kn_le _) (cntF_pos.2 ⟨x, by unfold wout; simp [hx, e], rfl⟩)
    · rfl
  · intro h k _ hk
    obtain ⟨x, hx, rfl⟩ := cntF_pos.1 hk
    unfold wout at hx
    obtain ⟨h1, h2⟩ := List.mem_filter.1 hx
    have := h x h1
    simp only [Bool.not_eq_true'] at h2
    rw [h2, Bool.false_or] at this
    exact this
theorem goesB_snoc (tx m : Int) (xs : List Hd) (x : Hd) : goesB tx m (xs ++ [x]) = (goesB tx m xs && (x.1 == tx || goesN (kn x.2) (kn m))) := by simp [goesB]
theorem goesB_not {tx m : Int} {xs : List Hd} {k : Nat} (hk : k < xs.length) (h1 : (xs[k].1 == tx) = false) (h2 : goesN (kn xs[k].2) (kn m) = false) : goesB tx m xs = false := by
  unfold goesB
  rw [List.all_eq_false]
  exact ⟨_, List.getElem_mem hk, by rw [h1, h2]; simp⟩
section
variable {W W' : World} {A : Option Addr} {c : Nat} {xs : List Hd}
theorem tst_goes {B : Nat} {m : Int} (ht : TabG W) (hc : W.cell? ⟨B, 0, none⟩ = some (.int .i64 m)) : Tst W 58 #[.pointer (some ⟨B, 0, none⟩)] (fun k => goesN k (kn m)) := by
  refine ⟨enters_of Tryd.func58 (by kernel_rfl) rfl, fun W' k hk hb => ?_⟩
  have hc' := (hb.cell (p := ⟨B, 0, none⟩) (cell_lt hc)).trans hc
  have H := Lib.hid (compat_any (k : Int) m W W' ht hb)
  rw [kn_nat hk] at H
  change Calls Tryd.prog 58 _ W' fun e w' => e = .returned (.bool (goesN k (kn m))) ∧ _
  generalize goesN k (kn m) = b at *
  clear ht hc hb
  go_enter Tryd.func58, Tryd.ntmps58
  go_wp2_with (go_at_call 59; ((with_reducible refine H.out.mono ?_); rintro e w' ⟨rfl, hb⟩))
  go_ret
  exact ⟨rfl, hb⟩
theorem goes_any (ht : TabG W) (hr : Ls W A c xs) (hl : xs.length ≤ 500) (tx m : Int) : Calls Tryd.prog 27 #[.slice A xs.length c, .int .i64 tx, .int .i64 m] W fun e w' => e = .returned (.bool (goesB tx m xs)) ∧ Below W.heap.size W w' := by
  have hb0 := box_below W (.cells #[.int .i64 m] 3)
  have HD := Lib.hid (without_any (hr.below hb0) hl tx)
  have hcell : (W.alloc (.cells #[.int .i64 m] 3)).cell? ⟨W.heap.size, 0, none⟩ = some (.int .i64 m) := by simp [go_sem]
  have HC := Lib.hid hcell
  have HB0 := Lib.hid hb0
  have HT := Lib.hid ht
  have HE := Lib.hid (each_goes tx m xs)
  have hwl := wout_len tx xs
  clear hr ht hb0 hcell
  generalize goesB tx m xs = z at *
  generalize wout tx xs = ys at *
  generalize xs.length = n at *
  obtain ⟨f, hf⟩ : ∃ f, cntF ys = f := ⟨_, rfl⟩
  go_enter Tryd.func27, Tryd.ntmps27
  go_wp2_with fail
  refine HD.out.mono ?_
  rintro e w1 ⟨A1, c1, rfl, hls, hb1⟩
  have hcn := counts_any hls (by omega)
  rw [hf] at hcn HE
  have HCn := Lib.hid hcn
  have HB1 := Lib.hid hb1
  generalize ys.length = k at *
  clear hcn hls hb1 hf
  go_wp2_with fail
  refine HCn.out.mono ?_
  rintro e w2 ⟨rfl, hb2⟩
  have hb3 := HB1.out.trans (hb2.mono HB1.out.size)
  have HX := Lib.hid (each_any (f := f) (tst_goes (W := w2) (B := W.heap.size) (m := m) (HT.out.later (HB0.out.trans (hb3.mono HB0.out.size))) ((hb3.cell (p := ⟨W.heap.size, 0, none⟩) (cell_lt HC.out)).trans HC.out)))
  rw [HE.out] at HX
  have HB3 := Lib.hid (HB0.out.trans (hb3.mono HB0.out.size))
  clear hb2 hb3 HCn
  go_wp2_with fail
  refine HX.out.mono ?_
  rintro e w3 ⟨rfl, hb4⟩
  have HB4 := Lib.hid (HB3.out.trans (hb4.mono HB3.out.size))
  clear hb4
  go_wp2_with fail
  go_ret
  exact ⟨rfl, HB4.out⟩
theorem rgoes_any (hr : Ls W A c xs) (hl : xs.length ≤ 5000) (tx m : Int) : Calls Tryd.prog 35 #[.slice A xs.length c, .int .i64 tx, .int .i64 m] W fun e w' => e = .returned (.bool (goesB tx m xs)) ∧ Below W.heap.size W w' := by
  have HR := Lib.hid hr
  obtain ⟨n, hn⟩ : ∃ n, xs.length = n := ⟨_, rfl⟩
  rw [hn] at hl ⊢
  have HN := Lib.hid hn
  clear hr hn
  go_enter Tryd.func35, Tryd.ntmps35
  go_wp2
  go_loopw [11] (fun t wr => ∃ j : Nat, j ≤ n ∧ t = .int .i64 j ∧ goesB tx m (xs.take j) = true ∧ Below W.heap.size W wr) (fun t _ => n - (intOf t).toNat)
  case atStart => exact ⟨0, by omega, rfl, rfl, Below.refl _ _⟩
  case round =>
    obtain ⟨j, hj, rfl, hall, hb⟩ := hrel
    have HA := Lib.hid hall
    clear hall
    by_cases hjn : j < n
    · have hjl : j < xs.length := by rw [HN.out]; exact hjn
      obtain ⟨a, rfl, hh⟩ := (HR.out.below hb).here hjl
      obtain ⟨c0, c1⟩ := hh
      have HB0 := Lib.hid hb
      have hsz := hb.size
      clear hb
      have hsn := goesB_snoc tx m (xs.take j) xs[j]
      rw [← List.take_succ_eq_append_getElem hjl, HA.out, Bool.true_and] at hsn
      have hnot := fun h1 h2 => goesB_not (tx := tx) (m := m) hjl h1 h2
      generalize xs[j] = x at c0 c1 hsn hnot
      obtain ⟨t, mm⟩ := x
      simp only at c0 c1 hsn hnot
      have HB1 := Lib.hid (HB0.out.trans ((box_below wr (.cells #[.int .i64 t, .int .i64 mm] 76)).mono HB0.out.size))
      have HG := fun w => Lib.hid (rcompat_any mm m w)
      generalize goesN (kn mm) (kn m) = b at *
      have HS := Lib.hid hsn
      have HQ := Lib.hid hnot
      clear hsn hnot hjl
      by_cases hq : t = tx
      · subst hq
        have HS' := Lib.hid (show goesB t m (xs.take (j + 1)) = true by rw [HS.out]; simp)
        clear HS
        go_wp2
        go_roundw
        case rel => exact ⟨j + 1, by omega, by go_num, HS'.out, HB1.out⟩
        case measure => simp [intOf]; omega
      · have hq' : (t != tx) = true := by simpa using hq
        have hq2 : (t == tx) = false := by simpa using hq
        rw [hq2] at HS HQ
        have HH := Lib.hid hq2
        clear hq hq2
        cases b
        · have HE := Lib.hid (HQ.out rfl rfl)
          clear HS HQ
          go_wp2_with (go_at_call 71; ((with_reducible refine (HG _).out.mono ?_); rintro e w' ⟨rfl, rfl⟩))
          go_ret
          exact ⟨by rw [HE.out]; rfl, HB1.out⟩
        · have HS' := Lib.hid (show goesB tx m (xs.take (j + 1)) = true by rw [HS.out]; rfl)
          clear HS HQ
          go_wp2_with (go_at_call 71; ((with_reducible refine (HG _).out.mono ?_); rintro e w' ⟨rfl, rfl⟩))
          go_roundw
          case rel => exact ⟨j + 1, by omega, by go_num, HS'.out, HB1.out⟩
          case measure => simp [intOf]; omega
    · obtain rfl : j = n := by omega
      have HT := Lib.hid (List.take_of_length_le (Nat.le_of_eq HN.out))
      rw [HT.out] at HA
      go_wp2
      go_ret
      exact ⟨by rw [HA.out]; rfl, hb⟩
end
end Go.Proofs.YteaibamkfccplaaDoor.Hs
