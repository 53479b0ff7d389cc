/- Who has what: the program's answer and the document's; lists of holds that are alike. -/
import Derived.Test.YteaibamkfccplaaDoorHD3
import Derived.BigQuiet
namespace Go.Proofs.YteaibamkfccplaaDoor.Hs
open Go Go.RowKit Go.Shelf

/-- the mode of the first one of a transaction; none -/
def fst (tx : Int) : List Hd → Int
  | [] => 0
  | x :: xs => if x.1 == tx then x.2 else fst tx xs
theorem fst_none {tx : Int} {xs : List Hd} (h : ∀ i (h : i < xs.length), (xs[i].1 == tx) = false) : fst tx xs = 0 := by
  induction xs with
  | nil => rfl
  | cons x xs ih =>
    have h1 := h 0 (by simp)
    have h2 := ih (fun i hi => h (i + 1) (by simpa using hi))
    rw [List.getElem_cons_zero] at h1
    simp only [fst, h1, h2]
    rfl
theorem fst_some {tx : Int} : ∀ {xs : List Hd} {k : Nat} (hk : k < xs.length), (∀ i (h : i < k), ((xs[i]'(by omega)).1 == tx) = false) → (xs[k].1 == tx) = true → fst tx xs = xs[k].2
  | x :: xs, 0, _, _, hp => by
    rw [List.getElem_cons_zero] at hp
    simp only [fst, hp, List.getElem_cons_zero, if_true]
  | x :: xs, k + 1, hk, h, hp => by
    have h1 := h 0 (by omega)
    have h2 := fst_some (xs := xs) (k := k) (by simpa using hk) (fun i hi => h (i + 1) (by omega)) hp
    rw [List.getElem_cons_zero] at h1
    simp only [fst, h1, h2, List.getElem_cons_succ]
    rfl
section
variable {W W' : World} {A : Option Addr} {c : Nat} {xs : List Hd}
theorem modeOf_any (hr : Ls W A c xs) (hl : xs.length ≤ 5000) (tx : Int) : Calls Tryd.prog 28 #[.slice A xs.length c, .int .i64 tx] W fun e w' => e = .returned (.int .i64 (fst tx xs)) ∧ Below W.heap.size W w' := by
  have hb0 := box_below W (.cells #[.int .i64 tx] 3)
  have H := index_any (prd_tx (T := fun _ => False) (W := W.alloc (.cells #[.int .i64 tx] 3)) (B := W.heap.size) (tx := tx) (by simp [go_sem]) (fun h => h)) (hr.below hb0) hl
  have HB0 := Lib.hid hb0
  rcases idx_cases (fun x => x.1 == tx) xs with ⟨h1, h2⟩ | ⟨k, hk, h1, h3, h4⟩
  · rw [h1] at H
    have HE := Lib.hid (fst_none (tx := tx) (xs := xs) (fun i hi => h2 _ (List.getElem_mem hi)))
    have HI := Lib.hid H
    clear hr hb0 H h1 h2
    generalize fst tx xs = z at *
    generalize xs.length = n at *
    go_enter Tryd.func28, Tryd.ntmps28
    go_wp2_with (first | (go_at_call 61; ((with_reducible refine (ofc_any tx W).mono ?_); rintro e w' ⟨rfl, rfl⟩)) | (go_at_call 60; ((with_reducible refine HI.out.mono ?_); rintro e w' ⟨rfl, hb⟩)))
    go_ret
    exact ⟨ret_int HE.out.symm, HB0.out.trans (hb.mono HB0.out.size)⟩
  · rw [h1] at H
    have HE := Lib.hid (fst_some hk h4 h3)
    have HI := Lib.hid H
    have HR := Lib.hid hr
    have HK := Lib.hid hk
    obtain ⟨n, hn⟩ : ∃ n, xs.length = n := ⟨_, rfl⟩
    have hkn : k < n := by rw [← hn]; exact hk
    rw [hn] at HI hl ⊢
    clear hr hb0 H h1 h3 h4 hn
    obtain ⟨z, hz⟩ : ∃ z, fst tx xs = z := ⟨_, rfl⟩
    rw [hz] at HE ⊢
    clear hz
    go_enter Tryd.func28, Tryd.ntmps28
    go_wp2_with (first | (go_at_call 61; ((with_reducible refine (ofc_any tx W).mono ?_); rintro e w' ⟨rfl, rfl⟩)) | (go_at_call 60; ((with_reducible refine HI.out.mono ?_); rintro e w' ⟨rfl, hb⟩); have HB := Lib.hid hb; have HH := Lib.hid (((HR.out.below HB0.out).below hb).here HK.out); clear hb; obtain ⟨ad, rfl, c0, c1⟩ := HH.out; rw [← HE.out] at c1))
    go_ret
    exact ⟨rfl, HB0.out.trans (HB.out.mono HB0.out.size)⟩
theorem rmode_any (hr : Ls W A c xs) (hl : xs.length ≤ 5000) (tx : Int) : Calls Tryd.prog 24 #[.slice A xs.length c, .int .i64 tx] W fun e w' => e = .returned (.int .i64 (fst tx xs)) ∧ Below W.heap.size W w' := by
  have HR := Lib.hid hr
  obtain ⟨n, hn⟩ : ∃ n, xs.length = n := ⟨_, rfl⟩
  rw [hn] at hl ⊢
  have HN := Lib.hid hn
  clear hr hn
  go_enter Tryd.func24, Tryd.ntmps24
  go_wp2
  go_loopw [9] (fun t wr => ∃ j : Nat, j ≤ n ∧ t = .int .i64 j ∧ (∀ i (_ : i < j) (h : i < xs.length), (xs[i].1 == tx) = false) ∧ Below W.heap.size W wr) (fun t _ => n - (intOf t).toNat)
  case atStart => exact ⟨0, by omega, rfl, fun i hi => by omega, Below.refl _ _⟩
  case round =>
    obtain ⟨j, hj, rfl, hall, hb⟩ := hrel
    have HA := Lib.hid hall
    clear hall
    by_cases hjn : j < n
    · have hjl : j < xs.length := by rw [HN.out]; exact hjn
      obtain ⟨a, rfl, hh⟩ := (HR.out.below hb).here hjl
      obtain ⟨c0, c1⟩ := hh
      have HB0 := Lib.hid hb
      have hsz := hb.size
      clear hb
      obtain ⟨x, hx⟩ : ∃ x, xs[j] = x := ⟨_, rfl⟩
      have HX := Lib.hid hx
      rw [hx] at c0 c1
      obtain ⟨t, m⟩ := x
      simp only at c0 c1
      have HB1 := Lib.hid (HB0.out.trans ((box_below wr (.cells #[.int .i64 t, .int .i64 m] 76)).mono HB0.out.size))
      clear hx
      by_cases hq : t = tx
      · subst hq
        have HE := Lib.hid (fst_some (tx := t) hjl (fun i hi => HA.out i hi (by omega)) (by rw [HX.out]; simp))
        rw [HX.out] at HE
        go_wp2
        go_ret
        exact ⟨ret_int HE.out.symm, HB1.out⟩
      · have hq' : (t == tx) = false := by simpa using hq
        go_wp2
        go_roundw
        case rel =>
          refine ⟨j + 1, by omega, by go_num, fun i hi h => ?_, HB1.out⟩
          rcases Nat.lt_or_ge i j with h' | h'
          · exact HA.out i h' h
          · obtain rfl : i = j := by omega
            rw [HX.out]; exact hq'
        case measure => simp [intOf]; omega
    · obtain rfl : j = n := by omega
      have HE := Lib.hid (fst_none (tx := tx) (xs := xs) (fun i hi => HA.out i (by have := HN.out; omega) hi))
      go_wp2
      go_ret
      exact ⟨ret_int HE.out.symm, hb⟩
end
set_option maxRecDepth 100000 in
@[go_sem ↓] theorem eq28 (n : Nat) (w : World) (x y : Int) :
    (Op.equalIn (n + 3) 76 (.agg #[.int .i64 x, .int .i64 y]) (.agg #[.int .i64 x, .int .i64 y])).run Tryd.prog w = .ok true w := by
  rw [run_equalIn_struct w (n + 2) 76 _ _ (by kernel_rfl) (by kernel_rfl)]
  simp [go_sem, run_equalIn_int (h := Tryd.underlying3)]
section
variable {W W' : World} {A1 A2 : Option Addr} {c1 c2 : Nat} {xs : List Hd}
set_option maxHeartbeats 1000000 in
theorem same_any (h1 : Ls W A1 c1 xs) (h2 : Ls W A2 c2 xs) (hl : xs.length ≤ 5000) : Calls Tryd.prog 19 #[.slice A1 xs.length c1, .slice A2 xs.length c2] W fun e w' => e = .returned (.bool true) ∧ Below W.heap.size W w' := by
  have H1 := Lib.hid h1
  have H2 := Lib.hid h2
  clear h1 h2
  obtain ⟨n, hn⟩ : ∃ n, xs.length = n := ⟨_, rfl⟩
  rw [hn] at hl ⊢
  have HN := Lib.hid hn
  clear hn
  go_enter Tryd.func19, Tryd.ntmps19
  go_wp2
  go_loopw [13] (fun t wr => ∃ k : Nat, k ≤ n ∧ t = .int .i64 k ∧ ∃ j, wr = W.drewN j) (fun t _ => n - (intOf t).toNat)
  case atStart => exact ⟨0, by omega, rfl, 0, rfl⟩
  case round =>
    obtain ⟨k, hk, rfl, j, rfl⟩ := hrel
    by_cases hlt : k < n
    · have hlt' : k < xs.length := by rw [HN.out]; exact hlt
      obtain ⟨g1, rfl, e1⟩ := (H1.out.drewN j).here hlt'
      obtain ⟨g2, rfl, e2⟩ := (H2.out.drewN j).here hlt'
      generalize xs[k] = x at e1 e2
      obtain ⟨t, m⟩ := x
      obtain ⟨a0, a1⟩ := e1
      obtain ⟨b0, b1⟩ := e2
      simp only at a0 a1 b0 b1
      generalize hX : W.drewN j = X at a0 a1 b0 b1 ⊢
      have HX := Lib.hid hX
      clear hX hlt'
      go_wp2
      go_quiet (fail)
      have HE := Lib.hid (show X.drewN nq = W.drewN (j + nq) by rw [← HX.out]; simp [World.drewN]; omega)
      generalize X.drewN nq = Y at HE ⊢
      clear a0 a1 b0 b1
      go_wp2
      go_roundw
      case rel => exact ⟨k + 1, by omega, by go_num, j + nq, HE.out⟩
      case measure => simp [intOf]; omega
    · obtain rfl : k = n := by omega
      go_wp2
      go_ret
      exact ⟨rfl, drew_below W j⟩
end
end Go.Proofs.YteaibamkfccplaaDoor.Hs
