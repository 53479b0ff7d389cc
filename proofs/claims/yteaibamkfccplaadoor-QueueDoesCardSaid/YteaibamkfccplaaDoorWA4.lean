/- Whether a request may be (the program's answer and the document's); the first place of one's request (both); requests alike. -/
import Derived.Test.YteaibamkfccplaaDoorWA3
import Derived.BigQuiet
namespace Go.Proofs.YteaibamkfccplaaDoor.Ws
open Go Go.RowKit Go.Shelf

def lockB (m : Int) : Bool := decide (1 ≤ m) && decide (m ≤ 6)
def knownB (f : Int) : Bool := decide (0 ≤ f) && decide (f ≤ 2)
def okB3 (tx m f : Int) : Bool := decide (1 ≤ tx) && lockB m && knownB f
def errV (b : Bool) : Int := if b then 0 else 1
theorem lock_any (m : Int) (W : World) : Calls Tryd.prog 78 #[.int .i64 m] W fun e w' => e = .returned (.bool (lockB m)) ∧ W = w' := by
  by_cases h : 0 ≤ m ∧ m ≤ 6
  · by_cases h0 : m = 0
    · subst h0
      go_enter Tryd.func78, Tryd.ntmps78
      go_wp2_with (go_at_call 74; ((with_reducible refine (may_yes _ _ (by omega) (by omega)).mono ?_); rintro e w' ⟨rfl, rfl⟩))
      go_ret
      exact ⟨rfl, rfl⟩
    · have e : lockB m = true := by unfold lockB; simp; omega
      have h0' : (m != 0) = true := by simpa using h0
      have h1 := h.1
      have h6 := h.2
      rw [e]
      clear h
      go_enter Tryd.func78, Tryd.ntmps78
      go_wp2_with (go_at_call 74; ((with_reducible refine (may_yes _ _ h1 h6).mono ?_); rintro e w' ⟨rfl, rfl⟩))
      go_ret
      exact ⟨rfl, rfl⟩
  · have e : lockB m = false := by unfold lockB; simp; omega
    rw [e]
    have H := fun W => Lib.hid (may_no m W h)
    clear h
    go_enter Tryd.func78, Tryd.ntmps78
    go_wp2_with (go_at_call 74; ((with_reducible refine (H _).out.mono ?_); rintro e w' ⟨rfl, rfl⟩))
    go_ret
    exact ⟨rfl, rfl⟩
theorem known_is (f : Int) (W : World) : Calls Tryd.prog 79 #[.int .i64 f] W fun e w' => e = .returned (.bool (knownB f)) ∧ W = w' := by
  by_cases h0 : f = 0
  · subst h0
    go_enter Tryd.func79, Tryd.ntmps79
    go_wp2
    go_ret
    exact ⟨rfl, rfl⟩
  · by_cases h1 : f = 1
    · subst h1
      go_enter Tryd.func79, Tryd.ntmps79
      go_wp2
      go_ret
      exact ⟨rfl, rfl⟩
    · by_cases h2 : f = 2
      · subst h2
        go_enter Tryd.func79, Tryd.ntmps79
        go_wp2
        go_ret
        exact ⟨rfl, rfl⟩
      · have e : knownB f = false := by unfold knownB; simp; omega
        rw [e]
        have q0 : (f == 0) = false := by simpa using h0
        have q1 : (f == 1) = false := by simpa using h1
        have q2 : (f == 2) = false := by simpa using h2
        go_enter Tryd.func79, Tryd.ntmps79
        go_wp2
        go_ret
        exact ⟨rfl, rfl⟩
theorem check_any (tx m f : Int) (W : World) : Calls Tryd.prog 53 #[.int .i64 tx, .int .i64 m, .int .i64 f] W fun e w' => e = .returned (.int .i64 (errV (okB3 tx m f))) ∧ W = w' := by
  have H1 := Lib.hid (lock_any m W)
  have H2 := Lib.hid (known_is f W)
  have HE := Lib.hid (show okB3 tx m f = (decide (1 ≤ tx) && lockB m && knownB f) from rfl)
  generalize okB3 tx m f = q at *
  generalize lockB m = a at *
  generalize knownB f = b at *
  by_cases h : tx < 1
  · have e : decide (1 ≤ tx) = false := by simp; omega
    rw [e] at HE
    clear e
    go_enter Tryd.func53, Tryd.ntmps53
    go_wp2
    go_ret
    exact ⟨by rw [HE.out]; rfl, rfl⟩
  · have e : decide (1 ≤ tx) = true := by simp; omega
    rw [e] at HE
    clear e
    cases a
    · go_enter Tryd.func53, Tryd.ntmps53
      go_wp2_with (go_at_call 78; ((with_reducible refine H1.out.mono ?_); rintro e w' ⟨rfl, rfl⟩))
      go_ret
      exact ⟨by rw [HE.out]; rfl, rfl⟩
    · cases b
      · go_enter Tryd.func53, Tryd.ntmps53
        go_wp2_with (first | (go_at_call 78; ((with_reducible refine H1.out.mono ?_); rintro e w' ⟨rfl, rfl⟩)) | (go_at_call 79; ((with_reducible refine H2.out.mono ?_); rintro e w' ⟨rfl, rfl⟩)))
        go_ret
        exact ⟨by rw [HE.out]; rfl, rfl⟩
      · go_enter Tryd.func53, Tryd.ntmps53
        go_wp2_with (first | (go_at_call 78; ((with_reducible refine H1.out.mono ?_); rintro e w' ⟨rfl, rfl⟩)) | (go_at_call 79; ((with_reducible refine H2.out.mono ?_); rintro e w' ⟨rfl, rfl⟩)))
        go_ret
        exact ⟨by rw [HE.out]; rfl, rfl⟩
theorem rcheck_any (tx m f : Int) (W : World) : Calls Tryd.prog 32 #[.int .i64 tx, .int .i64 m, .int .i64 f] W fun e w' => e = .returned (.int .i64 (errV (okB3 tx m f))) ∧ W = w' := by
  obtain ⟨q, hq⟩ : ∃ q, okB3 tx m f = q := ⟨_, rfl⟩
  rw [hq]
  by_cases h1 : tx < 1
  · obtain rfl : q = false := by rw [← hq]; unfold okB3; simp; omega
    clear hq
    go_enter Tryd.func32, Tryd.ntmps32
    go_wp2
    go_ret
    exact ⟨rfl, rfl⟩
  · by_cases h2 : m < 1
    · obtain rfl : q = false := by rw [← hq]; unfold okB3 lockB; simp; omega
      clear hq
      go_enter Tryd.func32, Tryd.ntmps32
      go_wp2
      go_ret
      exact ⟨rfl, rfl⟩
    · by_cases h3 : 6 < m
      · obtain rfl : q = false := by rw [← hq]; unfold okB3 lockB; simp; omega
        clear hq
        go_enter Tryd.func32, Tryd.ntmps32
        go_wp2
        go_ret
        exact ⟨rfl, rfl⟩
      · by_cases h4 : f < 0
        · obtain rfl : q = false := by rw [← hq]; unfold okB3 knownB; simp; omega
          clear hq
          go_enter Tryd.func32, Tryd.ntmps32
          go_wp2
          go_ret
          exact ⟨rfl, rfl⟩
        · by_cases h5 : 2 < f
          · obtain rfl : q = false := by rw [← hq]; unfold okB3 knownB; simp; omega
            clear hq
            go_enter Tryd.func32, Tryd.ntmps32
            go_wp2
            go_ret
            exact ⟨rfl, rfl⟩
          · obtain rfl : q = true := by rw [← hq]; unfold okB3 lockB knownB; simp; omega
            clear hq
            go_enter Tryd.func32, Tryd.ntmps32
            go_wp2
            go_ret
            exact ⟨rfl, rfl⟩
/-- whether a request is right by itself -/
def okW (x : Wt) : Bool := okB3 x.1 x.2.1 0
theorem prd_wrong {T : Nat → Prop} {W : World} : Prd T W 52 #[] (fun x => !okW x) := by
  refine ⟨enters_of Tryd.func52 (by kernel_rfl) rfl, fun W' x _ => ?_⟩
  obtain ⟨t, m, c, i⟩ := x
  have HC := fun W => Lib.hid (check_any t m 0 W)
  have HE := Lib.hid (show okW (t, m, c, i) = okB3 t m 0 from rfl)
  generalize okB3 t m 0 = q at *
  change Calls Tryd.prog 52 _ W' fun e w' => e = .returned (.bool (!okW (t, m, c, i))) ∧ _
  generalize okW (t, m, c, i) = z at *
  obtain rfl : z = q := HE.out
  clear HE
  cases z
  all_goals
    go_enter Tryd.func52, Tryd.ntmps52
    go_wp2_with (go_at_call 53; ((with_reducible refine (HC _).out.mono ?_); rintro e w' ⟨rfl, rfl⟩))
    go_ret
    exact ⟨rfl, box_below _ _⟩

theorem ofc_any (tx : Int) (W : World) : Calls Tryd.prog 63 #[.int .i64 tx] W fun e w' => e = .returned (.func (.func 84) #[] #[.pointer (some ⟨W.heap.size, 0, none⟩)]) ∧ w' = W.alloc (.cells #[.int .i64 tx] 3) := by
  go_enter Tryd.func63, Tryd.ntmps63
  go_wp2
  go_ret
  exact ⟨rfl, rfl⟩
/-- the first place of one's request; -1 -/
def fndI (tx : Int) (xs : List Wt) : Int := idxP (fun x => x.1 == tx) xs
section
variable {T : Nat → Prop} {W W' : World} {A : Option Addr} {c : Nat} {xs : List Wt}
theorem find_any (hr : Ls W A c xs) (hl : xs.length ≤ 5000) (tx : Int) : Calls Tryd.prog 29 #[.slice A xs.length c, .int .i64 tx] W fun e w' => e = .returned (.int .i64 (fndI tx xs)) ∧ Below W.heap.size W w' := by
  have H := Lib.hid (show Calls Tryd.prog 62 #[.slice A xs.length c, .func (.func 84) #[] #[.pointer (some ⟨W.heap.size, 0, none⟩)]] (W.alloc (.cells #[.int .i64 tx] 3)) fun e w' => e = .returned (.int .i64 (fndI tx xs)) ∧ Below (W.alloc (.cells #[.int .i64 tx] 3)).heap.size (W.alloc (.cells #[.int .i64 tx] 3)) w' from
    index_any (prd_tx (T := fun _ => False) (B := W.heap.size) (tx := tx) (by simp [go_sem]) (fun h => h)) (hr.below (box_below _ _)) hl)
  have HB0 := Lib.hid (box_below W (.cells #[.int .i64 tx] 3))
  clear hr hl
  generalize fndI tx xs = z at *
  generalize xs.length = n at *
  go_enter Tryd.func29, Tryd.ntmps29
  go_wp2_with (first | (go_at_call 63; ((with_reducible refine (ofc_any tx W).mono ?_); rintro e w' ⟨rfl, rfl⟩)) | (go_at_call 62; ((with_reducible refine H.out.mono ?_); rintro e w' ⟨rfl, hb⟩)))
  go_ret
  exact ⟨rfl, HB0.out.trans (hb.mono HB0.out.size)⟩
set_option maxRecDepth 100000 in
set_option maxHeartbeats 2000000 in
theorem rfind_any (hr : Ls W A c xs) (hl : xs.length ≤ 5000) (tx : Int) : Calls Tryd.prog 33 #[.slice A xs.length c, .int .i64 tx] W fun e w' => e = .returned (.int .i64 (fndI tx xs)) ∧ Below W.heap.size W w' := by
  have HR := Lib.hid hr
  obtain ⟨n, hn⟩ : ∃ n, xs.length = n := ⟨_, rfl⟩
  rw [hn] at hl ⊢
  have HN := Lib.hid hn
  clear hr hn
  go_enter Tryd.func33, Tryd.ntmps33
  go_wp2
  go_loopw [9] (fun t wr => ∃ j : Nat, j ≤ n ∧ t = .int .i64 j ∧ (∀ i (_ : i < j) (h : i < xs.length), (xs[i].1 == tx) = false) ∧ Below W.heap.size W wr) (fun t _ => n - (intOf t).toNat)
  case atStart => exact ⟨0, by omega, rfl, fun i hi => by omega, Below.refl _ _⟩
  case round =>
    obtain ⟨j, hj, rfl, hall, hb⟩ := hrel
    have HA := Lib.hid hall
    clear hall
    by_cases hjn : j < n
    · have hjl : j < xs.length := by rw [HN.out]; exact hjn
      obtain ⟨a, rfl, hh⟩ := (HR.out.below hb).here hjl
      obtain ⟨c0, c1, c2, c3⟩ := hh
      have HB0 := Lib.hid hb
      have hsz := hb.size
      clear hb
      obtain ⟨x, hx⟩ : ∃ x, xs[j] = x := ⟨_, rfl⟩
      have HX := Lib.hid hx
      rw [hx] at c0 c1 c2 c3
      obtain ⟨t, m, cv, i⟩ := x
      simp only at c0 c1 c2 c3
      have HB1 := Lib.hid (HB0.out.trans ((box_below wr (.cells #[.int .i64 t, .int .i64 m, .bool cv, .bool i] 60)).mono HB0.out.size))
      clear hx
      by_cases hq : t = tx
      · subst hq
        go_wp2
        go_ret
        refine ⟨ret_int ?_, HB1.out⟩
        exact (idx_some hjl (fun i hi => HA.out i hi (by omega)) (by rw [HX.out]; simp)).symm
      · have hq' : (t == tx) = false := by simpa using hq
        go_wp2
        go_roundw
        case rel =>
          refine ⟨j + 1, by omega, by go_num, fun i hi h => ?_, HB1.out⟩
          rcases Nat.lt_or_ge i j with h' | h'
          · exact HA.out i h' h
          · obtain rfl : i = j := by omega
            rw [HX.out]; exact hq'
        case measure => simp [intOf]; omega
    · obtain rfl : j = n := by omega
      go_wp2
      go_ret
      refine ⟨ret_int (idx_none fun i hi => HA.out i (by have := HN.out; omega) hi).symm, hb⟩
end
end Go.Proofs.YteaibamkfccplaaDoor.Ws
