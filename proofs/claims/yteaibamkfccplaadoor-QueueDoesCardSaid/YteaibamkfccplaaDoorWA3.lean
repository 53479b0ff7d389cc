/- Where a request would wait: behind the last one for which a condition holds; the program's answer and the document's. -/
import Derived.Test.YteaibamkfccplaaDoorWA2
namespace Go.Proofs.YteaibamkfccplaaDoor.Ws
open Go Go.RowKit Go.Shelf

/-- the place behind the last one for which it holds -/
def plN (p : Wt → Bool) : List Wt → Nat
  | [] => 0
  | x :: xs => if plN p xs = 0 then (if p x then 1 else 0) else plN p xs + 1
theorem plN_le (p : Wt → Bool) : ∀ xs, plN p xs ≤ xs.length
  | [] => Nat.le_refl _
  | x :: xs => by
    have := plN_le p xs
    simp only [plN, List.length_cons]
    split
    · split <;> omega
    · omega
theorem plN_is {p : Wt → Bool} : ∀ {xs : List Wt} {k : Nat}, k ≤ xs.length → (∀ i (_ : k ≤ i) (h : i < xs.length), p xs[i] = false) → (∀ i (_ : k = i + 1) (h : i < xs.length), p xs[i] = true) → k = plN p xs
  | [], k, h, _, _ => by simp at h; simp [plN, h]
  | x :: xs, k, h, h1, h2 => by
    by_cases hk : k = 0
    · subst hk
      have e := plN_is (p := p) (xs := xs) (k := 0) (by omega) (fun i hi hx => h1 (i + 1) (by omega) (by simpa using hx)) (fun i hi => by omega)
      have e2 := h1 0 (by omega) (by simp)
      simp at e2
      simp [plN, ← e, e2]
    · obtain ⟨m, rfl⟩ : ∃ m, k = m + 1 := ⟨k - 1, by omega⟩
      have e := plN_is (p := p) (xs := xs) (k := m) (by simpa using h) (fun i hi hx => h1 (i + 1) (by omega) (by simpa using hx)) (fun i hi hx => by
        have := h2 (i + 1) (by omega) (by simpa using hx)
        simpa using this)
      by_cases hm : m = 0
      · subst hm
        have e2 := h2 0 rfl (by simp)
        simp at e2
        simp [plN, ← e, e2]
      · simp [plN, ← e, hm]
theorem plN_false (p : Wt → Bool) : ∀ (xs : List Wt) i (_ : plN p xs ≤ i) (h : i < xs.length), p xs[i] = false
  | x :: xs, 0, h1, _ => by
    simp only [plN] at h1
    split at h1
    · split at h1
      · omega
      · rename_i h; simpa using h
    · omega
  | x :: xs, i + 1, h1, h2 => by
    simp only [plN] at h1
    have := plN_false p xs i (by split at h1 <;> omega) (by simpa using h2)
    simpa using this
theorem plN_true (p : Wt → Bool) : ∀ (xs : List Wt) i (_ : plN p xs = i + 1) (h : i < xs.length), p xs[i] = true
  | x :: xs, 0, h1, _ => by
    simp only [plN] at h1
    split at h1
    · split at h1
      · rename_i h; simpa using h
      · omega
    · omega
  | x :: xs, i + 1, h1, h2 => by
    simp only [plN] at h1
    have := plN_true p xs i (by split at h1 <;> (try split at h1) <;> omega) (by simpa using h2)
    simpa using this
section
variable {T : Nat → Prop} {W W' : World} {gf : Nat} {cs : Array Value} {p : Wt → Bool} {A : Option Addr} {c : Nat} {xs : List Wt}
set_option maxRecDepth 100000 in
set_option maxHeartbeats 2000000 in
theorem behind_any (hp : Prd T W gf cs p) (hr : Ls W A c xs) (hl : xs.length ≤ 5000) :
    Calls Tryd.prog 92 #[.slice A xs.length c, .func (.func gf) #[] cs] W fun e w' => e = .returned (.int .i64 (plN p xs : Nat)) ∧ Below W.heap.size W w' := by
  obtain ⟨eg, hp⟩ := hp
  have HP := Lib.hid hp
  have HR := Lib.hid hr
  obtain ⟨n, hn⟩ : ∃ n, xs.length = n := ⟨_, rfl⟩
  rw [hn] at hl ⊢
  have HN := Lib.hid hn
  clear hp hr hn
  go_enter Tryd.func92, Tryd.ntmps92
  go_wp2
  go_loopw [5] (fun t wr => ∃ j : Nat, j ≤ n ∧ t = .int .i64 j ∧ (∀ i (_ : j ≤ i) (h : i < xs.length), p xs[i] = false) ∧ Below W.heap.size W wr) (fun t _ => (intOf t).toNat)
  case atStart => exact ⟨n, by omega, rfl, fun i hi h => by have := HN.out; omega, Below.refl _ _⟩
  case round =>
    obtain ⟨j, hj, rfl, hall, hb⟩ := hrel
    have HA := Lib.hid hall
    clear hall
    have HB0 := Lib.hid hb
    have hsz := hb.size
    cases j with
    | zero =>
      have HE := Lib.hid (plN_is (p := p) (xs := xs) (k := 0) (by omega) (fun i _ h => HA.out i (by omega) h) (fun i hi => by omega))
      clear hb
      go_wp2
      go_ret
      exact ⟨by rw [← HE.out]; rfl, HB0.out⟩
    | succ j =>
      have hjl : j < xs.length := by rw [HN.out]; omega
      obtain ⟨a, rfl, hh⟩ := (HR.out.below hb).here hjl
      obtain ⟨c0, c1, c2, c3⟩ := hh
      have hcall := Lib.hid (HP.out wr xs[j] (OnlyS.of_below hb))
      clear hb
      obtain ⟨x, hx⟩ : ∃ x, xs[j] = x := ⟨_, rfl⟩
      have HX := Lib.hid hx
      rw [hx] at c0 c1 c2 c3 hcall
      obtain ⟨q, hq⟩ : ∃ q, p x = q := ⟨_, rfl⟩
      rw [hq] at hcall
      have HQ := Lib.hid hq
      clear hq hx
      cases q
      · go_wp2_with fail
        refine hcall.out.mono ?_
        rintro e w1 ⟨rfl, hb1⟩
        have HB := Lib.hid (HB0.out.trans (hb1.mono HB0.out.size))
        clear c0 c1 c2 c3 hb1 hcall
        go_wp2_with fail
        go_roundw
        case rel =>
          refine ⟨j, by omega, by go_num, fun i hi h => ?_, HB.out⟩
          rcases Nat.lt_or_ge j i with h' | h'
          · exact HA.out i (by omega) h
          · obtain rfl : i = j := by omega
            rw [HX.out]; exact HQ.out
        case measure => simp [intOf]
      · have HE := Lib.hid (plN_is (p := p) (xs := xs) (k := j + 1) (by omega) (fun i hi h => HA.out i hi h) (fun i hi h => by
          obtain rfl : j = i := by omega
          rw [HX.out]; exact HQ.out))
        go_wp2_with fail
        refine hcall.out.mono ?_
        rintro e w1 ⟨rfl, hb1⟩
        have HB := Lib.hid (HB0.out.trans (hb1.mono HB0.out.size))
        clear c0 c1 c2 c3 hb1 hcall
        go_wp2_with fail
        go_ret
        exact ⟨by rw [← HE.out]; rfl, HB.out⟩
/-- where one that converts, or not, would wait -/
def plc (cv : Bool) (xs : List Wt) : Nat := plN (fun x => x.2.2.1 || !cv) xs
theorem place_any (hr : Ls W A c xs) (hl : xs.length ≤ 5000) (cv : Bool) : Calls Tryd.prog 81 #[.slice A xs.length c, .bool cv] W fun e w' => e = .returned (.int .i64 (plc cv xs : Nat)) ∧ Below W.heap.size W w' := by
  have H := Lib.hid (show Calls Tryd.prog 92 #[.slice A xs.length c, .func (.func 93) #[] #[.pointer (some ⟨W.heap.size, 0, none⟩)]] (W.alloc (.cells #[.bool cv] 4)) fun e w' => e = .returned (.int .i64 (plc cv xs : Nat)) ∧ Below (W.alloc (.cells #[.bool cv] 4)).heap.size (W.alloc (.cells #[.bool cv] 4)) w' from behind_any (prd_place (T := fun _ => False) (W := W.alloc (.cells #[.bool cv] 4)) (B := W.heap.size) (cv := cv) (by simp [go_sem]) (fun h => h)) (hr.below (box_below _ _)) hl)
  have HB0 := Lib.hid (box_below W (.cells #[.bool cv] 4))
  clear hr hl
  generalize plc cv xs = z at *
  generalize xs.length = n at *
  go_enter Tryd.func81, Tryd.ntmps81
  go_wp2_with (go_at_call 92; ((with_reducible refine H.out.mono ?_); rintro e w' ⟨rfl, hb⟩))
  go_ret
  exact ⟨rfl, HB0.out.trans (hb.mono HB0.out.size)⟩
set_option maxRecDepth 100000 in
set_option maxHeartbeats 2000000 in
theorem rplace_any (hr : Ls W A c xs) (hl : xs.length ≤ 5000) (cv : Bool) : Calls Tryd.prog 34 #[.slice A xs.length c, .bool cv] W fun e w' => e = .returned (.int .i64 (plc cv xs : Nat)) ∧ W = w' := by
  have HR := Lib.hid hr
  obtain ⟨n, hn⟩ : ∃ n, xs.length = n := ⟨_, rfl⟩
  rw [hn] at hl ⊢
  have HN := Lib.hid hn
  clear hr hn
  go_enter Tryd.func34, Tryd.ntmps34
  go_wp2
  go_loopw [5] (fun t wr => ∃ j : Nat, j ≤ n ∧ t = .int .i64 j ∧ (∀ i (_ : j ≤ i) (h : i < xs.length), (xs[i].2.2.1 || !cv) = false) ∧ W = wr) (fun t _ => (intOf t).toNat)
  case atStart => exact ⟨n, by omega, rfl, fun i hi h => by have := HN.out; omega, rfl⟩
  case round =>
    obtain ⟨j, hj, rfl, hall, rfl⟩ := hrel
    have HA := Lib.hid hall
    clear hall
    cases j with
    | zero =>
      have HE := Lib.hid (plN_is (p := fun x => x.2.2.1 || !cv) (xs := xs) (k := 0) (by omega) (fun i _ h => HA.out i (by omega) h) (fun i hi => by omega))
      go_wp2
      go_ret
      exact ⟨by unfold plc; rw [← HE.out]; rfl, rfl⟩
    | succ j =>
      have hjl : j < xs.length := by rw [HN.out]; omega
      obtain ⟨a, rfl, hh⟩ := HR.out.here hjl
      obtain ⟨-, -, c2, -⟩ := hh
      obtain ⟨q, hq⟩ : ∃ q, xs[j].2.2.1 = q := ⟨_, rfl⟩
      have HQ := Lib.hid hq
      rw [hq] at c2
      clear hq
      have HE := Lib.hid (fun h2 : (q || !cv) = true => plN_is (p := fun x => x.2.2.1 || !cv) (xs := xs) (k := j + 1) (by omega) (fun i hi h => HA.out i hi h) (fun i hi h => by
        obtain rfl : j = i := by omega
        rw [HQ.out]; exact h2))
      have HS := Lib.hid (fun h2 : (q || !cv) = false => (show ∀ i (_ : j ≤ i) (h : i < xs.length), (xs[i].2.2.1 || !cv) = false from fun i hi h => by
        rcases Nat.lt_or_ge j i with h' | h'
        · exact HA.out i (by omega) h
        · obtain rfl : i = j := by omega
          rw [HQ.out]; exact h2))
      cases cv
      · have HE := Lib.hid (HE.out (by simp))
        clear HS
        go_wp2
        go_ret
        exact ⟨by unfold plc; rw [← HE.out]; rfl, rfl⟩
      · cases q
        · have HS := Lib.hid (HS.out rfl)
          clear HE
          go_wp2
          go_roundw
          case rel => exact ⟨j, by omega, by go_num, HS.out, trivial⟩
          case measure => simp [intOf]
        · have HE := Lib.hid (HE.out rfl)
          clear HS
          go_wp2
          go_ret
          exact ⟨by unfold plc; rw [← HE.out]; rfl, rfl⟩
end
end Go.Proofs.YteaibamkfccplaaDoor.Ws
