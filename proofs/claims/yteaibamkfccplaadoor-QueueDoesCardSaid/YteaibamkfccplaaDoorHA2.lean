/- What tells of a hold whether a condition holds; the first place at which it does. -/
import Derived.Test.YteaibamkfccplaaDoorHA1
import Derived.Test.YteaibamkfccplaaDoorMC
namespace Go.Proofs.YteaibamkfccplaaDoor.Hs
open Go Go.RowKit Go.Shelf

/-- a function value that tells of a hold whether a condition holds, in whatever world that is as this one but for these blocks -/
def Prd (T : Nat → Prop) (W : World) (gf : Nat) (cs : Array Value) (p : Hd → Bool) : Prop :=
  (∀ args w, (callFunc gf args).run Tryd.prog w = .ok (.enter gf args) w) ∧
  ∀ (W' : World) (x : Hd), OnlyS T W W' → Calls Tryd.prog gf (#[wv x] ++ cs) W' fun e w' => e = .returned (.bool (p x)) ∧ Below W'.heap.size W' w'
theorem Prd.mono {T : Nat → Prop} {W W' : World} {gf : Nat} {cs : Array Value} {p : Hd → Bool} (h : Prd T W gf cs p) (ho : OnlyS T W W') : Prd (fun _ => False) W' gf cs p :=
  ⟨h.1, fun W'' x ho' => h.2 W'' x (ho.trans (ho'.mono fun _ _ hf => hf.elim))⟩
theorem prd_tx {T : Nat → Prop} {W : World} {B : Nat} {tx : Int} (hc : W.cell? ⟨B, 0, none⟩ = some (.int .i64 tx)) (hT : ¬ T B) : Prd T W 83 #[.pointer (some ⟨B, 0, none⟩)] (fun x => x.1 == tx) := by
  refine ⟨enters_of Tryd.func83 (by kernel_rfl) rfl, fun W' x ho => ?_⟩
  have hc' := ho.cell hc hT
  have hlt := cell_lt hc'
  obtain ⟨t, m⟩ := x
  clear ho hc
  go_enter Tryd.func83, Tryd.ntmps83
  go_wp2
  go_ret
  exact ⟨rfl, box_below _ _⟩
/-- the first place at which it holds; -1 -/
def idxP (p : Hd → Bool) : List Hd → Int
  | [] => -1
  | x :: xs => if p x then 0 else if idxP p xs = -1 then -1 else idxP p xs + 1
theorem idx_none {p : Hd → Bool} {xs : List Hd} (h : ∀ i (h : i < xs.length), p xs[i] = false) : idxP p xs = -1 := by
  induction xs with
  | nil => rfl
  | cons x xs ih =>
    have h1 := h 0 (by simp)
    have h2 := ih (fun i hi => h (i + 1) (by simpa using hi))
    simp at h1
    simp [idxP, h1, h2]
theorem idx_some {p : Hd → Bool} : ∀ {xs : List Hd} {k : Nat} (hk : k < xs.length), (∀ i (h : i < k), p (xs[i]'(by omega)) = false) → p xs[k] = true → idxP p xs = k
  | x :: xs, 0, _, _, hp => by simp at hp; simp [idxP, hp]
  | x :: xs, k + 1, hk, h, hp => by
    have h1 := h 0 (by omega)
    have h2 := idx_some (xs := xs) (k := k) (by simpa using hk) (fun i hi => h (i + 1) (by omega)) hp
    simp at h1
    have h3 : ¬ ((k : Int) = -1) := by omega
    simp [idxP, h1, h2, h3]
theorem idx_cases (p : Hd → Bool) (xs : List Hd) : (idxP p xs = -1 ∧ ∀ x ∈ xs, p x = false) ∨ ∃ (k : Nat) (hk : k < xs.length), idxP p xs = k ∧ p xs[k] = true ∧ ∀ i (h : i < k), p (xs[i]'(by omega)) = false := by
  induction xs with
  | nil => exact .inl ⟨rfl, by simp⟩
  | cons x xs ih =>
    cases hx : p x
    · rcases ih with ⟨h1, h2⟩ | ⟨k, hk, h1, h2, h3⟩
      · exact .inl ⟨by simp [idxP, hx, h1], fun y hy => by
          rcases List.mem_cons.1 hy with rfl | hy
          · exact hx
          · exact h2 y hy⟩
      · refine .inr ⟨k + 1, by simpa using hk, ?_, by simpa using h2, fun i hi => ?_⟩
        · have h4 : ¬ ((k : Int) = -1) := by omega
          simp [idxP, hx, h1, h4]
        · cases i with
          | zero => simpa using hx
          | succ i => simpa using h3 i (by omega)
    · exact .inr ⟨0, by simp, by simp [idxP, hx], by simpa using hx, fun i hi => by omega⟩
theorem idx_any (p : Hd → Bool) (xs : List Hd) : decide (0 ≤ idxP p xs) = xs.any p := by
  rcases idx_cases p xs with ⟨h1, h2⟩ | ⟨k, hk, h1, h2, -⟩
  · have : xs.any p = false := List.any_eq_false.2 fun x hx => by rw [h2 x hx]; simp
    rw [h1, this]; decide
  · have : xs.any p = true := List.any_eq_true.2 ⟨_, List.getElem_mem hk, h2⟩
    rw [h1, this]; simp
section
variable {T : Nat → Prop} {W W' : World} {gf : Nat} {cs : Array Value} {p : Hd → Bool} {A : Option Addr} {c : Nat} {xs : List Hd}
set_option maxRecDepth 100000 in
set_option maxHeartbeats 2000000 in
theorem index_any (hp : Prd T W gf cs p) (hr : Ls W A c xs) (hl : xs.length ≤ 5000) :
    Calls Tryd.prog 60 #[.slice A xs.length c, .func (.func gf) #[] cs] W fun e w' => e = .returned (.int .i64 (idxP p xs)) ∧ Below W.heap.size W w' := by
  obtain ⟨eg, hp⟩ := hp
  have HP := Lib.hid hp
  have HR := Lib.hid hr
  obtain ⟨n, hn⟩ : ∃ n, xs.length = n := ⟨_, rfl⟩
  rw [hn] at hl ⊢
  have HN := Lib.hid hn
  clear hp hr hn
  go_enter Tryd.func60, Tryd.ntmps60
  go_wp2
  go_loopw [8] (fun t wr => ∃ j : Nat, j ≤ n ∧ t = .int .i64 j ∧ (∀ i (_ : i < j) (h : i < xs.length), p xs[i] = false) ∧ Below W.heap.size W wr) (fun t _ => n - (intOf t).toNat)
  case atStart => exact ⟨0, by omega, rfl, fun i hi => by omega, Below.refl _ _⟩
  case round =>
    obtain ⟨j, hj, rfl, hall, hb⟩ := hrel
    have HA := Lib.hid hall
    clear hall
    by_cases hjn : j < n
    · have hjl : j < xs.length := by rw [HN.out]; exact hjn
      obtain ⟨a, rfl, hh⟩ := (HR.out.below hb).here hjl
      obtain ⟨c0, c1⟩ := hh
      have hcall := Lib.hid (HP.out wr xs[j] (OnlyS.of_below hb))
      have HB0 := Lib.hid hb
      have hsz := hb.size
      clear hb
      obtain ⟨x, hx⟩ : ∃ x, xs[j] = x := ⟨_, rfl⟩
      have HX := Lib.hid hx
      rw [hx] at c0 c1 hcall
      obtain ⟨q, hq⟩ : ∃ q, p x = q := ⟨_, rfl⟩
      rw [hq] at hcall
      have HQ := Lib.hid hq
      clear hq hx
      cases q
      · go_wp2_with fail
        refine hcall.out.mono ?_
        rintro e w1 ⟨rfl, hb1⟩
        have HB := Lib.hid (HB0.out.trans (hb1.mono HB0.out.size))
        clear c0 c1 hb1 hcall
        go_wp2_with fail
        go_roundw
        case rel =>
          refine ⟨j + 1, by omega, by go_num, fun i hi h => ?_, HB.out⟩
          rcases Nat.lt_or_ge i j with h' | h'
          · exact HA.out i h' h
          · obtain rfl : i = j := by omega
            rw [HX.out]; exact HQ.out
        case measure => simp [intOf]; omega
      · go_wp2_with fail
        refine hcall.out.mono ?_
        rintro e w1 ⟨rfl, hb1⟩
        have HB := Lib.hid (HB0.out.trans (hb1.mono HB0.out.size))
        clear c0 c1 hb1 hcall
        go_wp2_with fail
        go_ret
        refine ⟨ret_int ?_, HB.out⟩
        clear hsz
        exact (idx_some hjl (fun i hi => HA.out i hi (by omega)) (by rw [HX.out]; exact HQ.out)).symm
    · obtain rfl : j = n := by omega
      go_wp2_with fail
      go_ret
      refine ⟨ret_int (idx_none fun i hi => HA.out i (by have := HN.out; omega) hi).symm, hb⟩
end
end Go.Proofs.YteaibamkfccplaaDoor.Hs
