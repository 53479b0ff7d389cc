/- Whether holds are right: what that is, and the program's answer. -/
import Derived.Test.YteaibamkfccplaaDoorHP1
namespace Go.Proofs.YteaibamkfccplaaDoor.Hs
open Go Go.RowKit Go.Shelf

def rightB (xs : List Hd) : Bool := decide (cntF xs 0 = 0) && togB (cntF xs) && apartB xs
/-- right ones -/
def Rg (xs : List Hd) : Prop := (∀ x ∈ xs, 1 ≤ x.1 ∧ 1 ≤ x.2 ∧ x.2 ≤ 6) ∧ xs.Pairwise (fun a b => a.1 ≠ b.1 ∧ symB (kn a.2) (kn b.2) = true)
theorem symB_comm (i j : Nat) : symB i j = symB j i := Bool.or_comm _ _
theorem once_iff (xs : List Hd) : onceB xs = true ↔ xs.Pairwise (fun a b => a.1 ≠ b.1) := by
  unfold onceB
  rw [decide_eq_true_iff]
  unfold List.Nodup
  rw [List.pairwise_map]
theorem two_of {p : Hd → Bool} : ∀ {xs : List Hd}, 2 ≤ xs.countP p → ∃ (i j : Nat) (hij : i < j) (hj : j < xs.length), p (xs[i]'(by omega)) = true ∧ p xs[j] = true
  | [], h => by simp at h
  | x :: xs, h => by
    rw [List.countP_cons] at h
    by_cases hx : p x = true
    · rw [if_pos hx] at h
      obtain ⟨y, hy, hp⟩ := List.countP_pos_iff.1 (show 0 < xs.countP p by omega)
      obtain ⟨j, hj, rfl⟩ := List.getElem_of_mem hy
      exact ⟨0, j + 1, by omega, by simpa using hj, by simpa using hx, by simpa using hp⟩
    · rw [if_neg hx] at h
      obtain ⟨i, j, hij, hj, h1, h2⟩ := two_of (xs := xs) (by omega)
      exact ⟨i + 1, j + 1, by omega, by simpa using hj, by simpa using h1, by simpa using h2⟩
theorem two_to {p : Hd → Bool} : ∀ {xs : List Hd} {i j : Nat} (hij : i < j) (hj : j < xs.length), p (xs[i]'(by omega)) = true → p xs[j] = true → 2 ≤ xs.countP p
  | x :: xs, 0, j + 1, _, hj, h1, h2 => by
    rw [List.getElem_cons_zero] at h1
    rw [List.getElem_cons_succ] at h2
    rw [List.countP_cons, if_pos h1]
    have := List.countP_pos_iff.2 ⟨_, List.getElem_mem (by simpa using hj : j < xs.length), h2⟩
    omega
  | x :: xs, i + 1, j + 1, hij, hj, h1, h2 => by
    rw [List.getElem_cons_succ] at h1 h2
    have := two_to (xs := xs) (i := i) (j := j) (by omega) (by simpa using hj) h1 h2
    rw [List.countP_cons]
    omega
theorem tog_iff (xs : List Hd) : togB (cntF xs) = true ↔ xs.Pairwise (fun a b => symB (kn a.2) (kn b.2) = true) := by
  unfold togB
  rw [eachB_iff, List.pairwise_iff_getElem]
  constructor
  · intro h i j hi hj hij
    have h1 := h (kn xs[i].2) (kn_le _) (cntF_pos.2 ⟨_, List.getElem_mem hi, rfl⟩)
    rw [eachB_iff] at h1
    refine h1 (kn xs[j].2) (kn_le _) ?_
    unfold dec
    by_cases e : kn xs[j].2 = kn xs[i].2
    · rw [if_pos e, e]
      have := two_to (p := fun x => kn x.2 == kn xs[i].2) hij hj (by simp) (by simpa using e)
      unfold cntF
      omega
    · rw [if_neg e]
      exact cntF_pos.2 ⟨_, List.getElem_mem hj, rfl⟩
  · intro h m _ hm
    rw [eachB_iff]
    intro o _ ho
    have key : ∀ i j (hi : i < xs.length) (hj : j < xs.length), i ≠ j → symB (kn xs[i].2) (kn xs[j].2) = true := fun i j hi hj hne => by
      rcases Nat.lt_or_ge i j with hij | hij
      · exact h i j hi hj hij
      · rw [symB_comm]; exact h j i hj hi (by omega)
    unfold dec at ho
    by_cases e : o = m
    · subst e
      rw [if_pos rfl] at ho
      have h2 : 2 ≤ xs.countP (fun x => kn x.2 == o) := by unfold cntF at ho; omega
      obtain ⟨i, j, hij, hj, h3, h4⟩ := two_of h2
      have := key i j (by omega) hj (by omega)
      rw [eq_of_beq h3, eq_of_beq h4] at this
      exact this
    · rw [if_neg e] at ho
      obtain ⟨x, hx, rfl⟩ := cntF_pos.1 hm
      obtain ⟨y, hy, rfl⟩ := cntF_pos.1 ho
      obtain ⟨i, hi, rfl⟩ := List.getElem_of_mem hx
      obtain ⟨j, hj, rfl⟩ := List.getElem_of_mem hy
      exact key i j hi hj (fun q => e (by subst q; rfl))
theorem kn_zero (m : Int) : kn m = 0 ↔ ¬ (1 ≤ m ∧ m ≤ 6) := by
  unfold kn
  split <;> omega
theorem none_iff (xs : List Hd) : cntF xs 0 = 0 ↔ ∀ x ∈ xs, 1 ≤ x.2 ∧ x.2 ≤ 6 := by
  constructor
  · intro h x hx
    by_cases e : 1 ≤ x.2 ∧ x.2 ≤ 6
    · exact e
    · have := cntF_pos.2 ⟨x, hx, (kn_zero _).2 e⟩
      omega
  · intro h
    have := (cntF_bounds xs 0).1
    by_cases e : 0 < cntF xs 0
    · obtain ⟨x, hx, h0⟩ := cntF_pos.1 e
      exact absurd (h x hx) ((kn_zero _).1 h0)
    · omega
theorem right_iff (xs : List Hd) : rightB xs = true ↔ Rg xs := by
  unfold rightB Rg apartB
  rw [Bool.and_eq_true, Bool.and_eq_true, Bool.and_eq_true, decide_eq_true_iff, none_iff, tog_iff, once_iff, List.all_eq_true]
  constructor
  · rintro ⟨⟨h1, h2⟩, h3, h4⟩
    exact ⟨fun x hx => ⟨by simpa using h3 x hx, h1 x hx⟩, h4.imp₂ (fun _ _ a b => ⟨a, b⟩) h2⟩
  · rintro ⟨h1, h2⟩
    exact ⟨⟨fun x hx => (h1 x hx).2, h2.imp (fun h => h.2)⟩, fun x hx => by simpa using (h1 x hx).1, h2.imp (fun h => h.1)⟩
/-- one of them, as the document asks it -/
def Gd (xs : List Hd) (i : Nat) (h : i < xs.length) : Prop := (1 ≤ xs[i].1 ∧ 1 ≤ xs[i].2 ∧ xs[i].2 ≤ 6) ∧ ∀ k (hk : k < xs.length), i ≠ k → xs[i].1 ≠ xs[k].1 ∧ symB (kn xs[i].2) (kn xs[k].2) = true
theorem right_gd (xs : List Hd) : rightB xs = true ↔ ∀ i (h : i < xs.length), Gd xs i h := by
  rw [right_iff]
  unfold Rg
  rw [List.pairwise_iff_getElem]
  constructor
  · rintro ⟨h1, h2⟩ i hi
    refine ⟨h1 _ (List.getElem_mem hi), fun k hk hne => ?_⟩
    rcases Nat.lt_or_ge i k with hij | hij
    · exact h2 i k hi hk hij
    · have := h2 k i hk hi (by omega)
      exact ⟨fun e => this.1 e.symm, by rw [symB_comm]; exact this.2⟩
  · intro h
    refine ⟨fun x hx => ?_, fun i j hi hj hij => (h i hi).2 j hj (by omega)⟩
    obtain ⟨i, hi, rfl⟩ := List.getElem_of_mem hx
    exact (h i hi).1
theorem gd_not {xs : List Hd} {i : Nat} (hi : i < xs.length) (h : ¬ Gd xs i hi) : rightB xs = false := by
  cases e : rightB xs
  · rfl
  · exact absurd ((right_gd xs).1 e i hi) h
section
variable {W W' : World} {A : Option Addr} {c : Nat} {xs : List Hd}
theorem right_any (ht : TabG W) (h : Ls W A c xs) (hw : ∀ x ∈ xs, wf64 x.1) (hl : xs.length ≤ 5000) : Calls Tryd.prog 25 #[.slice A xs.length c] W fun e w' => e = .returned (.bool (rightB xs)) ∧ Below W.heap.size W w' := by
  have HC := Lib.hid (counts_any h hl)
  have HR := Lib.hid (show rightB xs = (decide (cntF xs 0 = 0) && togB (cntF xs) && apartB xs) from rfl)
  have hbd : ∀ k, 0 ≤ cntF xs k ∧ cntF xs k ≤ 5000 := fun k => by have := cntF_bounds xs k; omega
  have HT := Lib.hid (fun (w1 : World) (hb : Below W.heap.size W w1) => together_any (f := cntF xs) (ht.later hb) hbd)
  have HA := Lib.hid (fun (w1 : World) (hb : Below W.heap.size W w1) => apart_any (h.below hb) hw hl)
  clear h hw ht hbd
  generalize rightB xs = z at *
  generalize cntF xs = f at *
  generalize apartB xs = q2 at *
  generalize togB f = q1 at *
  generalize xs.length = n at *
  go_enter Tryd.func25, Tryd.ntmps25
  go_wp2_with fail
  refine HC.out.mono ?_
  rintro e w1 ⟨rfl, hb1⟩
  have hx := box_below w1 (.cells (cells7 f) 80)
  have hbx := hb1.trans (hx.mono hb1.size)
  have HBX := Lib.hid hbx
  have HT1 := Lib.hid (HT.out _ hbx)
  clear hb1 hx hbx HC HT
  by_cases h0 : f 0 = 0
  · have e0 : decide (f 0 = 0) = true := by simpa using h0
    rw [e0, Bool.true_and] at HR
    have b0 : ((f 0 : Int) == 0) = true := by simpa using h0
    clear h0 e0
    cases q1
    · rw [Bool.false_and] at HR
      go_wp2_with (go_at_call 50; ((with_reducible refine HT1.out.mono ?_); rintro e w2 ⟨rfl, hb2⟩))
      go_ret
      exact ⟨by rw [HR.out]; rfl, HBX.out.trans (hb2.mono HBX.out.size)⟩
    · rw [Bool.true_and] at HR
      go_wp2_with fail
      refine HT1.out.mono ?_
      rintro e w2 ⟨rfl, hb2⟩
      have hb3 := HBX.out.trans (hb2.mono HBX.out.size)
      have HA1 := Lib.hid (HA.out _ hb3)
      have HB3 := Lib.hid hb3
      clear hb2 hb3 HA
      go_wp2_with fail
      refine HA1.out.mono ?_
      rintro e w3 ⟨rfl, hb4⟩
      have HB4 := Lib.hid (HB3.out.trans (hb4.mono HB3.out.size))
      clear hb4
      go_wp2_with fail
      go_ret
      exact ⟨by rw [HR.out]; rfl, HB4.out⟩
  · have e0 : decide (f 0 = 0) = false := by simpa using h0
    rw [e0, Bool.false_and, Bool.false_and] at HR
    have b0 : ((f 0 : Int) == 0) = false := by simpa using h0
    clear h0 e0
    go_wp2_with fail
    go_ret
    exact ⟨by rw [HR.out]; rfl, HBX.out⟩
end
end Go.Proofs.YteaibamkfccplaaDoor.Hs
