/- Who has and who waits: whoever asked and has not gone; one that is alone. -/
import Derived.Test.YteaibamkfccplaaDoorB0
namespace Go.Proofs.YteaibamkfccplaaDoor
open Go Go.RowKit Go.Shelf

/-- each that has or waits is such a one -/
def AllP (P : Int → Prop) (H : List Hs.Hd) (L : List Ws.Wt) : Prop := (∀ x ∈ H, P x.1) ∧ ∀ x ∈ L, P x.1
section
variable {P R : Int → Prop} {H : List Hs.Hd} {L : List Ws.Wt} {tx m fl : Int}
theorem AllP.mono (h : AllP P H L) (hpr : ∀ t, P t → R t) : AllP R H L := ⟨fun x hx => hpr _ (h.1 x hx), fun x hx => hpr _ (h.2 x hx)⟩
theorem AllP.nil (P : Int → Prop) : AllP P [] [] := ⟨by simp, by simp⟩
theorem grant_all {x : Ws.Wt} (h : ∀ y ∈ H, P y.1) (hx : P x.1) : ∀ y ∈ grantH x H, P y.1 := by
  unfold grantH
  split
  · exact h
  · intro y hy
    rcases Hs.setL_mem hy with hy | rfl
    · exact h y hy
    · exact hx
theorem swp_all : ∀ {L : List Ws.Wt} {H : List Hs.Hd}, AllP P H L → AllP P (swp L H).1 (swp L H).2.1
  | [], _, h => h
  | x :: L, H, h => by
    cases hg : Hs.goesB x.1 x.2.1 H
    · rw [swp_no hg]; exact h
    · rw [swp_yes hg]
      exact swp_all ⟨grant_all h.1 (h.2 x List.mem_cons_self), fun y hy => h.2 y (List.mem_cons_of_mem _ hy)⟩
theorem AllP.ask (h : AllP P H L) (hp : P tx) : AllP P (ask tx m fl H L).2.2.1 (ask tx m fl H L).2.2.2 := by
  rcases ask_cases tx m fl H L with ⟨_, _, _, e⟩ | ⟨_, _, e⟩ | ⟨_, _, _, e⟩ | ⟨_, _, _, _, e⟩ | ⟨_, _, _, _, e⟩ <;> rw [e]
  · exact h
  · exact h
  · exact ⟨grant_all h.1 hp, h.2⟩
  · exact h
  · refine ⟨h.1, fun x hx => ?_⟩
    have hx' : x ∈ Ws.ins (reqW tx m fl H) L := hx
    unfold Ws.ins at hx'
    rw [List.mem_append, List.mem_append, List.mem_singleton] at hx'
    rcases hx' with (hx' | rfl) | hx'
    · exact h.2 x (List.mem_of_mem_take hx')
    · exact hp
    · exact h.2 x (List.mem_of_mem_drop hx')
theorem AllP.rel (h : AllP P H L) (hi : Inv H L) (tx : Int) : AllP (fun t => P t ∧ t ≠ tx) (rel tx H L).hs (rel tx H L).ws := by
  unfold Go.Proofs.YteaibamkfccplaaDoor.rel
  split
  · rename_i hs
    unfold isnt at hs
    rw [Bool.and_eq_true] at hs
    refine ⟨fun x hx => ⟨h.1 x hx, fun e => ?_⟩, fun x hx => ⟨h.2 x hx, ?_⟩⟩
    · have h1 := fst_mem hi.rh.2 hx
      have h2 := (hi.rh.1 x hx).2.1
      have h3 : Hs.fst tx H = 0 := by simpa using hs.1
      rw [e] at h1
      omega
    · have h3 : Ws.fndI tx L < 0 := by simpa using hs.2
      exact fnd_neg h3 x hx
  · exact swp_all ⟨fun x hx => ⟨h.1 x (Hs.wout_mem hx).1, by simpa using (Hs.wout_mem hx).2⟩, fun x hx => ⟨h.2 x (List.mem_filter.1 hx).1, Ws.ne_wout tx L x hx⟩⟩
theorem AllP.can (h : AllP P H L) (tx : Int) : AllP P (can tx H L).hs (can tx H L).ws := by
  unfold Go.Proofs.YteaibamkfccplaaDoor.can
  split
  · exact swp_all ⟨h.1, fun x hx => h.2 x (List.mem_filter.1 hx).1⟩
  · exact h
theorem AllP.none (h : AllP P H L) (hp : ∀ t, ¬ P t) : H = [] ∧ L = [] := by
  constructor
  · cases H with
    | nil => rfl
    | cons x xs => exact absurd (h.1 x List.mem_cons_self) (hp _)
  · cases L with
    | nil => rfl
    | cons x xs => exact absurd (h.2 x List.mem_cons_self) (hp _)
end
theorem cov_sup : ∀ i, i ≤ 6 → ∀ j, j ≤ 6 → covB i j = true → supN i j = i := by decide +kernel
/-- what one that is alone has -/
def hold1 (tx : Int) (k : Nat) : List Hs.Hd := if k = 0 then [] else [(tx, (k : Int))]
theorem fst_hold1 (tx : Int) (k : Nat) : Hs.fst tx (hold1 tx k) = k := by
  unfold hold1
  split
  · rename_i h; subst h; rfl
  · simp [Hs.fst]
theorem hold1_len (tx : Int) (k : Nat) : (hold1 tx k).length ≤ 1 := by
  unfold hold1
  split <;> simp
theorem ask_bad {tx m : Int} {H : List Hs.Hd} {L : List Ws.Wt} (h : ¬ (1 ≤ m ∧ m ≤ 6)) : ask tx m 0 H L = (0, 1, H, L) := by
  refine ask_err ?_ (by decide)
  rcases errR_cases tx m 0 L with ⟨_, q⟩ | ⟨q, _⟩ | ⟨q, _⟩
  · exact q
  · exact absurd ⟨(ok3.1 q).2.1, (ok3.1 q).2.2.1⟩ h
  · exact absurd ⟨(ok3.1 q).2.1, (ok3.1 q).2.2.1⟩ h
theorem ask_alone {tx m : Int} {k : Nat} (ht : 1 ≤ tx) (h1 : 1 ≤ m) (h6 : m ≤ 6) (hk : k ≤ 6) : ask tx m 0 (hold1 tx k) [] = (1, 0, hold1 tx (supN k (kn m)), []) := by
  have he : errR tx m 0 [] = 0 := by
    rcases errR_cases tx m 0 [] with ⟨q, _⟩ | ⟨_, q, _⟩ | ⟨_, _, q⟩
    · rw [ok3.2 ⟨ht, h1, h6, by omega, by omega⟩] at q; cases q
    · exact absurd q (show ¬ (0 : Int) ≤ -1 by decide)
    · exact q
  have hf := fst_hold1 tx k
  have hm : 1 ≤ kn m := by
    obtain ⟨j, rfl⟩ : ∃ j : Nat, m = j := ⟨m.toNat, by omega⟩
    rw [kn_nat (by omega)]
    omega
  have hs := sup_pos k hk _ (kn_le m) hm
  have htg : tgt tx m (hold1 tx k) = (supN k (kn m) : Nat) := by unfold tgt; rw [hf, kn_nat hk]
  cases hh : has tx m (hold1 tx k)
  · have hn : atOnce tx m (hold1 tx k) [] = true := by
      unfold atOnce
      rw [Bool.and_eq_true]
      refine ⟨?_, Hs.goesB_mem.2 fun x hx hxe => ?_⟩
      · unfold turnB
        split
        · exact decide_eq_true (by rfl)
        · rfl
      · unfold hold1 at hx
        split at hx
        · cases hx
        · rw [List.mem_singleton.1 hx] at hxe
          simp at hxe
    rw [ask_now he hh hn]
    have e1 : grantH (reqW tx m 0 (hold1 tx k)) (hold1 tx k) = Hs.setL tx (supN k (kn m) : Nat) (hold1 tx k) := by
      unfold grantH reqW
      rw [if_neg (by simp), htg]
    have e2 : Hs.setL tx (supN k (kn m) : Nat) (hold1 tx k) = hold1 tx (supN k (kn m)) := by
      unfold hold1
      rw [if_neg (by omega : ¬ supN k (kn m) = 0)]
      split
      · rfl
      · simp [Hs.setL]
    rw [e1, e2]
  · rw [ask_has he hh]
    unfold has at hh
    rw [hf, kn_nat hk, Bool.and_eq_true] at hh
    rw [cov_sup k hk _ (kn_le m) hh.2]
theorem inv_hold1 {tx : Int} {k : Nat} (ht : 1 ≤ tx) (hk : k ≤ 6) : Inv (hold1 tx k) [] := by
  refine ⟨⟨fun x hx => ?_, ?_⟩, ⟨by simp, List.Pairwise.nil, List.Pairwise.nil⟩, by simp, by simp⟩
  · unfold hold1 at hx
    split at hx
    · cases hx
    · rw [List.mem_singleton.1 hx]
      exact ⟨ht, by simp; omega, by simp; omega⟩
  · unfold hold1
    split <;> simp
theorem all_hold1 (tx : Int) (k : Nat) : AllP (fun t => t = tx) (hold1 tx k) [] := by
  refine ⟨fun x hx => ?_, by simp⟩
  unfold hold1 at hx
  split at hx
  · cases hx
  · rw [List.mem_singleton.1 hx]
end Go.Proofs.YteaibamkfccplaaDoor
