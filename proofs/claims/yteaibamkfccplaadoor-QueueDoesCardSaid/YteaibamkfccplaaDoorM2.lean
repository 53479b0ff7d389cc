/- What a queue's holds and waits always are: right ones, converting where they have a lock, and the first one that waits can't be granted. -/
import Derived.Test.YteaibamkfccplaaDoorM1
namespace Go.Proofs.YteaibamkfccplaaDoor
open Go Go.RowKit Go.Shelf

theorem goes_anti : ∀ i, i ≤ 6 → ∀ j, j ≤ 6 → ∀ k, k ≤ 6 → goesN (supN i j) k = true → goesN i k = true := by decide +kernel
theorem sup_pos : ∀ i, i ≤ 6 → ∀ j, j ≤ 6 → 1 ≤ j → 1 ≤ supN i j := by decide +kernel
theorem fnd_neg {tx : Int} {L : List Ws.Wt} (h : Ws.fndI tx L < 0) : ∀ y ∈ L, y.1 ≠ tx := by
  intro y hy e
  unfold Ws.fndI at h
  rcases Ws.idx_cases (fun x => x.1 == tx) L with ⟨_, h2⟩ | ⟨k, hk, h1, _, _⟩
  · have := h2 y hy
    simp [e] at this
  · omega
theorem fnd_pos {tx : Int} {L : List Ws.Wt} (h : ∀ y ∈ L, y.1 ≠ tx) : Ws.fndI tx L < 0 := by
  unfold Ws.fndI
  rcases Ws.idx_cases (fun x => x.1 == tx) L with ⟨h1, _⟩ | ⟨k, hk, _, h2, _⟩
  · omega
  · exact absurd (by simpa using h2) (h _ (List.getElem_mem hk))
theorem ok3 {tx m fl : Int} : Ws.okB3 tx m fl = true ↔ 1 ≤ tx ∧ 1 ≤ m ∧ m ≤ 6 ∧ 0 ≤ fl ∧ fl ≤ 2 := by
  unfold Ws.okB3 Ws.lockB Ws.knownB
  simp only [Bool.and_eq_true, decide_eq_true_iff]
  omega
theorem okW_iff {x : Ws.Wt} : Ws.okW x = true ↔ 1 ≤ x.1 ∧ 1 ≤ x.2.1 ∧ x.2.1 ≤ 6 := by
  unfold Ws.okW
  rw [ok3]
  omega
theorem tgt_bd {tx m : Int} {H : List Hs.Hd} (h1 : 1 ≤ m) (h6 : m ≤ 6) : 1 ≤ tgt tx m H ∧ tgt tx m H ≤ 6 := by
  unfold tgt
  have e1 := sup_pos _ (kn_le (Hs.fst tx H)) _ (kn_le m) (by
    obtain ⟨k, rfl⟩ : ∃ k : Nat, m = k := ⟨m.toNat, by omega⟩
    rw [kn_nat (by omega)]
    omega)
  have e2 := supN_le (kn (Hs.fst tx H)) (kn m)
  omega
theorem fst_setL_ne {tx m y : Int} {H : List Hs.Hd} (h : y ≠ tx) : Hs.fst y (Hs.setL tx m H) = Hs.fst y H := by
  have h' : (tx == y) = false := by simpa using fun e => h e.symm
  induction H with
  | nil => simp [Hs.setL, Hs.fst, h']
  | cons x xs ih =>
    unfold Hs.setL
    cases e : x.1 == tx
    · rw [if_neg (by simp)]
      simp only [Hs.fst]
      rw [ih]
    · rw [if_pos rfl]
      have ex : x.1 = tx := by simpa using e
      simp only [Hs.fst]
      rw [ex, h']
      rfl
theorem fst_wout_ne {tx y : Int} {H : List Hs.Hd} (h : y ≠ tx) : Hs.fst y (Hs.wout tx H) = Hs.fst y H := by
  induction H with
  | nil => rfl
  | cons x xs ih =>
    unfold Hs.wout at ih ⊢
    rw [List.filter_cons]
    cases e : x.1 == tx
    · rw [if_pos (by simp)]
      simp only [Hs.fst]
      rw [ih]
    · rw [if_neg (by simp)]
      have ex : x.1 = tx := by simpa using e
      rw [ih, Hs.fst, ex, show (tx == y) = false by simpa using fun e => h e.symm]
      rfl
theorem fst_mem {H : List Hs.Hd} {x : Hs.Hd} (h : H.Pairwise (fun a b => a.1 ≠ b.1 ∧ symB (kn a.2) (kn b.2) = true)) (hx : x ∈ H) : Hs.fst x.1 H = x.2 := by
  induction H with
  | nil => cases hx
  | cons y ys ih =>
    obtain ⟨h1, h2⟩ := List.pairwise_cons.1 h
    rcases List.mem_cons.1 hx with rfl | hx
    · simp [Hs.fst]
    · rw [Hs.fst, show (y.1 == x.1) = false by simpa using (h1 x hx).1]
      exact ih h2 hx
theorem setL_in (tx m : Int) (H : List Hs.Hd) : (tx, m) ∈ Hs.setL tx m H := by
  induction H with
  | nil => simp [Hs.setL]
  | cons x xs ih =>
    unfold Hs.setL
    split
    · exact List.mem_cons_self
    · exact List.mem_cons_of_mem _ ih
theorem setL_keep {tx m : Int} {H : List Hs.Hd} {x : Hs.Hd} (hx : x ∈ H) (hne : x.1 ≠ tx) : x ∈ Hs.setL tx m H := by
  induction H with
  | nil => cases hx
  | cons y ys ih =>
    unfold Hs.setL
    rcases List.mem_cons.1 hx with rfl | hx
    · rw [if_neg (by simpa using hne)]
      exact List.mem_cons_self
    · split
      · exact List.mem_cons_of_mem _ hx
      · exact List.mem_cons_of_mem _ (ih hx)
/-- whoever can't be granted can't be where another one's lock becomes more -/
theorem stuck_more {tx m y k : Int} {H : List Hs.Hd} (hr : Hs.Rg H) (hg : Hs.goesB y k H = false) (hy : y ≠ tx) : Hs.goesB y k (Hs.setL tx (tgt tx m H) H) = false := by
  cases e : Hs.goesB y k (Hs.setL tx (tgt tx m H) H)
  · rfl
  · refine absurd (Hs.goesB_mem.2 fun x hx hxy => ?_) (by rw [hg]; simp)
    have hh := Hs.goesB_mem.1 e
    by_cases ex : x.1 = tx
    · have h1 := hh _ (setL_in tx (tgt tx m H) H) (by simpa using fun e => hy e.symm)
      have h2 := fst_mem hr.2 hx
      rw [ex] at h2
      unfold tgt at h1
      simp only at h1
      rw [h2, kn_nat (supN_le _ _)] at h1
      exact goes_anti _ (kn_le _) _ (kn_le _) _ (kn_le _) h1
    · exact hh x (setL_keep hx ex) hxy
/-- what always holds -/
structure Inv (H : List Hs.Hd) (L : List Ws.Wt) : Prop where
  rh : Hs.Rg H
  rl : Ws.Rg L
  cv : ∀ x ∈ L, x.2.2.1 = (Hs.fst x.1 H != 0)
  st : ∀ x L', L = x :: L' → Hs.goesB x.1 x.2.1 H = false
theorem Inv.nil : Inv [] [] := ⟨⟨by simp, List.Pairwise.nil⟩, ⟨by simp, List.Pairwise.nil, List.Pairwise.nil⟩, by simp, by simp⟩
theorem Inv.once {H : List Hs.Hd} {L : List Ws.Wt} (h : Inv H L) : Once L := h.rl.2.1
theorem grant_rg {x : Ws.Wt} {H : List Hs.Hd} (h : Hs.Rg H) (hx : Ws.okW x = true) (hg : Hs.goesB x.1 x.2.1 H = true) : Hs.Rg (grantH x H) := by
  obtain ⟨h1, h2, h3⟩ := okW_iff.1 hx
  unfold grantH
  split
  · exact h
  · exact Hs.setL_rg h h1 h2 h3 hg
theorem grant_fst {x : Ws.Wt} {H : List Hs.Hd} {y : Int} (h : y ≠ x.1) : Hs.fst y (grantH x H) = Hs.fst y H := by
  unfold grantH
  split
  · rfl
  · exact fst_setL_ne h
theorem swp_inv : ∀ {L : List Ws.Wt} {H : List Hs.Hd}, Hs.Rg H → Ws.Rg L → (∀ x ∈ L, x.2.2.1 = (Hs.fst x.1 H != 0)) → Inv (swp L H).1 (swp L H).2.1
  | [], H, h, hl, hc => ⟨h, hl, hc, by simp [swp]⟩
  | x :: L, H, h, hl, hc => by
    cases hg : Hs.goesB x.1 x.2.1 H
    · rw [swp_no hg]
      exact ⟨h, hl, hc, fun y L' e => by cases e; exact hg⟩
    · rw [swp_yes hg]
      obtain ⟨l1, l2, l3⟩ := hl
      obtain ⟨p1, p2⟩ := List.pairwise_cons.1 l2
      refine swp_inv (grant_rg h (l1 x List.mem_cons_self) hg) ⟨fun y hy => l1 y (List.mem_cons_of_mem _ hy), p2, (List.pairwise_cons.1 l3).2⟩ fun y hy => ?_
      rw [grant_fst (fun e => p1 y hy e.symm)]
      exact hc y (List.mem_cons_of_mem _ hy)
theorem swp_len : ∀ (L : List Ws.Wt) (H : List Hs.Hd), (swp L H).1.length + (swp L H).2.1.length ≤ H.length + L.length
  | [], H => by simp [swp]
  | x :: L, H => by
    cases hg : Hs.goesB x.1 x.2.1 H
    · rw [swp_no hg]; exact Nat.le_refl _
    · rw [swp_yes hg]
      have := swp_len L (grantH x H)
      have := grant_len x H
      simp only [List.length_cons]
      omega
theorem swp_split : ∀ (L : List Ws.Wt) (H : List Hs.Hd), L = (swp L H).2.2 ++ (swp L H).2.1
  | [], H => rfl
  | x :: L, H => by
    cases hg : Hs.goesB x.1 x.2.1 H
    · rw [swp_no hg]; rfl
    · rw [swp_yes hg]
      simp only [List.cons_append]
      rw [← swp_split L (grantH x H)]
section
variable {H : List Hs.Hd} {L : List Ws.Wt} {tx m fl : Int}
theorem Inv.ask (h : Inv H L) (tx m fl : Int) : Inv (ask tx m fl H L).2.2.1 (ask tx m fl H L).2.2.2 := by
  rcases ask_cases tx m fl H L with ⟨_, _, _, e⟩ | ⟨_, _, e⟩ | ⟨he, _, hn, e⟩ | ⟨_, _, _, _, e⟩ | ⟨he, _, hn, _, e⟩ <;> rw [e]
  · exact h
  · exact h
  · rcases errR_cases tx m fl L with ⟨_, q⟩ | ⟨_, _, q⟩ | ⟨h1, h2, _⟩
    · omega
    · omega
    obtain ⟨k1, k2, k3, k4, k5⟩ := ok3.1 h1
    have hb := tgt_bd (tx := tx) (H := H) k2 k3
    unfold atOnce at hn
    rw [Bool.and_eq_true] at hn
    have hne := fnd_neg h2
    refine ⟨grant_rg h.rh (okW_iff.2 ⟨k1, hb⟩) hn.2, h.rl, fun x hx => ?_, fun x L' e => ?_⟩
    · rw [grant_fst (hne x hx)]
      exact h.cv x hx
    · show Hs.goesB x.1 x.2.1 (grantH _ H) = false
      unfold grantH
      split
      · exact h.st x L' e
      · exact stuck_more h.rh (h.st x L' e) (hne x (by
          have e' : L = x :: L' := e
          rw [e']; exact List.mem_cons_self))
  · exact h
  · rcases errR_cases tx m fl L with ⟨_, q⟩ | ⟨_, _, q⟩ | ⟨h1, h2, _⟩
    · omega
    · omega
    obtain ⟨k1, k2, k3, k4, k5⟩ := ok3.1 h1
    have hb := tgt_bd (tx := tx) (H := H) k2 k3
    have hne := fnd_neg h2
    refine ⟨h.rh, Ws.rg_ins h.rl (okW_iff.2 ⟨k1, hb⟩) hne, fun x hx => ?_, fun x L' e => ?_⟩
    · have hx' : x ∈ Ws.ins (reqW tx m fl H) L := hx
      unfold Ws.ins at hx'
      rw [List.mem_append, List.mem_append, List.mem_singleton] at hx'
      rcases hx' with (hx' | rfl) | hx'
      · exact h.cv x (List.mem_of_mem_take hx')
      · rfl
      · exact h.cv x (List.mem_of_mem_drop hx')
    · have e' : Ws.ins (reqW tx m fl H) L = x :: L' := e
      unfold Ws.ins at e'
      cases hp : Ws.plc (reqW tx m fl H).2.2.1 L with
      | zero =>
        rw [hp] at e'
        simp only [List.take_zero, List.nil_append, List.singleton_append, List.cons.injEq] at e'
        obtain ⟨rfl, -⟩ := e'
        unfold atOnce at hn
        have ht : turnB (Hs.fst tx H != 0) L = true := by
          unfold turnB
          cases hc : (Hs.fst tx H != 0)
          · rw [show (reqW tx m fl H).2.2.1 = false from hc, Ws.plc_false] at hp
            simp [hp]
          · rw [show (reqW tx m fl H).2.2.1 = true from hc] at hp
            simp [hp]
        rw [ht, Bool.true_and] at hn
        exact hn
      | succ k =>
        rw [hp] at e'
        cases L with
        | nil =>
          have := Ws.plc_le (reqW tx m fl H).2.2.1 []
          rw [hp] at this
          simp at this
        | cons y ys =>
          simp only [List.take_succ_cons, List.cons_append, List.cons.injEq] at e'
          obtain ⟨rfl, -⟩ := e'
          exact h.st y ys rfl
theorem Inv.rel (h : Inv H L) (tx : Int) : Inv (rel tx H L).hs (rel tx H L).ws := by
  unfold Go.Proofs.YteaibamkfccplaaDoor.rel
  split
  · exact h
  · refine swp_inv (Hs.wout_rg h.rh) (Ws.rg_wout h.rl tx) fun x hx => ?_
    rw [fst_wout_ne (Ws.ne_wout tx L x hx)]
    exact h.cv x (List.mem_filter.1 hx).1
theorem Inv.can (h : Inv H L) (tx : Int) : Inv (can tx H L).hs (can tx H L).ws := by
  unfold Go.Proofs.YteaibamkfccplaaDoor.can
  split
  · exact swp_inv h.rh (Ws.rg_wout h.rl tx) fun x hx => h.cv x (List.mem_filter.1 hx).1
  · exact h
theorem rel_len (tx : Int) (H : List Hs.Hd) (L : List Ws.Wt) : (rel tx H L).hs.length + (rel tx H L).ws.length ≤ H.length + L.length := by
  unfold rel
  split
  · exact Nat.le_refl _
  · have h1 := swp_len (Ws.wout tx L) (Hs.wout tx H)
    have h2 : (Hs.wout tx H).length ≤ H.length := List.length_filter_le _ _
    have h3 : (Ws.wout tx L).length ≤ L.length := List.length_filter_le _ _
    show (swp _ _).1.length + (swp _ _).2.1.length ≤ _
    omega
theorem can_len (tx : Int) (H : List Hs.Hd) (L : List Ws.Wt) : (can tx H L).hs.length + (can tx H L).ws.length ≤ H.length + L.length := by
  unfold can
  split
  · have h1 := swp_len (Ws.wout tx L) H
    have h3 : (Ws.wout tx L).length ≤ L.length := List.length_filter_le _ _
    show (swp _ _).1.length + (swp _ _).2.1.length ≤ _
    omega
  · exact Nat.le_refl _
end
end Go.Proofs.YteaibamkfccplaaDoor
