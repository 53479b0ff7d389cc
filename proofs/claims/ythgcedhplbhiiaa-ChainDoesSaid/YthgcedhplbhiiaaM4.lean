/- Plain facts: rows stay good. -/
import Derived.Test.YthgcedhplbhiiaaM3
namespace Go.Proofs.Ythgcedhplbhiiaa
section
variable {N r j : Nat} {L : Nat → List Nat} {pre post : List Nat}
theorem Good.put (h : Good N L) (hr : r < N) (hj : j < N) (hf : ∀ s, s < N → j ∉ L s) (hL : L r = pre ++ post) : Good N (upd L r (pre ++ j :: post)) := by
  have hmem : ∀ s, s < N → ∀ k, k ∈ upd L r (pre ++ j :: post) s → (k ∈ L s) ∨ (s = r ∧ k = j) := by
    intro s hs k hk
    by_cases e : s = r
    · subst e
      rw [upd_same] at hk
      rcases List.mem_append.1 hk with q | q
      · exact .inl (by rw [hL]; exact List.mem_append_left _ q)
      · rcases List.mem_cons.1 q with q | q
        · exact .inr ⟨rfl, q⟩
        · exact .inl (by rw [hL]; exact List.mem_append_right _ q)
    · rw [upd_other e] at hk; exact .inl hk
  refine ⟨fun s hs k hk => ?_, fun s hs => ?_, fun s u hs hu k h1 h2 => ?_⟩
  · rcases hmem s hs k hk with q | ⟨_, rfl⟩
    · exact h.lt s hs k q
    · exact hj
  · by_cases e : s = r
    · subst e
      rw [upd_same]
      have hn := h.nd s hs
      have hfr := hf s hs
      rw [hL] at hn hfr
      rw [List.nodup_append] at hn ⊢
      refine ⟨hn.1, List.nodup_cons.2 ⟨fun q => hfr (List.mem_append_right _ q), hn.2.1⟩, fun x hx y hy => ?_⟩
      rcases List.mem_cons.1 hy with rfl | hy
      · rintro rfl; exact hfr (List.mem_append_left _ hx)
      · exact hn.2.2 x hx y hy
    · rw [upd_other e]; exact h.nd s hs
  · rcases hmem s hs k h1 with q | ⟨rfl, rfl⟩
    · rcases hmem u hu k h2 with q2 | ⟨rfl, rfl⟩
      · exact h.one s u hs hu k q q2
      · exact absurd q (hf s hs)
    · rcases hmem u hu k h2 with q2 | ⟨rfl, _⟩
      · exact absurd q2 (hf u hu)
      · rfl
theorem Good.cut {n : Nat} (h : Good N L) (hL : L r = pre ++ n :: post) : Good N (upd L r (pre ++ post)) := by
  have hmem : ∀ s k, k ∈ upd L r (pre ++ post) s → k ∈ L s := by
    intro s k hk
    by_cases e : s = r
    · subst e
      rw [upd_same] at hk
      rw [hL]
      rcases List.mem_append.1 hk with q | q
      · exact List.mem_append_left _ q
      · exact List.mem_append_right _ (List.mem_cons_of_mem _ q)
    · rwa [upd_other e] at hk
  refine ⟨fun s hs k hk => h.lt s hs k (hmem s k hk), fun s hs => ?_, fun s u hs hu k h1 h2 => h.one s u hs hu k (hmem s k h1) (hmem u k h2)⟩
  by_cases e : s = r
  · subst e
    rw [upd_same]
    have hn := h.nd s hs
    rw [hL] at hn
    exact hn.sublist (List.Sublist.append_left (List.sublist_cons_self n post) pre)
  · rw [upd_other e]; exact h.nd s hs
end
end Go.Proofs.Ythgcedhplbhiiaa
