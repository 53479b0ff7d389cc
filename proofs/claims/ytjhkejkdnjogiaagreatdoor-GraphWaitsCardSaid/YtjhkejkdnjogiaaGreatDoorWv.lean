/- Who waits somewhere waits for somebody else; who waits nowhere for nobody: plain facts. -/
import Derived.Test.YtjhkejkdnjogiaaGreatDoorGg
import Derived.Test.YtjhkejkdnjogiaaGreatDoorGj
import Derived.Test.YtjhkejkdnjogiaaGreatDoorWt
namespace Go.Proofs.YtjhkejkdnjogiaaGreatDoor
open Go Go.RowKit Go.Shelf
set_option maxRecDepth 100000

theorem fromL_mem {tx x : Int} {l : List Es.Ed} : x ∈ fromL tx l ↔ (tx, x) ∈ l := by
  unfold fromL
  rw [List.mem_map]
  constructor
  · rintro ⟨e, he, rfl⟩
    obtain ⟨h1, h2⟩ := List.mem_filter.1 he
    have : e.1 = tx := by simpa using h2
    rw [← this]
    exact h1
  · intro h
    exact ⟨(tx, x), List.mem_filter.2 ⟨h, by simp⟩, rfl⟩
theorem rawOf_mem {H : List Hs.Hd} {L : List Ws.Wt} {e : Es.Ed} : ∀ {n : Nat}, n ≤ L.length → (e ∈ Es.rawOf H L n ↔ ∃ k, ∃ h : k < L.length, k < n ∧ e ∈ Es.edgesL L[k] H (L.take k))
  | 0, _ => by
    simp only [Es.rawOf, List.not_mem_nil, false_iff]
    rintro ⟨k, _, hk, _⟩
    omega
  | n + 1, h => by
    rw [Es.rawOf_succ (by omega), List.mem_append, rawOf_mem (n := n) (by omega)]
    constructor
    · rintro (⟨k, hk, hkn, he⟩ | he)
      · exact ⟨k, hk, by omega, he⟩
      · exact ⟨n, by omega, by omega, he⟩
    · rintro ⟨k, hk, hkn, he⟩
      by_cases hkn' : k = n
      · subst hkn'; exact .inr he
      · exact .inl ⟨k, hk, by omega, he⟩
theorem edgesL_mem {w : Ws.Wt} {H : List Hs.Hd} {A : List Ws.Wt} {e : Es.Ed} : e ∈ Es.edgesL w H A ↔ e.1 = w.1 ∧ ((∃ h ∈ H, Es.barB h w = true ∧ h.1 = e.2) ∨ ∃ o ∈ A, o.1 = e.2) := by
  unfold Es.edgesL Es.barsL Es.aheadL
  rw [List.mem_append, List.mem_map, List.mem_map]
  constructor
  · rintro (⟨h, hh, rfl⟩ | ⟨o, ho, rfl⟩)
    · obtain ⟨h1, h2⟩ := List.mem_filter.1 hh
      exact ⟨rfl, .inl ⟨h, h1, h2, rfl⟩⟩
    · exact ⟨rfl, .inr ⟨o, ho, rfl⟩⟩
  · rintro ⟨h1, ⟨h, hh, hb, h2⟩ | ⟨o, ho, h2⟩⟩
    · exact .inl ⟨h, List.mem_filter.2 ⟨hh, hb⟩, by rw [← h1, h2]⟩
    · exact .inr ⟨o, ho, by rw [← h1, h2]⟩
theorem edgesP_mem {C : Pa.Pt → Cx} {ps : List Pa.Pt} {e : Es.Ed} : e ∈ edgesP C ps ↔ ∃ p ∈ ps, ∃ k, ∃ h : k < (C p).2.length, e ∈ Es.edgesL (C p).2[k] (C p).1 ((C p).2.take k) := by
  unfold edgesP
  rw [Od.can_mem, List.mem_flatMap]
  constructor
  · rintro ⟨p, hp, he⟩
    unfold edgesC Es.ofL at he
    rw [Od.can_mem, rawOf_mem (Nat.le_refl _)] at he
    obtain ⟨k, h, -, he⟩ := he
    exact ⟨p, hp, k, h, he⟩
  · rintro ⟨p, hp, k, h, he⟩
    refine ⟨p, hp, ?_⟩
    unfold edgesC Es.ofL
    rw [Od.can_mem, rawOf_mem (Nat.le_refl _)]
    exact ⟨k, h, h, he⟩
/-- nobody waits for itself -/
theorem not_self {C : Pa.Pt → Cx} {ps : List Pa.Pt} (hi : ∀ p, Inv (C p).1 (C p).2) {tx x : Int} (h : x ∈ Od.can Is.ltI (fromL tx (edgesP C ps))) : x ≠ tx := by
  rw [Od.can_mem, fromL_mem, edgesP_mem] at h
  obtain ⟨p, -, k, hk, he⟩ := h
  obtain ⟨h1, h2⟩ := edgesL_mem.1 he
  simp only at h1 h2
  rintro rfl
  rcases h2 with ⟨a, -, hb, ha⟩ | ⟨o, ho, hox⟩
  · unfold Es.barB at hb
    rw [ha, h1] at hb
    simp at hb
  · obtain ⟨j, hj, rfl⟩ := List.mem_take_iff_getElem.1 ho
    have := List.pairwise_iff_getElem.1 (hi p).once j k (by omega) hk (by omega)
    exact this (by rw [hox, h1])
/-- who waits somewhere, and nobody else, waits for somebody -/
theorem some_edge {C : Pa.Pt → Cx} {ps : List Pa.Pt} (hi : ∀ p, Inv (C p).1 (C p).2) {tx : Int} : (hitP (fun p => hitL tx (C p).2) ps).isSome = true ↔ 0 < (Od.can Is.ltI (fromL tx (edgesP C ps))).length := by
  have h1 : (hitP (fun p => hitL tx (C p).2) ps).isSome = true ↔ ∃ p ∈ ps, ∃ x ∈ (C p).2, x.1 = tx := by
    induction ps with
    | nil => simp [hitP]
    | cons p ps ih =>
      unfold hitP
      cases hh : hitL tx (C p).2 with
      | some x =>
        have hm := List.mem_of_find?_eq_some (show (C p).2.find? (fun x => x.1 == tx) = some x from hh)
        have hp := List.find?_some (show (C p).2.find? (fun x => x.1 == tx) = some x from hh)
        simp only [Option.isSome_some, true_iff]
        exact ⟨p, List.mem_cons_self, x, hm, by simpa using hp⟩
      | none =>
        have hn := List.find?_eq_none.1 (show (C p).2.find? (fun x => x.1 == tx) = none from hh)
        simp only
        rw [ih]
        constructor
        · rintro ⟨q, hq, x, hx, he⟩
          exact ⟨q, List.mem_cons_of_mem _ hq, x, hx, he⟩
        · rintro ⟨q, hq, x, hx, he⟩
          rcases List.mem_cons.1 hq with rfl | hq
          · exact absurd he (by simpa using hn x hx)
          · exact ⟨q, hq, x, hx, he⟩
  rw [h1, List.length_pos_iff_exists_mem]
  constructor
  · rintro ⟨p, hp, w, hw, rfl⟩
    obtain ⟨k, hk, rfl⟩ := List.getElem_of_mem hw
    have key : ∃ x, (((C p).2[k].1, x) : Es.Ed) ∈ Es.edgesL (C p).2[k] (C p).1 ((C p).2.take k) := by
      by_cases h0 : k = 0
      · subst h0
        have hs := (hi p).st (C p).2[0] ((C p).2.drop 1) (by rw [List.drop_one]; exact (List.cons_head_tail (by intro e; rw [e] at hk; simp at hk)).symm.trans (by congr 1; rw [List.head_eq_getElem]))
        have : ∃ a ∈ (C p).1, Es.barB a (C p).2[0] = true := by
          apply Classical.byContradiction
          intro hno
          refine absurd (Hs.goesB_mem.2 fun a ha hax => ?_) (by rw [hs]; simp)
          cases q : goesN (kn a.2) (kn (C p).2[0].2.1)
          · exact absurd ⟨a, ha, by unfold Es.barB; rw [hax, q]; rfl⟩ hno
          · rfl
        obtain ⟨a, ha, hb⟩ := this
        exact ⟨a.1, edgesL_mem.2 ⟨rfl, .inl ⟨a, ha, hb, rfl⟩⟩⟩
      · have hk0 : 0 < (C p).2.length := by omega
        exact ⟨(C p).2[0].1, edgesL_mem.2 ⟨rfl, .inr ⟨(C p).2[0], List.mem_take_iff_getElem.2 ⟨0, by omega, rfl⟩, rfl⟩⟩⟩
    obtain ⟨x, hx⟩ := key
    exact ⟨x, Od.can_mem.2 (fromL_mem.2 (edgesP_mem.2 ⟨p, hp, k, hk, hx⟩))⟩
  · rintro ⟨x, hx⟩
    rw [Od.can_mem, fromL_mem, edgesP_mem] at hx
    obtain ⟨p, hp, k, hk, he⟩ := hx
    exact ⟨p, hp, _, List.getElem_mem hk, (edgesL_mem.1 he).1.symm⟩
theorem wait_some (o : Option (Pa.Pt × Ws.Wt)) : ∃ (p : Pa.Pt) (x : Ws.Wt), waitV o = .tuple #[p.v, Ws.wv x, .bool o.isSome] := by
  cases o with
  | none => exact ⟨_, _, rfl⟩
  | some y => exact ⟨_, _, rfl⟩
section
variable {W : World} {T : Nat → Prop} {b B0 m c u t : Nat} {mr : Int} {C : Pa.Pt → Cx}
theorem Ta.waits (h : Ta W b T m mr c C B0 u t) (hm : m ≤ 1000) (hc : c ≤ 300) {ps : List Pa.Pt} (hs : ps.Pairwise (fun p q => Pa.lessB p q = true)) (hps : ∀ p, p ∈ ps ↔ 0 < szC (C p)) (tx : Int) : Calls Tryz.prog 23 #[tp b, .int .i64 tx] W fun e w' => e = .returned (waitV (hitP (fun p => hitL tx (C p).2) ps)) ∧ Below W.heap.size W w' := by
  have hn : ps.Nodup := hs.imp fun {p q} hpq e => by
    subst e
    rw [Pa.less_irr] at hpq
    cases hpq
  have hu := (h.count hn hps).1
  have hbd := h.bounds
  refine waiting_any (fun W' hb => (h.below hb).paths hm hs hps) (fun p _ W' hb => ?_) (fun p _ => ?_) (by omega)
  · obtain ⟨ns, g1, -⟩ := (h.below hb).is
    exact (g1.find p).mono fun e w' ⟨Q, is, he, hb', hq, _⟩ => ⟨Q, is, he, hb', hq⟩
  · have := h.size p
    omega
end
end Go.Proofs.YtjhkejkdnjogiaaGreatDoor
