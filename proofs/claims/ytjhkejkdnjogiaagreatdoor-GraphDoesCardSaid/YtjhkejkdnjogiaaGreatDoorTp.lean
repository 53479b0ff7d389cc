/- A table: its nodes in order; what one has there. -/
import Derived.Test.YtjhkejkdnjogiaaGreatDoorHd
namespace Go.Proofs.YtjhkejkdnjogiaaGreatDoor
open Go Go.RowKit Go.Shelf
set_option maxRecDepth 100000

theorem nds_append (a b : Ns) : nds (a ++ b) = nds a ++ nds b := by simp [nds]
theorem used_nds (ns : Ns) : ∀ n, n ≤ ns.length → (An.usedN (pls ns) n).map (fun x => x.2.1) = (nds (ns.take n)).map (·.p)
  | 0, _ => rfl
  | n + 1, h => by
    have ih := used_nds ns n (by omega)
    have hn : n < ns.length := by omega
    rw [List.take_succ_eq_append_getElem hn, nds_append, List.map_append, ← ih]
    cases hx : ns[n] with
    | none =>
      rw [An.usedN_no (by unfold pls; rw [List.getElem?_map, List.getElem?_eq_getElem hn, hx]; rfl)]
      simp [nds]
    | some x =>
      rw [An.usedN_yes (p := x.p) (q := x.q) (by unfold pls; rw [List.getElem?_map, List.getElem?_eq_getElem hn, hx]; rfl)]
      simp [nds]
theorem right_list : ∀ l : List Pa.Pt, (∀ p, p ∈ l → Pa.rightB p = true) → ∃ rs : List Pa.RPt, Pa.vals rs = l
  | [], _ => ⟨[], rfl⟩
  | p :: l, h => by
    obtain ⟨rs, hr⟩ := right_list l fun q hq => h q (List.mem_cons_of_mem _ hq)
    exact ⟨⟨p, h p List.mem_cons_self⟩ :: rs, by unfold Pa.vals at *; rw [List.map_cons, hr]⟩
section
variable {W W' w : World} {T : Nat → Prop} {b B0 m c u t : Nat} {mr : Int} {C : Pa.Pt → Cx}
theorem Ta.paths (h : Ta W b T m mr c C B0 u t) (hm : m ≤ 1000) {ps : List Pa.Pt} (hs : ps.Pairwise (fun p q => Pa.lessB p q = true)) (hps : ∀ p, p ∈ ps ↔ 0 < szC (C p)) : Calls Tryz.prog 38 #[tp b] W (PathsOf W ps) := by
  obtain ⟨ns, h1, h2, h3, h4, -⟩ := h.is
  have hus := h1.usm.1
  have hr1 := h1.one
  have hcy := fun i n (hi : Isn ns i n) => h1.cy hi
  have hcn := fun p hp => h1.cn (p := p) hp
  have hri := fun i n (hi : Isn ns i n) => h1.right hi
  obtain ⟨ha, mb, S, O, nb, t', fs, F, k1, k2, -⟩ := h1.is
  have hl : (An.usedL (pls ns)).map (fun x => x.2.1) = (nds ns).map (·.p) := by
    have := used_nds ns ns.length (Nat.le_refl _)
    rw [List.take_length] at this
    unfold An.usedL
    rw [pls_len]
    exact this
  have hmem : ∀ p, p ∈ (nds ns).map (·.p) ↔ 0 < szC (C p) := by
    intro p
    rw [List.mem_map]
    constructor
    · rintro ⟨n, hn, rfl⟩
      obtain ⟨i, hi⟩ := mem_nds.1 hn
      rw [hcy i n hi]
      exact h2 i n hi
    · intro hz
      by_cases hp : ∃ i n, Isn ns i n ∧ n.p = p
      · obtain ⟨i, n, hi, e⟩ := hp
        exact ⟨n, mem_nds.2 ⟨i, hi⟩, e⟩
      · rw [hcn p fun i n hi e => hp ⟨i, n, hi, e⟩] at hz
        exact absurd hz (Nat.lt_irrefl 0)
  have hrt : ∀ p, p ∈ (nds ns).map (·.p) → Pa.rightB p = true := by
    intro p hp
    obtain ⟨n, hn, rfl⟩ := List.mem_map.1 hp
    obtain ⟨i, hi⟩ := mem_nds.1 hn
    exact hri i n hi
  obtain ⟨rs, hrs⟩ := right_list _ hrt
  have hnd : (Pa.vals rs).Nodup := by rw [hrs]; exact nds_once hr1
  have hpn : ps.Nodup := by
    unfold List.Nodup
    refine hs.imp ?_
    intro a b hab e
    rw [e, Pa.less_irr] at hab
    cases hab
  have hall := paths_any (tpv := tp b) (pv := An.wp ha) (x1 := Bu.wp mb) (mv := mr) (rv := ((tot ns : Nat) : Int)) (xs := An.usedL (pls ns)) (rs := rs) (w := W) (fun W' hb => (k1.below hb).its)
    (fun W' hb => by
      obtain ⟨pv, fv, hA, -⟩ := (k1.below hb).ar
      exact An.each_tells hA) (hl.trans hrs.symm) (by
      have e := congrArg List.length hl
      rw [List.length_map, List.length_map] at e
      rw [e, ← (us_nds ns).1]
      omega)
  have heq : Pa.vals (Pa.srt rs) = ps := by
    have hp1 : (Pa.vals (Pa.srt rs)).Perm (Pa.vals rs) := (Pa.srt_perm rs).map _
    have hp2 : (Pa.vals rs).Perm ps := (List.perm_ext_iff_of_nodup hnd hpn).2 fun p => by rw [hrs, hmem p, hps p]
    refine List.Perm.eq_of_pairwise (le := fun a b => Pa.lessB b a = false) (fun a b ha hb h1 h2 => ?_) ?_ ?_ (hp1.trans hp2)
    · have ra : Pa.rightB a = true := by
        obtain ⟨x, -, rfl⟩ := List.mem_map.1 ha
        exact x.2
      have rb : Pa.rightB b = true := hrt b ((hmem b).2 ((hps b).1 hb))
      exact congrArg Subtype.val (Pa.less_tot ⟨a, ra⟩ ⟨b, rb⟩ h2 h1)
    · unfold Pa.vals
      rw [List.pairwise_map]
      exact Pa.srt_sorted rs
    · refine hs.imp ?_
      intro a b hab
      cases q : Pa.lessB b a
      · rfl
      · have := Pa.less_tr hab q
        rw [Pa.less_irr] at this
        cases this
  rw [heq] at hall
  exact hall
end
end Go.Proofs.YtjhkejkdnjogiaaGreatDoor
