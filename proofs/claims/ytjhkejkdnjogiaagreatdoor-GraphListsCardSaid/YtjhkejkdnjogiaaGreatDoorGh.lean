/- A table: who waits for whom at all its nodes, by what each of them has. -/
import Derived.Test.YtjhkejkdnjogiaaGreatDoorGg
namespace Go.Proofs.YtjhkejkdnjogiaaGreatDoor
open Go Go.RowKit Go.Shelf
set_option maxRecDepth 100000

/-- who waits for whom at a node, by what it has -/
def edgesC (x : Cx) : List Es.Ed := Es.ofL x.1 x.2
theorem edgesC_len (x : Cx) (h : x.1.length + x.2.length ≤ 300) : (edgesC x).length ≤ szC x * 300 := by
  have h1 := Od.can_len (lt := Es.lessE) (Es.rawOf x.1 x.2 x.2.length)
  have h2 := Es.rawOf_len (H := x.1) (L := x.2) (Nat.le_refl x.2.length)
  have h3 : x.2.length * (x.1.length + x.2.length) ≤ szC x * 300 := Nat.mul_le_mul (by unfold szC; omega) h
  unfold edgesC Es.ofL
  omega
theorem flat_le {α β : Type} {E : α → List β} {f : α → Nat} : ∀ {ps : List α}, (∀ p, p ∈ ps → (E p).length ≤ f p * 300) → (ps.flatMap E).length ≤ (ps.map f).sum * 300
  | [], _ => by simp
  | p :: ps, h => by
    have ih := flat_le (ps := ps) fun q hq => h q (List.mem_cons_of_mem _ hq)
    have h1 := h p List.mem_cons_self
    rw [List.flatMap_cons, List.length_append, List.map_cons, List.sum_cons, Nat.add_mul]
    omega
/-- who waits for whom at these nodes -/
def edgesP (C : Pa.Pt → Cx) (ps : List Pa.Pt) : List Es.Ed := Od.can Es.lessE (ps.flatMap fun p => edgesC (C p))
section
variable {W W' w : World} {T : Nat → Prop} {b B0 m c u t : Nat} {mr : Int} {C : Pa.Pt → Cx}
theorem Ta.flat (h : Ta W b T m mr c C B0 u t) (hc : c ≤ 300) {ps : List Pa.Pt} (hn : ps.Nodup) (hps : ∀ p, p ∈ ps ↔ 0 < szC (C p)) : (ps.flatMap fun p => edgesC (C p)).length ≤ 90000 := by
  obtain ⟨-, h2⟩ := h.count hn hps
  have hb := h.bounds.2.2.1
  have := flat_le (E := fun p => edgesC (C p)) (f := fun p => szC (C p)) (ps := ps) fun p _ => edgesC_len _ (by have := h.size p; omega)
  rw [← h2] at this
  omega
theorem Ta.all (h : Ta W b T m mr c C B0 u t) (ht : TabG W) (hm : m ≤ 1000) (hc : c ≤ 300) {ps : List Pa.Pt} (hs : ps.Pairwise (fun p q => Pa.lessB p q = true)) (hps : ∀ p, p ∈ ps ↔ 0 < szC (C p)) :
    Calls Tryz.prog 13 #[tp b] W (Es.Rows W (edgesP C ps)) := by
  have hn : ps.Nodup := hs.imp fun {p q} hpq e => by
    subst e
    rw [Pa.less_irr] at hpq
    cases hpq
  have hu := (h.count hn hps).1
  have hbd := h.bounds
  refine all_any (fun W' hb => (h.below hb).paths hm hs hps) (fun p hp W' hb => ?_) (Nat.le_trans (h.flat hc hn hps) (by omega)) (by omega)
  have h' := h.below hb
  refine (h'.queue (by omega) p).mono ?_
  rintro e w' ⟨hb', hor⟩
  rcases hor with ⟨hz, -⟩ | ⟨-, Q, A1, c1, A2, c2, rfl, hq, -⟩
  · have := (hps p).1 hp
    omega
  · have hsz := h.size p
    exact ⟨_, rfl, hb', Es.of_any ((ht.later hb).later hb') hq.its (by omega) (by omega)⟩
end
end Go.Proofs.YtjhkejkdnjogiaaGreatDoor
