/- A table's nodes, plainly: places, what each node has, and what changes. -/
import Derived.Test.YtmolohncllcgbaaGreatDoorQm
import Derived.Test.YtmolohncllcgbaaGreatDoorAd
import Derived.Test.YtmolohncllcgbaaGreatDoorBu
import Derived.Test.YtmolohncllcgbaaGreatDoorPk
namespace Go.Proofs.YtmolohncllcgbaaGreatDoor
open Go Go.RowKit Go.Shelf
set_option maxRecDepth 100000

/-- a node that has locks: its queue's block, its holds, its waits -/
structure Nd where
  p : Pa.Pt
  q : Nat
  H : List Hs.Hd
  L : List Ws.Wt
abbrev Ns := List (Option Nd)
def Nd.pl (n : Nd) : Pa.Pt × Nat := (n.p, n.q)
/-- as places of the arena -/
def pls (ns : Ns) : List An.Pl := ns.map (Option.map Nd.pl)
def szN : Option Nd → Nat
  | none => 0
  | some n => n.H.length + n.L.length
def oneN : Option Nd → Nat
  | none => 0
  | some _ => 1
def sm (f : Option Nd → Nat) (ns : Ns) : Nat := (ns.map f).sum
/-- holds and waits in all -/
abbrev tot (ns : Ns) : Nat := sm szN ns
/-- how many nodes -/
abbrev us (ns : Ns) : Nat := sm oneN ns
/-- a node of it, at its place -/
def Isn (ns : Ns) (i : Nat) (n : Nd) : Prop := ns[i]? = some (some n)
section
variable {ns : Ns} {fs gs : List Nat} {i j : Nat} {n : Nd} {x y : Option Nd} {f : Option Nd → Nat}
theorem Isn.lt (h : Isn ns i n) : i < ns.length := (List.getElem?_eq_some_iff.1 h).1
theorem pls_len (ns : Ns) : (pls ns).length = ns.length := by simp [pls]
theorem pls_at (h : Isn ns i n) : (pls ns)[i]? = some (some (n.p, n.q)) := by
  unfold Isn at h
  unfold pls
  rw [List.getElem?_map, h]
  rfl
theorem pls_set (ns : Ns) (i : Nat) (x : Option Nd) : pls (ns.set i x) = (pls ns).set i (x.map Nd.pl) := by simp [pls, List.map_set]
theorem pls_app (ns : Ns) (x : Option Nd) : pls (ns ++ [x]) = pls ns ++ [x.map Nd.pl] := by simp [pls]
theorem sm_app (f : Option Nd → Nat) (ns : Ns) (x : Option Nd) : sm f (ns ++ [x]) = sm f ns + f x := by simp [sm]
theorem sm_cons (f : Option Nd → Nat) (ns : Ns) (x : Option Nd) : sm f (x :: ns) = f x + sm f ns := by simp [sm]
theorem sm_set (f : Option Nd → Nat) (y : Option Nd) : ∀ {ns : Ns} {i : Nat} {x : Option Nd}, ns[i]? = some x → sm f (ns.set i y) + f x = sm f ns + f y
  | [], i, x, h => by simp at h
  | z :: ns, 0, x, h => by
    simp at h
    subst h
    rw [List.set_cons_zero, sm_cons, sm_cons]; omega
  | z :: ns, i + 1, x, h => by
    rw [List.getElem?_cons_succ] at h
    have := sm_set f y h
    rw [List.set_cons_succ, sm_cons, sm_cons]; omega
theorem sm_ge (h : ns[i]? = some x) : f x ≤ sm f ns := by
  induction ns generalizing i with
  | nil => simp at h
  | cons z ns ih =>
    rw [sm_cons]
    cases i with
    | zero => simp at h; subst h; omega
    | succ i =>
      rw [List.getElem?_cons_succ] at h
      have := ih h; omega
theorem us_le (ns : Ns) : us ns ≤ ns.length := by
  induction ns with
  | nil => exact Nat.le_refl _
  | cons z ns ih =>
    have e := sm_cons oneN ns z
    have : oneN z ≤ 1 := by cases z <;> simp [oneN]
    unfold us at *
    rw [e, List.length_cons]; omega
theorem none_us (h : ∀ i n, ¬ Isn ns i n) : us ns = 0 ∧ tot ns = 0 := by
  induction ns with
  | nil => exact ⟨rfl, rfl⟩
  | cons z ns ih =>
    cases z with
    | some n => exact absurd (show Isn (some n :: ns) 0 n from rfl) (h 0 n)
    | none =>
      obtain ⟨h1, h2⟩ := ih fun i n hi => h (i + 1) n (by unfold Isn at *; rw [List.getElem?_cons_succ]; exact hi)
      unfold us tot at *
      rw [sm_cons, sm_cons, h1, h2]
      exact ⟨rfl, rfl⟩
theorem isn_set (hi : i < ns.length) : Isn (ns.set i x) j n ↔ (j = i ∧ x = some n) ∨ (j ≠ i ∧ Isn ns j n) := by
  unfold Isn
  by_cases h : i = j
  · subst h
    rw [List.getElem?_set_self hi]
    simp
  · rw [List.getElem?_set_ne h]
    constructor
    · exact fun q => .inr ⟨fun e => h e.symm, q⟩
    · rintro (⟨e, _⟩ | ⟨_, q⟩)
      · exact absurd e.symm h
      · exact q
theorem isn_app : Isn (ns ++ [x]) j n ↔ Isn ns j n ∨ (j = ns.length ∧ x = some n) := by
  unfold Isn
  rcases Nat.lt_trichotomy j ns.length with h | h | h
  · rw [List.getElem?_append_left h]
    constructor
    · exact .inl
    · rintro (q | ⟨e, _⟩)
      · exact q
      · omega
  · subst h
    rw [List.getElem?_append_right (Nat.le_refl _), Nat.sub_self]
    simp
  · rw [List.getElem?_append_right (by omega)]
    obtain ⟨d, hd⟩ : ∃ d, j - ns.length = d + 1 := ⟨j - ns.length - 1, by omega⟩
    rw [hd]
    simp
    constructor
    · intro q; rw [List.getElem?_eq_none (by omega)] at q; cases q
    · intro q; omega
theorem at_set_none (hi : i < ns.length) : (ns.set i none)[j]? = some none ↔ j = i ∨ ns[j]? = some none := by
  by_cases h : i = j
  · subst h
    rw [List.getElem?_set_self hi]
    simp
  · rw [List.getElem?_set_ne h]
    constructor
    · exact .inr
    · rintro (e | q)
      · exact absurd e.symm h
      · exact q
theorem at_set_some (hi : i < ns.length) : (ns.set i (some n))[j]? = some none ↔ j ≠ i ∧ ns[j]? = some none := by
  by_cases h : i = j
  · subst h
    rw [List.getElem?_set_self hi]
    simp
  · rw [List.getElem?_set_ne h]
    exact ⟨fun q => ⟨fun e => h e.symm, q⟩, fun q => q.2⟩
end
/-- what there is at a node -/
abbrev Cx := List Hs.Hd × List Ws.Wt
open Classical in
noncomputable def upC (C : Pa.Pt → Cx) (p : Pa.Pt) (x : Cx) : Pa.Pt → Cx := fun r => if r = p then x else C r
theorem upC_same (C : Pa.Pt → Cx) (p : Pa.Pt) (x : Cx) : upC C p x p = x := by unfold upC; rw [if_pos rfl]
theorem upC_ne (C : Pa.Pt → Cx) {p r : Pa.Pt} (x : Cx) (h : r ≠ p) : upC C p x r = C r := by unfold upC; rw [if_neg h]
theorem upC_id {C : Pa.Pt → Cx} {p : Pa.Pt} {x : Cx} (h : C p = x) : upC C p x = C := by
  funext r
  by_cases e : r = p
  · subst e; rw [upC_same, h]
  · rw [upC_ne C x e]
/-- what always holds of the nodes of a table -/
structure Ok (ns : Ns) (fs : List Nat) (F : Int → Option Int) (C : Pa.Pt → Cx) : Prop where
  one : ∀ i n j m, Isn ns i n → Isn ns j m → (n.p = m.p ∨ n.q = m.q) → i = j
  right : ∀ i n, Isn ns i n → Pa.rightB n.p = true ∧ Inv n.H n.L
  fy : ∀ i n, Isn ns i n → F (Pa.keyP n.p) = some (i : Int)
  fn : ∀ k, (∀ i n, Isn ns i n → Pa.keyP n.p ≠ k) → F k = none
  cy : ∀ i n, Isn ns i n → C n.p = (n.H, n.L)
  cn : ∀ p, (∀ i n, Isn ns i n → n.p ≠ p) → C p = ([], [])
  fr : ∀ i, i ∈ fs ↔ ns[i]? = some none
  nd : fs.Nodup
  cnt : us ns + fs.length = ns.length
section
variable {ns : Ns} {fs gs : List Nat} {i j B : Nat} {n : Nd} {F : Int → Option Int} {C : Pa.Pt → Cx} {p : Pa.Pt}
theorem Ok.nil : Ok [] [] (fun _ => none) (fun _ => ([], [])) := by
  refine ⟨?_, ?_, ?_, ?_, ?_, ?_, ?_, ?_, ?_⟩ <;> simp [Isn, us, sm]
theorem Ok.inv (h : Ok ns fs F C) (p : Pa.Pt) : Inv (C p).1 (C p).2 := by
  by_cases hp : ∃ i n, Isn ns i n ∧ n.p = p
  · obtain ⟨i, n, hi, rfl⟩ := hp
    rw [h.cy i n hi]
    exact (h.right i n hi).2
  · rw [h.cn p fun i n hi e => hp ⟨i, n, hi, e⟩]
    exact Inv.nil
theorem Ok.none_right (h : Ok ns fs F C) (hp : Pa.rightB p = false) : ∀ i n, Isn ns i n → n.p ≠ p := fun i n hi e => by
  have := (h.right i n hi).1
  rw [e, hp] at this
  cases this
theorem Ok.fnp (h : Ok ns fs F C) (hn : ∀ i n, Isn ns i n → n.p ≠ p) : F (Pa.keyP p) = none := by
  refine h.fn _ fun i n hi e => ?_
  cases hp : Pa.rightB p
  · have h1 := (Pa.key_pos (h.right i n hi).1).1
    rw [e, Pa.key_zero hp] at h1
    omega
  · exact hn i n hi (Pa.key_inj (h.right i n hi).1 hp e)
theorem Ok.size (h : Ok ns fs F C) : ∀ p, (C p).1.length + (C p).2.length ≤ tot ns := fun p => by
  by_cases hp : ∃ i n, Isn ns i n ∧ n.p = p
  · obtain ⟨i, n, hi, rfl⟩ := hp
    rw [h.cy i n hi]
    exact sm_ge (f := szN) hi
  · rw [h.cn p fun i n hi e => hp ⟨i, n, hi, e⟩]
    exact Nat.zero_le _
/-- a node that was nowhere comes to a place: behind all -/
theorem Ok.add_new (h : Ok ns [] F C) (hp : Pa.rightB p = true) (hn : ∀ i n, Isn ns i n → n.p ≠ p) (hq : ∀ i n, Isn ns i n → n.q ≠ B) :
    Ok (ns ++ [some ⟨p, B, [], []⟩]) [] (Bu.putF F (Pa.keyP p) (some (ns.length : Int))) C := by
  refine ⟨?_, ?_, ?_, ?_, ?_, ?_, ?_, h.nd, ?_⟩
  · intro i n j m hi hj hh
    rcases isn_app.1 hi with hi | ⟨ei, hi⟩ <;> rcases isn_app.1 hj with hj | ⟨ej, hj⟩
    · exact h.one i n j m hi hj hh
    · cases hj
      rcases hh with q | q
      · exact absurd q (hn i n hi)
      · exact absurd q (hq i n hi)
    · cases hi
      rcases hh with q | q
      · exact absurd q.symm (hn j m hj)
      · exact absurd q.symm (hq j m hj)
    · rw [ei, ej]
  · intro i n hi
    rcases isn_app.1 hi with hi | ⟨ei, hi⟩
    · exact h.right i n hi
    · cases hi; exact ⟨hp, Inv.nil⟩
  · intro i n hi
    unfold Bu.putF
    rcases isn_app.1 hi with hi | ⟨ei, hi⟩
    · rw [if_neg fun e => hn i n hi (Pa.key_inj (h.right i n hi).1 hp e)]
      exact h.fy i n hi
    · cases hi; rw [if_pos rfl, ei]
  · intro k hk
    unfold Bu.putF
    rw [if_neg fun e => hk ns.length _ (isn_app.2 (.inr ⟨rfl, rfl⟩)) e.symm]
    exact h.fn k fun i n hi => hk i n (isn_app.2 (.inl hi))
  · intro i n hi
    rcases isn_app.1 hi with hi | ⟨ei, hi⟩
    · exact h.cy i n hi
    · cases hi; exact h.cn p hn
  · intro r hr
    exact h.cn r fun i n hi => hr i n (isn_app.2 (.inl hi))
  · intro i
    have h0 := h.fr i
    constructor
    · intro q; cases q
    · intro q
      rcases Nat.lt_trichotomy i ns.length with hl | hl | hl
      · rw [List.getElem?_append_left hl] at q
        exact h0.2 q
      · subst hl; simp at q
      · rw [List.getElem?_eq_none (by simp; omega)] at q; cases q
  · have h1 := h.cnt
    have h2 := sm_app oneN ns (some ⟨p, B, [], []⟩)
    unfold us at *
    rw [h2, List.length_append]
    simp [oneN] at *
    omega
/-- .. or to one that was freed -/
theorem Ok.add_old (h : Ok ns (gs ++ [i]) F C) (hp : Pa.rightB p = true) (hn : ∀ i n, Isn ns i n → n.p ≠ p) (hq : ∀ i n, Isn ns i n → n.q ≠ B) :
    Ok (ns.set i (some ⟨p, B, [], []⟩)) gs (Bu.putF F (Pa.keyP p) (some (i : Int))) C := by
  have h0 := (h.fr i).1 (by simp)
  have hl : i < ns.length := (List.getElem?_eq_some_iff.1 h0).1
  have hnd := h.nd
  rw [List.nodup_append] at hnd
  obtain ⟨hd1, -, hd2⟩ := hnd
  refine ⟨?_, ?_, ?_, ?_, ?_, ?_, ?_, hd1, ?_⟩
  · intro j n k m hj hk hh
    rcases (isn_set hl).1 hj with ⟨ej, hj⟩ | ⟨ej, hj⟩ <;> rcases (isn_set hl).1 hk with ⟨ek, hk⟩ | ⟨ek, hk⟩
    · rw [ej, ek]
    · cases hj
      rcases hh with q | q
      · exact absurd q.symm (hn k m hk)
      · exact absurd q.symm (hq k m hk)
    · cases hk
      rcases hh with q | q
      · exact absurd q (hn j n hj)
      · exact absurd q (hq j n hj)
    · exact h.one j n k m hj hk hh
  · intro j n hj
    rcases (isn_set hl).1 hj with ⟨ej, hj⟩ | ⟨ej, hj⟩
    · cases hj; exact ⟨hp, Inv.nil⟩
    · exact h.right j n hj
  · intro j n hj
    unfold Bu.putF
    rcases (isn_set hl).1 hj with ⟨ej, hj⟩ | ⟨ej, hj⟩
    · cases hj; rw [if_pos rfl, ej]
    · rw [if_neg fun e => hn j n hj (Pa.key_inj (h.right j n hj).1 hp e)]
      exact h.fy j n hj
  · intro k hk
    unfold Bu.putF
    rw [if_neg fun e => hk i _ ((isn_set hl).2 (.inl ⟨rfl, rfl⟩)) e.symm]
    refine h.fn k fun j n hj => hk j n ((isn_set hl).2 (.inr ⟨fun e => ?_, hj⟩))
    subst e
    unfold Isn at hj
    rw [h0] at hj; cases hj
  · intro j n hj
    rcases (isn_set hl).1 hj with ⟨ej, hj⟩ | ⟨ej, hj⟩
    · cases hj; exact h.cn p hn
    · exact h.cy j n hj
  · intro r hr
    refine h.cn r fun j n hj => hr j n ((isn_set hl).2 (.inr ⟨fun e => ?_, hj⟩))
    subst e
    unfold Isn at hj
    rw [h0] at hj; cases hj
  · intro j
    rw [at_set_some hl]
    have h1 := h.fr j
    rw [List.mem_append] at h1
    constructor
    · intro q
      refine ⟨fun e => ?_, h1.1 (.inl q)⟩
      exact hd2 j q i (by simp) e
    · rintro ⟨e, q⟩
      rcases h1.2 q with q | q
      · exact q
      · simp at q; exact absurd q e
  · have h1 := h.cnt
    have h2 := sm_set oneN (some ⟨p, B, [], []⟩) h0
    unfold us at *
    rw [List.length_append] at h1
    simp only [oneN, List.length_singleton, List.length_set] at *
    omega
/-- what a node has changes -/
theorem Ok.turn (h : Ok ns fs F C) (hi : Isn ns i n) {H : List Hs.Hd} {L : List Ws.Wt} (hv : Inv H L) : Ok (ns.set i (some ⟨n.p, n.q, H, L⟩)) fs F (upC C n.p (H, L)) := by
  have hl := hi.lt
  refine ⟨?_, ?_, ?_, ?_, ?_, ?_, ?_, h.nd, ?_⟩
  · intro j a k b hj hk hh
    rcases (isn_set hl).1 hj with ⟨ej, hj⟩ | ⟨ej, hj⟩ <;> rcases (isn_set hl).1 hk with ⟨ek, hk⟩ | ⟨ek, hk⟩
    · rw [ej, ek]
    · cases hj
      exact absurd (h.one i n k b hi hk hh).symm ek
    · cases hk
      exact absurd (h.one j a i n hj hi hh) ej
    · exact h.one j a k b hj hk hh
  · intro j a hj
    rcases (isn_set hl).1 hj with ⟨ej, hj⟩ | ⟨ej, hj⟩
    · cases hj; exact ⟨(h.right i n hi).1, hv⟩
    · exact h.right j a hj
  · intro j a hj
    rcases (isn_set hl).1 hj with ⟨ej, hj⟩ | ⟨ej, hj⟩
    · cases hj; rw [ej]; exact h.fy i n hi
    · exact h.fy j a hj
  · intro k hk
    refine h.fn k fun j a hj e => ?_
    by_cases q : j = i
    · subst q
      have e1 : n = a := by unfold Isn at hi hj; rw [hi] at hj; cases hj; rfl
      subst e1
      exact hk j _ ((isn_set hl).2 (.inl ⟨rfl, rfl⟩)) e
    · exact hk j a ((isn_set hl).2 (.inr ⟨q, hj⟩)) e
  · intro j a hj
    rcases (isn_set hl).1 hj with ⟨ej, hj⟩ | ⟨ej, hj⟩
    · cases hj; exact upC_same _ _ _
    · rw [upC_ne _ _ fun e => ej (h.one j a i n hj hi (.inl e))]
      exact h.cy j a hj
  · intro r hr
    have hrn : r ≠ n.p := fun e => hr i _ ((isn_set hl).2 (.inl ⟨rfl, rfl⟩)) e.symm
    rw [upC_ne _ _ hrn]
    refine h.cn r fun j a hj e => ?_
    by_cases q : j = i
    · subst q
      have e1 : n = a := by unfold Isn at hi hj; rw [hi] at hj; cases hj; rfl
      subst e1
      exact hrn e.symm
    · exact hr j a ((isn_set hl).2 (.inr ⟨q, hj⟩)) e
  · intro j
    rw [at_set_some hl, h.fr j]
    refine ⟨fun q => ⟨fun e => ?_, q⟩, fun q => q.2⟩
    subst e
    unfold Isn at hi
    rw [hi] at q; cases q
  · have h1 := h.cnt
    have h2 := sm_set oneN (some ⟨n.p, n.q, H, L⟩) hi
    unfold us at *
    simp only [oneN, List.length_set] at *
    omega
/-- a node that has nothing left goes -/
theorem Ok.drop (h : Ok ns fs F C) (hi : Isn ns i n) (hH : n.H = []) (hL : n.L = []) : Ok (ns.set i none) (fs ++ [i]) (Bu.putF F (Pa.keyP n.p) none) C := by
  have hl := hi.lt
  refine ⟨?_, ?_, ?_, ?_, ?_, ?_, ?_, ?_, ?_⟩
  · intro j a k b hj hk hh
    rcases (isn_set hl).1 hj with ⟨ej, hj⟩ | ⟨ej, hj⟩
    · cases hj
    · rcases (isn_set hl).1 hk with ⟨ek, hk⟩ | ⟨ek, hk⟩
      · cases hk
      · exact h.one j a k b hj hk hh
  · intro j a hj
    rcases (isn_set hl).1 hj with ⟨ej, hj⟩ | ⟨ej, hj⟩
    · cases hj
    · exact h.right j a hj
  · intro j a hj
    rcases (isn_set hl).1 hj with ⟨ej, hj⟩ | ⟨ej, hj⟩
    · cases hj
    · unfold Bu.putF
      rw [if_neg fun e => ej (h.one j a i n hj hi (.inl (Pa.key_inj (h.right j a hj).1 (h.right i n hi).1 e)))]
      exact h.fy j a hj
  · intro k hk
    unfold Bu.putF
    split
    · rfl
    · rename_i hne
      refine h.fn k fun j a hj e => ?_
      by_cases q : j = i
      · subst q
        have e1 : n = a := by unfold Isn at hi hj; rw [hi] at hj; cases hj; rfl
        subst e1
        exact hne e.symm
      · exact hk j a ((isn_set hl).2 (.inr ⟨q, hj⟩)) e
  · intro j a hj
    rcases (isn_set hl).1 hj with ⟨ej, hj⟩ | ⟨ej, hj⟩
    · cases hj
    · exact h.cy j a hj
  · intro r hr
    by_cases e : n.p = r
    · subst e
      rw [h.cy i n hi, hH, hL]
    · refine h.cn r fun j a hj e' => ?_
      by_cases q : j = i
      · subst q
        have e1 : n = a := by unfold Isn at hi hj; rw [hi] at hj; cases hj; rfl
        subst e1
        exact e e'
      · exact hr j a ((isn_set hl).2 (.inr ⟨q, hj⟩)) e'
  · intro j
    rw [at_set_none hl, List.mem_append, h.fr j]
    simp only [List.mem_singleton]
    exact Or.comm
  · rw [List.nodup_append]
    refine ⟨h.nd, by simp, fun a ha b hb e => ?_⟩
    simp at hb
    subst hb
    subst e
    have := (h.fr a).1 ha
    unfold Isn at hi
    rw [hi] at this; cases this
  · have h1 := h.cnt
    have h2 := sm_set oneN none hi
    unfold us at *
    rw [List.length_append]
    simp only [oneN, List.length_set, List.length_singleton] at *
    omega
end
end Go.Proofs.YtmolohncllcgbaaGreatDoor
