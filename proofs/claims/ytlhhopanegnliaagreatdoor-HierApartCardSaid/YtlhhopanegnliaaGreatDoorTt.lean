/- A table's nodes, plainly: places, what each node has, and what changes. -/
import Derived.Test.YtlhhopanegnliaaGreatDoorQm
import Derived.Test.YtlhhopanegnliaaGreatDoorAn
import Derived.Test.YtlhhopanegnliaaGreatDoorBu
import Derived.Test.YtlhhopanegnliaaGreatDoorPa
namespace Go.Proofs.YtlhhopanegnliaaGreatDoor
open Go Go.RowKit Go.Shelf
set_option maxRecDepth 100000

/-- a node that has locks: its queue's block, its holds, its waits -/
structure Nd where
  p : Pa.Pt
  q : Nat
  H : List Hs.Hd
  L : List Ws.Wt
abbrev Ns := List (Option Nd)
def Nd.pl (n : Nd) : Pa.Pt × Nat := (n.p, n.q)
/-- as places of the arena -/
def pls (ns : Ns) : List An.Pl := ns.map (Option.map Nd.pl)
def szN : Option Nd → Nat
  | none => 0
  | some n => n.H.length + n.L.length
def oneN : Option Nd → Nat
  | none => 0
  | some _ => 1
def sm (f : Option Nd → Nat) (ns : Ns) : Nat := (ns.map f).sum
/-- holds and waits in all -/
abbrev tot (ns : Ns) : Nat := sm szN ns
/-- how many nodes -/
abbrev us (ns : Ns) : Nat := sm oneN ns
/-- a node of it, at its place -/
def Isn (ns : Ns) (i : Nat) (n : Nd) : Prop := ns[i]? = some (some n)
section
variable {ns : Ns} {fs gs : List Nat} {i j : Nat} {n : Nd} {x y : Option Nd} {f : Option Nd → Nat}
theorem Isn.lt (h : Isn ns i n) : i < ns.length := (List.getElem?_eq_some_iff.1 h).1
theorem pls_len (ns : Ns) : (pls ns).length = ns.length := by simp [pls]
theorem pls_at (h : Isn ns i n) : (pls ns)[i]? = some (some (n.p, n.q)) := by
  unfold Isn at h
  unfold pls
  rw [List.getElem?_map, h]
  rfl
theorem pls_set (ns : Ns) (i : Nat) (x : Option Nd) : pls (ns.set i x) = (pls ns).set i (x.map Nd.pl) := by simp [pls, List.map_set]
theorem pls_app (ns : Ns) (x : Option Nd) : pls (ns ++ [x]) = pls ns ++ [x.map Nd.pl] := by simp [pls]
theorem sm_app (f : Option Nd → Nat) (ns : Ns) (x : Option Nd) : sm f (ns ++ [x]) = sm f ns + f x := by simp [sm]
theorem sm_cons (f : Option Nd → Nat) (ns : Ns) (x : Option Nd) : sm f (x :: ns) = f x + sm f ns := by simp [sm]
theorem sm_set (f : Option Nd → Nat) (y : Option Nd) : ∀ {ns : Ns} {i : Nat} {x : Option Nd}, ns[i]? = some x → sm f (ns.set i y) + f x = sm f ns + f y
  | [], i, x, h => by simp at h
  | z :: ns, 0, x, h => by
    simp at h
    subst h
    rw [List.set_cons_zero, sm_cons, sm_cons]; omega
  | z :: ns, i + 1, x, h => by
    rw [List.getElem?_cons_succ] at h
    have := sm_set f y h
    rw [List.set_cons_succ, sm_cons, sm_cons]; omega
theorem sm_ge (h : ns[i]? = some x) : f x ≤ sm f ns := by
  induction ns generalizing i with
  | nil => simp at h
  | cons z ns ih =>
    rw [sm_cons]
    cases i with
    | zero => simp at h; subst h; omega
    | succ i =>
      rw [List.getElem?_cons_succ] at h
      have := ih h; omega
theorem us_le (ns : Ns) : us ns ≤ ns.length := by
  induction ns with
  | nil => exact Nat.le_refl _
  | cons z ns ih =>
    have e := sm_cons oneN ns z
    have : oneN z ≤ 1 := by cases z <;> simp [oneN]
    unfold us at *
    rw [e, List.length_cons]; omega
theorem none_us (h : ∀ i n, ¬ Isn ns i n) : us ns = 0 ∧ tot ns = 0 := by
  induction ns with
  | nil => exact ⟨rfl, rfl⟩
  | cons z ns ih =>
    cases z with
    | some n => exact absurd (show Isn (some n :: ns) 0 n from rfl) (h 0 n)
    | none =>
      obtain ⟨h1, h2⟩ := ih fun i n hi => h (i + 1) n (by unfold Isn at *; rw [List.getElem?_cons_succ]; exact hi)
      unfold us tot at *
      rw [sm_cons, sm_cons, h1, h2]
      exact ⟨rfl, rfl⟩
theorem isn_set (hi : i < ns.length) : Isn (ns.set i x) j n ↔ (j = i ∧ x = some n) ∨ (j ≠ i ∧ Isn ns j n) := by
  unfold Isn
  by_cases h : i = j
  · subst h
    rw [List.getElem?_set_self hi]
    simp
  · rw [List.getElem?_set_ne h]
    constructor
    · exact fun q => .inr ⟨fun e => h e.symm, q⟩
    · rintro (⟨e, _⟩ | ⟨_, q⟩)
      · exact absurd e.symm h
      · exact q
theorem isn_app : Isn (ns ++ [x]) j n ↔ Isn ns j n ∨ (j = ns.length ∧ x = some n) := by
  unfold Isn
  rcases Nat.lt_trichotomy j ns.length with h | h | h
  · rw [List.getElem?_append_left h]
    constructor
    · exact .inl
    · rintro (q | ⟨e, _⟩)
      · exact q
      · omega
  · subst h
    rw [List.getElem?_append_right (Nat.le_refl _), Nat.sub_self]
    simp
  · rw [List.getElem?_append_right (by omega)]
    obtain ⟨d, hd⟩ : ∃ d, j - ns.length = d + 1 := ⟨j - ns.length - 1, by omega⟩
    rw [hd]
    simp
    constructor
    · intro q; rw [List.getElem?_eq_none (by omega)] at q; cases q
    · intro q; omega
theorem at_set_none (hi : i < ns.length) : (ns.set i none)[j]? = some none ↔ j = i ∨ ns[j]? = some none := by
  by_cases h : i = j
  · subst h
    rw [List.getElem?_set_self hi]
    simp
  · rw [List.getElem?_set_ne h]
    constructor
    · exact .inr
    · rintro (e | q)
      · exact absurd e.symm h
      · exact q
theorem at_set_some (hi : i < ns.length) : (ns.set i (some n))[j]? = some none ↔ j ≠ i ∧ ns[j]? = some none := by
  by_cases h : i = j
  · subst h
    rw [List.getElem?_set_self hi]
    simp
  · rw [List.getElem?_set_ne h]
    exact ⟨fun q => ⟨fun e => h e.symm, q⟩, fun q => q.2⟩
end
/-- what there is at a node -/
abbrev Cx := List Hs.Hd × List Ws.Wt
open Classical in
noncomputable def upC (C : Pa.Pt → Cx) (p : Pa.Pt) (x : Cx) : Pa.Pt → Cx := fun r => if r = p then x else C r
theorem upC_same (C : Pa.Pt → Cx) (p : Pa.Pt) (x : Cx) : upC C p x p = x := by unfold upC; rw [if_pos rfl]
theorem upC_ne (C : Pa.Pt → Cx) {p r : Pa.Pt} (x : Cx) (h : r ≠ p) : upC C p x r = C r := by unfold upC; rw [if_neg h]
theorem upC_id {C : Pa.Pt → Cx} {p : Pa.Pt} {x : Cx} (h : C p = x) : upC C p x = C := by
  funext r
  by_cases e : r = p
  · subst e; rw [upC_same, h]
  · rw [upC_ne C x e]
/-- what always holds of the nodes of a table -/
structure Ok (ns : Ns) (fs : List Nat) (F : Int → Option Int) (C : Pa.Pt → Cx) : Prop where
  one : ∀ i n j m, Isn ns i n → Isn ns j m → (n.p = m.p ∨ n.q = m.q) → i = j
  right : ∀ i n, Isn ns i n → Pa.rightB n.p = true ∧ Inv n.H n.L
  fy : ∀ i n, Isn ns i n → F (Pa.keyP n.p) = some (i : Int)
  fn : ∀ k, (∀ i n, Isn ns i n → Pa.keyP n.p ≠ k) → F k = none
  cy : ∀ i n, Isn ns i n → C n.p = (n.H, n.L)
  cn : ∀ p, (∀ i n, Isn ns i n → n.p ≠ p) → C p = ([], [])
  fr : ∀ i, i ∈ fs ↔ ns[i]? = some none
  nd : fs.Nodup
  cnt : us ns + fs.length = ns.length
section
variable {ns : Ns} {fs gs : List Nat} {i j B : Nat} {n : Nd} {F : Int → Option Int} {C : Pa.Pt → Cx} {p : Pa.Pt}
theorem Ok.nil : Ok [] [] (fun _ => none) (fun _ => ([], [])) := by
  refine ⟨?_, ?_, ?_, ?_, ?_, ?_, ?_, ?_, ?_⟩ <;> simp [Isn, us, sm]
theorem Ok.inv (h : Ok ns fs F C) (p : Pa.Pt) : Inv (C p).1 (C p).2 := by
  by_cases hp : ∃ i n, Isn ns i n ∧ n.p = p
  · obtain ⟨i, n, hi, rfl⟩ := hp
    rw [h.cy i n hi]
    exact (h.right i n hi).2
  · rw [h.cn p fun i n hi e => hp ⟨i, n, hi, e⟩]
    exact Inv.nil
theorem Ok.none_right (h : Ok ns fs F C) (hp : Pa.rightB p = false) : ∀ i n, Isn ns i n → n.p ≠ p := fun i n hi e => by
  have := (h.right i n hi).1
  rw [e, hp] at this
  cases this
theorem Ok.fnp (h : Ok ns fs F C) (hn : ∀ i n, Isn ns i n → n.p ≠ p) : F (Pa.keyP p) = none := by
  refine h.fn _ fun i n hi e => ?_
  cases hp : Pa.rightB p
  · have h1 := (Pa.key_pos (h.right i n hi).1).1
    rw [e, Pa.key_zero hp] at h1
    omega
  · exact hn i n hi (Pa.key_inj (h.right i n hi).1 hp e)
theorem Ok.size (h : Ok ns fs F C) : ∀ p, (C p).1.length + (C p).2.length ≤ tot ns := fun p => by
  by_cases hp : ∃ i n, Isn ns i n ∧ n.p = p
  · obtain ⟨i, n, hi, rfl⟩ := hp
    rw [h.cy i n hi]
    exact sm_ge (f := szN) hi
  · rw [h.cn p fun i n hi e => hp ⟨i, n, hi, e⟩]
    exact Nat.zero_le _
/-- a node that was nowhere comes to a place: behind all -/
theorem Ok.add_new (h : Ok ns [] F C) (hp : Pa.rightB p = true) (hn : ∀ i n, Isn ns i n → n.p ≠ p) (hq : ∀ i n, Isn ns i n → n.q ≠ B) :
    Ok (ns ++ [some ⟨p, B, [], []⟩]) [] (Bu.putF F (Pa.keyP p) (some (ns.length : Int))) C := by
  refine ⟨?_, ?_, ?_, ?_, ?_, ?_, ?_, h.nd, ?_⟩
  · intro i n j m hi hj hh
    rcases isn_app.1 hi with hi | ⟨ei, hi⟩ <;> rcases isn_app.1 hj with hj | ⟨ej, hj⟩
    · exact h.one i n j m hi hj hh
    · cases hj
      rcases hh with q | q
      · exact absurd q (hn i n hi)
      · exact absurd q (hq i n hi)
    · cases hi
      rcases hh with q | q
      · exact absurd q.symm (hn j m hj)
      · exact absurd q.symm (hq j m hj)
    · rw [ei, ej]
  · intro i n hi
    rcases isn_app.1 hi with hi | ⟨ei, hi⟩
    · exact h.right i n hi
    · cases hi; exact ⟨hp, Inv.nil⟩
  · intro i n hi
    unfold Bu.putF
    rcases isn_app.1 hi with hi | ⟨ei, hi⟩
    · rw [if_neg fun e => hn i n hi (Pa.key_inj (h.right i n hi).1 hp e)]
      exact h.fy i n hi
    · cases hi; rw [if_pos rfl, ei]
  · intro k hk
    unfold Bu.putF
    rw [if_neg fun e => hk ns.length _ (isn_app.2 (.inr ⟨rfl, rfl⟩)) e.symm]
    exact h.fn k fun i n hi => hk i n (isn_app.2 (.inl hi))
  · intro i n hi
    rcases isn_app.1 hi with hi | ⟨ei, hi⟩
    · exact h.cy i n hi
    · cases hi; exact h.cn p hn
  · intro r hr
    exact h.cn r fun i n hi => hr i n (isn_app.2 (.inl hi))
  · intro i
    have h0 := h.fr i
    constructor
    · intro q; cases q
    · intro q
      rcases Nat.lt_trichotomy i ns.length with hl | hl | hl
      · rw [List.getElem?_append_left hl] at q
        exact h0.2 q
      · subst hl; simp at q
      · rw [List.getElem?_eq_none (by simp; omega)] at q; cases q
  · have h1 := h.cnt
    have h2 := sm_app oneN ns (some ⟨p, B, [], []⟩)
    unfold us at *
    rw [h2, List.length_append]
    simp [oneN] at *
    omega
/-- .. or to one that was freed -/
theorem Ok.add_old (h : Ok ns (gs ++ [i]) F C) (hp : Pa.rightB p = true) (hn : ∀ i n, Isn ns i n → n.p ≠ p) (hq : ∀ i n, Isn ns i n → n.q ≠ B) :
    Ok (ns.set i (some ⟨p, B, [], []⟩)) gs (Bu.putF F (Pa.keyP p) (some (i : Int))) C := by
  have h0 := (h.fr i).1 (by simp)
  have hl : i < ns.length := (List.getElem?_eq_some_iff.1 h0).1
  have hnd := h.nd
  rw [List.nodup_append] at hnd
  obtain ⟨hd1, -, hd2⟩ := hnd
  refine ⟨?_, ?_, ?_, ?_, ?_, ?_, ?_, hd1, ?_⟩
  · intro j n k m hj hk hh
    rcases (isn_set hl).1 hj with ⟨ej, hj⟩ | ⟨ej, hj⟩ <;> rcases (isn_set hl).1 hk with ⟨ek, hk⟩ | ⟨ek, hk⟩
    · rw [ej, ek]
    · cases hj
      rcases hh with q | q
      · exact absurd q.symm (hn k m hk)
      · exact absurd q.symm (hq k m hk)
    · cases hk
      rcases hh with q | q
      · exact absurd q (hn j n hj)
      · exact absurd q (hq j n hj)
    · exact h.one j n k m hj hk hh
  · intro j n hj
    rcases (isn_set hl).1 hj with ⟨ej, hj⟩ | ⟨ej, hj⟩
    · cases hj; exact ⟨hp, Inv.nil⟩
    · exact h.right j n hj
  · intro j n hj
    unfold Bu.putF
    rcases (isn_set hl).1 hj with ⟨ej, hj⟩ | ⟨ej, hj⟩
    · cases hj; rw [if_pos rfl, ej]
    · rw [if_neg fun e => hn j n hj (Pa.key_inj (h.right j n hj).1 hp e)]
      exact h.fy j n hj
  · intro k hk
    unfold Bu.putF
    rw [if_neg fun e => hk i _ ((isn_set hl).2 (.inl ⟨rfl, rfl⟩)) e.symm]
    refine h.fn k fun j n hj => hk j n ((isn_set hl).2 (.inr ⟨fun e => ?_, hj⟩))
    subst e
    unfold Isn at hj
    rw [h0] at hj; cases hj
  · intro j n hj
    rcases (isn_set hl).1 hj with ⟨ej, hj⟩ | ⟨ej, hj⟩
    · cases hj; exact h.cn p hn
    · exact h.cy j n hj
  · intro r hr
    refine h.cn r fun j n hj => hr j n ((isn_set hl).2 (.inr ⟨fun e => ?_, hj⟩))
    subst e
    unfold Isn at hj
    rw [h0] at hj; cases hj
  · intro j
    rw [at_set_some hl]
    have h1 := h.fr j
    rw [List.mem_append] at h1
    constructor
    · intro q
      refine ⟨fun e => ?_, h1.1 (.inl q)⟩
      exact hd2 j q i (by simp) e
    · rintro ⟨e, q⟩
      rcases h1.2 q with q | q
      · exact q
      · simp at q; exact absurd q e
  · have h1 := h.cnt
    have h2 := sm_set oneN (some ⟨p, B, [], []⟩) h0
    unfold us at *
    rw [List.length_append] at h1
    simp only [oneN, List.length_singleton, List.length_set] at *
    omega
/-- what a node has changes -/
theorem Ok.turn (h : Ok ns fs F C) (hi : Isn ns i n) {H : List Hs.Hd} {L : List Ws.Wt} (hv : Inv H L) : Ok (ns.set i (some ⟨n.p, n.q, H, L⟩)) fs F (upC C n.p (H, L)) := by
  have hl := hi.lt
  refine ⟨?_, ?_, ?_, ?_, ?_, ?_, ?_, h.nd, ?_⟩
  · intro j a k b hj hk hh
    rcases (isn_set hl).1 hj with ⟨ej, hj⟩ | ⟨ej, hj⟩ <;> rcases (isn_set hl).1 hk with ⟨ek, hk⟩ | ⟨ek, hk⟩
    · rw [ej, ek]
    · cases hj
      exact absurd (h.one i n k b hi hk hh).symm ek
    · cases hk
      exact absurd (h.one j a i n hj hi hh) ej
    · exact h.one j a k b hj hk hh
  · intro j a hj
    rcases (isn_set hl).1 hj with ⟨ej, hj⟩ | ⟨ej, hj⟩
    · cases hj; exact ⟨(h.right i n hi).1, hv⟩
    · exact h.right j a hj
  · intro j a hj
    rcases (isn_set hl).1 hj with ⟨ej, hj⟩ | ⟨ej, hj⟩
    · cases hj; rw [ej]; exact h.fy i n hi
    · exact h.fy j a hj
  · intro k hk
    refine h.fn k fun j a hj e => ?_
    by_cases q : j = i
    · subst q
      have e1 : n = a := by unfold Isn at hi hj; rw [hi] at hj; cases hj; rfl
      subst e1
      exact hk j _ ((isn_set hl).2 (.inl ⟨rfl, rfl⟩)) e
    · exact hk j a ((isn_set hl).2 (.inr ⟨q, hj⟩)) e
  · intro j a hj
    rcases (isn_set hl).1 hj with ⟨ej, hj⟩ | ⟨ej, hj⟩
    · cases hj; exact upC_same _ _ _
    · rw [upC_ne _ _ fun e => ej (h.one j a i n hj hi (.inl e))]
      exact h.cy j a hj
  · intro r hr
    have hrn : r ≠ n.p := fun e => hr i _ ((isn_set hl).2 (.inl ⟨rfl, rfl⟩)) e.symm
    rw [upC_ne _ _ hrn]
    refine h.cn r fun j a hj e => ?_
    by_cases q : j = i
    · subst q
      have e1 : n = a := by unfold Isn at hi hj; rw [hi] at hj; cases hj; rfl
      subst e1
      exact hrn e.symm
    · exact hr j a ((isn_set hl).2 (.inr ⟨q, hj⟩)) e
  · intro j
    rw [at_set_some hl, h.fr j]
    refine ⟨fun q => ⟨fun e => ?_, q⟩, fun q => q.2⟩
    subst e
    unfold Isn at hi
    rw [hi] at q; cases q
  · have h1 := h.cnt
    have h2 := sm_set oneN (some ⟨n.p, n.q, H, L⟩) hi
    unfold us at *
    simp only [oneN, List.length_set] at *
    omega
/-- a node that has nothing left goes -/
theorem Ok.drop (h : Ok ns fs F C) (hi : Isn ns i n) (hH : n.H = []) (hL : n.L = []) : Ok (ns.set i none) (fs ++ [i]) (Bu.putF F (Pa.keyP n.p) none) C := by
  have hl := hi.lt
  refine ⟨?_, ?_, ?_, ?_, ?_, ?_, ?_, ?_, ?_⟩
  · intro j a k b hj hk hh
    rcases (isn_set hl).1 hj with ⟨ej, hj⟩ | ⟨ej, hj⟩
    · cases hj
    · rcases (isn_set hl).1 hk with ⟨ek, hk⟩ | ⟨ek, hk⟩
      · cases hk
      · exact h.one j a k b hj hk hh
  · intro j a hj
    rcases (isn_set hl).1 hj with ⟨ej, hj⟩ | ⟨ej, hj⟩
    · cases hj
    · exact h.right j a hj
  · intro j a hj
    rcases (isn_set hl).1 hj with ⟨ej, hj⟩ | ⟨ej, hj⟩
    · cases hj
    · unfold Bu.putF
      rw [if_neg fun e => ej (h.one j a i n hj hi (.inl (Pa.key_inj (h.right j a hj).1 (h.right i n hi).1 e)))]
      exact h.fy j a hj
  · intro k hk
    unfold Bu.putF
    split
    · rfl
    · rename_i hne
      refine h.fn k fun j a hj e => ?_
      by_cases q : j = i
      · subst q
        have e1 : n = a := by unfold Isn at hi hj; rw [hi] at hj; cases hj; rfl
        subst e1
        exact hne e.symm
      · exact hk j a ((isn_set hl).2 (.inr ⟨q, hj⟩)) e
  · intro j a hj
    rcases (isn_set hl).1 hj with ⟨ej, hj⟩ | ⟨ej, hj⟩
    · cases hj
    · exact h.cy j a hj
  · intro r hr
    by_cases e : n.p = r
    · subst e
      rw [h.cy i n hi, hH, hL]
    · refine h.cn r fun j a hj e' => ?_
      by_cases q : j = i
      · subst q
        have e1 : n = a := by unfold Isn at hi hj; rw [hi] at hj; cases hj; rfl
        subst e1
        exact e e'
      · exact hr j a ((isn_set hl).2 (.inr ⟨q, hj⟩)) e'
  · intro j
    rw [at_set_none hl, List.mem_append, h.fr j]
    simp only [List.mem_singleton]
    exact Or.comm
  · rw [List.nodup_append]
    refine ⟨h.nd, by simp, fun a ha b hb e => ?_⟩
    simp at hb
    subst hb
    subst e
    have := (h.fr a).1 ha
    unfold Isn at hi
    rw [hi] at this; cases this
  · have h1 := h.cnt
    have h2 := sm_set oneN none hi
    unfold us at *
    rw [List.length_append]
    simp only [oneN, List.length_set, List.length_singleton] at *
    omega
end
end Go.Proofs.YtlhhopanegnliaaGreatDoor
/- A table in memory: its block, its arena, its map, its queues; what stays when one of them is changed. -/
namespace Go.Proofs.YtlhhopanegnliaaGreatDoor
open Go Go.RowKit Go.Shelf
set_option maxRecDepth 100000

/-- a bound below a table's blocks, and blocks that lie beside it and all its lists -/
structure Lo0 where
  n : Nat
  X : Nat → Prop
/-- a table's own blocks, its queues' aside -/
def Kb (b : Nat) (S O : Nat → Prop) (k : Nat) : Prop := k = b ∨ S k ∨ O k
/-- all of its blocks -/
def Foot (b : Nat) (S O : Nat → Prop) (ns : Ns) (k : Nat) : Prop := Kb b S O k ∨ ∃ i n, Isn ns i n ∧ n.q = k
def Off {α : Type} (T : Nat → Prop) (A : Option Addr) (xs : List α) : Prop := xs = [] ∨ ∀ a, A = some a → ¬ T a.block
section
variable {α : Type} {T T' : Nat → Prop} {A B : Option Addr} {xs ys : List α} {N : Nat} {W W' : World}
theorem Off.nil (T : Nat → Prop) (A : Option Addr) : Off T A ([] : List α) := .inl rfl
theorem Off.grow (h : Off T A xs) (hi : xs = [] ∨ ∀ a, A = some a → a.block < N) (hT : ∀ k, T' k → T k ∨ N ≤ k) : Off T' A xs := by
  rcases h with h | h
  · exact .inl h
  · rcases hi with q | q
    · exact .inl q
    · exact .inr fun a ha ht => by
        rcases hT _ ht with z | z
        · exact h a ha z
        · have := q a ha; omega
theorem Off.fr (h : Off T A xs) (hf : Fr N (A, xs) B ys) (hT : ∀ k, T k → k < N) : Off T B ys := by
  rcases hf with ⟨e1, e2⟩ | q
  · subst e1; subst e2; exact h
  · exact .inr fun a ha ht => by have := hT _ ht; have := q a ha; omega
theorem Off.mono (h : Off T A xs) (hT : ∀ k, T' k → T k) : Off T' A xs := h.imp id fun q a ha ht => q a ha (hT _ ht)
end
section
variable {W W' w' : World} {T : Nat → Prop} {b ha mb b0 : Nat} {B0 : Lo0} {m nb i B : Nat} {S O : Nat → Prop} {mr r t : Int} {ns ns' : Ns} {fs fs' : List Nat} {F : Int → Option Int} {n : Nd}
variable {A1 A2 B1 B2 : Option Addr} {c1 c2 d1 d2 : Nat} {H H' : List Hs.Hd} {L L' : List Ws.Wt}
theorem Hs.Ls.stay (h : Hs.Ls W A1 c1 H) (ho : OnlyS T W W') (hf : Off T A1 H) : Hs.Ls W' A1 c1 H := by
  rcases hf with rfl | hf
  · exact ⟨h.cap, h.room, h.nil, fun _ _ j u hj => by simp [Hs.flat] at hj⟩
  · exact h.only ho hf
theorem Ws.Ls.stay (h : Ws.Ls W A1 c1 L) (ho : OnlyS T W W') (hf : Off T A1 L) : Ws.Ls W' A1 c1 L := by
  rcases hf with rfl | hf
  · exact ⟨h.cap, h.room, h.nil, fun _ _ j u hj => by simp [Ws.flat] at hj⟩
  · exact h.only ho hf
theorem QAt.stay (h : QAt W b0 A1 c1 A2 c2 H L) (ho : OnlyS T W W') (hb : ¬ T b0) (h1 : Off T A1 H) (h2 : Off T A2 L) : QAt W' b0 A1 c1 A2 c2 H L :=
  ⟨(ho.block b0 h.lt hb).trans h.blk, h.h.stay ho h1, h.l.stay ho h2⟩
/-- blocks that no list of a table lies in -/
def Kx (b : Nat) (S O : Nat → Prop) (B0 : Lo0) (k : Nat) : Prop := Kb b S O k ∨ B0.X k
/-- a table lies in memory, whatever its nodes are -/
structure Tw (W : World) (b ha mb : Nat) (S O : Nat → Prop) (m : Nat) (mr r : Int) (nb : Nat) (t : Int) (ns : Ns) (fs : List Nat) (F : Int → Option Int) (B0 : Lo0) : Prop where
  e0 : W.cell? ⟨b, 0, none⟩ = some (.pointer (some ⟨ha, 0, none⟩))
  e1 : W.cell? ⟨b, 1, none⟩ = some (.pointer (some ⟨mb, 0, none⟩))
  e2 : W.cell? ⟨b, 2, none⟩ = some (.int .i64 mr)
  e3 : W.cell? ⟨b, 3, none⟩ = some (.int .i64 r)
  fz : W.frozen? ⟨b, 3, none⟩ = false
  ar : An.Ar W ha S m (pls ns) fs
  mq : ∃ Lo, Bu.Mq W Lo O mb nb t F
  qs : ∀ i n, Isn ns i n → ∃ A1 c1 A2 c2, QAt W n.q A1 c1 A2 c2 n.H n.L ∧ Off (Kx b S O B0) A1 n.H ∧ Off (Kx b S O B0) A2 n.L
  qn : ∀ i n, Isn ns i n → ¬ Kb b S O n.q
  dq : ∀ i n j k, Isn ns i n → Isn ns j k → n.q = k.q → i = j
  so : ∀ k, S k → ¬ O k
  sb : ¬ S b
  ob : ¬ O b
  lo : ∀ k, Foot b S O ns k → B0.n ≤ k
  z : 0 < B0.n
  xl : ∀ k, B0.X k → k < W.heap.size
  xf : ∀ k, B0.X k → ¬ Foot b S O ns k
theorem Tw.blt (h : Tw W b ha mb S O m mr r nb t ns fs F B0) : b < W.heap.size := cell_lt h.e0
theorem Tw.klt (h : Tw W b ha mb S O m mr r nb t ns fs F B0) : ∀ k, Kb b S O k → k < W.heap.size := fun k hk => by
  rcases hk with rfl | hk | hk
  · exact h.blt
  · exact (h.ar.lt hk).2
  · obtain ⟨Lo, hm⟩ := h.mq
    exact (hm.made_lt hk).2
theorem Tw.klx (h : Tw W b ha mb S O m mr r nb t ns fs F B0) : ∀ k, Kx b S O B0 k → k < W.heap.size := fun k hk => hk.elim (h.klt k) (h.xl k)
theorem Tw.flt (h : Tw W b ha mb S O m mr r nb t ns fs F B0) : ∀ k, Foot b S O ns k → k < W.heap.size := fun k hk => by
  rcases hk with hk | ⟨i, n, hi, rfl⟩
  · exact h.klt k hk
  · obtain ⟨_, _, _, _, hq, _⟩ := h.qs i n hi
    exact hq.lt
theorem Tw.below (h : Tw W b ha mb S O m mr r nb t ns fs F B0) (hb : Below W.heap.size W W') : Tw W' b ha mb S O m mr r nb t ns fs F B0 := by
  have hk := hb.block b h.blt
  have k : ∀ o, W'.cell? ⟨b, o, none⟩ = W.cell? ⟨b, o, none⟩ := fun o => World.cell?_of_block (w := W) (a := ⟨b, o, none⟩) hk
  obtain ⟨Lo, g, c, cs, hm⟩ := h.mq
  exact ⟨(k 0).trans h.e0, (k 1).trans h.e1, (k 2).trans h.e2, (k 3).trans h.e3, (World.frozen?_of_block (w := W) (a := ⟨b, 3, none⟩) hk).trans h.fz, h.ar.below hb, ⟨Lo, g, c, cs, hm.below hb⟩,
    fun i n hi => by
      obtain ⟨A1, c1, A2, c2, hq, o1, o2⟩ := h.qs i n hi
      exact ⟨A1, c1, A2, c2, hq.below hb, o1, o2⟩, h.qn, h.dq, h.so, h.sb, h.ob, h.lo, h.z, fun k hk => Nat.lt_of_lt_of_le (h.xl k hk) hb.size, h.xf⟩
theorem Bu.Mq.only {Lo : Nat} (h : Bu.Mq W Lo O mb nb t F) (ho : OnlyS T W W') (hd : ∀ k, O k → ¬ T k) : Bu.Mq W' Lo O mb nb t F := by
  obtain ⟨g, c, cs, hm⟩ := h
  exact ⟨g, c, cs, hm.only ho hd⟩
/-- a block stays where the arena's, the map's or a queue's are changed -/
theorem Tw.cells (h : Tw W b ha mb S O m mr r nb t ns fs F B0) (ho : OnlyS T W W') (hT : ¬ T b) :
    W'.cell? ⟨b, 0, none⟩ = some (.pointer (some ⟨ha, 0, none⟩)) ∧ W'.cell? ⟨b, 1, none⟩ = some (.pointer (some ⟨mb, 0, none⟩)) ∧ W'.cell? ⟨b, 2, none⟩ = some (.int .i64 mr) ∧ W'.cell? ⟨b, 3, none⟩ = some (.int .i64 r) ∧ W'.frozen? ⟨b, 3, none⟩ = false := by
  have hk := ho.block b h.blt hT
  have k : ∀ o, W'.cell? ⟨b, o, none⟩ = W.cell? ⟨b, o, none⟩ := fun o => World.cell?_of_block (w := W) (a := ⟨b, o, none⟩) hk
  exact ⟨(k 0).trans h.e0, (k 1).trans h.e1, (k 2).trans h.e2, (k 3).trans h.e3, (World.frozen?_of_block (w := W) (a := ⟨b, 3, none⟩) hk).trans h.fz⟩
/-- the arena was changed; what comes to a place has an empty queue that lies beside -/
theorem Tw.arena (h : Tw W b ha mb S O m mr r nb t ns fs F B0) {v : Value} {e : Ending} (hd : An.Does W ha S v m (pls ns') fs' e w')
    (hq : ∀ j n, Isn ns' j n → (∃ i, Isn ns i n) ∨ (QAt W n.q none 0 none 0 n.H n.L ∧ n.H = [] ∧ n.L = [] ∧ ¬ Kb b S O n.q ∧ B0.n ≤ n.q ∧ ¬ B0.X n.q))
    (hdq : ∀ i n j k, Isn ns' i n → Isn ns' j k → n.q = k.q → i = j) :
    e = .returned v ∧ ∃ S', Tw w' b ha mb S' O m mr r nb t ns' fs' F B0 ∧ OnlyS S W w' ∧ ∀ k, S' k → S k ∨ W.heap.size ≤ k := by
  obtain ⟨S', rfl, hA, ho, hS⟩ := hd
  obtain ⟨f0, f1, f2, f3, f4⟩ := h.cells ho h.sb
  obtain ⟨Lo, hm⟩ := h.mq
  have hbl := h.blt
  have hK : ∀ k, Kb b S' O k → Kb b S O k ∨ W.heap.size ≤ k := fun k hk => by
    rcases hk with q | q | q
    · exact .inl (.inl q)
    · rcases hS k q with z | z
      · exact .inl (.inr (.inl z))
      · exact .inr z
    · exact .inl (.inr (.inr q))
  have hKX : ∀ k, Kx b S' O B0 k → Kx b S O B0 k ∨ W.heap.size ≤ k := fun k hk => by
    rcases hk with q | q
    · exact (hK k q).imp .inl id
    · exact .inl (.inr q)
  have hqs : ∀ j n, Isn ns' j n → ∃ A1 c1 A2 c2, QAt W n.q A1 c1 A2 c2 n.H n.L ∧ Off (Kx b S O B0) A1 n.H ∧ Off (Kx b S O B0) A2 n.L ∧ ¬ Kb b S O n.q ∧ B0.n ≤ n.q ∧ ¬ B0.X n.q := fun j n hj => by
    rcases hq j n hj with ⟨i, hi⟩ | ⟨q1, q2, q3, q4, q5, q6⟩
    · obtain ⟨A1, c1, A2, c2, q, o1, o2⟩ := h.qs i n hi
      exact ⟨A1, c1, A2, c2, q, o1, o2, h.qn i n hi, h.lo _ (.inr ⟨i, n, hi, rfl⟩), fun z => h.xf _ z (.inr ⟨i, n, hi, rfl⟩)⟩
    · exact ⟨none, 0, none, 0, q1, .inl q2, .inl q3, q4, q5, q6⟩
  refine ⟨rfl, S', ⟨f0, f1, f2, f3, f4, hA, ⟨Lo, hm.only ho fun k hk hs => h.so k hs hk⟩, ?_, ?_, hdq, ?_, ?_, h.ob, ?_, h.z, fun k hk => Nat.lt_of_lt_of_le (h.xl k hk) ho.size, ?_⟩, ho, hS⟩
  · intro j n hj
    obtain ⟨A1, c1, A2, c2, q, o1, o2, q3, q4, q5⟩ := hqs j n hj
    exact ⟨A1, c1, A2, c2, q.stay ho (fun z => q3 (.inr (.inl z))) (o1.mono fun k z => .inl (.inr (.inl z))) (o2.mono fun k z => .inl (.inr (.inl z))), o1.grow q.h.in hKX, o2.grow q.l.in hKX⟩
  · intro j n hj hk
    obtain ⟨A1, c1, A2, c2, q, o1, o2, q3, q4, q5⟩ := hqs j n hj
    rcases hK _ hk with z | z
    · exact q3 z
    · have := q.lt; omega
  · intro k hk hO
    rcases hS k hk with z | z
    · exact h.so k z hO
    · have := (hm.made_lt hO).2; omega
  · intro hk
    rcases hS b hk with z | z
    · exact h.sb z
    · omega
  · intro k hk
    rcases hk with hk | ⟨j, n, hj, rfl⟩
    · rcases hK k hk with z | z
      · exact h.lo k (.inl z)
      · have := h.lo b (.inl (.inl rfl)); omega
    · obtain ⟨A1, c1, A2, c2, q, o1, o2, q3, q4, q5⟩ := hqs j n hj
      exact q4
  · rintro k hk (hf | ⟨j, n, hj, rfl⟩)
    · rcases hK k hf with z | z
      · exact h.xf k hk (.inl z)
      · have := h.xl k hk; omega
    · obtain ⟨A1, c1, A2, c2, q, o1, o2, q3, q4, q5⟩ := hqs j n hj
      exact q5 hk
/-- the map was changed -/
theorem Tw.map (h : Tw W b ha mb S O m mr r nb t ns fs F B0) {nb' : Nat} {t' : Int} {F' : Int → Option Int} {v : Value} {e : Ending} {Lo : Nat} (hd : Bu.Does W Lo O mb v nb' t' F' e w') :
    e = .returned v ∧ ∃ O', Tw w' b ha mb S O' m mr r nb' t' ns fs F' B0 ∧ OnlyS O W w' ∧ ∀ k, O' k → O k ∨ W.heap.size ≤ k := by
  obtain ⟨O', rfl, hM, ho, hS⟩ := hd
  obtain ⟨f0, f1, f2, f3, f4⟩ := h.cells ho h.ob
  have hbl := h.blt
  have hK : ∀ k, Kb b S O' k → Kb b S O k ∨ W.heap.size ≤ k := fun k hk => by
    rcases hk with q | q | q
    · exact .inl (.inl q)
    · exact .inl (.inr (.inl q))
    · rcases hS k q with z | z
      · exact .inl (.inr (.inr z))
      · exact .inr z
  have hKX : ∀ k, Kx b S O' B0 k → Kx b S O B0 k ∨ W.heap.size ≤ k := fun k hk => by
    rcases hk with q | q
    · exact (hK k q).imp .inl id
    · exact .inl (.inr q)
  refine ⟨rfl, O', ⟨f0, f1, f2, f3, f4, h.ar.keep ho h.so, ⟨Lo, hM⟩, ?_, ?_, h.dq, ?_, h.sb, ?_, ?_, h.z, fun k hk => Nat.lt_of_lt_of_le (h.xl k hk) ho.size, ?_⟩, ho, hS⟩
  · intro j n hj
    obtain ⟨A1, c1, A2, c2, q, o1, o2⟩ := h.qs j n hj
    exact ⟨A1, c1, A2, c2, q.stay ho (fun z => h.qn j n hj (.inr (.inr z))) (o1.mono fun k z => .inl (.inr (.inr z))) (o2.mono fun k z => .inl (.inr (.inr z))), o1.grow q.h.in hKX, o2.grow q.l.in hKX⟩
  · intro j n hj hk
    obtain ⟨A1, c1, A2, c2, q, o1, o2⟩ := h.qs j n hj
    rcases hK _ hk with z | z
    · exact h.qn j n hj z
    · have := q.lt; omega
  · intro k hk hO
    rcases hS k hO with z | z
    · exact h.so k hk z
    · have := (h.ar.lt hk).2; omega
  · intro hk
    rcases hS b hk with z | z
    · exact h.ob z
    · omega
  · intro k hk
    rcases hk with hk | hk
    · rcases hK k hk with z | z
      · exact h.lo k (.inl z)
      · have := h.lo b (.inl (.inl rfl)); omega
    · exact h.lo k (.inr hk)
  · rintro k hk (hf | hf)
    · rcases hK k hf with z | z
      · exact h.xf k hk (.inl z)
      · have := h.xl k hk; omega
    · exact h.xf k hk (.inr hf)
/-- what a node has was changed -/
theorem Tw.queue (h : Tw W b ha mb S O m mr r nb t ns fs F B0) (hi : Isn ns i n) : ∃ A1 c1 A2 c2, QAt W n.q A1 c1 A2 c2 n.H n.L ∧
    ∀ w' H L, Left n.q W (A1, n.H) (A2, n.L) H L w' → Tw w' b ha mb S O m mr r nb t (ns.set i (some ⟨n.p, n.q, H, L⟩)) fs F B0 ∧ OnlyS (· = n.q) W w' := by
  obtain ⟨A1, c1, A2, c2, hq, o1, o2⟩ := h.qs i n hi
  refine ⟨A1, c1, A2, c2, hq, fun w' H L hl => ?_⟩
  obtain ⟨⟨B1, d1, B2, d2, hq', g1, g2⟩, ho⟩ := hl
  have hnk := h.qn i n hi
  have hil := hi.lt
  obtain ⟨f0, f1, f2, f3, f4⟩ := h.cells ho (fun e => hnk (.inl e.symm))
  obtain ⟨Lo, hm⟩ := h.mq
  have hp : pls (ns.set i (some ⟨n.p, n.q, H, L⟩)) = pls ns := by
    rw [pls_set]
    have := pls_at hi
    obtain ⟨hl, he⟩ := List.getElem?_eq_some_iff.1 this
    refine List.ext_getElem? fun j => ?_
    by_cases e : i = j
    · subst e
      rw [List.getElem?_set_self hl, this]; rfl
    · rw [List.getElem?_set_ne e]
  refine ⟨⟨f0, f1, f2, f3, f4, by rw [hp]; exact h.ar.keep ho (fun k hk e => hnk (.inr (.inl (by rw [← e]; exact hk)))), ⟨Lo, hm.only ho fun k hk e => hnk (.inr (.inr (by rw [← e]; exact hk)))⟩, ?_, ?_, ?_, h.so, h.sb, h.ob, ?_, h.z, fun k hk => Nat.lt_of_lt_of_le (h.xl k hk) ho.size, ?_⟩, ho⟩
  · intro j a hj
    rcases (isn_set hil).1 hj with ⟨ej, hj⟩ | ⟨ej, hj⟩
    · cases hj
      exact ⟨B1, d1, B2, d2, hq', o1.fr g1 h.klx, o2.fr g2 h.klx⟩
    · obtain ⟨A3, c3, A4, c4, q, o3, o4⟩ := h.qs j a hj
      exact ⟨A3, c3, A4, c4, q.far hq (fun e => ej (h.dq j a i n hj hi e)) ho, o3, o4⟩
  · intro j a hj
    rcases (isn_set hil).1 hj with ⟨ej, hj⟩ | ⟨ej, hj⟩
    · cases hj; exact hnk
    · exact h.qn j a hj
  · intro j a k c hj hk e
    rcases (isn_set hil).1 hj with ⟨ej, hj⟩ | ⟨ej, hj⟩ <;> rcases (isn_set hil).1 hk with ⟨ek, hk⟩ | ⟨ek, hk⟩
    · rw [ej, ek]
    · cases hj
      exact absurd (h.dq i n k c hi hk e).symm ek
    · cases hk
      exact absurd (h.dq j a i n hj hi e) ej
    · exact h.dq j a k c hj hk e
  · intro k hk
    refine h.lo k (hk.imp id ?_)
    rintro ⟨j, a, hj, e⟩
    rcases (isn_set hil).1 hj with ⟨ej, hj⟩ | ⟨ej, hj⟩
    · cases hj; exact ⟨i, n, hi, e⟩
    · exact ⟨j, a, hj, e⟩
  · intro k hx hk
    refine h.xf k hx (hk.imp id ?_)
    rintro ⟨j, a, hj, e⟩
    rcases (isn_set hil).1 hj with ⟨ej, hj⟩ | ⟨ej, hj⟩
    · cases hj; exact ⟨i, n, hi, e⟩
    · exact ⟨j, a, hj, e⟩
/-- the count was changed -/
theorem Tw.count (h : Tw W b ha mb S O m mr r nb t ns fs F B0) (r' : Int) : Tw (W.setCell ⟨b, 3, none⟩ (.int .i64 r')) b ha mb S O m mr r' nb t ns fs F B0 := by
  have ho := OnlyS.set b 3 W (.int .i64 r')
  obtain ⟨Lo, hm⟩ := h.mq
  have hbl := h.blt
  have k : ∀ o, o ≠ 3 → (W.setCell ⟨b, 3, none⟩ (.int .i64 r')).cell? ⟨b, o, none⟩ = W.cell? ⟨b, o, none⟩ := fun o ho => by
    rw [World.cell?_setCell_other (h := fun e => ho (by injection e with e1 e2; exact e2.symm))]
  refine ⟨(k 0 (by decide)).trans h.e0, (k 1 (by decide)).trans h.e1, (k 2 (by decide)).trans h.e2, ?_, ?_, h.ar.keep ho (fun k hk e => h.sb (by rw [← e]; exact hk)), ⟨Lo, hm.only ho fun k hk e => h.ob (by rw [← e]; exact hk)⟩, ?_, h.qn, h.dq, h.so, h.sb, h.ob, h.lo, h.z, fun k hk => Nat.lt_of_lt_of_le (h.xl k hk) ho.size, h.xf⟩
  · exact World.cell?_setCell_same' _ _ _ (by rw [h.e3]; rfl)
  · rw [World.frozen?_setCell]; exact h.fz
  · intro j n hj
    obtain ⟨A1, c1, A2, c2, q, o1, o2⟩ := h.qs j n hj
    exact ⟨A1, c1, A2, c2, q.stay ho (fun e => h.qn j n hj (.inl e)) (o1.mono fun k e => .inl (.inl e)) (o2.mono fun k e => .inl (.inl e)), o1, o2⟩
end
end Go.Proofs.YtlhhopanegnliaaGreatDoor
/- A table: what it has, what it refuses, and where a node's queue is. -/
namespace Go.Proofs.YtlhhopanegnliaaGreatDoor
open Go Go.RowKit Go.Shelf
set_option maxRecDepth 100000

abbrev tp (b : Nat) : Value := .pointer (some ⟨b, 0, none⟩)
/-- a table as a value -/
abbrev tv (x0 x1 x2 x3 : Value) : Value := .agg #[x0, x1, x2, x3]
@[go_sem] theorem field_t0 (w : World) (x0 x1 x2 x3 : Value) : (Instr.field 74 (tv x0 x1 x2 x3) 0).run Tryz.prog w = .ok x0 w := by
  simp [Instr.field, asAgg, part]
@[go_sem] theorem field_t1 (w : World) (x0 x1 x2 x3 : Value) : (Instr.field 74 (tv x0 x1 x2 x3) 1).run Tryz.prog w = .ok x1 w := by
  simp [Instr.field, asAgg, part]
@[go_sem] theorem field_t2 (w : World) (x0 x1 x2 x3 : Value) : (Instr.field 74 (tv x0 x1 x2 x3) 2).run Tryz.prog w = .ok x2 w := by
  simp [Instr.field, asAgg, part]
@[go_sem] theorem field_t3 (w : World) (x0 x1 x2 x3 : Value) : (Instr.field 74 (tv x0 x1 x2 x3) 3).run Tryz.prog w = .ok x3 w := by
  simp [Instr.field, asAgg, part]
section
variable {W W' w' : World} {T : Nat → Prop} {b ha mb b0 : Nat} {B0 : Lo0} {m nb i B : Nat} {S O : Nat → Prop} {mr r t : Int} {ns ns' : Ns} {fs fs' : List Nat} {F : Int → Option Int} {n : Nd} {p : Pa.Pt}
theorem box_lt (W : World) (o : Obj) : W.heap.size < (W.alloc o).heap.size := by simp
theorem results_tab {fn : Func} {q : Tmp} (h : fn.results = #[.cell q 74]) {tmps : Array Value} {w : World} {b : Nat} {x0 x1 x2 x3 : Value} (hp : tmps.getD q undef = .pointer (some ⟨b, 0, none⟩))
    (h0 : w.cell? ⟨b, 0, none⟩ = some x0) (h1 : w.cell? ⟨b, 1, none⟩ = some x1) (h2 : w.cell? ⟨b, 2, none⟩ = some x2) (h3 : w.cell? ⟨b, 3, none⟩ = some x3) :
    (results fn tmps).run Tryz.prog w = .ok (tv x0 x1 x2 x3) w := by
  have hp' : tmps[q]?.getD undef = .pointer (some ⟨b, 0, none⟩) := by simpa using hp
  simp [results, h, hp', go_sem, h0, h1, h2, h3]
theorem tits_none (W : World) : Calls Tryz.prog 67 #[.pointer none] W fun e w' => e = .returned (tv (.pointer none) (.pointer none) (.int .i64 0) (.int .i64 0)) ∧ Below W.heap.size W w' := by
  go_enter Tryz.func67, Tryz.ntmps67
  go_wp2
  have hr : (results Tryz.f67 #[.pointer none, undef, .pointer (some ⟨W.heap.size, 0, none⟩), .pointer none, .bool true, tv (.pointer none) (.pointer none) (.int .i64 0) (.int .i64 0), undef, undef, undef]).run Tryz.prog (W.alloc (.cells #[.pointer none, .pointer none, .int .i64 0, .int .i64 0] 74)) = .ok (tv (.pointer none) (.pointer none) (.int .i64 0) (.int .i64 0)) (W.alloc (.cells #[.pointer none, .pointer none, .int .i64 0, .int .i64 0] 74)) :=
    results_tab rfl rfl (by simp [go_sem]) (by simp [go_sem]) (by simp [go_sem]) (by simp [go_sem])
  exact bodyPost_ret hr rfl ⟨rfl, box_below _ _⟩
theorem tits_some {x0 x1 : Option Addr} {m r : Int} (q0 : W.cell? ⟨b, 0, none⟩ = some (.pointer x0)) (q1 : W.cell? ⟨b, 1, none⟩ = some (.pointer x1)) (q2 : W.cell? ⟨b, 2, none⟩ = some (.int .i64 m)) (q3 : W.cell? ⟨b, 3, none⟩ = some (.int .i64 r)) :
    Calls Tryz.prog 67 #[tp b] W fun e w' => e = .returned (tv (.pointer x0) (.pointer x1) (.int .i64 m) (.int .i64 r)) ∧ Below W.heap.size W w' := by
  have hlt := cell_lt q0
  go_enter Tryz.func67, Tryz.ntmps67
  go_wp2
  exact bodyPost_ret (results_tab rfl rfl (by simp [go_sem]) (by simp [go_sem]) (by simp [go_sem]) (by simp [go_sem])) rfl ⟨rfl, box_below _ _⟩
theorem Tw.its (h : Tw W b ha mb S O m mr r nb t ns fs F B0) : Calls Tryz.prog 67 #[tp b] W fun e w' => e = .returned (tv (An.wp ha) (Bu.wp mb) (.int .i64 mr) (.int .i64 r)) ∧ Below W.heap.size W w' :=
  tits_some h.e0 h.e1 h.e2 h.e3
/-- a node in a block -/
structure Pbx (w : World) (K : Nat) (p : Pa.Pt) : Prop where
  c0 : w.cell? ⟨K, 0, none⟩ = some (.int .i64 p.a)
  c1 : w.cell? ⟨K, 1, none⟩ = some (.int .i64 p.b)
  c2 : w.cell? ⟨K, 2, none⟩ = some (.int .i64 p.c)
  c3 : w.cell? ⟨K, 3, none⟩ = some (.int .i64 p.d)
  c4 : w.cell? ⟨K, 4, none⟩ = some (.int .i64 p.e)
abbrev pcs (p : Pa.Pt) : Array Value := #[.int .i64 p.a, .int .i64 p.b, .int .i64 p.c, .int .i64 p.d, .int .i64 p.e]
theorem Pbx.new (w : World) (p : Pa.Pt) (t : TypeId) : Pbx (w.alloc (.cells (pcs p) t)) w.heap.size p := by
  refine ⟨?_, ?_, ?_, ?_, ?_⟩ <;> simp [go_sem]
theorem Pbx.only {w w' : World} {K : Nat} (h : Pbx w K p) (ho : OnlyS T w w') (hK : ¬ T K) : Pbx w' K p := by
  have hb := ho.block K (cell_lt h.c0) hK
  have k : ∀ o, w'.cell? ⟨K, o, none⟩ = w.cell? ⟨K, o, none⟩ := fun o => World.cell?_of_block (w := w) (a := ⟨K, o, none⟩) hb
  exact ⟨(k 0).trans h.c0, (k 1).trans h.c1, (k 2).trans h.c2, (k 3).trans h.c3, (k 4).trans h.c4⟩
theorem Pbx.below {w w' : World} {K : Nat} (h : Pbx w K p) (hb : Below w.heap.size w w') : Pbx w' K p := h.only (OnlyS.of_below (S := fun _ => False) hb) id
def errP (p : Pa.Pt) : Int := if Pa.rightB p then 0 else 1
theorem refuses_t (h : Tw W b ha mb S O m mr r nb t ns fs F B0) (p : Pa.Pt) : Calls Tryz.prog 102 #[tp b, p.v] W fun e w' => e = .returned (.int .i64 (errP p)) ∧ Below W.heap.size W w' := by
  have hx := box_below W (.cells (pcs p) 30)
  have HI := Lib.hid ((h.below hx).its)
  have HB := Lib.hid (Pbx.new W p 30)
  have HX := Lib.hid hx
  have HE := Lib.hid (show errP p = if Pa.rightB p then 0 else 1 from rfl)
  have HM := Lib.hid (fun w' => Pa.may_any p w')
  clear h hx
  generalize errP p = z at *
  cases hr : Pa.rightB p
  all_goals
    rw [hr] at HE HM
    clear hr
    obtain ⟨pa, pb, pc, pd, pe⟩ := p
    go_enter Tryz.func102, Tryz.ntmps102
    go_wp2_with fail
    refine HI.out.mono ?_
    rintro e w1 ⟨rfl, hb1⟩
    have hB1 := HB.out.below hb1
    have b0 := hB1.c0
    have b1 := hB1.c1
    have b2 := hB1.c2
    have b3 := hB1.c3
    have b4 := hB1.c4
    simp only at b0 b1 b2 b3 b4
    have HX1 := Lib.hid (HX.out.trans (hb1.mono HX.out.size))
    clear hb1 hB1 HB HI
    go_wp2_with fail
    refine (HM.out _).mono ?_
    rintro e w2 ⟨rfl, hb2⟩
    have HX2 := Lib.hid (HX1.out.trans (hb2.mono HX1.out.size))
    clear hb2 b0 b1 b2 b3 b4
    go_wp2_with fail
    go_ret
    exact ⟨by rw [HE.out]; rfl, HX2.out⟩
theorem trefuses_none (W : World) (p : Pa.Pt) : Calls Tryz.prog 102 #[.pointer none, p.v] W fun e w' => e = .returned (.int .i64 70) ∧ Below W.heap.size W w' := by
  have hx := box_below W (.cells (pcs p) 30)
  have HI := Lib.hid (tits_none (W.alloc (.cells (pcs p) 30)))
  have HX := Lib.hid hx
  clear hx
  obtain ⟨pa, pb, pc, pd, pe⟩ := p
  go_enter Tryz.func102, Tryz.ntmps102
  go_wp2_with fail
  refine HI.out.mono ?_
  rintro e w1 ⟨rfl, hb1⟩
  have HX1 := Lib.hid (HX.out.trans (hb1.mono HX.out.size))
  clear hb1 HI
  go_wp2_with fail
  go_ret
  exact ⟨rfl, HX1.out⟩
theorem Tw.get (h : Tw W b ha mb S O m mr r nb t ns fs F B0) (p : Pa.Pt) : Calls Tryz.prog 113 #[Bu.wp mb, .int .u64 (Pa.keyP p)] W fun e w' => e = .returned (Bu.gotV (F (Pa.keyP p))) ∧ Below W.heap.size W w' := by
  obtain ⟨Lo, g, c, cs, hm⟩ := h.mq
  exact (hm.get (Pa.key_bd p)).mono fun e w' ⟨h1, j, h2⟩ => ⟨h1, by subst h2; exact drew_below _ _⟩
theorem find_yes (h : Tw W b ha mb S O m mr r nb t ns fs F B0) (hi : Isn ns i n) (hF : F (Pa.keyP n.p) = some (i : Int)) :
    Calls Tryz.prog 65 #[tp b, n.p.v] W fun e w' => e = .returned (.tuple #[qp n.q, .bool true]) ∧ Below W.heap.size W w' := by
  have hx := box_below W (.cells (pcs n.p) 30)
  have h1 := h.below hx
  have gI : Gives (W.alloc (.cells (pcs n.p) 30)) 67 #[tp b] (tv (An.wp ha) (Bu.wp mb) (.int .i64 mr) (.int .i64 r)) := fun w' hb => acc hb (h1.below hb).its
  have gK : Gives (W.alloc (.cells (pcs n.p) 30)) 114 #[n.p.v] (.int .u64 (Pa.keyP n.p)) := fun w' hb => acc hb (Pa.key_any n.p w')
  have gG : Gives (W.alloc (.cells (pcs n.p) 30)) 113 #[Bu.wp mb, .int .u64 (Pa.keyP n.p)] (Bu.gotV (some (i : Int))) := fun w' hb => acc hb (by rw [← hF]; exact (h1.below hb).get n.p)
  have HH := Lib.hid (fun w' hb => An.get_yes (h1.below (W' := w') hb).ar (pls_at hi))
  have hB := Pbx.new W n.p 30
  have b0 := hB.c0
  have b1 := hB.c1
  have b2 := hB.c2
  have b3 := hB.c3
  have b4 := hB.c4
  have hlt := box_lt W (.cells (pcs n.p) 30)
  have HX := Lib.hid hx
  clear h hF hi h1 hx hB
  obtain ⟨⟨pa, pb, pc, pd, pe⟩, q, H, L⟩ := n
  simp only at *
  have hV : Bu.gotV (some (i : Int)) = .tuple #[.int .i64 (i : Int), .bool true] := rfl
  rw [hV] at gG
  clear hV
  generalize Pa.keyP ⟨pa, pb, pc, pd, pe⟩ = k at *
  go_enter Tryz.func65, Tryz.ntmps65
  go_wp2
  generalize W.alloc (.cells #[.int .i64 pa, .int .i64 pb, .int .i64 pc, .int .i64 pd, .int .i64 pe] 30) = W1 at *
  refine wp_region_later W1 (by kernel_rfl) (by kernel_rfl) (Below.refl _ _) ?_
  repeat (go_big_quiet_step (((first | go_at_call 67 | go_at_call 114 | go_at_call 113); exact Gives.later (by with_reducible assumption))))
  refine wpQuiet_nil ?_
  intro w2 hw2
  have hb2 := in_later hw2
  clear hw2
  have HI2 := Lib.hid (gI w2 hb2)
  clear gI gK gG b0 b1 b2 b3 b4
  go_wp2_with fail
  refine HI2.out.mono ?_
  rintro e w3 ⟨rfl, hb3⟩
  have HG3 := Lib.hid (HH.out w3 hb3)
  have HB3 := Lib.hid hb3
  clear hb3 hb2 HI2 HH
  go_wp2_with fail
  refine HG3.out.mono ?_
  rintro e w4 ⟨rfl, hb4⟩
  have HX4 := Lib.hid ((HX.out.trans (HB3.out.mono HX.out.size)).trans (hb4.mono (HX.out.trans (HB3.out.mono HX.out.size)).size))
  clear hb4 HG3 HB3
  go_wp2_with fail
  go_ret2
  exact ⟨rfl, (HX4.out.alloc HX4.out.size _)⟩
theorem find_no (h : Tw W b ha mb S O m mr r nb t ns fs F B0) (p : Pa.Pt) (hF : F (Pa.keyP p) = none) :
    Calls Tryz.prog 65 #[tp b, p.v] W fun e w' => ∃ B, e = .returned (.tuple #[qp B, .bool false]) ∧ QAt w' B none 0 none 0 [] [] ∧ Below W.heap.size W w' ∧ W.heap.size ≤ B := by
  have hx := box_below W (.cells (pcs p) 30)
  have h1 := h.below hx
  have gI : Gives (W.alloc (.cells (pcs p) 30)) 67 #[tp b] (tv (An.wp ha) (Bu.wp mb) (.int .i64 mr) (.int .i64 r)) := fun w' hb => acc hb (h1.below hb).its
  have gK : Gives (W.alloc (.cells (pcs p) 30)) 114 #[p.v] (.int .u64 (Pa.keyP p)) := fun w' hb => acc hb (Pa.key_any p w')
  have gG : Gives (W.alloc (.cells (pcs p) 30)) 113 #[Bu.wp mb, .int .u64 (Pa.keyP p)] (Bu.gotV none) := fun w' hb => acc hb (by rw [← hF]; exact (h1.below hb).get p)
  have hB := Pbx.new W p 30
  have b0 := hB.c0
  have b1 := hB.c1
  have b2 := hB.c2
  have b3 := hB.c3
  have b4 := hB.c4
  have hlt := box_lt W (.cells (pcs p) 30)
  have HX := Lib.hid hx
  clear h hF h1 hx hB
  obtain ⟨pa, pb, pc, pd, pe⟩ := p
  simp only at *
  have hV : Bu.gotV none = .tuple #[.int .i64 0, .bool false] := rfl
  rw [hV] at gG
  clear hV
  generalize Pa.keyP ⟨pa, pb, pc, pd, pe⟩ = k at *
  go_enter Tryz.func65, Tryz.ntmps65
  go_wp2
  generalize W.alloc (.cells #[.int .i64 pa, .int .i64 pb, .int .i64 pc, .int .i64 pd, .int .i64 pe] 30) = W1 at *
  refine wp_region_later W1 (by kernel_rfl) (by kernel_rfl) (Below.refl _ _) ?_
  repeat (go_big_quiet_step (((first | go_at_call 67 | go_at_call 114 | go_at_call 113); exact Gives.later (by with_reducible assumption))))
  refine wpQuiet_nil ?_
  intro w2 hw2
  have HB2 := Lib.hid (HX.out.trans ((in_later hw2).mono HX.out.size))
  clear hw2 gI gK gG b0 b1 b2 b3 b4
  go_wp2_with fail
  go_ret2
  exact ⟨w2.heap.size, rfl, QAt.nils w2, HB2.out.alloc HB2.out.size _, HB2.out.size⟩
end
end Go.Proofs.YtlhhopanegnliaaGreatDoor
