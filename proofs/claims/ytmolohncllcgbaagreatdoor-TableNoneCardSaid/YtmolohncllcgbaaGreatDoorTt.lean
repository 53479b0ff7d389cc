/- A table in memory: its block, its arena, its map, its queues; what stays when one of them is changed. -/
import Derived.Test.YtmolohncllcgbaaGreatDoorTm
namespace Go.Proofs.YtmolohncllcgbaaGreatDoor
open Go Go.RowKit Go.Shelf
set_option maxRecDepth 100000

/-- a table's own blocks, its queues' aside -/
def Kb (b : Nat) (S O : Nat → Prop) (k : Nat) : Prop := k = b ∨ S k ∨ O k
/-- all of its blocks -/
def Foot (b : Nat) (S O : Nat → Prop) (ns : Ns) (k : Nat) : Prop := Kb b S O k ∨ ∃ i n, Isn ns i n ∧ n.q = k
def Off {α : Type} (T : Nat → Prop) (A : Option Addr) (xs : List α) : Prop := xs = [] ∨ ∀ a, A = some a → ¬ T a.block
section
variable {α : Type} {T T' : Nat → Prop} {A B : Option Addr} {xs ys : List α} {N : Nat} {W W' : World}
theorem Off.nil (T : Nat → Prop) (A : Option Addr) : Off T A ([] : List α) := .inl rfl
theorem Off.grow (h : Off T A xs) (hi : xs = [] ∨ ∀ a, A = some a → a.block < N) (hT : ∀ k, T' k → T k ∨ N ≤ k) : Off T' A xs := by
  rcases h with h | h
  · exact .inl h
  · rcases hi with q | q
    · exact .inl q
    · exact .inr fun a ha ht => by
        rcases hT _ ht with z | z
        · exact h a ha z
        · have := q a ha; omega
theorem Off.fr (h : Off T A xs) (hf : Fr N (A, xs) B ys) (hT : ∀ k, T k → k < N) : Off T B ys := by
  rcases hf with ⟨e1, e2⟩ | q
  · subst e1; subst e2; exact h
  · exact .inr fun a ha ht => by have := hT _ ht; have := q a ha; omega
theorem Off.mono (h : Off T A xs) (hT : ∀ k, T' k → T k) : Off T' A xs := h.imp id fun q a ha ht => q a ha (hT _ ht)
end
section
variable {W W' w' : World} {T : Nat → Prop} {b ha mb b0 B0 m nb i B : Nat} {S O : Nat → Prop} {mr r t : Int} {ns ns' : Ns} {fs fs' : List Nat} {F : Int → Option Int} {n : Nd}
variable {A1 A2 B1 B2 : Option Addr} {c1 c2 d1 d2 : Nat} {H H' : List Hs.Hd} {L L' : List Ws.Wt}
theorem Hs.Ls.stay (h : Hs.Ls W A1 c1 H) (ho : OnlyS T W W') (hf : Off T A1 H) : Hs.Ls W' A1 c1 H := by
  rcases hf with rfl | hf
  · exact ⟨h.cap, h.room, h.nil, fun _ _ j u hj => by simp [Hs.flat] at hj⟩
  · exact h.only ho hf
theorem Ws.Ls.stay (h : Ws.Ls W A1 c1 L) (ho : OnlyS T W W') (hf : Off T A1 L) : Ws.Ls W' A1 c1 L := by
  rcases hf with rfl | hf
  · exact ⟨h.cap, h.room, h.nil, fun _ _ j u hj => by simp [Ws.flat] at hj⟩
  · exact h.only ho hf
theorem QAt.stay (h : QAt W b0 A1 c1 A2 c2 H L) (ho : OnlyS T W W') (hb : ¬ T b0) (h1 : Off T A1 H) (h2 : Off T A2 L) : QAt W' b0 A1 c1 A2 c2 H L :=
  ⟨(ho.block b0 h.lt hb).trans h.blk, h.h.stay ho h1, h.l.stay ho h2⟩
/-- a table lies in memory, whatever its nodes are -/
structure Tw (W : World) (b ha mb : Nat) (S O : Nat → Prop) (m : Nat) (mr r : Int) (nb : Nat) (t : Int) (ns : Ns) (fs : List Nat) (F : Int → Option Int) (B0 : Nat) : Prop where
  e0 : W.cell? ⟨b, 0, none⟩ = some (.pointer (some ⟨ha, 0, none⟩))
  e1 : W.cell? ⟨b, 1, none⟩ = some (.pointer (some ⟨mb, 0, none⟩))
  e2 : W.cell? ⟨b, 2, none⟩ = some (.int .i64 mr)
  e3 : W.cell? ⟨b, 3, none⟩ = some (.int .i64 r)
  fz : W.frozen? ⟨b, 3, none⟩ = false
  ar : An.Ar W ha S m (pls ns) fs
  mq : ∃ Lo, Bu.Mq W Lo O mb nb t F
  qs : ∀ i n, Isn ns i n → ∃ A1 c1 A2 c2, QAt W n.q A1 c1 A2 c2 n.H n.L ∧ Off (Kb b S O) A1 n.H ∧ Off (Kb b S O) A2 n.L
  qn : ∀ i n, Isn ns i n → ¬ Kb b S O n.q
  dq : ∀ i n j k, Isn ns i n → Isn ns j k → n.q = k.q → i = j
  so : ∀ k, S k → ¬ O k
  sb : ¬ S b
  ob : ¬ O b
  lo : ∀ k, Foot b S O ns k → B0 ≤ k
  z : 0 < B0
theorem Tw.blt (h : Tw W b ha mb S O m mr r nb t ns fs F B0) : b < W.heap.size := cell_lt h.e0
theorem Tw.klt (h : Tw W b ha mb S O m mr r nb t ns fs F B0) : ∀ k, Kb b S O k → k < W.heap.size := fun k hk => by
  rcases hk with rfl | hk | hk
  · exact h.blt
  · exact (h.ar.lt hk).2
  · obtain ⟨Lo, hm⟩ := h.mq
    exact (hm.made_lt hk).2
theorem Tw.flt (h : Tw W b ha mb S O m mr r nb t ns fs F B0) : ∀ k, Foot b S O ns k → k < W.heap.size := fun k hk => by
  rcases hk with hk | ⟨i, n, hi, rfl⟩
  · exact h.klt k hk
  · obtain ⟨_, _, _, _, hq, _⟩ := h.qs i n hi
    exact hq.lt
theorem Tw.below (h : Tw W b ha mb S O m mr r nb t ns fs F B0) (hb : Below W.heap.size W W') : Tw W' b ha mb S O m mr r nb t ns fs F B0 := by
  have hk := hb.block b h.blt
  have k : ∀ o, W'.cell? ⟨b, o, none⟩ = W.cell? ⟨b, o, none⟩ := fun o => World.cell?_of_block (w := W) (a := ⟨b, o, none⟩) hk
  obtain ⟨Lo, g, c, cs, hm⟩ := h.mq
  exact ⟨(k 0).trans h.e0, (k 1).trans h.e1, (k 2).trans h.e2, (k 3).trans h.e3, (World.frozen?_of_block (w := W) (a := ⟨b, 3, none⟩) hk).trans h.fz, h.ar.below hb, ⟨Lo, g, c, cs, hm.below hb⟩,
    fun i n hi => by
      obtain ⟨A1, c1, A2, c2, hq, o1, o2⟩ := h.qs i n hi
      exact ⟨A1, c1, A2, c2, hq.below hb, o1, o2⟩, h.qn, h.dq, h.so, h.sb, h.ob, h.lo, h.z⟩
theorem Bu.Mq.only {Lo : Nat} (h : Bu.Mq W Lo O mb nb t F) (ho : OnlyS T W W') (hd : ∀ k, O k → ¬ T k) : Bu.Mq W' Lo O mb nb t F := by
  obtain ⟨g, c, cs, hm⟩ := h
  exact ⟨g, c, cs, hm.only ho hd⟩
/-- a block stays where the arena's, the map's or a queue's are changed -/
theorem Tw.cells (h : Tw W b ha mb S O m mr r nb t ns fs F B0) (ho : OnlyS T W W') (hT : ¬ T b) :
    W'.cell? ⟨b, 0, none⟩ = some (.pointer (some ⟨ha, 0, none⟩)) ∧ W'.cell? ⟨b, 1, none⟩ = some (.pointer (some ⟨mb, 0, none⟩)) ∧ W'.cell? ⟨b, 2, none⟩ = some (.int .i64 mr) ∧ W'.cell? ⟨b, 3, none⟩ = some (.int .i64 r) ∧ W'.frozen? ⟨b, 3, none⟩ = false := by
  have hk := ho.block b h.blt hT
  have k : ∀ o, W'.cell? ⟨b, o, none⟩ = W.cell? ⟨b, o, none⟩ := fun o => World.cell?_of_block (w := W) (a := ⟨b, o, none⟩) hk
  exact ⟨(k 0).trans h.e0, (k 1).trans h.e1, (k 2).trans h.e2, (k 3).trans h.e3, (World.frozen?_of_block (w := W) (a := ⟨b, 3, none⟩) hk).trans h.fz⟩
/-- the arena was changed; what comes to a place has an empty queue that lies beside -/
theorem Tw.arena (h : Tw W b ha mb S O m mr r nb t ns fs F B0) {v : Value} {e : Ending} (hd : An.Does W ha S v m (pls ns') fs' e w')
    (hq : ∀ j n, Isn ns' j n → (∃ i, Isn ns i n) ∨ (QAt W n.q none 0 none 0 n.H n.L ∧ n.H = [] ∧ n.L = [] ∧ ¬ Kb b S O n.q ∧ B0 ≤ n.q))
    (hdq : ∀ i n j k, Isn ns' i n → Isn ns' j k → n.q = k.q → i = j) :
    e = .returned v ∧ ∃ S', Tw w' b ha mb S' O m mr r nb t ns' fs' F B0 ∧ OnlyS S W w' ∧ ∀ k, S' k → S k ∨ W.heap.size ≤ k := by
  obtain ⟨S', rfl, hA, ho, hS⟩ := hd
  obtain ⟨f0, f1, f2, f3, f4⟩ := h.cells ho h.sb
  obtain ⟨Lo, hm⟩ := h.mq
  have hbl := h.blt
  have hK : ∀ k, Kb b S' O k → Kb b S O k ∨ W.heap.size ≤ k := fun k hk => by
    rcases hk with q | q | q
    · exact .inl (.inl q)
    · rcases hS k q with z | z
      · exact .inl (.inr (.inl z))
      · exact .inr z
    · exact .inl (.inr (.inr q))
  have hqs : ∀ j n, Isn ns' j n → ∃ A1 c1 A2 c2, QAt W n.q A1 c1 A2 c2 n.H n.L ∧ Off (Kb b S O) A1 n.H ∧ Off (Kb b S O) A2 n.L ∧ ¬ Kb b S O n.q ∧ B0 ≤ n.q := fun j n hj => by
    rcases hq j n hj with ⟨i, hi⟩ | ⟨q1, q2, q3, q4, q5⟩
    · obtain ⟨A1, c1, A2, c2, q, o1, o2⟩ := h.qs i n hi
      exact ⟨A1, c1, A2, c2, q, o1, o2, h.qn i n hi, h.lo _ (.inr ⟨i, n, hi, rfl⟩)⟩
    · exact ⟨none, 0, none, 0, q1, .inl q2, .inl q3, q4, q5⟩
  refine ⟨rfl, S', ⟨f0, f1, f2, f3, f4, hA, ⟨Lo, hm.only ho fun k hk hs => h.so k hs hk⟩, ?_, ?_, hdq, ?_, ?_, h.ob, ?_, h.z⟩, ho, hS⟩
  · intro j n hj
    obtain ⟨A1, c1, A2, c2, q, o1, o2, q3, q4⟩ := hqs j n hj
    exact ⟨A1, c1, A2, c2, q.stay ho (fun z => q3 (.inr (.inl z))) (o1.mono fun k z => .inr (.inl z)) (o2.mono fun k z => .inr (.inl z)), o1.grow q.h.in hK, o2.grow q.l.in hK⟩
  · intro j n hj hk
    obtain ⟨A1, c1, A2, c2, q, o1, o2, q3, q4⟩ := hqs j n hj
    rcases hK _ hk with z | z
    · exact q3 z
    · have := q.lt; omega
  · intro k hk hO
    rcases hS k hk with z | z
    · exact h.so k z hO
    · have := (hm.made_lt hO).2; omega
  · intro hk
    rcases hS b hk with z | z
    · exact h.sb z
    · omega
  · intro k hk
    rcases hk with hk | ⟨j, n, hj, rfl⟩
    · rcases hK k hk with z | z
      · exact h.lo k (.inl z)
      · have := h.lo b (.inl (.inl rfl)); omega
    · obtain ⟨A1, c1, A2, c2, q, o1, o2, q3, q4⟩ := hqs j n hj
      exact q4
/-- the map was changed -/
theorem Tw.map (h : Tw W b ha mb S O m mr r nb t ns fs F B0) {nb' : Nat} {t' : Int} {F' : Int → Option Int} {v : Value} {e : Ending} {Lo : Nat} (hd : Bu.Does W Lo O mb v nb' t' F' e w') :
    e = .returned v ∧ ∃ O', Tw w' b ha mb S O' m mr r nb' t' ns fs F' B0 ∧ OnlyS O W w' ∧ ∀ k, O' k → O k ∨ W.heap.size ≤ k := by
  obtain ⟨O', rfl, hM, ho, hS⟩ := hd
  obtain ⟨f0, f1, f2, f3, f4⟩ := h.cells ho h.ob
  have hbl := h.blt
  have hK : ∀ k, Kb b S O' k → Kb b S O k ∨ W.heap.size ≤ k := fun k hk => by
    rcases hk with q | q | q
    · exact .inl (.inl q)
    · exact .inl (.inr (.inl q))
    · rcases hS k q with z | z
      · exact .inl (.inr (.inr z))
      · exact .inr z
  refine ⟨rfl, O', ⟨f0, f1, f2, f3, f4, h.ar.keep ho h.so, ⟨Lo, hM⟩, ?_, ?_, h.dq, ?_, h.sb, ?_, ?_, h.z⟩, ho, hS⟩
  · intro j n hj
    obtain ⟨A1, c1, A2, c2, q, o1, o2⟩ := h.qs j n hj
    exact ⟨A1, c1, A2, c2, q.stay ho (fun z => h.qn j n hj (.inr (.inr z))) (o1.mono fun k z => .inr (.inr z)) (o2.mono fun k z => .inr (.inr z)), o1.grow q.h.in hK, o2.grow q.l.in hK⟩
  · intro j n hj hk
    obtain ⟨A1, c1, A2, c2, q, o1, o2⟩ := h.qs j n hj
    rcases hK _ hk with z | z
    · exact h.qn j n hj z
    · have := q.lt; omega
  · intro k hk hO
    rcases hS k hO with z | z
    · exact h.so k hk z
    · have := (h.ar.lt hk).2; omega
  · intro hk
    rcases hS b hk with z | z
    · exact h.ob z
    · omega
  · intro k hk
    rcases hk with hk | hk
    · rcases hK k hk with z | z
      · exact h.lo k (.inl z)
      · have := h.lo b (.inl (.inl rfl)); omega
    · exact h.lo k (.inr hk)
/-- what a node has was changed -/
theorem Tw.queue (h : Tw W b ha mb S O m mr r nb t ns fs F B0) (hi : Isn ns i n) : ∃ A1 c1 A2 c2, QAt W n.q A1 c1 A2 c2 n.H n.L ∧
    ∀ w' H L, Left n.q W (A1, n.H) (A2, n.L) H L w' → Tw w' b ha mb S O m mr r nb t (ns.set i (some ⟨n.p, n.q, H, L⟩)) fs F B0 ∧ OnlyS (· = n.q) W w' := by
  obtain ⟨A1, c1, A2, c2, hq, o1, o2⟩ := h.qs i n hi
  refine ⟨A1, c1, A2, c2, hq, fun w' H L hl => ?_⟩
  obtain ⟨⟨B1, d1, B2, d2, hq', g1, g2⟩, ho⟩ := hl
  have hnk := h.qn i n hi
  have hil := hi.lt
  obtain ⟨f0, f1, f2, f3, f4⟩ := h.cells ho (fun e => hnk (.inl e.symm))
  obtain ⟨Lo, hm⟩ := h.mq
  have hp : pls (ns.set i (some ⟨n.p, n.q, H, L⟩)) = pls ns := by
    rw [pls_set]
    have := pls_at hi
    obtain ⟨hl, he⟩ := List.getElem?_eq_some_iff.1 this
    refine List.ext_getElem? fun j => ?_
    by_cases e : i = j
    · subst e
      rw [List.getElem?_set_self hl, this]; rfl
    · rw [List.getElem?_set_ne e]
  refine ⟨⟨f0, f1, f2, f3, f4, by rw [hp]; exact h.ar.keep ho (fun k hk e => hnk (.inr (.inl (by rw [← e]; exact hk)))), ⟨Lo, hm.only ho fun k hk e => hnk (.inr (.inr (by rw [← e]; exact hk)))⟩, ?_, ?_, ?_, h.so, h.sb, h.ob, ?_, h.z⟩, ho⟩
  · intro j a hj
    rcases (isn_set hil).1 hj with ⟨ej, hj⟩ | ⟨ej, hj⟩
    · cases hj
      exact ⟨B1, d1, B2, d2, hq', o1.fr g1 h.klt, o2.fr g2 h.klt⟩
    · obtain ⟨A3, c3, A4, c4, q, o3, o4⟩ := h.qs j a hj
      exact ⟨A3, c3, A4, c4, q.far hq (fun e => ej (h.dq j a i n hj hi e)) ho, o3, o4⟩
  · intro j a hj
    rcases (isn_set hil).1 hj with ⟨ej, hj⟩ | ⟨ej, hj⟩
    · cases hj; exact hnk
    · exact h.qn j a hj
  · intro j a k c hj hk e
    rcases (isn_set hil).1 hj with ⟨ej, hj⟩ | ⟨ej, hj⟩ <;> rcases (isn_set hil).1 hk with ⟨ek, hk⟩ | ⟨ek, hk⟩
    · rw [ej, ek]
    · cases hj
      exact absurd (h.dq i n k c hi hk e).symm ek
    · cases hk
      exact absurd (h.dq j a i n hj hi e) ej
    · exact h.dq j a k c hj hk e
  · intro k hk
    refine h.lo k (hk.imp id ?_)
    rintro ⟨j, a, hj, e⟩
    rcases (isn_set hil).1 hj with ⟨ej, hj⟩ | ⟨ej, hj⟩
    · cases hj; exact ⟨i, n, hi, e⟩
    · exact ⟨j, a, hj, e⟩
/-- the count was changed -/
theorem Tw.count (h : Tw W b ha mb S O m mr r nb t ns fs F B0) (r' : Int) : Tw (W.setCell ⟨b, 3, none⟩ (.int .i64 r')) b ha mb S O m mr r' nb t ns fs F B0 := by
  have ho := OnlyS.set b 3 W (.int .i64 r')
  obtain ⟨Lo, hm⟩ := h.mq
  have hbl := h.blt
  have k : ∀ o, o ≠ 3 → (W.setCell ⟨b, 3, none⟩ (.int .i64 r')).cell? ⟨b, o, none⟩ = W.cell? ⟨b, o, none⟩ := fun o ho => by
    rw [World.cell?_setCell_other (h := fun e => ho (by injection e with e1 e2; exact e2.symm))]
  refine ⟨(k 0 (by decide)).trans h.e0, (k 1 (by decide)).trans h.e1, (k 2 (by decide)).trans h.e2, ?_, ?_, h.ar.keep ho (fun k hk e => h.sb (by rw [← e]; exact hk)), ⟨Lo, hm.only ho fun k hk e => h.ob (by rw [← e]; exact hk)⟩, ?_, h.qn, h.dq, h.so, h.sb, h.ob, h.lo, h.z⟩
  · exact World.cell?_setCell_same' _ _ _ (by rw [h.e3]; rfl)
  · rw [World.frozen?_setCell]; exact h.fz
  · intro j n hj
    obtain ⟨A1, c1, A2, c2, q, o1, o2⟩ := h.qs j n hj
    exact ⟨A1, c1, A2, c2, q.stay ho (fun e => h.qn j n hj (.inl e)) (o1.mono fun k e => .inl e) (o2.mono fun k e => .inl e), o1, o2⟩
end
end Go.Proofs.YtmolohncllcgbaaGreatDoor
