/- A table: a node comes to a place, and goes. -/
import Derived.Test.YtlhhopanegnliaaGreatDoorTt
import Derived.BigQuiet
namespace Go.Proofs.YtlhhopanegnliaaGreatDoor
open Go Go.RowKit Go.Shelf
set_option maxRecDepth 100000

/-- a table lies in memory, and what always holds of its nodes does -/
structure Tx (W : World) (b : Nat) (T : Nat → Prop) (m : Nat) (mr : Int) (c : Nat) (ns : Ns) (r : Int) (C : Pa.Pt → Cx) (B0 : Lo0) : Prop where
  is : ∃ ha mb S O nb t fs F, Tw W b ha mb S O m mr r nb t ns fs F B0 ∧ Ok ns fs F C ∧ nb ≤ 4 + c ∧ ((us ns : Nat) : Int) ≤ t ∧ t ≤ 2 * (nb : Int) ∧ ∀ k, T k ↔ Foot b S O ns k
section
variable {W W' w' : World} {T : Nat → Prop} {b : Nat} {B0 : Lo0} {m c i B : Nat} {mr r : Int} {ns ns' : Ns} {fs fs' : List Nat} {n : Nd} {p : Pa.Pt} {C : Pa.Pt → Cx}
theorem Tx.below (h : Tx W b T m mr c ns r C B0) (hb : Below W.heap.size W W') : Tx W' b T m mr c ns r C B0 := by
  obtain ⟨ha, mb, S, O, nb, t, fs, F, h1, h2⟩ := h.is
  exact ⟨ha, mb, S, O, nb, t, fs, F, h1.below hb, h2⟩
theorem Tx.drew (h : Tx W b T m mr c ns r C B0) : Tx W.drew b T m mr c ns r C B0 := h.below (Below.refl _ _).drew
theorem Tx.lt (h : Tx W b T m mr c ns r C B0) {k : Nat} (hk : T k) : B0.n ≤ k ∧ k < W.heap.size := by
  obtain ⟨ha, mb, S, O, nb, t, fs, F, h1, h2, h3, h4, h5, h6⟩ := h.is
  exact ⟨h1.lo k ((h6 k).1 hk), h1.flt k ((h6 k).1 hk)⟩
theorem Tx.z (h : Tx W b T m mr c ns r C B0) : 0 < B0.n := by
  obtain ⟨ha, mb, S, O, nb, t, fs, F, h1, h2⟩ := h.is
  exact h1.z
theorem Tx.xl (h : Tx W b T m mr c ns r C B0) {k : Nat} (hk : B0.X k) : k < W.heap.size ∧ ¬ T k := by
  obtain ⟨ha, mb, S, O, nb, t, fs, F, h1, h2, h3, h4, h5, h6⟩ := h.is
  exact ⟨h1.xl k hk, fun ht => h1.xf k hk ((h6 k).1 ht)⟩
theorem Tx.tb (h : Tx W b T m mr c ns r C B0) : T b := by
  obtain ⟨ha, mb, S, O, nb, t, fs, F, h1, h2, h3, h4, h5, h6⟩ := h.is
  exact (h6 b).2 (.inl (.inl rfl))
theorem Tx.more (h : Tx W b T m mr c ns r C B0) {c' : Nat} (hc : c ≤ c') : Tx W b T m mr c' ns r C B0 := by
  obtain ⟨ha, mb, S, O, nb, t, fs, F, h1, h2, h3, h4, h5, h6⟩ := h.is
  exact ⟨ha, mb, S, O, nb, t, fs, F, h1, h2, by omega, h4, h5, h6⟩
theorem Tx.inv (h : Tx W b T m mr c ns r C B0) (p : Pa.Pt) : Inv (C p).1 (C p).2 := by
  obtain ⟨ha, mb, S, O, nb, t, fs, F, h1, h2, h3⟩ := h.is
  exact h2.inv p
theorem Tx.size (h : Tx W b T m mr c ns r C B0) (p : Pa.Pt) : (C p).1.length + (C p).2.length ≤ tot ns := by
  obtain ⟨ha, mb, S, O, nb, t, fs, F, h1, h2, h3⟩ := h.is
  exact h2.size p
theorem Tx.usm (h : Tx W b T m mr c ns r C B0) : us ns ≤ m ∧ m ≤ 4096 := by
  obtain ⟨ha, mb, S, O, nb, t, fs, F, h1, h2, h3⟩ := h.is
  have := h1.ar.bounds
  rw [pls_len] at this
  have := us_le ns
  omega
theorem Tx.cy (h : Tx W b T m mr c ns r C B0) (hi : Isn ns i n) : C n.p = (n.H, n.L) := by
  obtain ⟨ha, mb, S, O, nb, t, fs, F, h1, h2, h3⟩ := h.is
  exact h2.cy i n hi
theorem Tx.cn (h : Tx W b T m mr c ns r C B0) (hn : ∀ i n, Isn ns i n → n.p ≠ p) : C p = ([], []) := by
  obtain ⟨ha, mb, S, O, nb, t, fs, F, h1, h2, h3⟩ := h.is
  exact h2.cn p hn
theorem Tx.right (h : Tx W b T m mr c ns r C B0) (hi : Isn ns i n) : Pa.rightB n.p = true := by
  obtain ⟨ha, mb, S, O, nb, t, fs, F, h1, h2, h3⟩ := h.is
  exact (h2.right i n hi).1
theorem Tx.its (h : Tx W b T m mr c ns r C B0) : ∃ ha mb, Calls Tryz.prog 67 #[tp b] W fun e w' => e = .returned (tv (An.wp ha) (Bu.wp mb) (.int .i64 mr) (.int .i64 r)) ∧ Below W.heap.size W w' := by
  obtain ⟨ha, mb, S, O, nb, t, fs, F, h1, h2, h3⟩ := h.is
  exact ⟨ha, mb, h1.its⟩
theorem Tx.refuses (h : Tx W b T m mr c ns r C B0) (p : Pa.Pt) : Calls Tryz.prog 102 #[tp b, p.v] W fun e w' => e = .returned (.int .i64 (errP p)) ∧ Below W.heap.size W w' := by
  obtain ⟨ha, mb, S, O, nb, t, fs, F, h1, h2, h3⟩ := h.is
  exact refuses_t h1 p
theorem Tx.find_yes (h : Tx W b T m mr c ns r C B0) (hi : Isn ns i n) : Calls Tryz.prog 65 #[tp b, n.p.v] W fun e w' => e = .returned (.tuple #[qp n.q, .bool true]) ∧ Below W.heap.size W w' := by
  obtain ⟨ha, mb, S, O, nb, t, fs, F, h1, h2, h3⟩ := h.is
  exact Go.Proofs.YtlhhopanegnliaaGreatDoor.find_yes h1 hi (h2.fy i n hi)
theorem Tx.find_no (h : Tx W b T m mr c ns r C B0) (hn : ∀ i n, Isn ns i n → n.p ≠ p) : Calls Tryz.prog 65 #[tp b, p.v] W fun e w' => ∃ B, e = .returned (.tuple #[qp B, .bool false]) ∧ QAt w' B none 0 none 0 [] [] ∧ Below W.heap.size W w' ∧ W.heap.size ≤ B := by
  obtain ⟨ha, mb, S, O, nb, t, fs, F, h1, h2, h3⟩ := h.is
  exact Go.Proofs.YtlhhopanegnliaaGreatDoor.find_no h1 p (h2.fnp hn)
/-- what a node has was changed -/
theorem Tx.queue (h : Tx W b T m mr c ns r C B0) (hi : Isn ns i n) : ∃ A1 c1 A2 c2, QAt W n.q A1 c1 A2 c2 n.H n.L ∧
    ∀ w' H L, Left n.q W (A1, n.H) (A2, n.L) H L w' → Inv H L → Tx w' b T m mr c (ns.set i (some ⟨n.p, n.q, H, L⟩)) r (upC C n.p (H, L)) B0 ∧ OnlyS T W w' := by
  obtain ⟨ha, mb, S, O, nb, t, fs, F, h1, h2, h3, h4, h5, h6⟩ := h.is
  obtain ⟨A1, c1, A2, c2, hq, hk⟩ := h1.queue hi
  refine ⟨A1, c1, A2, c2, hq, fun w' H L hl hv => ?_⟩
  obtain ⟨k1, k2⟩ := hk w' H L hl
  refine ⟨⟨ha, mb, S, O, nb, t, fs, F, k1, h2.turn hi hv, h3, (by have := sm_set oneN (some ⟨n.p, n.q, H, L⟩) hi; simp only [oneN] at this; unfold us at *; omega), h5, fun k => ?_⟩, k2.mono fun k _ e => (h6 k).2 (.inr ⟨i, n, hi, e.symm⟩)⟩
  rw [h6 k]
  unfold Foot
  refine or_congr_right ⟨?_, ?_⟩
  · rintro ⟨j, a, hj, e⟩
    by_cases q : j = i
    · subst q
      have e1 : n = a := by unfold Isn at hi hj; rw [hi] at hj; cases hj; rfl
      subst e1
      exact ⟨j, _, (isn_set hi.lt).2 (.inl ⟨rfl, rfl⟩), e⟩
    · exact ⟨j, a, (isn_set hi.lt).2 (.inr ⟨q, hj⟩), e⟩
  · rintro ⟨j, a, hj, e⟩
    rcases (isn_set hi.lt).1 hj with ⟨ej, hj⟩ | ⟨ej, hj⟩
    · cases hj; exact ⟨i, n, hi, e⟩
    · exact ⟨j, a, hj, e⟩
theorem Tx.count (h : Tx W b T m mr c ns r C B0) (r' : Int) : Tx (W.setCell ⟨b, 3, none⟩ (.int .i64 r')) b T m mr c ns r' C B0 ∧ OnlyS T W (W.setCell ⟨b, 3, none⟩ (.int .i64 r')) := by
  have ht := h.tb
  obtain ⟨ha, mb, S, O, nb, t, fs, F, h1, h2⟩ := h.is
  exact ⟨⟨ha, mb, S, O, nb, t, fs, F, h1.count r', h2⟩, (OnlyS.set b 3 W _).mono fun k _ e => by rw [e]; exact ht⟩
theorem Tx.cells (h : Tx W b T m mr c ns r C B0) : W.cell? ⟨b, 2, none⟩ = some (.int .i64 mr) ∧ W.cell? ⟨b, 3, none⟩ = some (.int .i64 r) ∧ W.frozen? ⟨b, 3, none⟩ = false := by
  obtain ⟨ha, mb, S, O, nb, t, fs, F, h1, h2⟩ := h.is
  exact ⟨h1.e2, h1.e3, h1.fz⟩
end
section
variable {W W' w' : World} {T : Nat → Prop} {b ha mb : Nat} {B0 : Lo0} {m nb i B : Nat} {S O : Nat → Prop} {mr r t : Int} {ns ns' : Ns} {fs fs' : List Nat} {F : Int → Option Int} {n : Nd} {p : Pa.Pt} {C : Pa.Pt → Cx}
theorem Tw.put (h : Tw W b ha mb S O m mr r nb t ns fs F B0) (p : Pa.Pt) (v : Int) (h1 : -1000 ≤ t) (h2 : t ≤ 2 * (nb : Int)) (h3 : nb < 249) (hF : F (Pa.keyP p) = none) :
    Calls Tryz.prog 148 #[Bu.wp mb, .int .u64 (Pa.keyP p), .int .i64 v] W fun e w' => ∃ u O' nb' t', e = .returned (.bool u) ∧ Tw w' b ha mb S O' m mr r nb' t' ns fs (Bu.putF F (Pa.keyP p) (some v)) B0 ∧ OnlyS O W w' ∧ (∀ k, O' k → O k ∨ W.heap.size ≤ k) ∧ nb' ≤ nb + 1 ∧ t + 1 ≤ t' ∧ t' ≤ 2 * (nb' : Int) := by
  obtain ⟨Lo, hm⟩ := h.mq
  refine (hm.put (Pa.key_bd p) v h1 h2 h3).mono ?_
  rintro e w' ⟨nb', t', u, hd, g1, g2, g3, g4, g5, g6⟩
  have g7 := (g6 hF).1
  obtain ⟨rfl, O', k1, k2, k3⟩ := h.map hd
  exact ⟨u, O', nb', t', rfl, k1, k2, k3, g2, by omega, g5⟩
theorem Tw.dropk (h : Tw W b ha mb S O m mr r nb t ns fs F B0) (p : Pa.Pt) (h1 : -1000 ≤ t) (h2 : t ≤ 2 * (nb : Int)) (h3 : nb < 249) :
    Calls Tryz.prog 206 #[Bu.wp mb, .int .u64 (Pa.keyP p)] W fun e w' => ∃ u O' nb' t', e = .returned (.bool u) ∧ Tw w' b ha mb S O' m mr r nb' t' ns fs (Bu.putF F (Pa.keyP p) none) B0 ∧ OnlyS O W w' ∧ (∀ k, O' k → O k ∨ W.heap.size ≤ k) ∧ nb' ≤ nb ∧ t - 1 ≤ t' ∧ t' ≤ 2 * (nb' : Int) := by
  obtain ⟨Lo, hm⟩ := h.mq
  refine (hm.drop (Pa.key_bd p) h1 h2 h3).mono ?_
  rintro e w' ⟨nb', t', u, hd, g1, g2, g3, g4⟩
  obtain ⟨rfl, O', k1, k2, k3⟩ := h.map hd
  exact ⟨u, O', nb', t', rfl, k1, k2, k3, g1, g2, g4⟩
/-- the place that a new node comes to -/
theorem Tw.take (h : Tw W b ha mb S O m mr r nb t ns fs F B0) (hk : Ok ns fs F C) (hB : ¬ Foot b S O ns B) (hB0 : B0.n ≤ B) (hBX : ¬ B0.X B) (hp : Pa.rightB p = true) (hn : ∀ i n, Isn ns i n → n.p ≠ p) (hr : us ns < m) (hq : QAt W B none 0 none 0 [] []) :
    ∃ (i : Nat) (ns' : Ns) (fs' : List Nat), Ok ns' fs' (Bu.putF F (Pa.keyP p) (some (i : Int))) C ∧ Isn ns' i ⟨p, B, [], []⟩ ∧ tot ns' = tot ns ∧ us ns' = us ns + 1 ∧ (∀ j a, Isn ns' j a ↔ Isn ns j a ∨ (j = i ∧ a = ⟨p, B, [], []⟩)) ∧
      ∀ W', Below W.heap.size W W' → Calls Tryz.prog 147 #[An.wp ha, An.hv p B] W' fun e w' => e = .returned (.tuple #[.int .i64 (i : Int), .bool true]) ∧ ∃ S', Tw w' b ha mb S' O m mr r nb t ns' fs' F B0 ∧ OnlyS S W' w' ∧ ∀ k, S' k → S k ∨ W'.heap.size ≤ k := by
  have hqB : ∀ i n, Isn ns i n → n.q ≠ B := fun i n hi e => hB (.inr ⟨i, n, hi, e⟩)
  have hKB : ¬ Kb b S O B := fun e => hB (.inl e)
  have hcnt := hk.cnt
  rcases List.eq_nil_or_concat fs with rfl | ⟨gs, i, rfl⟩
  · simp only [List.length_nil, Nat.add_zero] at hcnt
    have hok := hk.add_new hp hn hqB
    have hiff : ∀ j a, Isn (ns ++ [some ⟨p, B, [], []⟩]) j a ↔ Isn ns j a ∨ (j = ns.length ∧ a = ⟨p, B, [], []⟩) := fun j a => by
      rw [isn_app]
      simp only [Option.some.injEq]
      exact or_congr_right (and_congr_right fun _ => eq_comm)
    refine ⟨ns.length, ns ++ [some ⟨p, B, [], []⟩], [], hok, (hiff _ _).2 (.inr ⟨rfl, rfl⟩), ?_, ?_, hiff, fun W' hb => ?_⟩
    · have := sm_app szN ns (some ⟨p, B, [], []⟩)
      unfold tot
      rw [this]; rfl
    · have := sm_app oneN ns (some ⟨p, B, [], []⟩)
      unfold us
      rw [this]; rfl
    · have hA := An.take_new ((h.below hb).ar) p B (by rw [pls_len]; omega)
      rw [pls_len] at hA
      refine hA.mono fun e w' hd => ?_
      have e1 : pls ns ++ [some (p, B)] = pls (ns ++ [some ⟨p, B, [], []⟩]) := by rw [pls_app]; rfl
      rw [e1] at hd
      refine (h.below hb).arena hd (fun j a hj => ?_) (fun j a k d hj hk' e => hok.one j a k d hj hk' (.inr e))
      rcases (hiff j a).1 hj with hj | ⟨-, rfl⟩
      · exact .inl ⟨j, hj⟩
      · exact .inr ⟨hq.below hb, rfl, rfl, hKB, hB0, hBX⟩
  · rw [List.concat_eq_append] at hk hcnt h
    have h0 := (hk.fr i).1 (by simp)
    have hl : i < ns.length := (List.getElem?_eq_some_iff.1 h0).1
    have hok := hk.add_old hp hn hqB
    have hiff : ∀ j a, Isn (ns.set i (some ⟨p, B, [], []⟩)) j a ↔ Isn ns j a ∨ (j = i ∧ a = ⟨p, B, [], []⟩) := fun j a => by
      rw [isn_set hl]
      simp only [Option.some.injEq]
      constructor
      · rintro (⟨e, q⟩ | ⟨-, q⟩)
        · exact .inr ⟨e, q.symm⟩
        · exact .inl q
      · rintro (q | ⟨e, q⟩)
        · refine .inr ⟨fun e => ?_, q⟩
          subst e
          unfold Isn at q
          rw [h0] at q; cases q
        · exact .inl ⟨e, q.symm⟩
    refine ⟨i, ns.set i (some ⟨p, B, [], []⟩), gs, hok, (hiff _ _).2 (.inr ⟨rfl, rfl⟩), ?_, ?_, hiff, fun W' hb => ?_⟩
    · have := sm_set szN (some ⟨p, B, [], []⟩) h0
      simp [szN] at this
      exact this
    · have := sm_set oneN (some ⟨p, B, [], []⟩) h0
      simp [oneN] at this
      exact this
    · have hA := An.take_old ((h.below hb).ar) p B (by rw [pls_len]; exact hl)
      refine hA.mono fun e w' hd => ?_
      have e1 : (pls ns).set i (some (p, B)) = pls (ns.set i (some ⟨p, B, [], []⟩)) := by rw [pls_set]; rfl
      rw [e1] at hd
      refine (h.below hb).arena hd (fun j a hj => ?_) (fun j a k d hj hk' e => hok.one j a k d hj hk' (.inr e))
      rcases (hiff j a).1 hj with hj | ⟨-, rfl⟩
      · exact .inl ⟨j, hj⟩
      · exact .inr ⟨hq.below hb, rfl, rfl, hKB, hB0, hBX⟩
/-- a node has a place now -/
def Laid (W : World) (b : Nat) (T : Nat → Prop) (m : Nat) (mr : Int) (c : Nat) (ns : Ns) (r : Int) (C : Pa.Pt → Cx) (B0 : Lo0) (p : Pa.Pt) (B : Nat) (e : Ending) (w' : World) : Prop :=
  e = .returned (.tuple #[]) ∧ ∃ T' ns' i, Tx w' b T' m mr (c + 1) ns' r C B0 ∧ Isn ns' i ⟨p, B, [], []⟩ ∧ tot ns' = tot ns ∧ us ns' = us ns + 1 ∧ (∀ j a, Isn ns' j a ↔ Isn ns j a ∨ (j = i ∧ a = ⟨p, B, [], []⟩)) ∧ OnlyS T W w' ∧ ∀ k, T' k → T k ∨ k = B ∨ W.heap.size ≤ k
set_option maxHeartbeats 1000000 in
theorem lay_any {c : Nat} (h : Tx W b T m mr c ns r C B0) (hc : c ≤ 240) (hB : ¬ T B) (hB0 : B0.n ≤ B) (hBX : ¬ B0.X B) (hp : Pa.rightB p = true) (hn : ∀ i n, Isn ns i n → n.p ≠ p) (hr : us ns < m) (hq : QAt W B none 0 none 0 [] []) :
    Calls Tryz.prog 104 #[tp b, p.v, qp B] W (Laid W b T m mr c ns r C B0 p B) := by
  obtain ⟨ha, mb, S, O, nb, t, fs, F, h1, h2, h3, h4, h5, h6⟩ := h.is
  have hx := box_below W (.cells (pcs p) 30)
  have hB' : ¬ Foot b S O ns B := fun e => hB ((h6 B).2 e)
  obtain ⟨i, ns', fs', k1, k2, k3, k4, k5, k6⟩ := (h1.below hx).take h2 hB' hB0 hBX hp hn hr (hq.below hx)
  have h1x := h1.below hx
  have e0 := h1x.e0
  have hlt := box_lt W (.cells (pcs p) 30)
  have hblt := h1.blt
  have HT := Lib.hid (fun W' hb => k6 W' hb)
  have HK := Lib.hid (fun (w : World) => Pa.key_any p w)
  have hB1 := Pbx.new W p 30
  have b0 := hB1.c0
  have b1 := hB1.c1
  have b2 := hB1.c2
  have b3 := hB1.c3
  have b4 := hB1.c4
  have HF := Lib.hid (fun (w2 w3 w4 : World) (S' O' : Nat → Prop) (nb' : Nat) (t' : Int) (ho2 : OnlyS S (W.alloc (.cells (pcs p) 30)) w2) (hs : ∀ k, S' k → S k ∨ (W.alloc (.cells (pcs p) 30)).heap.size ≤ k) (hb3 : Below w2.heap.size w2 w3)
      (hT : Tw w4 b ha mb S' O' m mr r nb' t' ns' fs' (Bu.putF F (Pa.keyP p) (some (i : Int))) B0) (ho4 : OnlyS O w3 w4) (ho : ∀ k, O' k → O k ∨ w3.heap.size ≤ k) (g1 : nb' ≤ nb + 1) (g2 : t + 1 ≤ t') (g3 : t' ≤ 2 * (nb' : Int)) =>
    (show Laid W b T m mr c ns r C B0 p B (.returned (.tuple #[])) w4 from by
      have hs2 : W.heap.size ≤ w2.heap.size := Nat.le_trans hx.size ho2.size
      refine ⟨rfl, Foot b S' O' ns', ns', i, ⟨ha, mb, S', O', nb', t', fs', _, hT, k1, by omega, by omega, g3, fun k => Iff.rfl⟩, k2, k3, k4, k5, ?_, ?_⟩
      · have q1 : OnlyS T W (W.alloc (.cells (pcs p) 30)) := OnlyS.of_below hx
        have q2 : OnlyS T W w2 := q1.trans (ho2.mono fun k _ hk => (h6 k).2 (.inl (.inr (.inl hk))))
        have q3 : OnlyS T W w3 := q2.trans (OnlyS.of_below hb3)
        exact q3.trans (ho4.mono fun k _ hk => (h6 k).2 (.inl (.inr (.inr hk))))
      · rintro k (hk | ⟨j, a, hj, rfl⟩)
        · rcases hk with hk | hk | hk
          · exact .inl ((h6 k).2 (.inl (.inl hk)))
          · rcases hs k hk with q | q
            · exact .inl ((h6 k).2 (.inl (.inr (.inl q))))
            · exact .inr (.inr (Nat.le_trans hx.size q))
          · rcases ho k hk with q | q
            · exact .inl ((h6 k).2 (.inl (.inr (.inr q))))
            · exact .inr (.inr (Nat.le_trans hs2 (Nat.le_trans hb3.size q)))
        · rcases (k5 j a).1 hj with hj | ⟨-, rfl⟩
          · exact .inl ((h6 _).2 (.inr ⟨j, a, hj, rfl⟩))
          · exact .inr (.inl rfl)))
  have HS := Lib.hid (fun k (hk : S k) => (h1.ar.lt hk).2)
  have HB := Lib.hid hB1
  have HN := Lib.hid (And.intro (show nb < 249 by omega) (And.intro (show -1000 ≤ t by omega) (And.intro h5 (h2.fnp hn))))
  clear h h1 h2 h3 h4 h5 h6 hx hB' k1 k2 k3 k4 k5 k6 h1x hB1 hp hn hr hq hB hB0 hBX
  obtain ⟨pa, pb, pc, pd, pe⟩ := p
  simp only at *
  go_enter Tryz.func104, Tryz.ntmps104
  go_wp2
  generalize W.alloc (.cells #[.int .i64 pa, .int .i64 pb, .int .i64 pc, .int .i64 pd, .int .i64 pe] 30) = W1 at *
  go_region_law (first | (go_simp; go_at_call 147; refine (HT.out _ (Below.refl _ _).drew).mono ?_; rintro e w2 ⟨rfl, S', hT2, ho2, hs2⟩))
  all_goals
    have ho3 : OnlyS S W1 w2 := ⟨ho2.os, ho2.tape, ho2.output, ho2.size, ho2.block⟩
    have hB2 := HB.out.only ho3 (fun hk => by have := HS.out _ hk; omega)
    have b0 := hB2.c0
    have b1 := hB2.c1
    have b2 := hB2.c2
    have b3 := hB2.c3
    have b4 := hB2.c4
    simp only at b0 b1 b2 b3 b4
    have e1 := hT2.e1
    have HT2 := Lib.hid hT2
    have HO2 := Lib.hid ho3
    have HS2 := Lib.hid (show ∀ k, S' k → S k ∨ W1.heap.size ≤ k from hs2)
    have hlt2 : W.heap.size < w2.heap.size := Nat.lt_of_lt_of_le hlt ho3.size
    have hbl2 := hT2.blt
    clear hT2 ho2 hs2 ho3 hB2 HT HB
    go_wp2_with fail
    go_region_law (first
      | (go_simp; go_at_call 114; refine (HK.out _).mono ?_; rintro e w3 ⟨rfl, hb3⟩; have hb4 := undrew hb3; have HT3 := Lib.hid (HT2.out.below hb4); have j1 := HT3.out.e1)
      | (go_simp; go_at_call 148; refine (HT3.out.put _ _ HN.out.2.1 HN.out.2.2.1 HN.out.1 HN.out.2.2.2).mono ?_; rintro e w4 ⟨u, O', nb', t', rfl, hT4, ho4, hk4, g1, g2, g3⟩))
    all_goals
      have HE := Lib.hid (HF.out w2 w3 w4 S' O' nb' t' HO2.out HS2.out hb4 hT4 ho4 hk4 g1 g2 g3)
      clear hT4 ho4 hk4 hb3 hb4
      go_wp2
      go_end0
      exact HE.out
/-- a node has gone -/
def Freed (W : World) (b : Nat) (T : Nat → Prop) (m : Nat) (mr : Int) (c : Nat) (ns : Ns) (r : Int) (C : Pa.Pt → Cx) (B0 : Lo0) (i : Nat) (e : Ending) (w' : World) : Prop :=
  e = .returned (.tuple #[]) ∧ ∃ T' ns', Tx w' b T' m mr c ns' r C B0 ∧ tot ns' = tot ns ∧ us ns' + 1 = us ns ∧ (∀ j a, Isn ns' j a ↔ j ≠ i ∧ Isn ns j a) ∧ OnlyS T W w' ∧ ∀ k, T' k → T k ∨ W.heap.size ≤ k
set_option maxHeartbeats 1000000 in
theorem drop_any {c : Nat} (h : Tx W b T m mr c ns r C B0) (hc : c ≤ 240) (hi : Isn ns i n) (hH : n.H = []) (hL : n.L = []) :
    Calls Tryz.prog 179 #[tp b, n.p.v] W (Freed W b T m mr c ns r C B0 i) := by
  obtain ⟨ha, mb, S, O, nb, t, fs, F, h1, h2, h3, h4, h5, h6⟩ := h.is
  have hx := box_below W (.cells (pcs n.p) 30)
  have hok := h2.drop hi hH hL
  have hl := hi.lt
  have hiff : ∀ j a, Isn (ns.set i none) j a ↔ j ≠ i ∧ Isn ns j a := fun j a => by
    rw [isn_set hl]
    simp
  have hus := sm_set oneN none hi
  have htt := sm_set szN none hi
  simp only [oneN, szN, hH, hL, List.length_nil, Nat.add_zero] at hus htt
  have hfl : fs.length < (pls ns).length := by
    rw [pls_len]
    have := h2.cnt
    have := sm_ge (f := oneN) hi
    simp only [oneN] at this
    unfold us at *
    omega
  have HG := Lib.hid (fun (W' : World) (hb : Below W.heap.size W W') => (show Calls Tryz.prog 113 #[Bu.wp mb, .int .u64 (Pa.keyP n.p)] W' fun e w' => e = .returned (.tuple #[.int .i64 (i : Int), .bool true]) ∧ Below W'.heap.size W' w' from by
    have := (h1.below hb).get n.p
    rw [h2.fy i n hi] at this
    exact this))
  have HR := Lib.hid (fun (W' : World) (hb : Below W.heap.size W W') => (show Calls Tryz.prog 205 #[An.wp ha, .int .i64 (i : Int)] W' fun e w' => e = .returned (.bool true) ∧ ∃ S', Tw w' b ha mb S' O m mr r nb t (ns.set i none) (fs ++ [i]) F B0 ∧ OnlyS S W' w' ∧ ∀ k, S' k → S k ∨ W'.heap.size ≤ k from by
    refine (An.free_yes (h1.below hb).ar (pls_at hi) hfl).mono fun e w' hd => ?_
    have e1 : (pls ns).set i none = pls (ns.set i none) := by rw [pls_set]; rfl
    rw [e1] at hd
    exact (h1.below hb).arena hd (fun j a hj => .inl ⟨j, ((hiff j a).1 hj).2⟩) (fun j a k d hj hk' e => hok.one j a k d hj hk' (.inr e))))
  have HK := Lib.hid (fun (w : World) => Pa.key_any n.p w)
  have HN := Lib.hid (And.intro (show nb < 249 by omega) (And.intro (show -1000 ≤ t by omega) h5))
  have HF := Lib.hid (fun (w2 w3 w4 : World) (S' O' : Nat → Prop) (nb' : Nat) (t' : Int) (hb : Below W.heap.size W w2) (ho2 : OnlyS S w2 w3) (hs : ∀ k, S' k → S k ∨ w2.heap.size ≤ k)
      (hT : Tw w4 b ha mb S' O' m mr r nb' t' (ns.set i none) (fs ++ [i]) (Bu.putF F (Pa.keyP n.p) none) B0) (ho4 : OnlyS O w3 w4) (ho : ∀ k, O' k → O k ∨ w3.heap.size ≤ k) (g1 : nb' ≤ nb) (g2 : t - 1 ≤ t') (g3 : t' ≤ 2 * (nb' : Int)) =>
    (show Freed W b T m mr c ns r C B0 i (.returned (.tuple #[])) w4 from by
      refine ⟨rfl, Foot b S' O' (ns.set i none), ns.set i none, ⟨ha, mb, S', O', nb', t', _, _, hT, hok, by omega, (by have := hus; unfold us at *; omega), g3, fun k => Iff.rfl⟩, htt, hus, hiff, ?_, ?_⟩
      · have q1 : OnlyS T W w2 := OnlyS.of_below hb
        exact (q1.trans (ho2.mono fun k _ hk => (h6 k).2 (.inl (.inr (.inl hk))))).trans (ho4.mono fun k _ hk => (h6 k).2 (.inl (.inr (.inr hk))))
      · rintro k (hk | ⟨j, a, hj, rfl⟩)
        · rcases hk with hk | hk | hk
          · exact .inl ((h6 k).2 (.inl (.inl hk)))
          · rcases hs k hk with q | q
            · exact .inl ((h6 k).2 (.inl (.inr (.inl q))))
            · exact .inr (Nat.le_trans hb.size q)
          · rcases ho k hk with q | q
            · exact .inl ((h6 k).2 (.inl (.inr (.inr q))))
            · exact .inr (Nat.le_trans hb.size (Nat.le_trans ho2.size q))
        · exact .inl ((h6 _).2 (.inr ⟨j, a, ((hiff j a).1 hj).2, rfl⟩))))
  have HB := Lib.hid (Pbx.new W n.p 30)
  have HX := Lib.hid hx
  have HW := Lib.hid h1
  clear h h1 h2 h3 h4 h5 h6 hx hi hH hL hok hl hiff hus htt hfl
  obtain ⟨⟨pa, pb, pc, pd, pe⟩, q, H, L⟩ := n
  simp only at *
  go_enter Tryz.func179, Tryz.ntmps179
  go_wp2_with fail
  refine (HK.out _).mono ?_
  rintro e w1 ⟨rfl, hb1⟩
  have HX1 := Lib.hid (HX.out.trans (hb1.mono HX.out.size))
  have e1 := (HW.out.below HX1.out).e1
  have HG1 := Lib.hid (HG.out w1 HX1.out)
  clear hb1 HG HK HB HX
  go_wp2_with fail
  refine HG1.out.mono ?_
  rintro e w2 ⟨rfl, hb2⟩
  have HX2 := Lib.hid (HX1.out.trans (hb2.mono HX1.out.size))
  clear hb2 HG1 HX1 e1
  have e0 := (HW.out.below HX2.out).e0
  have HR2 := Lib.hid (HR.out w2 HX2.out)
  clear HR
  go_wp2_with fail
  refine HR2.out.mono ?_
  rintro e w3 ⟨rfl, S', hT3, ho3, hs3⟩
  have HO3 := Lib.hid ho3
  have HS3 := Lib.hid hs3
  have HD3 := Lib.hid (hT3.dropk (⟨pa, pb, pc, pd, pe⟩ : Pa.Pt) HN.out.2.1 HN.out.2.2 HN.out.1)
  have e1 := hT3.e1
  clear HR2 hT3 ho3 hs3 e0
  go_wp2_with fail
  refine HD3.out.mono ?_
  rintro e w4 ⟨u, O', nb', t', rfl, hT4, ho4, hk4, g1, g2, g3⟩
  have HE := Lib.hid (HF.out w2 w3 w4 S' O' nb' t' HX2.out HO3.out HS3.out hT4 ho4 hk4 g1 g2 g3)
  clear hT4 ho4 hk4 HD3 e1
  go_wp2
  go_end0
  exact HE.out
end
end Go.Proofs.YtlhhopanegnliaaGreatDoor
/- A table: Ask. -/
namespace Go.Proofs.YtlhhopanegnliaaGreatDoor
open Go Go.RowKit Go.Shelf
set_option maxRecDepth 100000

def szC (x : Cx) : Nat := x.1.length + x.2.length
/-- a table: so many of its blocks, places, nodes, holds and waits; what is at which node -/
structure Ta (W : World) (b : Nat) (T : Nat → Prop) (m : Nat) (mr : Int) (c : Nat) (C : Pa.Pt → Cx) (B0 : Lo0) (u t : Nat) : Prop where
  is : ∃ ns, Tx W b T m mr c ns ((tot ns : Nat) : Int) C B0 ∧ (∀ i n, Isn ns i n → 0 < n.H.length + n.L.length) ∧ us ns = u ∧ tot ns = t ∧ t ≤ c ∧ (t : Int) ≤ mr ∧ mr ≤ 1024
/-- what an Ask at a node comes to: the answer, the error, what is there then -/
def askT (m : Nat) (mr : Int) (u t : Nat) (C : Pa.Pt → Cx) (tx : Int) (p : Pa.Pt) (md fl : Int) : Int × Int × Cx :=
  let X := ask tx md fl (C p).1 (C p).2
  if errP p ≠ 0 then (0, errP p, C p)
  else if X.2.1 ≠ 0 then (0, X.2.1, C p)
  else if (szC (C p) = 0 ∧ 0 < costV X (C p).1 (C p).2 ∧ u = m) ∨ mr - (t : Int) < costV X (C p).1 (C p).2 then (0, 10, C p)
  else (X.1, X.2.1, X.2.2)
section
variable {W W' w' w0 : World} {T : Nat → Prop} {b ha mb : Nat} {B0 : Lo0} {m nb i B c Q : Nat} {S O : Nat → Prop} {mr r t : Int} {ns ns' : Ns} {fs fs' : List Nat} {F : Int → Option Int} {n : Nd} {p : Pa.Pt} {C : Pa.Pt → Cx}
variable {A1 A2 B1 B2 : Option Addr} {c1 c2 d1 d2 : Nat} {H H' : List Hs.Hd} {L L' : List Ws.Wt}
theorem szC_zero {x : Cx} (h : szC x = 0) : x = ([], []) := by
  obtain ⟨H, L⟩ := x
  unfold szC at h
  simp only at h
  rw [List.length_eq_zero_iff.1 (show H.length = 0 by omega), List.length_eq_zero_iff.1 (show L.length = 0 by omega)]
theorem setL_ge (tx m : Int) : ∀ H : List Hs.Hd, H.length ≤ (Hs.setL tx m H).length
  | [] => Nat.zero_le _
  | x :: xs => by
    have := setL_ge tx m xs
    unfold Hs.setL
    split <;> simp <;> omega
theorem ask_ge (tx m fl : Int) (H : List Hs.Hd) (L : List Ws.Wt) : H.length + L.length ≤ (ask tx m fl H L).2.2.1.length + (ask tx m fl H L).2.2.2.length := by
  rcases ask_cases tx m fl H L with ⟨_, _, _, e⟩ | ⟨_, _, e⟩ | ⟨_, _, _, e⟩ | ⟨_, _, _, _, e⟩ | ⟨_, _, _, _, e⟩ <;> rw [e] <;> simp only
  · exact Nat.le_refl _
  · exact Nat.le_refl _
  · unfold grantH
    split
    · exact Nat.le_refl _
    · have := setL_ge (reqW tx m fl H).1 (reqW tx m fl H).2.1 H
      omega
  · exact Nat.le_refl _
  · rw [Ws.ins_len]; omega
theorem TabG.onlyT (ht : TabG W) (ho : OnlyS T W W') (h0 : ¬ T 0) : TabG W' := by
  have hb := ho.block 0 ht.size h0
  exact ⟨Nat.lt_of_lt_of_le ht.size ho.size, fun i j hi hj => (World.cell?_of_block (w := W) (a := ⟨0, i * 7 + j, none⟩) hb).trans (ht.cell i j hi hj)⟩
/-- a queue beside was changed -/
theorem Tw.far (h : Tw W b ha mb S O m mr r nb t ns fs F B0) (hq : QAt W Q A1 c1 A2 c2 H L) (hQ : ¬ Foot b S O ns Q) (ho : OnlyS (· = Q) W W') : Tw W' b ha mb S O m mr r nb t ns fs F B0 := by
  have hnk : ¬ Kb b S O Q := fun e => hQ (.inl e)
  obtain ⟨f0, f1, f2, f3, f4⟩ := h.cells ho (fun e => hnk (.inl e.symm))
  obtain ⟨Lo, hm⟩ := h.mq
  refine ⟨f0, f1, f2, f3, f4, h.ar.keep ho (fun k hk e => hnk (.inr (.inl (by rw [← e]; exact hk)))), ⟨Lo, hm.only ho fun k hk e => hnk (.inr (.inr (by rw [← e]; exact hk)))⟩, ?_, h.qn, h.dq, h.so, h.sb, h.ob, h.lo, h.z, fun k hk => Nat.lt_of_lt_of_le (h.xl k hk) ho.size, h.xf⟩
  intro j a hj
  obtain ⟨A3, c3, A4, c4, q, o3, o4⟩ := h.qs j a hj
  exact ⟨A3, c3, A4, c4, q.far hq (fun e => hQ (.inr ⟨j, a, hj, e⟩)) ho, o3, o4⟩
theorem Tx.far (h : Tx W b T m mr c ns r C B0) (hq : QAt W Q A1 c1 A2 c2 H L) (hQ : ¬ T Q) (ho : OnlyS (· = Q) W W') : Tx W' b T m mr c ns r C B0 := by
  obtain ⟨ha, mb, S, O, nb, t, fs, F, h1, h2, h3, h4, h5, h6⟩ := h.is
  exact ⟨ha, mb, S, O, nb, t, fs, F, h1.far hq (fun e => hQ ((h6 Q).2 e)) ho, h2, h3, h4, h5, h6⟩
theorem Tx.size_us (h : Tx W b T m mr c ns r C B0) : us ns ≤ m := h.usm.1
/-- where a node's queue is found: in the table, or one that is new -/
def Fnd (W : World) (ns : Ns) (C : Pa.Pt → Cx) (p : Pa.Pt) (e : Ending) (w' : World) : Prop :=
  ∃ Q is, e = .returned (.tuple #[qp Q, .bool is]) ∧ Below W.heap.size W w' ∧ (∃ A1 c1 A2 c2, QAt w' Q A1 c1 A2 c2 (C p).1 (C p).2) ∧
    ((is = true ∧ ∃ i n, Isn ns i n ∧ n.p = p ∧ n.q = Q) ∨ (is = false ∧ (∀ i n, Isn ns i n → n.p ≠ p) ∧ W.heap.size ≤ Q ∧ QAt w' Q none 0 none 0 [] [] ∧ C p = ([], [])))
theorem Tx.find (h : Tx W b T m mr c ns r C B0) (p : Pa.Pt) : Calls Tryz.prog 65 #[tp b, p.v] W (Fnd W ns C p) := by
  by_cases hp : ∃ i n, Isn ns i n ∧ n.p = p
  · obtain ⟨i, n, hi, rfl⟩ := hp
    refine (h.find_yes hi).mono ?_
    rintro e w' ⟨rfl, hb⟩
    obtain ⟨A1, c1, A2, c2, hq, -⟩ := h.queue hi
    refine ⟨n.q, true, rfl, hb, ⟨A1, c1, A2, c2, ?_⟩, .inl ⟨rfl, i, n, hi, rfl, rfl⟩⟩
    rw [h.cy hi]
    exact hq.below hb
  · have hn : ∀ i n, Isn ns i n → n.p ≠ p := fun i n hi e => hp ⟨i, n, hi, e⟩
    refine (h.find_no hn).mono ?_
    rintro e w' ⟨B, rfl, hq, hb, hl⟩
    refine ⟨B, false, rfl, hb, ⟨none, 0, none, 0, ?_⟩, .inr ⟨rfl, hn, hl, hq, h.cn hn⟩⟩
    rw [h.cn hn]
    exact hq
theorem Tx.left (h : Tx W b T m mr c ns r C B0) : ∃ ha, W.cell? ⟨b, 0, none⟩ = some (.pointer (some ⟨ha, 0, none⟩)) ∧ ∀ k, Calls Tryz.prog 93 #[An.wp ha] (W.drewN k) fun e w' => e = .returned (.int .i64 ((m : Int) - (us ns : Int))) ∧ ∃ j, w' = (W.drewN k).drewN j := by
  obtain ⟨ha, mb, S, O, nb, t, fs, F, h1, h2, h3⟩ := h.is
  refine ⟨ha, h1.e0, fun k => ?_⟩
  obtain ⟨pv, fv, hA, -⟩ := (h1.below (drew_below W k)).ar
  have := An.left_any hA
  rw [pls_len] at this
  have hc := h2.cnt
  have e : (m : Int) - ((ns.length : Int) - (fs.length : Int)) = (m : Int) - (us ns : Int) := by omega
  rw [e] at this
  exact this
/-- a table's outcome of an Ask -/
def Askt (W : World) (b : Nat) (T : Nat → Prop) (m : Nat) (mr : Int) (c : Nat) (C : Pa.Pt → Cx) (B0 : Lo0) (u t : Nat) (p : Pa.Pt) (Y : Int × Int × Cx) (e : Ending) (w' : World) : Prop :=
  e = .returned (.tuple #[.int .i64 Y.1, .int .i64 Y.2.1]) ∧ ∃ T' u' t', Ta w' b T' m mr (c + 1) (upC C p Y.2.2) B0 u' t' ∧ OnlyS T W w' ∧ (∀ k, T' k → T k ∨ W.heap.size ≤ k) ∧ (Y.2.1 ≠ 0 → u' = u ∧ t' = t) ∧ t' + szC (C p) = t + szC Y.2.2
/-- nothing was changed -/
theorem Askt.same {u t : Nat} {Y : Int × Int × Cx} {w : World} (h : Ta W b T m mr c C B0 u t) (hb : Below W.heap.size W w) (hY : Y.2.2 = C p) : Askt W b T m mr c C B0 u t p Y (.returned (.tuple #[.int .i64 Y.1, .int .i64 Y.2.1])) w := by
  obtain ⟨ns, h1, h2, h3, h4, h5, h6, h7⟩ := h.is
  refine ⟨rfl, T, u, t, ⟨ns, ?_, h2, h3, h4, by omega, h6, h7⟩, OnlyS.of_below hb, fun k hk => .inl hk, fun _ => ⟨rfl, rfl⟩, by rw [hY]⟩
  rw [hY, upC_id rfl]
  exact (h1.below hb).more (by omega)
/-- behind the table's count: the queue is asked, one that is in the table -/
theorem ask_in {u t : Nat} {tx md fl : Int} {w1 : World} {d : Int} (ht : TabG W) (h : Ta W b T m mr c C B0 u t) {T' : Nat → Prop} {ns' : Ns} (hx : Tx w1 b T' m mr (c + 1) ns' ((t : Int) + d) C B0) (hi : Isn ns' i n) (hp : n.p = p)
    (htt : tot ns' = t) (hne : ∀ j a, Isn ns' j a → j = i ∨ 0 < a.H.length + a.L.length) (ho : OnlyS T W w1) (hT' : ∀ k, T' k → T k ∨ W.heap.size ≤ k) (hc : c ≤ 240)
    {X : Ans} (hX : X = ask tx md fl (C p).1 (C p).2) (h0 : X.2.1 = 0) (hd : d = costV X (C p).1 (C p).2) (hmr : d ≤ mr - (t : Int)) (hpos : 0 < szC (C p) ∨ 0 < d) :
    Calls Tryz.prog 105 #[qp n.q, .int .i64 tx, .int .i64 md, .int .i64 fl] w1 (Askt W b T m mr c C B0 u t p (X.1, X.2.1, X.2.2)) := by
  subst hp
  obtain ⟨A1, c1, A2, c2, hq, hk⟩ := hx.queue hi
  have hC := hx.cy hi
  have hsz := sm_ge (f := szN) hi
  have hsz' : n.H.length + n.L.length ≤ t := by rw [← htt]; exact hsz
  obtain ⟨ns, g1, g2, g3, g4, g5, g6, g7⟩ := h.is
  have hT0 : ∀ k, T k → k < W.heap.size := fun k hk => (g1.lt hk).2
  have htab : TabG w1 := ht.onlyT ho (fun hk => by have := (g1.lt hk).1; have := g1.z; omega)
  rw [hC] at hX hd hpos
  simp only at hX hd
  refine (ask_any htab hq (by omega) (by omega) tx md fl).mono ?_
  rintro e w' ⟨rfl, hl⟩
  rw [← hX] at hl ⊢
  have hin := hx.inv n.p
  rw [hC] at hin
  obtain ⟨k1, k2⟩ := hk w' X.2.2.1 X.2.2.2 hl (by rw [hX]; exact hin.ask tx md fl)
  have hlen := ask_len tx md fl n.H n.L
  have hge := ask_ge tx md fl n.H n.L
  rw [← hX] at hlen hge
  have hset := sm_set szN (some ⟨n.p, n.q, X.2.2.1, X.2.2.2⟩) hi
  simp only [szN] at hset
  have hdv : d = ((X.2.2.1.length + X.2.2.2.length : Nat) : Int) - ((n.H.length + n.L.length : Nat) : Int) := by rw [hd]; unfold costV; rw [if_pos h0]
  have hpos' : 0 < X.2.2.1.length + X.2.2.2.length := by
    unfold szC at hpos
    simp only at hpos
    omega
  refine ⟨rfl, T', us (ns'.set i (some ⟨n.p, n.q, X.2.2.1, X.2.2.2⟩)), tot (ns'.set i (some ⟨n.p, n.q, X.2.2.1, X.2.2.2⟩)), ⟨_, ?_, ?_, rfl, rfl, ?_, ?_, g7⟩, ?_, hT', fun q => absurd h0 q, ?_⟩
  · have e : ((tot (ns'.set i (some ⟨n.p, n.q, X.2.2.1, X.2.2.2⟩)) : Nat) : Int) = (t : Int) + d := by unfold tot at *; omega
    rw [e]
    exact k1
  · intro j a hj
    rcases (isn_set hi.lt).1 hj with ⟨ej, hj⟩ | ⟨ej, hj⟩
    · cases hj; exact hpos'
    · rcases hne j a hj with q | q
      · exact absurd q ej
      · exact q
  · unfold tot at *; omega
  · unfold tot at *; omega
  · refine ⟨k2.os.trans ho.os, k2.tape.trans ho.tape, k2.output.trans ho.output, Nat.le_trans ho.size k2.size, fun k hk hn => ?_⟩
    exact (k2.block k (Nat.lt_of_lt_of_le hk ho.size) (fun z => by
      rcases hT' k z with q | q
      · exact hn q
      · omega)).trans (ho.block k hk hn)
  · rw [hC]
    unfold szC tot at *
    simp only
    omega
/-- a queue that is not in the table is asked for what costs nothing -/
theorem ask_out {u t : Nat} {tx md fl : Int} {w1 : World} (ht : TabG W) (h : Ta W b T m mr c C B0 u t) (hx : Tx w1 b T m mr c ns (t : Int) C B0) (hne : ∀ i n, Isn ns i n → 0 < n.H.length + n.L.length) (hu : us ns = u) (htt : tot ns = t)
    (hq : QAt w1 Q none 0 none 0 [] []) (hQ : ¬ T Q) (hQl : W.heap.size ≤ Q) (ho : OnlyS T W w1) {X : Ans} (hX : X = ask tx md fl (C p).1 (C p).2) (h0 : X.2.1 = 0) (hC : C p = ([], [])) (hd : costV X (C p).1 (C p).2 = 0) :
    Calls Tryz.prog 105 #[qp Q, .int .i64 tx, .int .i64 md, .int .i64 fl] w1 (Askt W b T m mr c C B0 u t p (X.1, X.2.1, X.2.2)) := by
  obtain ⟨ns0, g1, g2, g3, g4, g5, g6, g7⟩ := h.is
  have htab : TabG w1 := ht.onlyT ho (fun hk => by have := (g1.lt hk).1; have := g1.z; omega)
  rw [hC] at hX hd
  simp only at hX hd
  refine (ask_any htab hq (by simp) (by simp) tx md fl).mono ?_
  rintro e w' ⟨rfl, ⟨_, hl⟩⟩
  rw [← hX]
  have hz : X.2.2 = ([], []) := by
    refine szC_zero ?_
    unfold costV at hd
    rw [if_pos h0] at hd
    unfold szC
    simp only [List.length_nil] at hd
    omega
  refine ⟨rfl, T, u, t, ⟨ns, ?_, hne, hu, htt, by omega, g6, g7⟩, ?_, fun k hk => .inl hk, fun q => absurd h0 q, by rw [hz, hC]⟩
  · rw [htt, hz, upC_id hC]
    exact (hx.far hq hQ hl).more (by omega)
  · exact ⟨hl.os.trans ho.os, hl.tape.trans ho.tape, hl.output.trans ho.output, Nat.le_trans ho.size hl.size, fun k hk hn => (hl.block k (Nat.lt_of_lt_of_le hk ho.size) (fun z => by omega)).trans (ho.block k hk hn)⟩
end
end Go.Proofs.YtlhhopanegnliaaGreatDoor
/- A table: the walk of Ask. -/
namespace Go.Proofs.YtlhhopanegnliaaGreatDoor
open Go Go.RowKit Go.Shelf
set_option maxRecDepth 100000

section
variable {W W' w' w0 : World} {T : Nat → Prop} {b ha mb : Nat} {B0 : Lo0} {m nb i B c Q u t : Nat} {mr : Int} {ns ns' : Ns} {n : Nd} {p : Pa.Pt} {C : Pa.Pt → Cx}
theorem errP_yes (h : errP p = 0) : Pa.rightB p = true := by
  unfold errP at h
  split at h
  · assumption
  · cases h
theorem errP_no (h : errP p ≠ 0) : errP p = 1 := by
  unfold errP at h ⊢
  split
  · rename_i q; rw [if_pos q] at h; exact absurd rfl h
  · rfl
/-- the table's block in a later world -/
structure Ct (w : World) (b ha : Nat) (mr r : Int) : Prop where
  e0 : w.cell? ⟨b, 0, none⟩ = some (.pointer (some ⟨ha, 0, none⟩))
  e2 : w.cell? ⟨b, 2, none⟩ = some (.int .i64 mr)
  e3 : w.cell? ⟨b, 3, none⟩ = some (.int .i64 r)
  fz : w.frozen? ⟨b, 3, none⟩ = false
  lt : b < w.heap.size
set_option maxHeartbeats 4000000 in
theorem Ta.ask (ht : TabG W) (h : Ta W b T m mr c C B0 u t) (hc : c ≤ 239) (tx md fl : Int) (p : Pa.Pt) :
    Calls Tryz.prog 59 #[tp b, .int .i64 tx, p.v, .int .i64 md, .int .i64 fl] W (Askt W b T m mr c C B0 u t p (askT m mr u t C tx p md fl)) := by
  have hx := box_below W (.cells (pcs p) 30)
  have HX := Lib.hid hx
  have HTa := Lib.hid h
  have HT := Lib.hid ht
  obtain ⟨ns, g1, g2, g3, g4, g5, g6, g7⟩ := h.is
  have HG1 := Lib.hid g1
  have HG2 := Lib.hid g2
  have HR := Lib.hid ((g1.below hx).refuses p)
  have HB := Lib.hid (Pbx.new W p 30)
  have HFi := Lib.hid (fun (w1 : World) (hb : Below W.heap.size W w1) => (g1.below hb).find p)
  have hinv := g1.inv p
  have hsz := g1.size p
  have hm0 := g1.usm
  by_cases he : errP p = 0
  case neg =>
    have HY := Lib.hid (show askT m mr u t C tx p md fl = (0, 1, C p) by unfold askT; simp only; rw [if_pos he, errP_no he])
    rw [HY.out]
    rw [errP_no he] at HR
    clear h ht hx g1 g2 g3 g4 g5 g6 g7 hinv hsz hm0 he
    obtain ⟨pa, pb, pc, pd, pe⟩ := p
    go_enter Tryz.func59, Tryz.ntmps59
    have hB1 := HB.out
    have b0 := hB1.c0
    have b1 := hB1.c1
    have b2 := hB1.c2
    have b3 := hB1.c3
    have b4 := hB1.c4
    simp only at b0 b1 b2 b3 b4
    clear hB1
    go_wp2_with fail
    refine HR.out.mono ?_
    rintro e w1 ⟨rfl, hb1⟩
    have HX1 := Lib.hid (HX.out.trans (hb1.mono HX.out.size))
    clear hb1 b0 b1 b2 b3 b4
    go_wp2_with fail
    go_ret2
    exact Askt.same HTa.out HX1.out rfl
  case pos =>
    have HPr := Lib.hid (errP_yes he)
    obtain ⟨X, hX⟩ : ∃ X, Go.Proofs.YtlhhopanegnliaaGreatDoor.ask tx md fl (C p).1 (C p).2 = X := ⟨_, rfl⟩
    obtain ⟨d, hd⟩ : ∃ d, costV X (C p).1 (C p).2 = d := ⟨_, rfl⟩
    have HY1 := Lib.hid (fun (q : X.2.1 ≠ 0) => (show askT m mr u t C tx p md fl = (0, X.2.1, C p) by unfold askT; simp only; rw [hX, if_neg (by rw [he]; simp), if_pos q]))
    have HY2 := Lib.hid (fun (q : X.2.1 = 0) (q2 : (szC (C p) = 0 ∧ 0 < d ∧ u = m) ∨ mr - (t : Int) < d) => (show askT m mr u t C tx p md fl = (0, 10, C p) by unfold askT; simp only; rw [hX, hd, if_neg (by rw [he]; simp), if_neg (by rw [q]; simp), if_pos q2]))
    have HY3 := Lib.hid (fun (q : X.2.1 = 0) (q2 : ¬ ((szC (C p) = 0 ∧ 0 < d ∧ u = m) ∨ mr - (t : Int) < d)) => (show askT m mr u t C tx p md fl = (X.1, X.2.1, X.2.2) by unfold askT; simp only; rw [hX, hd, if_neg (by rw [he]; simp), if_neg (by rw [q]; simp), if_neg q2]))
    have HCo := Lib.hid (fun (w : World) (hT : TabG w) (Q : Nat) (hq : ∃ A1 c1 A2 c2, QAt w Q A1 c1 A2 c2 (C p).1 (C p).2) => (show Calls Tryz.prog 103 #[qp Q, .int .i64 tx, .int .i64 md, .int .i64 fl] w fun e w' => e = .returned (.tuple #[.int .i64 d, .int .i64 X.2.1]) ∧ Below w.heap.size w w' from by
      obtain ⟨A1, c1, A2, c2, hq⟩ := hq
      have := cost_any hT hq (by omega) (by omega) tx md fl
      rw [hX, hd] at this
      exact this))
    have HXX := Lib.hid hX
    have HD := Lib.hid hd
    have hdd : X.2.1 = 0 → 0 ≤ d ∧ d ≤ 1 := fun q => by
      have q1 := ask_len tx md fl (C p).1 (C p).2
      have q2 := ask_ge tx md fl (C p).1 (C p).2
      rw [hX] at q1 q2
      rw [← hd]
      unfold costV
      rw [if_pos q]
      omega
    have HDd := Lib.hid hdd
    rw [he] at HR
    generalize hYY : askT m mr u t C tx p md fl = Y at *
    clear h ht hx g1 g2 hinv he hX hd hdd
    have HBx := Lib.hid (show ∃ K, W.heap.size ≤ K ∧ K = W.heap.size from ⟨_, Nat.le_refl _, rfl⟩)
    obtain ⟨pa, pb, pc, pd, pe⟩ := p
    go_enter Tryz.func59, Tryz.ntmps59
    have hB1 := HB.out
    have b0 := hB1.c0
    have b1 := hB1.c1
    have b2 := hB1.c2
    have b3 := hB1.c3
    have b4 := hB1.c4
    simp only at b0 b1 b2 b3 b4
    clear hB1
    go_wp2_with fail
    refine HR.out.mono ?_
    rintro e w1 ⟨rfl, hb1⟩
    have HX1 := Lib.hid (HX.out.trans (hb1.mono HX.out.size))
    have HB1 := Lib.hid (HB.out.below hb1)
    have b0 := HB1.out.c0
    have b1 := HB1.out.c1
    have b2 := HB1.out.c2
    have b3 := HB1.out.c3
    have b4 := HB1.out.c4
    simp only at b0 b1 b2 b3 b4
    have HF1 := Lib.hid (HFi.out w1 HX1.out)
    clear hb1 HR HB HX HFi HBx
    go_wp2_with fail
    refine HF1.out.mono ?_
    rintro e w2 ⟨Q, is, rfl, hb2, hq2, hor⟩
    have HX2 := Lib.hid (HX1.out.trans (hb2.mono HX1.out.size))
    have HB2 := Lib.hid (HB1.out.below hb2)
    have HC2 := Lib.hid (HCo.out w2 (HT.out.later HX2.out) Q hq2)
    have HQ2 := Lib.hid hor
    have HL1 := Lib.hid (Nat.le_trans HX1.out.size (Nat.le_refl _))
    clear hb2 hq2 hor HF1 HB1 b0 b1 b2 b3 b4
    go_wp2_with fail
    refine HC2.out.mono ?_
    rintro e w3 ⟨rfl, hb3⟩
    have HX3 := Lib.hid (HX2.out.trans (hb3.mono HX2.out.size))
    have HB3 := Lib.hid (HB2.out.below hb3)
    have HQ3 := Lib.hid (show (is = true ∧ ∃ i n, Isn ns i n ∧ n.p = ⟨pa, pb, pc, pd, pe⟩ ∧ n.q = Q) ∨ (is = false ∧ (∀ i n, Isn ns i n → n.p ≠ ⟨pa, pb, pc, pd, pe⟩) ∧ W.heap.size ≤ Q ∧ QAt w3 Q none 0 none 0 [] [] ∧ C ⟨pa, pb, pc, pd, pe⟩ = ([], [])) from
      HQ2.out.imp id fun ⟨a1, a2, a3, a4, a5⟩ => ⟨a1, a2, Nat.le_trans HX1.out.size a3, a4.below hb3, a5⟩)
    clear hb3 HC2 HCo HQ2 HB2 HX2 HX1 HL1
    by_cases h0 : X.2.1 = 0
    case neg =>
      obtain rfl := HY1.out h0
      have h0' : (X.2.1 == 0) = false := by simpa using h0
      go_wp2_with fail
      go_ret2
      exact Askt.same HTa.out HX3.out rfl
    case pos =>
      obtain ⟨d0, d1⟩ := HDd.out h0
      have HE0 := Lib.hid h0
      rw [h0]
      clear h0
      have hTx3 := HG1.out.below HX3.out
      obtain ⟨e2, e3, fz⟩ := hTx3.cells
      obtain ⟨ha, e0, hL⟩ := hTx3.left
      have HL := Lib.hid hL
      have hlt := (hTx3.lt hTx3.tb).2
      rw [g4] at e3
      rw [g3] at HL
      have HTx3 := Lib.hid hTx3
      have s1 : (0 : Int) ≤ (t : Int) := by omega
      have s2 : (t : Int) ≤ 239 := by omega
      have s3 : u ≤ m := by rw [← g3]; exact hm0.1
      have s4 : m ≤ 4096 := hm0.2
      clear hTx3 hL
      rcases HQ3.out with ⟨rfl, i, n, hi, hnp, rfl⟩ | ⟨rfl, hn, hQl, hq, hC⟩
      · have HI := Lib.hid hi
        have HNp := Lib.hid hnp
        have HSz := Lib.hid (show 0 < szC (C ⟨pa, pb, pc, pd, pe⟩) by rw [← hnp, HG1.out.cy hi]; exact HG2.out i n hi)
        by_cases hcmp : mr - (t : Int) < d
        · obtain rfl := HY2.out HE0.out (.inr hcmp)
          clear hi hnp
          go_wp2_with fail
          go_quiet (fail)
          go_wp2_with fail
          go_ret2
          exact Askt.same HTa.out (HX3.out.trans ((drew_below w3 _).mono HX3.out.size)) rfl
        · obtain rfl := HY3.out HE0.out (fun q => q.elim (fun q => by have := HSz.out; omega) hcmp)
          clear hi hnp
          go_wp2_with fail
          go_quiet (fail)
          go_wp2_with fail
          have hxx := ((HTx3.out.below (drew_below w3 nq)).more (Nat.le_succ c)).count ((t : Int) + d)
          have HXn := HX3.out.trans ((drew_below w3 nq).mono HX3.out.size)
          refine (ask_in HT.out HTa.out hxx.1 HI.out HNp.out g4 (fun j a hj => .inr (HG2.out j a hj)) ((OnlyS.of_below HXn).trans hxx.2) (fun k hk => .inl hk) (by omega) HXX.out.symm HE0.out HD.out.symm (by omega) (.inl HSz.out)).mono ?_
          rintro e w4 ⟨rfl, hr⟩
          have HRr := Lib.hid hr
          clear hr hxx HXn
          go_wp2_with fail
          go_ret2
          exact ⟨rfl, HRr.out⟩
      · have hT0 : ∀ k, T k → k < W.heap.size := fun k hk => (HG1.out.lt hk).2
        have HQT := Lib.hid (show ¬ T Q from fun hk => by have := hT0 Q hk; omega)
        have HQ0 := Lib.hid (show B0.n ≤ Q by have := HG1.out.lt HG1.out.tb; omega)
        have HQX := Lib.hid (show ¬ B0.X Q from fun hk => by have := (HG1.out.xl hk).1; omega)
        have HQl := Lib.hid hQl
        have HN := Lib.hid hn
        have HQq := Lib.hid hq
        have HC := Lib.hid hC
        have HZ := Lib.hid (show szC (C ⟨pa, pb, pc, pd, pe⟩) = 0 by rw [hC]; rfl)
        clear hn hQl hq hC hT0
        by_cases hd0 : 0 < d
        · by_cases hum : u = m
          · obtain rfl := HY2.out HE0.out (.inl ⟨HZ.out, hd0, hum⟩)
            have hz1 : ((m : Int) - (u : Int) == 0) = true := by simp; omega
            go_wp2_with fail
            go_quiet ((go_at_call 93; exact Calls.quiet_of (HL.out _)))
            go_wp2_with fail
            go_ret2
            exact Askt.same HTa.out (HX3.out.trans ((drew_below w3 _).mono HX3.out.size)) rfl
          · have hz1 : ((m : Int) - (u : Int) == 0) = false := by simp; omega
            by_cases hcmp : mr - (t : Int) < d
            · obtain rfl := HY2.out HE0.out (.inr hcmp)
              go_wp2_with fail
              go_quiet ((go_at_call 93; exact Calls.quiet_of (HL.out _)))
              go_wp2_with fail
              go_ret2
              exact Askt.same HTa.out (HX3.out.trans ((drew_below w3 _).mono HX3.out.size)) rfl
            · obtain rfl := HY3.out HE0.out (fun q => q.elim (fun q => hum q.2.2) hcmp)
              have HLa := Lib.hid (fun k => lay_any (HTx3.out.below (drew_below w3 k)) (by omega) HQT.out HQ0.out HQX.out HPr.out HN.out (by omega) (HQq.out.below (drew_below w3 k)))
              have hB3 := HB3.out
              have b0 := hB3.c0
              have b1 := hB3.c1
              have b2 := hB3.c2
              have b3 := hB3.c3
              have b4 := hB3.c4
              simp only at b0 b1 b2 b3 b4
              clear hB3
              go_wp2_with fail
              go_quiet ((go_at_call 93; exact Calls.quiet_of (HL.out _)))
              go_wp2_with fail
              refine (HLa.out nq).mono ?_
              rintro e w4 ⟨rfl, T', ns', i, hTx', hi', htt, hus, hiff, ho', hT'⟩
              have hXn := HX3.out.trans ((drew_below w3 nq).mono HX3.out.size)
              have HO' := Lib.hid ((OnlyS.of_below (S := T) hXn).trans ho')
              have HT' := Lib.hid (show ∀ k, T' k → T k ∨ W.heap.size ≤ k from fun k hk => by
                rcases hT' k hk with q | q | q
                · exact .inl q
                · subst q; exact .inr HQl.out
                · exact .inr (Nat.le_trans hXn.size q))
              have HIf := Lib.hid hiff
              have HI' := Lib.hid hi'
              have HTt := Lib.hid (htt.trans g4)
              have hcc := hTx'.count ((t : Int) + d)
              have HTx' := Lib.hid hTx'
              have HCc := Lib.hid hcc
              obtain ⟨k2, k3, kz⟩ := hTx'.cells
              have kl := (hTx'.lt hTx'.tb).2
              rw [g4] at k3
              clear hTx' hi' htt hus hiff ho' hT' hXn hcc HLa HL b0 b1 b2 b3 b4 e0 e2 e3 fz hlt
              go_wp2_with fail
              refine (ask_in HT.out HTa.out HCc.out.1 HI'.out rfl HTt.out (fun j a hj => ?_) (HO'.out.trans ((OnlyS.set b 3 w4 _).mono fun k _ hk => by rw [hk]; exact HG1.out.tb)) HT'.out (by omega) HXX.out.symm HE0.out HD.out.symm (by omega) (.inr hd0)).mono ?_
              · rcases (HIf.out j a).1 hj with q | ⟨q, -⟩
                · exact .inr (HG2.out j a q)
                · exact .inl q
              rintro e w5 ⟨rfl, hr⟩
              have HRr := Lib.hid hr
              clear hr
              go_wp2_with fail
              go_ret2
              exact ⟨rfl, HRr.out⟩
        · obtain rfl : d = 0 := by omega
          by_cases hcmp : mr - (t : Int) < 0
          · omega
          · obtain rfl := HY3.out HE0.out (fun q => q.elim (fun q => hd0 q.2.1) hcmp)
            have hbQ : Q ≠ b := by have := HG1.out.lt HG1.out.tb; have := HQl.out; omega
            go_wp2_with fail
            go_quiet (fail)
            go_wp2_with fail
            have hxx := (HTx3.out.below (drew_below w3 nq)).count (t : Int)
            have HXn := HX3.out.trans ((drew_below w3 nq).mono HX3.out.size)
            have hqq := (HQq.out.below (drew_below w3 nq)).stay (OnlyS.set b 3 (w3.drewN nq) (.int .i64 (t : Int))) hbQ (.inl rfl) (.inl rfl)
            refine (ask_out HT.out HTa.out hxx.1 HG2.out g3 g4 hqq HQT.out HQl.out ((OnlyS.of_below HXn).trans hxx.2) HXX.out.symm HE0.out HC.out HD.out).mono ?_
            rintro e w4 ⟨rfl, hr⟩
            have HRr := Lib.hid hr
            clear hr hxx HXn hqq
            go_wp2_with fail
            go_ret2
            exact ⟨rfl, HRr.out⟩
end
end Go.Proofs.YtlhhopanegnliaaGreatDoor
