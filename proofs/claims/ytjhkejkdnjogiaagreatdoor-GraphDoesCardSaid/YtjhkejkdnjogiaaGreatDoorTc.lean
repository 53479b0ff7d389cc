/- A table: a node comes to a place, and goes. -/
import Derived.Test.YtjhkejkdnjogiaaGreatDoorTt
namespace Go.Proofs.YtjhkejkdnjogiaaGreatDoor
open Go Go.RowKit Go.Shelf
set_option maxRecDepth 100000

/-- a table lies in memory, and what always holds of its nodes does -/
structure Tx (W : World) (b : Nat) (T : Nat → Prop) (m : Nat) (mr : Int) (c : Nat) (ns : Ns) (r : Int) (C : Pa.Pt → Cx) (B0 : Nat) : Prop where
  is : ∃ ha mb S O nb t fs F, Tw W b ha mb S O m mr r nb t ns fs F B0 ∧ Ok ns fs F C ∧ nb ≤ 4 + c ∧ -(c : Int) ≤ t ∧ t ≤ 2 * (nb : Int) ∧ ∀ k, T k ↔ Foot b S O ns k
section
variable {W W' w' : World} {T : Nat → Prop} {b B0 m c i B : Nat} {mr r : Int} {ns ns' : Ns} {fs fs' : List Nat} {n : Nd} {p : Pa.Pt} {C : Pa.Pt → Cx}
theorem Tx.below (h : Tx W b T m mr c ns r C B0) (hb : Below W.heap.size W W') : Tx W' b T m mr c ns r C B0 := by
  obtain ⟨ha, mb, S, O, nb, t, fs, F, h1, h2⟩ := h.is
  exact ⟨ha, mb, S, O, nb, t, fs, F, h1.below hb, h2⟩
theorem Tx.drew (h : Tx W b T m mr c ns r C B0) : Tx W.drew b T m mr c ns r C B0 := h.below (Below.refl _ _).drew
theorem Tx.lt (h : Tx W b T m mr c ns r C B0) {k : Nat} (hk : T k) : B0 ≤ k ∧ k < W.heap.size := by
  obtain ⟨ha, mb, S, O, nb, t, fs, F, h1, h2, h3, h4, h5, h6⟩ := h.is
  exact ⟨h1.lo k ((h6 k).1 hk), h1.flt k ((h6 k).1 hk)⟩
theorem Tx.z (h : Tx W b T m mr c ns r C B0) : 0 < B0 := by
  obtain ⟨ha, mb, S, O, nb, t, fs, F, h1, h2⟩ := h.is
  exact h1.z
theorem Tx.tb (h : Tx W b T m mr c ns r C B0) : T b := by
  obtain ⟨ha, mb, S, O, nb, t, fs, F, h1, h2, h3, h4, h5, h6⟩ := h.is
  exact (h6 b).2 (.inl (.inl rfl))
theorem Tx.more (h : Tx W b T m mr c ns r C B0) {c' : Nat} (hc : c ≤ c') : Tx W b T m mr c' ns r C B0 := by
  obtain ⟨ha, mb, S, O, nb, t, fs, F, h1, h2, h3, h4, h5, h6⟩ := h.is
  exact ⟨ha, mb, S, O, nb, t, fs, F, h1, h2, by omega, by omega, h5, h6⟩
theorem Tx.inv (h : Tx W b T m mr c ns r C B0) (p : Pa.Pt) : Inv (C p).1 (C p).2 := by
  obtain ⟨ha, mb, S, O, nb, t, fs, F, h1, h2, h3⟩ := h.is
  exact h2.inv p
theorem Tx.size (h : Tx W b T m mr c ns r C B0) (p : Pa.Pt) : (C p).1.length + (C p).2.length ≤ tot ns := by
  obtain ⟨ha, mb, S, O, nb, t, fs, F, h1, h2, h3⟩ := h.is
  exact h2.size p
theorem Tx.usm (h : Tx W b T m mr c ns r C B0) : us ns ≤ m ∧ m ≤ 4096 := by
  obtain ⟨ha, mb, S, O, nb, t, fs, F, h1, h2, h3⟩ := h.is
  have := h1.ar.bounds
  rw [pls_len] at this
  have := us_le ns
  omega
theorem Tx.cy (h : Tx W b T m mr c ns r C B0) (hi : Isn ns i n) : C n.p = (n.H, n.L) := by
  obtain ⟨ha, mb, S, O, nb, t, fs, F, h1, h2, h3⟩ := h.is
  exact h2.cy i n hi
theorem Tx.cn (h : Tx W b T m mr c ns r C B0) (hn : ∀ i n, Isn ns i n → n.p ≠ p) : C p = ([], []) := by
  obtain ⟨ha, mb, S, O, nb, t, fs, F, h1, h2, h3⟩ := h.is
  exact h2.cn p hn
theorem Tx.right (h : Tx W b T m mr c ns r C B0) (hi : Isn ns i n) : Pa.rightB n.p = true := by
  obtain ⟨ha, mb, S, O, nb, t, fs, F, h1, h2, h3⟩ := h.is
  exact (h2.right i n hi).1
theorem Tx.its (h : Tx W b T m mr c ns r C B0) : ∃ ha mb, Calls Tryz.prog 66 #[tp b] W fun e w' => e = .returned (tv (An.wp ha) (Bu.wp mb) (.int .i64 mr) (.int .i64 r)) ∧ Below W.heap.size W w' := by
  obtain ⟨ha, mb, S, O, nb, t, fs, F, h1, h2, h3⟩ := h.is
  exact ⟨ha, mb, h1.its⟩
theorem Tx.refuses (h : Tx W b T m mr c ns r C B0) (p : Pa.Pt) : Calls Tryz.prog 48 #[tp b, p.v] W fun e w' => e = .returned (.int .i64 (errP p)) ∧ Below W.heap.size W w' := by
  obtain ⟨ha, mb, S, O, nb, t, fs, F, h1, h2, h3⟩ := h.is
  exact refuses_t h1 p
theorem Tx.find_yes (h : Tx W b T m mr c ns r C B0) (hi : Isn ns i n) : Calls Tryz.prog 32 #[tp b, n.p.v] W fun e w' => e = .returned (.tuple #[qp n.q, .bool true]) ∧ Below W.heap.size W w' := by
  obtain ⟨ha, mb, S, O, nb, t, fs, F, h1, h2, h3⟩ := h.is
  exact Go.Proofs.YtjhkejkdnjogiaaGreatDoor.find_yes h1 hi (h2.fy i n hi)
theorem Tx.find_no (h : Tx W b T m mr c ns r C B0) (hn : ∀ i n, Isn ns i n → n.p ≠ p) : Calls Tryz.prog 32 #[tp b, p.v] W fun e w' => ∃ B, e = .returned (.tuple #[qp B, .bool false]) ∧ QAt w' B none 0 none 0 [] [] ∧ Below W.heap.size W w' ∧ W.heap.size ≤ B := by
  obtain ⟨ha, mb, S, O, nb, t, fs, F, h1, h2, h3⟩ := h.is
  exact Go.Proofs.YtjhkejkdnjogiaaGreatDoor.find_no h1 p (h2.fnp hn)
/-- what a node has was changed -/
theorem Tx.queue (h : Tx W b T m mr c ns r C B0) (hi : Isn ns i n) : ∃ A1 c1 A2 c2, QAt W n.q A1 c1 A2 c2 n.H n.L ∧
    ∀ w' H L, Left n.q W (A1, n.H) (A2, n.L) H L w' → Inv H L → Tx w' b T m mr c (ns.set i (some ⟨n.p, n.q, H, L⟩)) r (upC C n.p (H, L)) B0 ∧ OnlyS T W w' := by
  obtain ⟨ha, mb, S, O, nb, t, fs, F, h1, h2, h3, h4, h5, h6⟩ := h.is
  obtain ⟨A1, c1, A2, c2, hq, hk⟩ := h1.queue hi
  refine ⟨A1, c1, A2, c2, hq, fun w' H L hl hv => ?_⟩
  obtain ⟨k1, k2⟩ := hk w' H L hl
  refine ⟨⟨ha, mb, S, O, nb, t, fs, F, k1, h2.turn hi hv, h3, h4, h5, fun k => ?_⟩, k2.mono fun k _ e => (h6 k).2 (.inr ⟨i, n, hi, e.symm⟩)⟩
  rw [h6 k]
  unfold Foot
  refine or_congr_right ⟨?_, ?_⟩
  · rintro ⟨j, a, hj, e⟩
    by_cases q : j = i
    · subst q
      have e1 : n = a := by unfold Isn at hi hj; rw [hi] at hj; cases hj; rfl
      subst e1
      exact ⟨j, _, (isn_set hi.lt).2 (.inl ⟨rfl, rfl⟩), e⟩
    · exact ⟨j, a, (isn_set hi.lt).2 (.inr ⟨q, hj⟩), e⟩
  · rintro ⟨j, a, hj, e⟩
    rcases (isn_set hi.lt).1 hj with ⟨ej, hj⟩ | ⟨ej, hj⟩
    · cases hj; exact ⟨i, n, hi, e⟩
    · exact ⟨j, a, hj, e⟩
theorem Tx.count (h : Tx W b T m mr c ns r C B0) (r' : Int) : Tx (W.setCell ⟨b, 3, none⟩ (.int .i64 r')) b T m mr c ns r' C B0 ∧ OnlyS T W (W.setCell ⟨b, 3, none⟩ (.int .i64 r')) := by
  have ht := h.tb
  obtain ⟨ha, mb, S, O, nb, t, fs, F, h1, h2⟩ := h.is
  exact ⟨⟨ha, mb, S, O, nb, t, fs, F, h1.count r', h2⟩, (OnlyS.set b 3 W _).mono fun k _ e => by rw [e]; exact ht⟩
theorem Tx.cells (h : Tx W b T m mr c ns r C B0) : W.cell? ⟨b, 2, none⟩ = some (.int .i64 mr) ∧ W.cell? ⟨b, 3, none⟩ = some (.int .i64 r) ∧ W.frozen? ⟨b, 3, none⟩ = false := by
  obtain ⟨ha, mb, S, O, nb, t, fs, F, h1, h2⟩ := h.is
  exact ⟨h1.e2, h1.e3, h1.fz⟩
end
section
variable {W W' w' : World} {T : Nat → Prop} {b ha mb B0 m nb i B : Nat} {S O : Nat → Prop} {mr r t : Int} {ns ns' : Ns} {fs fs' : List Nat} {F : Int → Option Int} {n : Nd} {p : Pa.Pt} {C : Pa.Pt → Cx}
theorem Tw.put (h : Tw W b ha mb S O m mr r nb t ns fs F B0) (p : Pa.Pt) (v : Int) (h1 : -1000 ≤ t) (h2 : t ≤ 2 * (nb : Int)) (h3 : nb < 249) :
    Calls Tryz.prog 90 #[Bu.wp mb, .int .u64 (Pa.keyP p), .int .i64 v] W fun e w' => ∃ u O' nb' t', e = .returned (.bool u) ∧ Tw w' b ha mb S O' m mr r nb' t' ns fs (Bu.putF F (Pa.keyP p) (some v)) B0 ∧ OnlyS O W w' ∧ (∀ k, O' k → O k ∨ W.heap.size ≤ k) ∧ nb' ≤ nb + 1 ∧ t ≤ t' ∧ t' ≤ 2 * (nb' : Int) := by
  obtain ⟨Lo, hm⟩ := h.mq
  refine (hm.put (Pa.key_bd p) v h1 h2 h3).mono ?_
  rintro e w' ⟨nb', t', u, hd, g1, g2, g3, g4, g5, -⟩
  obtain ⟨rfl, O', k1, k2, k3⟩ := h.map hd
  exact ⟨u, O', nb', t', rfl, k1, k2, k3, g2, g3, g5⟩
theorem Tw.dropk (h : Tw W b ha mb S O m mr r nb t ns fs F B0) (p : Pa.Pt) (h1 : -1000 ≤ t) (h2 : t ≤ 2 * (nb : Int)) (h3 : nb < 249) :
    Calls Tryz.prog 139 #[Bu.wp mb, .int .u64 (Pa.keyP p)] W fun e w' => ∃ u O' nb' t', e = .returned (.bool u) ∧ Tw w' b ha mb S O' m mr r nb' t' ns fs (Bu.putF F (Pa.keyP p) none) B0 ∧ OnlyS O W w' ∧ (∀ k, O' k → O k ∨ W.heap.size ≤ k) ∧ nb' ≤ nb ∧ t - 1 ≤ t' ∧ t' ≤ 2 * (nb' : Int) := by
  obtain ⟨Lo, hm⟩ := h.mq
  refine (hm.drop (Pa.key_bd p) h1 h2 h3).mono ?_
  rintro e w' ⟨nb', t', u, hd, g1, g2, g3, g4⟩
  obtain ⟨rfl, O', k1, k2, k3⟩ := h.map hd
  exact ⟨u, O', nb', t', rfl, k1, k2, k3, g1, g2, g4⟩
/-- the place that a new node comes to -/
theorem Tw.take (h : Tw W b ha mb S O m mr r nb t ns fs F B0) (hk : Ok ns fs F C) (hB : ¬ Foot b S O ns B) (hB0 : B0 ≤ B) (hp : Pa.rightB p = true) (hn : ∀ i n, Isn ns i n → n.p ≠ p) (hr : us ns < m) (hq : QAt W B none 0 none 0 [] []) :
    ∃ (i : Nat) (ns' : Ns) (fs' : List Nat), Ok ns' fs' (Bu.putF F (Pa.keyP p) (some (i : Int))) C ∧ Isn ns' i ⟨p, B, [], []⟩ ∧ tot ns' = tot ns ∧ us ns' = us ns + 1 ∧ (∀ j a, Isn ns' j a ↔ Isn ns j a ∨ (j = i ∧ a = ⟨p, B, [], []⟩)) ∧
      ∀ W', Below W.heap.size W W' → Calls Tryz.prog 89 #[An.wp ha, An.hv p B] W' fun e w' => e = .returned (.tuple #[.int .i64 (i : Int), .bool true]) ∧ ∃ S', Tw w' b ha mb S' O m mr r nb t ns' fs' F B0 ∧ OnlyS S W' w' ∧ ∀ k, S' k → S k ∨ W'.heap.size ≤ k := by
  have hqB : ∀ i n, Isn ns i n → n.q ≠ B := fun i n hi e => hB (.inr ⟨i, n, hi, e⟩)
  have hKB : ¬ Kb b S O B := fun e => hB (.inl e)
  have hcnt := hk.cnt
  rcases List.eq_nil_or_concat fs with rfl | ⟨gs, i, rfl⟩
  · simp only [List.length_nil, Nat.add_zero] at hcnt
    have hok := hk.add_new hp hn hqB
    have hiff : ∀ j a, Isn (ns ++ [some ⟨p, B, [], []⟩]) j a ↔ Isn ns j a ∨ (j = ns.length ∧ a = ⟨p, B, [], []⟩) := fun j a => by
      rw [isn_app]
      simp only [Option.some.injEq]
      exact or_congr_right (and_congr_right fun _ => eq_comm)
    refine ⟨ns.length, ns ++ [some ⟨p, B, [], []⟩], [], hok, (hiff _ _).2 (.inr ⟨rfl, rfl⟩), ?_, ?_, hiff, fun W' hb => ?_⟩
    · have := sm_app szN ns (some ⟨p, B, [], []⟩)
      unfold tot
      rw [this]; rfl
    · have := sm_app oneN ns (some ⟨p, B, [], []⟩)
      unfold us
      rw [this]; rfl
    · have hA := An.take_new ((h.below hb).ar) p B (by rw [pls_len]; omega)
      rw [pls_len] at hA
      refine hA.mono fun e w' hd => ?_
      have e1 : pls ns ++ [some (p, B)] = pls (ns ++ [some ⟨p, B, [], []⟩]) := by rw [pls_app]; rfl
      rw [e1] at hd
      refine (h.below hb).arena hd (fun j a hj => ?_) (fun j a k d hj hk' e => hok.one j a k d hj hk' (.inr e))
      rcases (hiff j a).1 hj with hj | ⟨-, rfl⟩
      · exact .inl ⟨j, hj⟩
      · exact .inr ⟨hq.below hb, rfl, rfl, hKB, hB0⟩
  · rw [List.concat_eq_append] at hk hcnt h
    have h0 := (hk.fr i).1 (by simp)
    have hl : i < ns.length := (List.getElem?_eq_some_iff.1 h0).1
    have hok := hk.add_old hp hn hqB
    have hiff : ∀ j a, Isn (ns.set i (some ⟨p, B, [], []⟩)) j a ↔ Isn ns j a ∨ (j = i ∧ a = ⟨p, B, [], []⟩) := fun j a => by
      rw [isn_set hl]
      simp only [Option.some.injEq]
      constructor
      · rintro (⟨e, q⟩ | ⟨-, q⟩)
        · exact .inr ⟨e, q.symm⟩
        · exact .inl q
      · rintro (q | ⟨e, q⟩)
        · refine .inr ⟨fun e => ?_, q⟩
          subst e
          unfold Isn at q
          rw [h0] at q; cases q
        · exact .inl ⟨e, q.symm⟩
    refine ⟨i, ns.set i (some ⟨p, B, [], []⟩), gs, hok, (hiff _ _).2 (.inr ⟨rfl, rfl⟩), ?_, ?_, hiff, fun W' hb => ?_⟩
    · have := sm_set szN (some ⟨p, B, [], []⟩) h0
      simp [szN] at this
      exact this
    · have := sm_set oneN (some ⟨p, B, [], []⟩) h0
      simp [oneN] at this
      exact this
    · have hA := An.take_old ((h.below hb).ar) p B (by rw [pls_len]; exact hl)
      refine hA.mono fun e w' hd => ?_
      have e1 : (pls ns).set i (some (p, B)) = pls (ns.set i (some ⟨p, B, [], []⟩)) := by rw [pls_set]; rfl
      rw [e1] at hd
      refine (h.below hb).arena hd (fun j a hj => ?_) (fun j a k d hj hk' e => hok.one j a k d hj hk' (.inr e))
      rcases (hiff j a).1 hj with hj | ⟨-, rfl⟩
      · exact .inl ⟨j, hj⟩
      · exact .inr ⟨hq.below hb, rfl, rfl, hKB, hB0⟩
/-- a node has a place now -/
def Laid (W : World) (b : Nat) (T : Nat → Prop) (m : Nat) (mr : Int) (c : Nat) (ns : Ns) (r : Int) (C : Pa.Pt → Cx) (B0 : Nat) (p : Pa.Pt) (B : Nat) (e : Ending) (w' : World) : Prop :=
  e = .returned (.tuple #[]) ∧ ∃ T' ns' i, Tx w' b T' m mr (c + 1) ns' r C B0 ∧ Isn ns' i ⟨p, B, [], []⟩ ∧ tot ns' = tot ns ∧ us ns' = us ns + 1 ∧ (∀ j a, Isn ns' j a ↔ Isn ns j a ∨ (j = i ∧ a = ⟨p, B, [], []⟩)) ∧ OnlyS T W w' ∧ ∀ k, T' k → T k ∨ k = B ∨ W.heap.size ≤ k
set_option maxHeartbeats 1000000 in
theorem lay_any {c : Nat} (h : Tx W b T m mr c ns r C B0) (hc : c ≤ 240) (hB : ¬ T B) (hB0 : B0 ≤ B) (hp : Pa.rightB p = true) (hn : ∀ i n, Isn ns i n → n.p ≠ p) (hr : us ns < m) (hq : QAt W B none 0 none 0 [] []) :
    Calls Tryz.prog 51 #[tp b, p.v, qp B] W (Laid W b T m mr c ns r C B0 p B) := by
  obtain ⟨ha, mb, S, O, nb, t, fs, F, h1, h2, h3, h4, h5, h6⟩ := h.is
  have hx := box_below W (.cells (pcs p) 25)
  have hB' : ¬ Foot b S O ns B := fun e => hB ((h6 B).2 e)
  obtain ⟨i, ns', fs', k1, k2, k3, k4, k5, k6⟩ := (h1.below hx).take h2 hB' hB0 hp hn hr (hq.below hx)
  have h1x := h1.below hx
  have e0 := h1x.e0
  have hlt := box_lt W (.cells (pcs p) 25)
  have hblt := h1.blt
  have HT := Lib.hid (fun W' hb => k6 W' hb)
  have HK := Lib.hid (fun (w : World) => Pa.key_any p w)
  have hB1 := Pbx.new W p 25
  have b0 := hB1.c0
  have b1 := hB1.c1
  have b2 := hB1.c2
  have b3 := hB1.c3
  have b4 := hB1.c4
  have HF := Lib.hid (fun (w2 w3 w4 : World) (S' O' : Nat → Prop) (nb' : Nat) (t' : Int) (ho2 : OnlyS S (W.alloc (.cells (pcs p) 25)) w2) (hs : ∀ k, S' k → S k ∨ (W.alloc (.cells (pcs p) 25)).heap.size ≤ k) (hb3 : Below w2.heap.size w2 w3)
      (hT : Tw w4 b ha mb S' O' m mr r nb' t' ns' fs' (Bu.putF F (Pa.keyP p) (some (i : Int))) B0) (ho4 : OnlyS O w3 w4) (ho : ∀ k, O' k → O k ∨ w3.heap.size ≤ k) (g1 : nb' ≤ nb + 1) (g2 : t ≤ t') (g3 : t' ≤ 2 * (nb' : Int)) =>
    (show Laid W b T m mr c ns r C B0 p B (.returned (.tuple #[])) w4 from by
      have hs2 : W.heap.size ≤ w2.heap.size := Nat.le_trans hx.size ho2.size
      refine ⟨rfl, Foot b S' O' ns', ns', i, ⟨ha, mb, S', O', nb', t', fs', _, hT, k1, by omega, by omega, g3, fun k => Iff.rfl⟩, k2, k3, k4, k5, ?_, ?_⟩
      · have q1 : OnlyS T W (W.alloc (.cells (pcs p) 25)) := OnlyS.of_below hx
        have q2 : OnlyS T W w2 := q1.trans (ho2.mono fun k _ hk => (h6 k).2 (.inl (.inr (.inl hk))))
        have q3 : OnlyS T W w3 := q2.trans (OnlyS.of_below hb3)
        exact q3.trans (ho4.mono fun k _ hk => (h6 k).2 (.inl (.inr (.inr hk))))
      · rintro k (hk | ⟨j, a, hj, rfl⟩)
        · rcases hk with hk | hk | hk
          · exact .inl ((h6 k).2 (.inl (.inl hk)))
          · rcases hs k hk with q | q
            · exact .inl ((h6 k).2 (.inl (.inr (.inl q))))
            · exact .inr (.inr (Nat.le_trans hx.size q))
          · rcases ho k hk with q | q
            · exact .inl ((h6 k).2 (.inl (.inr (.inr q))))
            · exact .inr (.inr (Nat.le_trans hs2 (Nat.le_trans hb3.size q)))
        · rcases (k5 j a).1 hj with hj | ⟨-, rfl⟩
          · exact .inl ((h6 _).2 (.inr ⟨j, a, hj, rfl⟩))
          · exact .inr (.inl rfl)))
  have HS := Lib.hid (fun k (hk : S k) => (h1.ar.lt hk).2)
  have HB := Lib.hid hB1
  have HN := Lib.hid (And.intro (show nb < 249 by omega) (And.intro (show -1000 ≤ t by omega) h5))
  clear h h1 h2 h3 h4 h5 h6 hx hB' k1 k2 k3 k4 k5 k6 h1x hB1 hp hn hr hq hB hB0
  obtain ⟨pa, pb, pc, pd, pe⟩ := p
  simp only at *
  go_enter Tryz.func51, Tryz.ntmps51
  go_wp2
  generalize W.alloc (.cells #[.int .i64 pa, .int .i64 pb, .int .i64 pc, .int .i64 pd, .int .i64 pe] 25) = W1 at *
  go_region_law (first | (go_simp; go_at_call 89; refine (HT.out _ (Below.refl _ _).drew).mono ?_; rintro e w2 ⟨rfl, S', hT2, ho2, hs2⟩))
  all_goals
    have ho3 : OnlyS S W1 w2 := ⟨ho2.os, ho2.tape, ho2.output, ho2.size, ho2.block⟩
    have hB2 := HB.out.only ho3 (fun hk => by have := HS.out _ hk; omega)
    have b0 := hB2.c0
    have b1 := hB2.c1
    have b2 := hB2.c2
    have b3 := hB2.c3
    have b4 := hB2.c4
    simp only at b0 b1 b2 b3 b4
    have e1 := hT2.e1
    have HT2 := Lib.hid hT2
    have HO2 := Lib.hid ho3
    have HS2 := Lib.hid (show ∀ k, S' k → S k ∨ W1.heap.size ≤ k from hs2)
    have hlt2 : W.heap.size < w2.heap.size := Nat.lt_of_lt_of_le hlt ho3.size
    have hbl2 := hT2.blt
    clear hT2 ho2 hs2 ho3 hB2 HT HB
    go_wp2_with fail
    go_region_law (first
      | (go_simp; go_at_call 68; refine (HK.out _).mono ?_; rintro e w3 ⟨rfl, hb3⟩; have hb4 := undrew hb3; have HT3 := Lib.hid (HT2.out.below hb4); have j1 := HT3.out.e1)
      | (go_simp; go_at_call 90; refine (HT3.out.put _ _ HN.out.2.1 HN.out.2.2 HN.out.1).mono ?_; rintro e w4 ⟨u, O', nb', t', rfl, hT4, ho4, hk4, g1, g2, g3⟩))
    all_goals
      have HE := Lib.hid (HF.out w2 w3 w4 S' O' nb' t' HO2.out HS2.out hb4 hT4 ho4 hk4 g1 g2 g3)
      clear hT4 ho4 hk4 hb3 hb4
      go_wp2
      go_end0
      exact HE.out
/-- a node has gone -/
def Freed (W : World) (b : Nat) (T : Nat → Prop) (m : Nat) (mr : Int) (c : Nat) (ns : Ns) (r : Int) (C : Pa.Pt → Cx) (B0 i : Nat) (e : Ending) (w' : World) : Prop :=
  e = .returned (.tuple #[]) ∧ ∃ T' ns', Tx w' b T' m mr (c + 1) ns' r C B0 ∧ tot ns' = tot ns ∧ us ns' + 1 = us ns ∧ (∀ j a, Isn ns' j a ↔ j ≠ i ∧ Isn ns j a) ∧ OnlyS T W w' ∧ ∀ k, T' k → T k ∨ W.heap.size ≤ k
set_option maxHeartbeats 1000000 in
theorem drop_any {c : Nat} (h : Tx W b T m mr c ns r C B0) (hc : c ≤ 240) (hi : Isn ns i n) (hH : n.H = []) (hL : n.L = []) :
    Calls Tryz.prog 91 #[tp b, n.p.v] W (Freed W b T m mr c ns r C B0 i) := by
  obtain ⟨ha, mb, S, O, nb, t, fs, F, h1, h2, h3, h4, h5, h6⟩ := h.is
  have hx := box_below W (.cells (pcs n.p) 25)
  have hok := h2.drop hi hH hL
  have hl := hi.lt
  have hiff : ∀ j a, Isn (ns.set i none) j a ↔ j ≠ i ∧ Isn ns j a := fun j a => by
    rw [isn_set hl]
    simp
  have hus := sm_set oneN none hi
  have htt := sm_set szN none hi
  simp only [oneN, szN, hH, hL, List.length_nil, Nat.add_zero] at hus htt
  have hfl : fs.length < (pls ns).length := by
    rw [pls_len]
    have := h2.cnt
    have := sm_ge (f := oneN) hi
    simp only [oneN] at this
    unfold us at *
    omega
  have HG := Lib.hid (fun (W' : World) (hb : Below W.heap.size W W') => (show Calls Tryz.prog 67 #[Bu.wp mb, .int .u64 (Pa.keyP n.p)] W' fun e w' => e = .returned (.tuple #[.int .i64 (i : Int), .bool true]) ∧ Below W'.heap.size W' w' from by
    have := (h1.below hb).get n.p
    rw [h2.fy i n hi] at this
    exact this))
  have HR := Lib.hid (fun (W' : World) (hb : Below W.heap.size W W') => (show Calls Tryz.prog 138 #[An.wp ha, .int .i64 (i : Int)] W' fun e w' => e = .returned (.bool true) ∧ ∃ S', Tw w' b ha mb S' O m mr r nb t (ns.set i none) (fs ++ [i]) F B0 ∧ OnlyS S W' w' ∧ ∀ k, S' k → S k ∨ W'.heap.size ≤ k from by
    refine (An.free_yes (h1.below hb).ar (pls_at hi) hfl).mono fun e w' hd => ?_
    have e1 : (pls ns).set i none = pls (ns.set i none) := by rw [pls_set]; rfl
    rw [e1] at hd
    exact (h1.below hb).arena hd (fun j a hj => .inl ⟨j, ((hiff j a).1 hj).2⟩) (fun j a k d hj hk' e => hok.one j a k d hj hk' (.inr e))))
  have HK := Lib.hid (fun (w : World) => Pa.key_any n.p w)
  have HN := Lib.hid (And.intro (show nb < 249 by omega) (And.intro (show -1000 ≤ t by omega) h5))
  have HF := Lib.hid (fun (w2 w3 w4 : World) (S' O' : Nat → Prop) (nb' : Nat) (t' : Int) (hb : Below W.heap.size W w2) (ho2 : OnlyS S w2 w3) (hs : ∀ k, S' k → S k ∨ w2.heap.size ≤ k)
      (hT : Tw w4 b ha mb S' O' m mr r nb' t' (ns.set i none) (fs ++ [i]) (Bu.putF F (Pa.keyP n.p) none) B0) (ho4 : OnlyS O w3 w4) (ho : ∀ k, O' k → O k ∨ w3.heap.size ≤ k) (g1 : nb' ≤ nb) (g2 : t - 1 ≤ t') (g3 : t' ≤ 2 * (nb' : Int)) =>
    (show Freed W b T m mr c ns r C B0 i (.returned (.tuple #[])) w4 from by
      refine ⟨rfl, Foot b S' O' (ns.set i none), ns.set i none, ⟨ha, mb, S', O', nb', t', _, _, hT, hok, by omega, by omega, g3, fun k => Iff.rfl⟩, htt, hus, hiff, ?_, ?_⟩
      · have q1 : OnlyS T W w2 := OnlyS.of_below hb
        exact (q1.trans (ho2.mono fun k _ hk => (h6 k).2 (.inl (.inr (.inl hk))))).trans (ho4.mono fun k _ hk => (h6 k).2 (.inl (.inr (.inr hk))))
      · rintro k (hk | ⟨j, a, hj, rfl⟩)
        · rcases hk with hk | hk | hk
          · exact .inl ((h6 k).2 (.inl (.inl hk)))
          · rcases hs k hk with q | q
            · exact .inl ((h6 k).2 (.inl (.inr (.inl q))))
            · exact .inr (Nat.le_trans hb.size q)
          · rcases ho k hk with q | q
            · exact .inl ((h6 k).2 (.inl (.inr (.inr q))))
            · exact .inr (Nat.le_trans hb.size (Nat.le_trans ho2.size q))
        · exact .inl ((h6 _).2 (.inr ⟨j, a, ((hiff j a).1 hj).2, rfl⟩))))
  have HB := Lib.hid (Pbx.new W n.p 25)
  have HX := Lib.hid hx
  have HW := Lib.hid h1
  clear h h1 h2 h3 h4 h5 h6 hx hi hH hL hok hl hiff hus htt hfl
  obtain ⟨⟨pa, pb, pc, pd, pe⟩, q, H, L⟩ := n
  simp only at *
  go_enter Tryz.func91, Tryz.ntmps91
  go_wp2_with fail
  refine (HK.out _).mono ?_
  rintro e w1 ⟨rfl, hb1⟩
  have HX1 := Lib.hid (HX.out.trans (hb1.mono HX.out.size))
  have e1 := (HW.out.below HX1.out).e1
  have HG1 := Lib.hid (HG.out w1 HX1.out)
  clear hb1 HG HK HB HX
  go_wp2_with fail
  refine HG1.out.mono ?_
  rintro e w2 ⟨rfl, hb2⟩
  have HX2 := Lib.hid (HX1.out.trans (hb2.mono HX1.out.size))
  clear hb2 HG1 HX1 e1
  have e0 := (HW.out.below HX2.out).e0
  have HR2 := Lib.hid (HR.out w2 HX2.out)
  clear HR
  go_wp2_with fail
  refine HR2.out.mono ?_
  rintro e w3 ⟨rfl, S', hT3, ho3, hs3⟩
  have HO3 := Lib.hid ho3
  have HS3 := Lib.hid hs3
  have HD3 := Lib.hid (hT3.dropk (⟨pa, pb, pc, pd, pe⟩ : Pa.Pt) HN.out.2.1 HN.out.2.2 HN.out.1)
  have e1 := hT3.e1
  clear HR2 hT3 ho3 hs3 e0
  go_wp2_with fail
  refine HD3.out.mono ?_
  rintro e w4 ⟨u, O', nb', t', rfl, hT4, ho4, hk4, g1, g2, g3⟩
  have HE := Lib.hid (HF.out w2 w3 w4 S' O' nb' t' HX2.out HO3.out HS3.out hT4 ho4 hk4 g1 g2 g3)
  clear hT4 ho4 hk4 HD3 e1
  go_wp2
  go_end0
  exact HE.out
end
end Go.Proofs.YtjhkejkdnjogiaaGreatDoor
