/- A table: Ask. -/
import Derived.Test.YtjhkejkdnjogiaaGreatDoorTc
import Derived.BigQuiet
namespace Go.Proofs.YtjhkejkdnjogiaaGreatDoor
open Go Go.RowKit Go.Shelf
set_option maxRecDepth 100000

def szC (x : Cx) : Nat := x.1.length + x.2.length
/-- a table: so many of its blocks, places, nodes, holds and waits; what is at which node -/
structure Ta (W : World) (b : Nat) (T : Nat → Prop) (m : Nat) (mr : Int) (c : Nat) (C : Pa.Pt → Cx) (B0 u t : Nat) : Prop where
  is : ∃ ns, Tx W b T m mr c ns ((tot ns : Nat) : Int) C B0 ∧ (∀ i n, Isn ns i n → 0 < n.H.length + n.L.length) ∧ us ns = u ∧ tot ns = t ∧ t ≤ c ∧ (t : Int) ≤ mr ∧ mr ≤ 1024
/-- what an Ask at a node comes to: the answer, the error, what is there then -/
def askT (m : Nat) (mr : Int) (u t : Nat) (C : Pa.Pt → Cx) (tx : Int) (p : Pa.Pt) (md fl : Int) : Int × Int × Cx :=
  let X := ask tx md fl (C p).1 (C p).2
  if errP p ≠ 0 then (0, errP p, C p)
  else if X.2.1 ≠ 0 then (0, X.2.1, C p)
  else if (szC (C p) = 0 ∧ 0 < costV X (C p).1 (C p).2 ∧ u = m) ∨ mr - (t : Int) < costV X (C p).1 (C p).2 then (0, 10, C p)
  else (X.1, X.2.1, X.2.2)
section
variable {W W' w' w0 : World} {T : Nat → Prop} {b ha mb B0 m nb i B c Q : Nat} {S O : Nat → Prop} {mr r t : Int} {ns ns' : Ns} {fs fs' : List Nat} {F : Int → Option Int} {n : Nd} {p : Pa.Pt} {C : Pa.Pt → Cx}
variable {A1 A2 B1 B2 : Option Addr} {c1 c2 d1 d2 : Nat} {H H' : List Hs.Hd} {L L' : List Ws.Wt}
theorem szC_zero {x : Cx} (h : szC x = 0) : x = ([], []) := by
  obtain ⟨H, L⟩ := x
  unfold szC at h
  simp only at h
  rw [List.length_eq_zero_iff.1 (show H.length = 0 by omega), List.length_eq_zero_iff.1 (show L.length = 0 by omega)]
theorem setL_ge (tx m : Int) : ∀ H : List Hs.Hd, H.length ≤ (Hs.setL tx m H).length
  | [] => Nat.zero_le _
  | x :: xs => by
    have := setL_ge tx m xs
    unfold Hs.setL
    split <;> simp <;> omega
theorem ask_ge (tx m fl : Int) (H : List Hs.Hd) (L : List Ws.Wt) : H.length + L.length ≤ (ask tx m fl H L).2.2.1.length + (ask tx m fl H L).2.2.2.length := by
  rcases ask_cases tx m fl H L with ⟨_, _, _, e⟩ | ⟨_, _, e⟩ | ⟨_, _, _, e⟩ | ⟨_, _, _, _, e⟩ | ⟨_, _, _, _, e⟩ <;> rw [e] <;> simp only
  · exact Nat.le_refl _
  · exact Nat.le_refl _
  · unfold grantH
    split
    · exact Nat.le_refl _
    · have := setL_ge (reqW tx m fl H).1 (reqW tx m fl H).2.1 H
      omega
  · exact Nat.le_refl _
  · rw [Ws.ins_len]; omega
theorem TabG.onlyT (ht : TabG W) (ho : OnlyS T W W') (h0 : ¬ T 0) : TabG W' := by
  have hb := ho.block 0 ht.size h0
  exact ⟨Nat.lt_of_lt_of_le ht.size ho.size, fun i j hi hj => (World.cell?_of_block (w := W) (a := ⟨0, i * 7 + j, none⟩) hb).trans (ht.cell i j hi hj)⟩
/-- a queue beside was changed -/
theorem Tw.far (h : Tw W b ha mb S O m mr r nb t ns fs F B0) (hq : QAt W Q A1 c1 A2 c2 H L) (hQ : ¬ Foot b S O ns Q) (ho : OnlyS (· = Q) W W') : Tw W' b ha mb S O m mr r nb t ns fs F B0 := by
  have hnk : ¬ Kb b S O Q := fun e => hQ (.inl e)
  obtain ⟨f0, f1, f2, f3, f4⟩ := h.cells ho (fun e => hnk (.inl e.symm))
  obtain ⟨Lo, hm⟩ := h.mq
  refine ⟨f0, f1, f2, f3, f4, h.ar.keep ho (fun k hk e => hnk (.inr (.inl (by rw [← e]; exact hk)))), ⟨Lo, hm.only ho fun k hk e => hnk (.inr (.inr (by rw [← e]; exact hk)))⟩, ?_, h.qn, h.dq, h.so, h.sb, h.ob, h.lo, h.z⟩
  intro j a hj
  obtain ⟨A3, c3, A4, c4, q, o3, o4⟩ := h.qs j a hj
  exact ⟨A3, c3, A4, c4, q.far hq (fun e => hQ (.inr ⟨j, a, hj, e⟩)) ho, o3, o4⟩
theorem Tx.far (h : Tx W b T m mr c ns r C B0) (hq : QAt W Q A1 c1 A2 c2 H L) (hQ : ¬ T Q) (ho : OnlyS (· = Q) W W') : Tx W' b T m mr c ns r C B0 := by
  obtain ⟨ha, mb, S, O, nb, t, fs, F, h1, h2, h3, h4, h5, h6⟩ := h.is
  exact ⟨ha, mb, S, O, nb, t, fs, F, h1.far hq (fun e => hQ ((h6 Q).2 e)) ho, h2, h3, h4, h5, h6⟩
theorem Tx.size_us (h : Tx W b T m mr c ns r C B0) : us ns ≤ m := h.usm.1
/-- where a node's queue is found: in the table, or one that is new -/
def Fnd (W : World) (ns : Ns) (C : Pa.Pt → Cx) (p : Pa.Pt) (e : Ending) (w' : World) : Prop :=
  ∃ Q is, e = .returned (.tuple #[qp Q, .bool is]) ∧ Below W.heap.size W w' ∧ (∃ A1 c1 A2 c2, QAt w' Q A1 c1 A2 c2 (C p).1 (C p).2) ∧
    ((is = true ∧ ∃ i n, Isn ns i n ∧ n.p = p ∧ n.q = Q) ∨ (is = false ∧ (∀ i n, Isn ns i n → n.p ≠ p) ∧ W.heap.size ≤ Q ∧ QAt w' Q none 0 none 0 [] [] ∧ C p = ([], [])))
theorem Tx.find (h : Tx W b T m mr c ns r C B0) (p : Pa.Pt) : Calls Tryz.prog 32 #[tp b, p.v] W (Fnd W ns C p) := by
  by_cases hp : ∃ i n, Isn ns i n ∧ n.p = p
  · obtain ⟨i, n, hi, rfl⟩ := hp
    refine (h.find_yes hi).mono ?_
    rintro e w' ⟨rfl, hb⟩
    obtain ⟨A1, c1, A2, c2, hq, -⟩ := h.queue hi
    refine ⟨n.q, true, rfl, hb, ⟨A1, c1, A2, c2, ?_⟩, .inl ⟨rfl, i, n, hi, rfl, rfl⟩⟩
    rw [h.cy hi]
    exact hq.below hb
  · have hn : ∀ i n, Isn ns i n → n.p ≠ p := fun i n hi e => hp ⟨i, n, hi, e⟩
    refine (h.find_no hn).mono ?_
    rintro e w' ⟨B, rfl, hq, hb, hl⟩
    refine ⟨B, false, rfl, hb, ⟨none, 0, none, 0, ?_⟩, .inr ⟨rfl, hn, hl, hq, h.cn hn⟩⟩
    rw [h.cn hn]
    exact hq
theorem Tx.left (h : Tx W b T m mr c ns r C B0) : ∃ ha, W.cell? ⟨b, 0, none⟩ = some (.pointer (some ⟨ha, 0, none⟩)) ∧ ∀ k, Calls Tryz.prog 50 #[An.wp ha] (W.drewN k) fun e w' => e = .returned (.int .i64 ((m : Int) - (us ns : Int))) ∧ ∃ j, w' = (W.drewN k).drewN j := by
  obtain ⟨ha, mb, S, O, nb, t, fs, F, h1, h2, h3⟩ := h.is
  refine ⟨ha, h1.e0, fun k => ?_⟩
  obtain ⟨pv, fv, hA, -⟩ := (h1.below (drew_below W k)).ar
  have := An.left_any hA
  rw [pls_len] at this
  have hc := h2.cnt
  have e : (m : Int) - ((ns.length : Int) - (fs.length : Int)) = (m : Int) - (us ns : Int) := by omega
  rw [e] at this
  exact this
/-- a table's outcome of an Ask -/
def Askt (W : World) (b : Nat) (T : Nat → Prop) (m : Nat) (mr : Int) (c : Nat) (C : Pa.Pt → Cx) (B0 u t : Nat) (p : Pa.Pt) (Y : Int × Int × Cx) (e : Ending) (w' : World) : Prop :=
  e = .returned (.tuple #[.int .i64 Y.1, .int .i64 Y.2.1]) ∧ ∃ T' u' t', Ta w' b T' m mr (c + 1) (upC C p Y.2.2) B0 u' t' ∧ OnlyS T W w' ∧ (∀ k, T' k → T k ∨ W.heap.size ≤ k) ∧ (Y.2.1 ≠ 0 → u' = u ∧ t' = t) ∧ t' + szC (C p) = t + szC Y.2.2
/-- nothing was changed -/
theorem Askt.same {u t : Nat} {Y : Int × Int × Cx} {w : World} (h : Ta W b T m mr c C B0 u t) (hb : Below W.heap.size W w) (hY : Y.2.2 = C p) : Askt W b T m mr c C B0 u t p Y (.returned (.tuple #[.int .i64 Y.1, .int .i64 Y.2.1])) w := by
  obtain ⟨ns, h1, h2, h3, h4, h5, h6, h7⟩ := h.is
  refine ⟨rfl, T, u, t, ⟨ns, ?_, h2, h3, h4, by omega, h6, h7⟩, OnlyS.of_below hb, fun k hk => .inl hk, fun _ => ⟨rfl, rfl⟩, by rw [hY]⟩
  rw [hY, upC_id rfl]
  exact (h1.below hb).more (by omega)
/-- behind the table's count: the queue is asked, one that is in the table -/
theorem ask_in {u t : Nat} {tx md fl : Int} {w1 : World} {d : Int} (ht : TabG W) (h : Ta W b T m mr c C B0 u t) {T' : Nat → Prop} {ns' : Ns} (hx : Tx w1 b T' m mr (c + 1) ns' ((t : Int) + d) C B0) (hi : Isn ns' i n) (hp : n.p = p)
    (htt : tot ns' = t) (hne : ∀ j a, Isn ns' j a → j = i ∨ 0 < a.H.length + a.L.length) (ho : OnlyS T W w1) (hT' : ∀ k, T' k → T k ∨ W.heap.size ≤ k) (hc : c ≤ 240)
    {X : Ans} (hX : X = ask tx md fl (C p).1 (C p).2) (h0 : X.2.1 = 0) (hd : d = costV X (C p).1 (C p).2) (hmr : d ≤ mr - (t : Int)) (hpos : 0 < szC (C p) ∨ 0 < d) :
    Calls Tryz.prog 52 #[qp n.q, .int .i64 tx, .int .i64 md, .int .i64 fl] w1 (Askt W b T m mr c C B0 u t p (X.1, X.2.1, X.2.2)) := by
  subst hp
  obtain ⟨A1, c1, A2, c2, hq, hk⟩ := hx.queue hi
  have hC := hx.cy hi
  have hsz := sm_ge (f := szN) hi
  have hsz' : n.H.length + n.L.length ≤ t := by rw [← htt]; exact hsz
  obtain ⟨ns, g1, g2, g3, g4, g5, g6, g7⟩ := h.is
  have hT0 : ∀ k, T k → k < W.heap.size := fun k hk => (g1.lt hk).2
  have htab : TabG w1 := ht.onlyT ho (fun hk => by have := (g1.lt hk).1; have := g1.z; omega)
  rw [hC] at hX hd hpos
  simp only at hX hd
  refine (ask_any htab hq (by omega) (by omega) tx md fl).mono ?_
  rintro e w' ⟨rfl, hl⟩
  rw [← hX] at hl ⊢
  have hin := hx.inv n.p
  rw [hC] at hin
  obtain ⟨k1, k2⟩ := hk w' X.2.2.1 X.2.2.2 hl (by rw [hX]; exact hin.ask tx md fl)
  have hlen := ask_len tx md fl n.H n.L
  have hge := ask_ge tx md fl n.H n.L
  rw [← hX] at hlen hge
  have hset := sm_set szN (some ⟨n.p, n.q, X.2.2.1, X.2.2.2⟩) hi
  simp only [szN] at hset
  have hdv : d = ((X.2.2.1.length + X.2.2.2.length : Nat) : Int) - ((n.H.length + n.L.length : Nat) : Int) := by rw [hd]; unfold costV; rw [if_pos h0]
  have hpos' : 0 < X.2.2.1.length + X.2.2.2.length := by
    unfold szC at hpos
    simp only at hpos
    omega
  refine ⟨rfl, T', us (ns'.set i (some ⟨n.p, n.q, X.2.2.1, X.2.2.2⟩)), tot (ns'.set i (some ⟨n.p, n.q, X.2.2.1, X.2.2.2⟩)), ⟨_, ?_, ?_, rfl, rfl, ?_, ?_, g7⟩, ?_, hT', fun q => absurd h0 q, ?_⟩
  · have e : ((tot (ns'.set i (some ⟨n.p, n.q, X.2.2.1, X.2.2.2⟩)) : Nat) : Int) = (t : Int) + d := by unfold tot at *; omega
    rw [e]
    exact k1
  · intro j a hj
    rcases (isn_set hi.lt).1 hj with ⟨ej, hj⟩ | ⟨ej, hj⟩
    · cases hj; exact hpos'
    · rcases hne j a hj with q | q
      · exact absurd q ej
      · exact q
  · unfold tot at *; omega
  · unfold tot at *; omega
  · refine ⟨k2.os.trans ho.os, k2.tape.trans ho.tape, k2.output.trans ho.output, Nat.le_trans ho.size k2.size, fun k hk hn => ?_⟩
    exact (k2.block k (Nat.lt_of_lt_of_le hk ho.size) (fun z => by
      rcases hT' k z with q | q
      · exact hn q
      · omega)).trans (ho.block k hk hn)
  · rw [hC]
    unfold szC tot at *
    simp only
    omega
/-- a queue that is not in the table is asked for what costs nothing -/
theorem ask_out {u t : Nat} {tx md fl : Int} {w1 : World} (ht : TabG W) (h : Ta W b T m mr c C B0 u t) (hx : Tx w1 b T m mr c ns (t : Int) C B0) (hne : ∀ i n, Isn ns i n → 0 < n.H.length + n.L.length) (hu : us ns = u) (htt : tot ns = t)
    (hq : QAt w1 Q none 0 none 0 [] []) (hQ : ¬ T Q) (hQl : W.heap.size ≤ Q) (ho : OnlyS T W w1) {X : Ans} (hX : X = ask tx md fl (C p).1 (C p).2) (h0 : X.2.1 = 0) (hC : C p = ([], [])) (hd : costV X (C p).1 (C p).2 = 0) :
    Calls Tryz.prog 52 #[qp Q, .int .i64 tx, .int .i64 md, .int .i64 fl] w1 (Askt W b T m mr c C B0 u t p (X.1, X.2.1, X.2.2)) := by
  obtain ⟨ns0, g1, g2, g3, g4, g5, g6, g7⟩ := h.is
  have htab : TabG w1 := ht.onlyT ho (fun hk => by have := (g1.lt hk).1; have := g1.z; omega)
  rw [hC] at hX hd
  simp only at hX hd
  refine (ask_any htab hq (by simp) (by simp) tx md fl).mono ?_
  rintro e w' ⟨rfl, ⟨_, hl⟩⟩
  rw [← hX]
  have hz : X.2.2 = ([], []) := by
    refine szC_zero ?_
    unfold costV at hd
    rw [if_pos h0] at hd
    unfold szC
    simp only [List.length_nil] at hd
    omega
  refine ⟨rfl, T, u, t, ⟨ns, ?_, hne, hu, htt, by omega, g6, g7⟩, ?_, fun k hk => .inl hk, fun q => absurd h0 q, by rw [hz, hC]⟩
  · rw [htt, hz, upC_id hC]
    exact (hx.far hq hQ hl).more (by omega)
  · exact ⟨hl.os.trans ho.os, hl.tape.trans ho.tape, hl.output.trans ho.output, Nat.le_trans ho.size hl.size, fun k hk hn => (hl.block k (Nat.lt_of_lt_of_le hk ho.size) (fun z => by omega)).trans (ho.block k hk hn)⟩
end
end Go.Proofs.YtjhkejkdnjogiaaGreatDoor
/- A table: the walk of Ask. -/
namespace Go.Proofs.YtjhkejkdnjogiaaGreatDoor
open Go Go.RowKit Go.Shelf
set_option maxRecDepth 100000

section
variable {W W' w' w0 : World} {T : Nat → Prop} {b ha mb B0 m nb i B c Q u t : Nat} {mr : Int} {ns ns' : Ns} {n : Nd} {p : Pa.Pt} {C : Pa.Pt → Cx}
theorem errP_yes (h : errP p = 0) : Pa.rightB p = true := by
  unfold errP at h
  split at h
  · assumption
  · cases h
theorem errP_no (h : errP p ≠ 0) : errP p = 1 := by
  unfold errP at h ⊢
  split
  · rename_i q; rw [if_pos q] at h; exact absurd rfl h
  · rfl
/-- the table's block in a later world -/
structure Ct (w : World) (b ha : Nat) (mr r : Int) : Prop where
  e0 : w.cell? ⟨b, 0, none⟩ = some (.pointer (some ⟨ha, 0, none⟩))
  e2 : w.cell? ⟨b, 2, none⟩ = some (.int .i64 mr)
  e3 : w.cell? ⟨b, 3, none⟩ = some (.int .i64 r)
  fz : w.frozen? ⟨b, 3, none⟩ = false
  lt : b < w.heap.size
set_option maxHeartbeats 4000000 in
theorem Ta.ask (ht : TabG W) (h : Ta W b T m mr c C B0 u t) (hc : c ≤ 239) (tx md fl : Int) (p : Pa.Pt) :
    Calls Tryz.prog 25 #[tp b, .int .i64 tx, p.v, .int .i64 md, .int .i64 fl] W (Askt W b T m mr c C B0 u t p (askT m mr u t C tx p md fl)) := by
  have hx := box_below W (.cells (pcs p) 25)
  have HX := Lib.hid hx
  have HTa := Lib.hid h
  have HT := Lib.hid ht
  obtain ⟨ns, g1, g2, g3, g4, g5, g6, g7⟩ := h.is
  have HG1 := Lib.hid g1
  have HG2 := Lib.hid g2
  have HR := Lib.hid ((g1.below hx).refuses p)
  have HB := Lib.hid (Pbx.new W p 25)
  have HFi := Lib.hid (fun (w1 : World) (hb : Below W.heap.size W w1) => (g1.below hb).find p)
  have hinv := g1.inv p
  have hsz := g1.size p
  have hm0 := g1.usm
  by_cases he : errP p = 0
  case neg =>
    have HY := Lib.hid (show askT m mr u t C tx p md fl = (0, 1, C p) by unfold askT; simp only; rw [if_pos he, errP_no he])
    rw [HY.out]
    rw [errP_no he] at HR
    clear h ht hx g1 g2 g3 g4 g5 g6 g7 hinv hsz hm0 he
    obtain ⟨pa, pb, pc, pd, pe⟩ := p
    go_enter Tryz.func25, Tryz.ntmps25
    have hB1 := HB.out
    have b0 := hB1.c0
    have b1 := hB1.c1
    have b2 := hB1.c2
    have b3 := hB1.c3
    have b4 := hB1.c4
    simp only at b0 b1 b2 b3 b4
    clear hB1
    go_wp2_with fail
    refine HR.out.mono ?_
    rintro e w1 ⟨rfl, hb1⟩
    have HX1 := Lib.hid (HX.out.trans (hb1.mono HX.out.size))
    clear hb1 b0 b1 b2 b3 b4
    go_wp2_with fail
    go_ret2
    exact Askt.same HTa.out HX1.out rfl
  case pos =>
    have HPr := Lib.hid (errP_yes he)
    obtain ⟨X, hX⟩ : ∃ X, Go.Proofs.YtjhkejkdnjogiaaGreatDoor.ask tx md fl (C p).1 (C p).2 = X := ⟨_, rfl⟩
    obtain ⟨d, hd⟩ : ∃ d, costV X (C p).1 (C p).2 = d := ⟨_, rfl⟩
    have HY1 := Lib.hid (fun (q : X.2.1 ≠ 0) => (show askT m mr u t C tx p md fl = (0, X.2.1, C p) by unfold askT; simp only; rw [hX, if_neg (by rw [he]; simp), if_pos q]))
    have HY2 := Lib.hid (fun (q : X.2.1 = 0) (q2 : (szC (C p) = 0 ∧ 0 < d ∧ u = m) ∨ mr - (t : Int) < d) => (show askT m mr u t C tx p md fl = (0, 10, C p) by unfold askT; simp only; rw [hX, hd, if_neg (by rw [he]; simp), if_neg (by rw [q]; simp), if_pos q2]))
    have HY3 := Lib.hid (fun (q : X.2.1 = 0) (q2 : ¬ ((szC (C p) = 0 ∧ 0 < d ∧ u = m) ∨ mr - (t : Int) < d)) => (show askT m mr u t C tx p md fl = (X.1, X.2.1, X.2.2) by unfold askT; simp only; rw [hX, hd, if_neg (by rw [he]; simp), if_neg (by rw [q]; simp), if_neg q2]))
    have HCo := Lib.hid (fun (w : World) (hT : TabG w) (Q : Nat) (hq : ∃ A1 c1 A2 c2, QAt w Q A1 c1 A2 c2 (C p).1 (C p).2) => (show Calls Tryz.prog 49 #[qp Q, .int .i64 tx, .int .i64 md, .int .i64 fl] w fun e w' => e = .returned (.tuple #[.int .i64 d, .int .i64 X.2.1]) ∧ Below w.heap.size w w' from by
      obtain ⟨A1, c1, A2, c2, hq⟩ := hq
      have := cost_any hT hq (by omega) (by omega) tx md fl
      rw [hX, hd] at this
      exact this))
    have HXX := Lib.hid hX
    have HD := Lib.hid hd
    have hdd : X.2.1 = 0 → 0 ≤ d ∧ d ≤ 1 := fun q => by
      have q1 := ask_len tx md fl (C p).1 (C p).2
      have q2 := ask_ge tx md fl (C p).1 (C p).2
      rw [hX] at q1 q2
      rw [← hd]
      unfold costV
      rw [if_pos q]
      omega
    have HDd := Lib.hid hdd
    rw [he] at HR
    generalize hYY : askT m mr u t C tx p md fl = Y at *
    clear h ht hx g1 g2 hinv he hX hd hdd
    have HBx := Lib.hid (show ∃ K, W.heap.size ≤ K ∧ K = W.heap.size from ⟨_, Nat.le_refl _, rfl⟩)
    obtain ⟨pa, pb, pc, pd, pe⟩ := p
    go_enter Tryz.func25, Tryz.ntmps25
    have hB1 := HB.out
    have b0 := hB1.c0
    have b1 := hB1.c1
    have b2 := hB1.c2
    have b3 := hB1.c3
    have b4 := hB1.c4
    simp only at b0 b1 b2 b3 b4
    clear hB1
    go_wp2_with fail
    refine HR.out.mono ?_
    rintro e w1 ⟨rfl, hb1⟩
    have HX1 := Lib.hid (HX.out.trans (hb1.mono HX.out.size))
    have HB1 := Lib.hid (HB.out.below hb1)
    have b0 := HB1.out.c0
    have b1 := HB1.out.c1
    have b2 := HB1.out.c2
    have b3 := HB1.out.c3
    have b4 := HB1.out.c4
    simp only at b0 b1 b2 b3 b4
    have HF1 := Lib.hid (HFi.out w1 HX1.out)
    clear hb1 HR HB HX HFi HBx
    go_wp2_with fail
    refine HF1.out.mono ?_
    rintro e w2 ⟨Q, is, rfl, hb2, hq2, hor⟩
    have HX2 := Lib.hid (HX1.out.trans (hb2.mono HX1.out.size))
    have HB2 := Lib.hid (HB1.out.below hb2)
    have HC2 := Lib.hid (HCo.out w2 (HT.out.later HX2.out) Q hq2)
    have HQ2 := Lib.hid hor
    have HL1 := Lib.hid (Nat.le_trans HX1.out.size (Nat.le_refl _))
    clear hb2 hq2 hor HF1 HB1 b0 b1 b2 b3 b4
    go_wp2_with fail
    refine HC2.out.mono ?_
    rintro e w3 ⟨rfl, hb3⟩
    have HX3 := Lib.hid (HX2.out.trans (hb3.mono HX2.out.size))
    have HB3 := Lib.hid (HB2.out.below hb3)
    have HQ3 := Lib.hid (show (is = true ∧ ∃ i n, Isn ns i n ∧ n.p = ⟨pa, pb, pc, pd, pe⟩ ∧ n.q = Q) ∨ (is = false ∧ (∀ i n, Isn ns i n → n.p ≠ ⟨pa, pb, pc, pd, pe⟩) ∧ W.heap.size ≤ Q ∧ QAt w3 Q none 0 none 0 [] [] ∧ C ⟨pa, pb, pc, pd, pe⟩ = ([], [])) from
      HQ2.out.imp id fun ⟨a1, a2, a3, a4, a5⟩ => ⟨a1, a2, Nat.le_trans HX1.out.size a3, a4.below hb3, a5⟩)
    clear hb3 HC2 HCo HQ2 HB2 HX2 HX1 HL1
    by_cases h0 : X.2.1 = 0
    case neg =>
      obtain rfl := HY1.out h0
      have h0' : (X.2.1 == 0) = false := by simpa using h0
      go_wp2_with fail
      go_ret2
      exact Askt.same HTa.out HX3.out rfl
    case pos =>
      obtain ⟨d0, d1⟩ := HDd.out h0
      have HE0 := Lib.hid h0
      rw [h0]
      clear h0
      have hTx3 := HG1.out.below HX3.out
      obtain ⟨e2, e3, fz⟩ := hTx3.cells
      obtain ⟨ha, e0, hL⟩ := hTx3.left
      have HL := Lib.hid hL
      have hlt := (hTx3.lt hTx3.tb).2
      rw [g4] at e3
      rw [g3] at HL
      have HTx3 := Lib.hid hTx3
      have s1 : (0 : Int) ≤ (t : Int) := by omega
      have s2 : (t : Int) ≤ 239 := by omega
      have s3 : u ≤ m := by rw [← g3]; exact hm0.1
      have s4 : m ≤ 4096 := hm0.2
      clear hTx3 hL
      rcases HQ3.out with ⟨rfl, i, n, hi, hnp, rfl⟩ | ⟨rfl, hn, hQl, hq, hC⟩
      · have HI := Lib.hid hi
        have HNp := Lib.hid hnp
        have HSz := Lib.hid (show 0 < szC (C ⟨pa, pb, pc, pd, pe⟩) by rw [← hnp, HG1.out.cy hi]; exact HG2.out i n hi)
        by_cases hcmp : mr - (t : Int) < d
        · obtain rfl := HY2.out HE0.out (.inr hcmp)
          clear hi hnp
          go_wp2_with fail
          go_quiet (fail)
          go_wp2_with fail
          go_ret2
          exact Askt.same HTa.out (HX3.out.trans ((drew_below w3 _).mono HX3.out.size)) rfl
        · obtain rfl := HY3.out HE0.out (fun q => q.elim (fun q => by have := HSz.out; omega) hcmp)
          clear hi hnp
          go_wp2_with fail
          go_quiet (fail)
          go_wp2_with fail
          have hxx := ((HTx3.out.below (drew_below w3 nq)).more (Nat.le_succ c)).count ((t : Int) + d)
          have HXn := HX3.out.trans ((drew_below w3 nq).mono HX3.out.size)
          refine (ask_in HT.out HTa.out hxx.1 HI.out HNp.out g4 (fun j a hj => .inr (HG2.out j a hj)) ((OnlyS.of_below HXn).trans hxx.2) (fun k hk => .inl hk) (by omega) HXX.out.symm HE0.out HD.out.symm (by omega) (.inl HSz.out)).mono ?_
          rintro e w4 ⟨rfl, hr⟩
          have HRr := Lib.hid hr
          clear hr hxx HXn
          go_wp2_with fail
          go_ret2
          exact ⟨rfl, HRr.out⟩
      · have hT0 : ∀ k, T k → k < W.heap.size := fun k hk => (HG1.out.lt hk).2
        have HQT := Lib.hid (show ¬ T Q from fun hk => by have := hT0 Q hk; omega)
        have HQ0 := Lib.hid (show B0 ≤ Q by have := HG1.out.lt HG1.out.tb; omega)
        have HQl := Lib.hid hQl
        have HN := Lib.hid hn
        have HQq := Lib.hid hq
        have HC := Lib.hid hC
        have HZ := Lib.hid (show szC (C ⟨pa, pb, pc, pd, pe⟩) = 0 by rw [hC]; rfl)
        clear hn hQl hq hC hT0
        by_cases hd0 : 0 < d
        · by_cases hum : u = m
          · obtain rfl := HY2.out HE0.out (.inl ⟨HZ.out, hd0, hum⟩)
            have hz1 : ((m : Int) - (u : Int) == 0) = true := by simp; omega
            go_wp2_with fail
            go_quiet ((go_at_call 50; exact Calls.quiet_of (HL.out _)))
            go_wp2_with fail
            go_ret2
            exact Askt.same HTa.out (HX3.out.trans ((drew_below w3 _).mono HX3.out.size)) rfl
          · have hz1 : ((m : Int) - (u : Int) == 0) = false := by simp; omega
            by_cases hcmp : mr - (t : Int) < d
            · obtain rfl := HY2.out HE0.out (.inr hcmp)
              go_wp2_with fail
              go_quiet ((go_at_call 50; exact Calls.quiet_of (HL.out _)))
              go_wp2_with fail
              go_ret2
              exact Askt.same HTa.out (HX3.out.trans ((drew_below w3 _).mono HX3.out.size)) rfl
            · obtain rfl := HY3.out HE0.out (fun q => q.elim (fun q => hum q.2.2) hcmp)
              have HLa := Lib.hid (fun k => lay_any (HTx3.out.below (drew_below w3 k)) (by omega) HQT.out HQ0.out HPr.out HN.out (by omega) (HQq.out.below (drew_below w3 k)))
              have hB3 := HB3.out
              have b0 := hB3.c0
              have b1 := hB3.c1
              have b2 := hB3.c2
              have b3 := hB3.c3
              have b4 := hB3.c4
              simp only at b0 b1 b2 b3 b4
              clear hB3
              go_wp2_with fail
              go_quiet ((go_at_call 50; exact Calls.quiet_of (HL.out _)))
              go_wp2_with fail
              refine (HLa.out nq).mono ?_
              rintro e w4 ⟨rfl, T', ns', i, hTx', hi', htt, hus, hiff, ho', hT'⟩
              have hXn := HX3.out.trans ((drew_below w3 nq).mono HX3.out.size)
              have HO' := Lib.hid ((OnlyS.of_below (S := T) hXn).trans ho')
              have HT' := Lib.hid (show ∀ k, T' k → T k ∨ W.heap.size ≤ k from fun k hk => by
                rcases hT' k hk with q | q | q
                · exact .inl q
                · subst q; exact .inr HQl.out
                · exact .inr (Nat.le_trans hXn.size q))
              have HIf := Lib.hid hiff
              have HI' := Lib.hid hi'
              have HTt := Lib.hid (htt.trans g4)
              have hcc := hTx'.count ((t : Int) + d)
              have HTx' := Lib.hid hTx'
              have HCc := Lib.hid hcc
              obtain ⟨k2, k3, kz⟩ := hTx'.cells
              have kl := (hTx'.lt hTx'.tb).2
              rw [g4] at k3
              clear hTx' hi' htt hus hiff ho' hT' hXn hcc HLa HL b0 b1 b2 b3 b4 e0 e2 e3 fz hlt
              go_wp2_with fail
              refine (ask_in HT.out HTa.out HCc.out.1 HI'.out rfl HTt.out (fun j a hj => ?_) (HO'.out.trans ((OnlyS.set b 3 w4 _).mono fun k _ hk => by rw [hk]; exact HG1.out.tb)) HT'.out (by omega) HXX.out.symm HE0.out HD.out.symm (by omega) (.inr hd0)).mono ?_
              · rcases (HIf.out j a).1 hj with q | ⟨q, -⟩
                · exact .inr (HG2.out j a q)
                · exact .inl q
              rintro e w5 ⟨rfl, hr⟩
              have HRr := Lib.hid hr
              clear hr
              go_wp2_with fail
              go_ret2
              exact ⟨rfl, HRr.out⟩
        · obtain rfl : d = 0 := by omega
          by_cases hcmp : mr - (t : Int) < 0
          · omega
          · obtain rfl := HY3.out HE0.out (fun q => q.elim (fun q => hd0 q.2.1) hcmp)
            have hbQ : Q ≠ b := by have := HG1.out.lt HG1.out.tb; have := HQl.out; omega
            go_wp2_with fail
            go_quiet (fail)
            go_wp2_with fail
            have hxx := (HTx3.out.below (drew_below w3 nq)).count (t : Int)
            have HXn := HX3.out.trans ((drew_below w3 nq).mono HX3.out.size)
            have hqq := (HQq.out.below (drew_below w3 nq)).stay (OnlyS.set b 3 (w3.drewN nq) (.int .i64 (t : Int))) hbQ (.inl rfl) (.inl rfl)
            refine (ask_out HT.out HTa.out hxx.1 HG2.out g3 g4 hqq HQT.out HQl.out ((OnlyS.of_below HXn).trans hxx.2) HXX.out.symm HE0.out HC.out HD.out).mono ?_
            rintro e w4 ⟨rfl, hr⟩
            have HRr := Lib.hid hr
            clear hr hxx HXn hqq
            go_wp2_with fail
            go_ret2
            exact ⟨rfl, HRr.out⟩
end
end Go.Proofs.YtjhkejkdnjogiaaGreatDoor
