/- A table: Release and Cancel. -/
import Derived.Test.YtlhhopanegnliaaGreatDoorTc
namespace Go.Proofs.YtlhhopanegnliaaGreatDoor
open Go Go.RowKit Go.Shelf
set_option maxRecDepth 100000

/-- what a Release or a Cancel at a node comes to -/
def relT (g : Int → List Hs.Hd → List Ws.Wt → Out) (C : Pa.Pt → Cx) (tx : Int) (p : Pa.Pt) : Out :=
  if errP p ≠ 0 then ⟨errP p, [], (C p).1, (C p).2⟩ else g tx (C p).1 (C p).2
theorem rel_nil (tx : Int) : rel tx [] [] = ⟨2, [], [], []⟩ := rfl
theorem can_nil (tx : Int) : can tx [] [] = ⟨2, [], [], []⟩ := rfl
section
variable {W W' w' w0 : World} {T : Nat → Prop} {b ha mb : Nat} {B0 : Lo0} {m nb i B c Q u t : Nat} {mr : Int} {ns ns' : Ns} {n : Nd} {p : Pa.Pt} {C : Pa.Pt → Cx}
/-- a table's outcome of a Release or a Cancel -/
def Reld (W : World) (b : Nat) (T : Nat → Prop) (m : Nat) (mr : Int) (c : Nat) (C : Pa.Pt → Cx) (B0 : Lo0) (t : Nat) (p : Pa.Pt) (X : Out) (e : Ending) (w' : World) : Prop :=
  ∃ A k, e = .returned (.tuple #[.slice A X.told.length k, .int .i64 X.err]) ∧ Ws.Ls w' A k X.told ∧ (∀ a, A = some a → W.heap.size ≤ a.block) ∧
    ∃ T' u' t', Ta w' b T' m mr c (upC C p (X.hs, X.ws)) B0 u' t' ∧ OnlyS T W w' ∧ (∀ k, T' k → T k ∨ W.heap.size ≤ k) ∧ t' + szC (C p) = t + szC (X.hs, X.ws)
/-- nothing was changed -/
theorem Ta.more (h : Ta W b T m mr c C B0 u t) {c' : Nat} (hc : c ≤ c') : Ta W b T m mr c' C B0 u t := by
  obtain ⟨ns, h1, h2, h3, h4, h5, h6, h7⟩ := h.is
  exact ⟨ns, h1.more hc, h2, h3, h4, by omega, h6, h7⟩
theorem Ta.below (h : Ta W b T m mr c C B0 u t) (hb : Below W.heap.size W W') : Ta W' b T m mr c C B0 u t := by
  obtain ⟨ns, h1, h2⟩ := h.is
  exact ⟨ns, h1.below hb, h2⟩
theorem Reld.same {X : Out} {w : World} (h : Ta W b T m mr c C B0 u t) (hb : Below W.heap.size W w) (hX : (X.hs, X.ws) = C p) (ht : X.told = []) {x : Int} (hx : X.err = x) :
    Reld W b T m mr c C B0 t p X (.returned (.tuple #[.slice none 0 0, .int .i64 x])) w := by
  subst hx
  refine ⟨none, 0, by rw [ht]; rfl, by rw [ht]; exact Ws.Ls.nils _, (fun _ h => by cases h), T, u, t, ?_, OnlyS.of_below hb, fun k hk => .inl hk, by rw [hX]⟩
  rw [hX, upC_id rfl]
  exact (h.below hb).more (by omega)
theorem Reld.down {X : Out} {W1 w : World} {e : Ending} (hb : Below W.heap.size W W1) (h : Reld W1 b T m mr c C B0 t p X e w) : Reld W b T m mr c C B0 t p X e w := by
  obtain ⟨A, k, h1, h2, h3, T', u', t', h4, h5, h6, h7⟩ := h
  exact ⟨A, k, h1, h2, fun a ha => Nat.le_trans hb.size (h3 a ha), T', u', t', h4, (OnlyS.of_below hb).trans h5, fun k hk => (h6 k hk).imp id (Nat.le_trans hb.size), h7⟩
/-- behind the count: a node that is in the table, whatever is left of it -/
theorem Reld.in {X : Out} {w6 w8 : World} {A : Option Addr} {k : Nat} {T' : Nat → Prop} {ns' : Ns} {c' : Nat} (hw : Below W.heap.size W w0) (hTl : ∀ k, T k → k < W.heap.size) (hl : Ws.Ls w6 A k X.told) (hf : ∀ a, A = some a → W.heap.size ≤ a.block)
    (ho : OnlyS T w0 w6) (hx : Tx w8 b T' m mr c' ns' ((tot ns' : Nat) : Int) (upC C p (X.hs, X.ws)) B0) (ho8 : OnlyS T w6 w8) (hT' : ∀ k, T' k → T k ∨ W.heap.size ≤ k) (hne : ∀ i n, Isn ns' i n → 0 < n.H.length + n.L.length)
    (htt : tot ns' + szC (C p) = t + szC (X.hs, X.ws)) (hle : szC (X.hs, X.ws) ≤ szC (C p)) (hc : c' ≤ c) (htc : t ≤ c) (hmr : (t : Int) ≤ mr) (h7 : mr ≤ 1024) :
    Reld W b T m mr c C B0 t p X (.returned (.tuple #[.slice A X.told.length k, .int .i64 X.err])) w8 := by
  refine ⟨A, k, rfl, hl.stay ho8 (.inr fun a ha hk => by have := hf a ha; have := hTl _ hk; omega), hf, T', us ns', tot ns', ⟨ns', hx.more hc, hne, rfl, rfl, by omega, by omega, h7⟩, ((OnlyS.of_below hw).trans ho).trans ho8, hT', htt⟩
set_option maxHeartbeats 4000000 in
theorem Ta.leave_rel (ht : TabG W) (h : Ta W b T m mr c C B0 u t) (hc : c ≤ 239) (tx : Int) (p : Pa.Pt) :
    Calls Tryz.prog 141 #[tp b, .int .i64 tx, p.v, .func (.func 143) #[] #[]] W (Reld W b T m mr c C B0 t p (relT Go.Proofs.YtlhhopanegnliaaGreatDoor.rel C tx p)) := by
  have hx := box_below W (.cells (pcs p) 30)
  have HX := Lib.hid hx
  have HTa := Lib.hid h
  have HT := Lib.hid ht
  obtain ⟨ns, g1, g2, g3, g4, g5, g6, g7⟩ := h.is
  have HG1 := Lib.hid g1
  have HG2 := Lib.hid g2
  have HR := Lib.hid ((g1.below hx).refuses p)
  have HB := Lib.hid (Pbx.new W p 30)
  have HFi := Lib.hid (fun (w1 : World) (hb : Below W.heap.size W w1) => (g1.below hb).find p)
  have hinv := g1.inv p
  have hsz := g1.size p
  by_cases he : errP p = 0
  case neg =>
    have HY := Lib.hid (show relT Go.Proofs.YtlhhopanegnliaaGreatDoor.rel C tx p = ⟨1, [], (C p).1, (C p).2⟩ by unfold relT; rw [if_pos he, errP_no he])
    rw [HY.out]
    rw [errP_no he] at HR
    clear h ht hx g1 g2 g3 g4 g5 g6 g7 hinv hsz he
    obtain ⟨pa, pb, pc, pd, pe⟩ := p
    go_enter Tryz.func141, Tryz.ntmps141
    have hB1 := HB.out
    have b0 := hB1.c0
    have b1 := hB1.c1
    have b2 := hB1.c2
    have b3 := hB1.c3
    have b4 := hB1.c4
    simp only at b0 b1 b2 b3 b4
    clear hB1
    go_wp2_with fail
    refine HR.out.mono ?_
    rintro e w1 ⟨rfl, hb1⟩
    have HX1 := Lib.hid (HX.out.trans (hb1.mono HX.out.size))
    clear hb1 b0 b1 b2 b3 b4
    go_wp2_with fail
    go_ret2
    exact Reld.same HTa.out HX1.out rfl rfl rfl
  case pos =>
    have HY := Lib.hid (show relT Go.Proofs.YtlhhopanegnliaaGreatDoor.rel C tx p = Go.Proofs.YtlhhopanegnliaaGreatDoor.rel tx (C p).1 (C p).2 by unfold relT; rw [if_neg (by rw [he]; simp)])
    rw [HY.out]
    obtain ⟨X, hX⟩ : ∃ X, Go.Proofs.YtlhhopanegnliaaGreatDoor.rel tx (C p).1 (C p).2 = X := ⟨_, rfl⟩
    have hXl := rel_len tx (C p).1 (C p).2
    have hXi := hinv.rel tx
    rw [hX] at hXl hXi
    obtain ⟨z0, hz0⟩ : ∃ z, (C p).1.length + (C p).2.length = z := ⟨_, rfl⟩
    obtain ⟨z1, hz1⟩ : ∃ z, X.hs.length + X.ws.length = z := ⟨_, rfl⟩
    have HSz := Lib.hid (fun (w : World) (Q : Nat) (H : List Hs.Hd) (L : List Ws.Wt) (z : Nat) (hz : H.length + L.length = z) (hz' : z ≤ 1000) (hq : ∃ A1 c1 A2 c2, QAt w Q A1 c1 A2 c2 H L) => (show Calls Tryz.prog 146 #[qp Q] w fun e w' => e = .returned (.int .i64 (z : Int)) ∧ Below w.heap.size w w' from by
      obtain ⟨A1, c1, A2, c2, hq⟩ := hq
      have := size_any hq.its (by omega) (by omega)
      rw [hz] at this
      exact this))
    have HCa := Lib.hid (fun (w : World) (hT : TabG w) (Q : Nat) (A1 : Option Addr) (c1 : Nat) (A2 : Option Addr) (c2 : Nat) (hq : QAt w Q A1 c1 A2 c2 (C p).1 (C p).2) => (show Calls Tryz.prog 143 #[qp Q, .int .i64 tx] w (Gone Q w (A1, (C p).1) (A2, (C p).2) X) from by
      rw [← hX]
      exact release_any hT hq (by omega) hinv.once tx))
    have HZ := Lib.hid (And.intro hz0 (And.intro hz1 (show z1 ≤ z0 by omega)))
    have HXi := Lib.hid hXi
    have HXX := Lib.hid hX
    have q0 : z0 ≤ t := by omega
    have q1 : z1 ≤ z0 := by omega
    have q2 : t ≤ 239 := by omega
    rw [he] at HR
    rw [hX]
    clear h ht hx g1 g2 hinv he hX hXl hXi hsz hz0 hz1
    obtain ⟨pa, pb, pc, pd, pe⟩ := p
    go_enter Tryz.func141, Tryz.ntmps141
    have hB1 := HB.out
    have b0 := hB1.c0
    have b1 := hB1.c1
    have b2 := hB1.c2
    have b3 := hB1.c3
    have b4 := hB1.c4
    simp only at b0 b1 b2 b3 b4
    clear hB1
    go_wp2_with fail
    refine HR.out.mono ?_
    rintro e w1 ⟨rfl, hb1⟩
    have HX1 := Lib.hid (HX.out.trans (hb1.mono HX.out.size))
    have HB1 := Lib.hid (HB.out.below hb1)
    have b0 := HB1.out.c0
    have b1 := HB1.out.c1
    have b2 := HB1.out.c2
    have b3 := HB1.out.c3
    have b4 := HB1.out.c4
    simp only at b0 b1 b2 b3 b4
    have HF1 := Lib.hid (HFi.out w1 HX1.out)
    clear hb1 HR HB HX HFi
    go_wp2_with fail
    refine HF1.out.mono ?_
    rintro e w2 ⟨Q, is, rfl, hb2, hq2, hor⟩
    have HX2 := Lib.hid (HX1.out.trans (hb2.mono HX1.out.size))
    have HB2 := Lib.hid (HB1.out.below hb2)
    have HC2 := Lib.hid (HSz.out w2 Q _ _ z0 HZ.out.1 (by omega) hq2)
    have HQ2 := Lib.hid hor
    clear hb2 hq2 hor HF1 HB1 b0 b1 b2 b3 b4
    go_wp2_with fail
    refine HC2.out.mono ?_
    rintro e w3 ⟨rfl, hb3⟩
    have HX3 := Lib.hid (HX2.out.trans (hb3.mono HX2.out.size))
    have HB3 := Lib.hid (HB2.out.below hb3)
    have HQ3 := Lib.hid (show (is = true ∧ ∃ i n, Isn ns i n ∧ n.p = ⟨pa, pb, pc, pd, pe⟩ ∧ n.q = Q) ∨ (is = false ∧ (∀ i n, Isn ns i n → n.p ≠ ⟨pa, pb, pc, pd, pe⟩) ∧ W.heap.size ≤ Q ∧ QAt w3 Q none 0 none 0 [] [] ∧ C ⟨pa, pb, pc, pd, pe⟩ = ([], [])) from
      HQ2.out.imp id fun ⟨a1, a2, a3, a4, a5⟩ => ⟨a1, a2, Nat.le_trans HX1.out.size a3, a4.below hb3, a5⟩)
    have HTx3 := Lib.hid (HG1.out.below HX3.out)
    have HTg3 := Lib.hid (HT.out.later HX3.out)
    clear hb3 HC2 HQ2 HB2 HX2 HX1
    have hTl : ∀ k, T k → k < W.heap.size := fun k hk => (HG1.out.lt hk).2
    have HTl := Lib.hid hTl
    clear hTl
    rcases HQ3.out with ⟨rfl, i, n, hi, hnp, rfl⟩ | ⟨rfl, hn, hQl, hq, hC⟩
    · obtain ⟨np, Q, nH, nL⟩ := n
      simp only at hnp
      subst hnp
      obtain ⟨A1, c1, A2, c2, hq, hk⟩ := HTx3.out.queue hi
      have hCe := HTx3.out.cy hi
      simp only at hCe hq hk
      have HC3 := Lib.hid (HCa.out w3 HTg3.out Q A1 c1 A2 c2 (by rw [hCe]; exact hq))
      have HK := Lib.hid hk
      have HI := Lib.hid hi
      have HCe := Lib.hid hCe
      have hbl3 := (HTx3.out.lt HTx3.out.tb).2
      clear hq hk hi hCe HCa
      simp only
      go_wp2_with fail
      refine HC3.out.mono ?_
      rintro e w4 ⟨A, kk, rfl, hls4, hfr4, hlf4⟩
      rw [HCe.out] at hlf4
      obtain ⟨hx4, ho4⟩ := HK.out w4 X.hs X.ws hlf4 HXi.out
      have HX4 := Lib.hid hx4
      have HO4 := Lib.hid ho4
      have HLs4 := Lib.hid (show ∀ w, Below w4.heap.size w4 w → Ws.Ls w A kk X.told from fun w hb => hls4.below hb)
      have HFr := Lib.hid (show ∀ a, A = some a → W.heap.size ≤ a.block from fun a ha => Nat.le_trans HX3.out.size (hfr4 a ha))
      have HS4 := Lib.hid (fun (w : World) (hb : Below w4.heap.size w4 w) => HSz.out w Q X.hs X.ws z1 HZ.out.2.1 (by omega) (by obtain ⟨⟨B1, d1, B2, d2, hq, -⟩, -⟩ := hlf4; exact ⟨B1, d1, B2, d2, hq.below hb⟩))
      obtain ⟨-, e3, fz⟩ := hx4.cells
      have hlt := (hx4.lt hx4.tb).2
      rw [g4] at e3
      clear hls4 hfr4 hlf4 hx4 ho4 HC3 HK
      go_wp2_with fail
      go_region_law (first | (go_simp; go_at_call 146; refine (HS4.out _ (Below.refl _ _).drew).mono ?_; rintro e w5 ⟨rfl, hb5⟩; have hb6 := undrew hb5; have hx5 := HX4.out.below hb6; have j3 := hx5.cells.2.1; rw [g4] at j3; have jf := hx5.cells.2.2; have jl := (hx5.lt hx5.tb).2))
      all_goals
        have HX6 := Lib.hid (hx5.count ((t : Int) + ((z1 : Int) - (z0 : Int))))
        have HL6 := Lib.hid ((HLs4.out w5 hb6).only (OnlyS.set b 3 w5 (.int .i64 ((t : Int) + ((z1 : Int) - (z0 : Int))))) (fun a ha e => by
          have := HFr.out a ha
          have := HTl.out b HG1.out.tb
          omega))
        have HO6 := Lib.hid ((HO4.out.trans (OnlyS.of_below hb6)).trans HX6.out.2)
        have hq6 := HX6.out.1.queue ((isn_set HI.out.lt).2 (.inl ⟨rfl, rfl⟩))
        simp only at hq6
        have HS6 := Lib.hid (HSz.out _ Q X.hs X.ws z1 HZ.out.2.1 (by omega) (by obtain ⟨A1, c1, A2, c2, hq, -⟩ := hq6; exact ⟨A1, c1, A2, c2, hq⟩))
        have HB6 := Lib.hid ((HB3.out.only HO4.out (fun hk => by have := HTl.out _ hk; omega)).below hb6)
        have HB7 := Lib.hid (HB6.out.only (OnlyS.set b 3 w5 (.int .i64 ((t : Int) + ((z1 : Int) - (z0 : Int))))) (fun e => by have := HTl.out b HG1.out.tb; omega))
        clear hb5 hb6 hx5 j3 jf jl hq6 HS4 HLs4 HX4 HB6
        go_wp2_with fail
        refine HS6.out.mono ?_
        rintro e w7 ⟨rfl, hb7⟩
        have hset := sm_set szN (some ⟨⟨pa, pb, pc, pd, pe⟩, Q, X.hs, X.ws⟩) HI.out
        simp only [szN] at hset
        have hz0 := HZ.out.1
        have hz1 := HZ.out.2.1
        rw [HCe.out] at hz0
        simp only at hz0
        have HTt := Lib.hid (show tot (ns.set i (some ⟨⟨pa, pb, pc, pd, pe⟩, Q, X.hs, X.ws⟩)) + z0 = t + z1 by unfold tot at *; omega)
        have HTi := Lib.hid (show ((t : Int) + ((z1 : Int) - (z0 : Int))) = ((tot (ns.set i (some ⟨⟨pa, pb, pc, pd, pe⟩, Q, X.hs, X.ws⟩)) : Nat) : Int) by have := HTt.out; omega)
        have hx7 := HX6.out.1.below hb7
        rw [HTi.out] at hx7
        have HX7 := Lib.hid hx7
        have HL7 := Lib.hid (HL6.out.below hb7)
        have HO7 := Lib.hid (HO6.out.trans (OnlyS.of_below hb7))
        have hB7 := HB7.out.below hb7
        have b0 := hB7.c0
        have b1 := hB7.c1
        have b2 := hB7.c2
        have b3 := hB7.c3
        have b4 := hB7.c4
        simp only at b0 b1 b2 b3 b4
        have HCz := Lib.hid (show szC (C ⟨pa, pb, pc, pd, pe⟩) = z0 by rw [HCe.out]; exact hz0)
        clear hb7 hset hz0 hz1 hx7 hB7 HS6 HX6 HL6 HO6
        by_cases hz : z1 = 0
        · have hz' : ((z1 : Int) == 0) = true := by subst hz; rfl
          have hH : X.hs = [] := List.length_eq_zero_iff.1 (by have := HZ.out.2.1; omega)
          have hW : X.ws = [] := List.length_eq_zero_iff.1 (by have := HZ.out.2.1; omega)
          have HD := Lib.hid (drop_any HX7.out (by omega) ((isn_set HI.out.lt).2 (.inl ⟨rfl, rfl⟩)) hH hW)
          simp only at HD
          clear hH hW
          go_wp2_with fail
          refine HD.out.mono ?_
          rintro e w8 ⟨rfl, T', ns', hx8, htt, hus, hiff, ho8, hT'⟩
          rw [← htt] at hx8
          have HE := Lib.hid (Reld.in HX3.out HTl.out HL7.out HFr.out HO7.out hx8 ho8 (fun k hk => (hT' k hk).imp id (fun q => Nat.le_trans HX3.out.size (Nat.le_trans HO7.out.size q)))
            (fun j a hj => by
              obtain ⟨hne, hj⟩ := (hiff j a).1 hj
              rcases (isn_set HI.out.lt).1 hj with ⟨ej, -⟩ | ⟨-, hj⟩
              · exact absurd ej hne
              · exact HG2.out j a hj)
            (show tot ns' + szC (C ⟨pa, pb, pc, pd, pe⟩) = t + szC (X.hs, X.ws) by rw [HCz.out, htt]; have := HTt.out; have := HZ.out.2.1; unfold szC; simp only; omega)
            (by rw [HCz.out]; have := HZ.out.2.1; unfold szC; simp only; omega) (Nat.le_refl _) g5 g6 g7)
          clear hx8 htt hus hiff ho8 hT' HD b0 b1 b2 b3 b4
          go_wp2_with fail
          go_ret2
          exact HE.out
        · have hz' : ((z1 : Int) == 0) = false := by simp; omega
          have HE := Lib.hid (Reld.in HX3.out HTl.out HL7.out HFr.out HO7.out HX7.out (OnlyS.refl _ _) (fun k hk => .inl hk)
            (fun j a hj => by
              rcases (isn_set HI.out.lt).1 hj with ⟨ej, hj⟩ | ⟨-, hj⟩
              · cases hj; have := HZ.out.2.1; simp only; omega
              · exact HG2.out j a hj)
            (show tot (ns.set i (some ⟨⟨pa, pb, pc, pd, pe⟩, Q, X.hs, X.ws⟩)) + szC (C ⟨pa, pb, pc, pd, pe⟩) = t + szC (X.hs, X.ws) by rw [HCz.out]; have := HTt.out; have := HZ.out.2.1; unfold szC; simp only; omega)
            (by rw [HCz.out]; have := HZ.out.2.1; unfold szC; simp only; omega) (Nat.le_refl _) g5 g6 g7)
          clear b0 b1 b2 b3 b4
          go_wp2_with fail
          go_ret2
          exact HE.out
    · have hXn : X = ⟨2, [], [], []⟩ := by
        have := HXX.out
        rw [hC] at this
        rw [← this]
        rfl
      have HXn := Lib.hid hXn
      subst hXn
      have hz0 : z0 = 0 := by
        have := HZ.out.1
        rw [hC] at this
        exact this.symm
      have hz1 : z1 = 0 := HZ.out.2.1.symm
      have HZz := Lib.hid (And.intro hz0 hz1)
      clear hz0 hz1
      have HC3 := Lib.hid (HCa.out w3 HTg3.out Q none 0 none 0 (by rw [hC]; exact hq))
      have HQl := Lib.hid hQl
      have HQq := Lib.hid hq
      have HC := Lib.hid hC
      clear hn hQl hq hC HCa
      go_wp2_with fail
      refine HC3.out.mono ?_
      rintro e w4 ⟨A, kk, rfl, hls4, hfr4, hlf4⟩
      have hQT : ¬ T Q := fun hk => by have := HTl.out Q hk; have := HQl.out; omega
      have hx4 := HTx3.out.far HQq.out hQT hlf4.2
      have HX4 := Lib.hid hx4
      have HO4 := Lib.hid hlf4.2
      have HLs4 := Lib.hid (show ∀ w, Below w4.heap.size w4 w → Ws.Ls w A kk [] from fun w hb => hls4.below hb)
      have HFr := Lib.hid (show ∀ a, A = some a → W.heap.size ≤ a.block from fun a ha => Nat.le_trans HX3.out.size (hfr4 a ha))
      have HS4 := Lib.hid (fun (w : World) (hb : Below w4.heap.size w4 w) => HSz.out w Q [] [] z1 HZ.out.2.1 (by omega) (by obtain ⟨⟨B1, d1, B2, d2, hq, -⟩, -⟩ := hlf4; exact ⟨B1, d1, B2, d2, hq.below hb⟩))
      obtain ⟨-, e3, fz⟩ := hx4.cells
      have hlt := (hx4.lt hx4.tb).2
      rw [g4] at e3
      clear hls4 hfr4 hlf4 hx4 HC3 hQT
      go_wp2_with fail
      go_region_law (first | (go_simp; go_at_call 146; refine (HS4.out _ (Below.refl _ _).drew).mono ?_; rintro e w5 ⟨rfl, hb5⟩; have hb6 := undrew hb5; have hx5 := HX4.out.below hb6; have j3 := hx5.cells.2.1; rw [g4] at j3; have jf := hx5.cells.2.2; have jl := (hx5.lt hx5.tb).2))
      all_goals
        have HX6 := Lib.hid (hx5.count ((t : Int) + ((z1 : Int) - (z0 : Int))))
        have HL6 := Lib.hid ((HLs4.out w5 hb6).only (OnlyS.set b 3 w5 (.int .i64 ((t : Int) + ((z1 : Int) - (z0 : Int))))) (fun a ha e => by
          have := HFr.out a ha
          have := HTl.out b HG1.out.tb
          omega))
        have HO6 := Lib.hid (show OnlyS T W (w5.setCell ⟨b, 3, none⟩ (.int .i64 ((t : Int) + ((z1 : Int) - (z0 : Int))))) from by
          have k1 : OnlyS T W w3 := OnlyS.of_below HX3.out
          have k2 : OnlyS T W w4 := ⟨HO4.out.os.trans k1.os, HO4.out.tape.trans k1.tape, HO4.out.output.trans k1.output, Nat.le_trans k1.size HO4.out.size, fun k hk hn => (HO4.out.block k (Nat.lt_of_lt_of_le hk k1.size) (fun z => by have := HQl.out; omega)).trans (k1.block k hk hn)⟩
          exact (k2.trans (OnlyS.of_below hb6)).trans HX6.out.2)
        have hx6 := HX6.out.1
        rw [show ((t : Int) + ((z1 : Int) - (z0 : Int))) = ((tot ns : Nat) : Int) by have := HZz.out; omega] at hx6
        rw [← upC_id (x := ([], [])) HC.out] at hx6
        have HE := Lib.hid (Reld.in (X := ⟨2, [], [], []⟩) (t := t) (c := c) (Below.refl _ _) HTl.out HL6.out HFr.out HO6.out (by
            rw [show ((t : Int) + ((z1 : Int) - (z0 : Int))) = ((tot ns : Nat) : Int) by have := HZz.out; omega]
            exact hx6) (OnlyS.refl _ _) (fun k hk => .inl hk) HG2.out (by rw [HC.out, g4]) (by rw [HC.out]; exact Nat.le_refl _) (Nat.le_refl _) g5 g6 g7)
        clear hb5 hb6 hx5 j3 jf jl HS4 HLs4 HX4 hx6
        go_wp2_with fail
        go_ret2
        exact HE.out
theorem Ta.release (ht : TabG W) (h : Ta W b T m mr c C B0 u t) (hc : c ≤ 239) (tx : Int) (p : Pa.Pt) :
    Calls Tryz.prog 96 #[tp b, .int .i64 tx, p.v] W (Reld W b T m mr c C B0 t p (relT Go.Proofs.YtlhhopanegnliaaGreatDoor.rel C tx p)) := by
  have hx := box_below W (.cells (pcs p) 30)
  have HL := Lib.hid (((h.below hx).leave_rel (ht.later hx) hc tx p).mono (fun e w' q => Reld.down hx q))
  have HB := Lib.hid (Pbx.new W p 30)
  clear h ht hx
  generalize relT Go.Proofs.YtlhhopanegnliaaGreatDoor.rel C tx p = X at *
  obtain ⟨pa, pb, pc, pd, pe⟩ := p
  have hB1 := HB.out
  have b0 := hB1.c0
  have b1 := hB1.c1
  have b2 := hB1.c2
  have b3 := hB1.c3
  have b4 := hB1.c4
  simp only at b0 b1 b2 b3 b4
  clear hB1
  go_enter Tryz.func96, Tryz.ntmps96
  go_wp2_with fail
  refine HL.out.mono ?_
  rintro e w1 ⟨A, k, rfl, hr⟩
  have HR := Lib.hid hr
  clear hr b0 b1 b2 b3 b4 HL HB
  go_wp2_with fail
  go_ret2
  exact ⟨A, k, rfl, HR.out⟩
set_option maxHeartbeats 4000000 in
theorem Ta.leave_can (ht : TabG W) (h : Ta W b T m mr c C B0 u t) (hc : c ≤ 239) (tx : Int) (p : Pa.Pt) :
    Calls Tryz.prog 141 #[tp b, .int .i64 tx, p.v, .func (.func 142) #[] #[]] W (Reld W b T m mr c C B0 t p (relT Go.Proofs.YtlhhopanegnliaaGreatDoor.can C tx p)) := by
  have hx := box_below W (.cells (pcs p) 30)
  have HX := Lib.hid hx
  have HTa := Lib.hid h
  have HT := Lib.hid ht
  obtain ⟨ns, g1, g2, g3, g4, g5, g6, g7⟩ := h.is
  have HG1 := Lib.hid g1
  have HG2 := Lib.hid g2
  have HR := Lib.hid ((g1.below hx).refuses p)
  have HB := Lib.hid (Pbx.new W p 30)
  have HFi := Lib.hid (fun (w1 : World) (hb : Below W.heap.size W w1) => (g1.below hb).find p)
  have hinv := g1.inv p
  have hsz := g1.size p
  by_cases he : errP p = 0
  case neg =>
    have HY := Lib.hid (show relT Go.Proofs.YtlhhopanegnliaaGreatDoor.can C tx p = ⟨1, [], (C p).1, (C p).2⟩ by unfold relT; rw [if_pos he, errP_no he])
    rw [HY.out]
    rw [errP_no he] at HR
    clear h ht hx g1 g2 g3 g4 g5 g6 g7 hinv hsz he
    obtain ⟨pa, pb, pc, pd, pe⟩ := p
    go_enter Tryz.func141, Tryz.ntmps141
    have hB1 := HB.out
    have b0 := hB1.c0
    have b1 := hB1.c1
    have b2 := hB1.c2
    have b3 := hB1.c3
    have b4 := hB1.c4
    simp only at b0 b1 b2 b3 b4
    clear hB1
    go_wp2_with fail
    refine HR.out.mono ?_
    rintro e w1 ⟨rfl, hb1⟩
    have HX1 := Lib.hid (HX.out.trans (hb1.mono HX.out.size))
    clear hb1 b0 b1 b2 b3 b4
    go_wp2_with fail
    go_ret2
    exact Reld.same HTa.out HX1.out rfl rfl rfl
  case pos =>
    have HY := Lib.hid (show relT Go.Proofs.YtlhhopanegnliaaGreatDoor.can C tx p = Go.Proofs.YtlhhopanegnliaaGreatDoor.can tx (C p).1 (C p).2 by unfold relT; rw [if_neg (by rw [he]; simp)])
    rw [HY.out]
    obtain ⟨X, hX⟩ : ∃ X, Go.Proofs.YtlhhopanegnliaaGreatDoor.can tx (C p).1 (C p).2 = X := ⟨_, rfl⟩
    have hXl := can_len tx (C p).1 (C p).2
    have hXi := hinv.can tx
    rw [hX] at hXl hXi
    obtain ⟨z0, hz0⟩ : ∃ z, (C p).1.length + (C p).2.length = z := ⟨_, rfl⟩
    obtain ⟨z1, hz1⟩ : ∃ z, X.hs.length + X.ws.length = z := ⟨_, rfl⟩
    have HSz := Lib.hid (fun (w : World) (Q : Nat) (H : List Hs.Hd) (L : List Ws.Wt) (z : Nat) (hz : H.length + L.length = z) (hz' : z ≤ 1000) (hq : ∃ A1 c1 A2 c2, QAt w Q A1 c1 A2 c2 H L) => (show Calls Tryz.prog 146 #[qp Q] w fun e w' => e = .returned (.int .i64 (z : Int)) ∧ Below w.heap.size w w' from by
      obtain ⟨A1, c1, A2, c2, hq⟩ := hq
      have := size_any hq.its (by omega) (by omega)
      rw [hz] at this
      exact this))
    have HCa := Lib.hid (fun (w : World) (hT : TabG w) (Q : Nat) (A1 : Option Addr) (c1 : Nat) (A2 : Option Addr) (c2 : Nat) (hq : QAt w Q A1 c1 A2 c2 (C p).1 (C p).2) => (show Calls Tryz.prog 142 #[qp Q, .int .i64 tx] w (Gone Q w (A1, (C p).1) (A2, (C p).2) X) from by
      rw [← hX]
      exact cancel_any hT hq (by omega) hinv.once tx))
    have HZ := Lib.hid (And.intro hz0 (And.intro hz1 (show z1 ≤ z0 by omega)))
    have HXi := Lib.hid hXi
    have HXX := Lib.hid hX
    have q0 : z0 ≤ t := by omega
    have q1 : z1 ≤ z0 := by omega
    have q2 : t ≤ 239 := by omega
    rw [he] at HR
    rw [hX]
    clear h ht hx g1 g2 hinv he hX hXl hXi hsz hz0 hz1
    obtain ⟨pa, pb, pc, pd, pe⟩ := p
    go_enter Tryz.func141, Tryz.ntmps141
    have hB1 := HB.out
    have b0 := hB1.c0
    have b1 := hB1.c1
    have b2 := hB1.c2
    have b3 := hB1.c3
    have b4 := hB1.c4
    simp only at b0 b1 b2 b3 b4
    clear hB1
    go_wp2_with fail
    refine HR.out.mono ?_
    rintro e w1 ⟨rfl, hb1⟩
    have HX1 := Lib.hid (HX.out.trans (hb1.mono HX.out.size))
    have HB1 := Lib.hid (HB.out.below hb1)
    have b0 := HB1.out.c0
    have b1 := HB1.out.c1
    have b2 := HB1.out.c2
    have b3 := HB1.out.c3
    have b4 := HB1.out.c4
    simp only at b0 b1 b2 b3 b4
    have HF1 := Lib.hid (HFi.out w1 HX1.out)
    clear hb1 HR HB HX HFi
    go_wp2_with fail
    refine HF1.out.mono ?_
    rintro e w2 ⟨Q, is, rfl, hb2, hq2, hor⟩
    have HX2 := Lib.hid (HX1.out.trans (hb2.mono HX1.out.size))
    have HB2 := Lib.hid (HB1.out.below hb2)
    have HC2 := Lib.hid (HSz.out w2 Q _ _ z0 HZ.out.1 (by omega) hq2)
    have HQ2 := Lib.hid hor
    clear hb2 hq2 hor HF1 HB1 b0 b1 b2 b3 b4
    go_wp2_with fail
    refine HC2.out.mono ?_
    rintro e w3 ⟨rfl, hb3⟩
    have HX3 := Lib.hid (HX2.out.trans (hb3.mono HX2.out.size))
    have HB3 := Lib.hid (HB2.out.below hb3)
    have HQ3 := Lib.hid (show (is = true ∧ ∃ i n, Isn ns i n ∧ n.p = ⟨pa, pb, pc, pd, pe⟩ ∧ n.q = Q) ∨ (is = false ∧ (∀ i n, Isn ns i n → n.p ≠ ⟨pa, pb, pc, pd, pe⟩) ∧ W.heap.size ≤ Q ∧ QAt w3 Q none 0 none 0 [] [] ∧ C ⟨pa, pb, pc, pd, pe⟩ = ([], [])) from
      HQ2.out.imp id fun ⟨a1, a2, a3, a4, a5⟩ => ⟨a1, a2, Nat.le_trans HX1.out.size a3, a4.below hb3, a5⟩)
    have HTx3 := Lib.hid (HG1.out.below HX3.out)
    have HTg3 := Lib.hid (HT.out.later HX3.out)
    clear hb3 HC2 HQ2 HB2 HX2 HX1
    have hTl : ∀ k, T k → k < W.heap.size := fun k hk => (HG1.out.lt hk).2
    have HTl := Lib.hid hTl
    clear hTl
    rcases HQ3.out with ⟨rfl, i, n, hi, hnp, rfl⟩ | ⟨rfl, hn, hQl, hq, hC⟩
    · obtain ⟨np, Q, nH, nL⟩ := n
      simp only at hnp
      subst hnp
      obtain ⟨A1, c1, A2, c2, hq, hk⟩ := HTx3.out.queue hi
      have hCe := HTx3.out.cy hi
      simp only at hCe hq hk
      have HC3 := Lib.hid (HCa.out w3 HTg3.out Q A1 c1 A2 c2 (by rw [hCe]; exact hq))
      have HK := Lib.hid hk
      have HI := Lib.hid hi
      have HCe := Lib.hid hCe
      have hbl3 := (HTx3.out.lt HTx3.out.tb).2
      clear hq hk hi hCe HCa
      simp only
      go_wp2_with fail
      refine HC3.out.mono ?_
      rintro e w4 ⟨A, kk, rfl, hls4, hfr4, hlf4⟩
      rw [HCe.out] at hlf4
      obtain ⟨hx4, ho4⟩ := HK.out w4 X.hs X.ws hlf4 HXi.out
      have HX4 := Lib.hid hx4
      have HO4 := Lib.hid ho4
      have HLs4 := Lib.hid (show ∀ w, Below w4.heap.size w4 w → Ws.Ls w A kk X.told from fun w hb => hls4.below hb)
      have HFr := Lib.hid (show ∀ a, A = some a → W.heap.size ≤ a.block from fun a ha => Nat.le_trans HX3.out.size (hfr4 a ha))
      have HS4 := Lib.hid (fun (w : World) (hb : Below w4.heap.size w4 w) => HSz.out w Q X.hs X.ws z1 HZ.out.2.1 (by omega) (by obtain ⟨⟨B1, d1, B2, d2, hq, -⟩, -⟩ := hlf4; exact ⟨B1, d1, B2, d2, hq.below hb⟩))
      obtain ⟨-, e3, fz⟩ := hx4.cells
      have hlt := (hx4.lt hx4.tb).2
      rw [g4] at e3
      clear hls4 hfr4 hlf4 hx4 ho4 HC3 HK
      go_wp2_with fail
      go_region_law (first | (go_simp; go_at_call 146; refine (HS4.out _ (Below.refl _ _).drew).mono ?_; rintro e w5 ⟨rfl, hb5⟩; have hb6 := undrew hb5; have hx5 := HX4.out.below hb6; have j3 := hx5.cells.2.1; rw [g4] at j3; have jf := hx5.cells.2.2; have jl := (hx5.lt hx5.tb).2))
      all_goals
        have HX6 := Lib.hid (hx5.count ((t : Int) + ((z1 : Int) - (z0 : Int))))
        have HL6 := Lib.hid ((HLs4.out w5 hb6).only (OnlyS.set b 3 w5 (.int .i64 ((t : Int) + ((z1 : Int) - (z0 : Int))))) (fun a ha e => by
          have := HFr.out a ha
          have := HTl.out b HG1.out.tb
          omega))
        have HO6 := Lib.hid ((HO4.out.trans (OnlyS.of_below hb6)).trans HX6.out.2)
        have hq6 := HX6.out.1.queue ((isn_set HI.out.lt).2 (.inl ⟨rfl, rfl⟩))
        simp only at hq6
        have HS6 := Lib.hid (HSz.out _ Q X.hs X.ws z1 HZ.out.2.1 (by omega) (by obtain ⟨A1, c1, A2, c2, hq, -⟩ := hq6; exact ⟨A1, c1, A2, c2, hq⟩))
        have HB6 := Lib.hid ((HB3.out.only HO4.out (fun hk => by have := HTl.out _ hk; omega)).below hb6)
        have HB7 := Lib.hid (HB6.out.only (OnlyS.set b 3 w5 (.int .i64 ((t : Int) + ((z1 : Int) - (z0 : Int))))) (fun e => by have := HTl.out b HG1.out.tb; omega))
        clear hb5 hb6 hx5 j3 jf jl hq6 HS4 HLs4 HX4 HB6
        go_wp2_with fail
        refine HS6.out.mono ?_
        rintro e w7 ⟨rfl, hb7⟩
        have hset := sm_set szN (some ⟨⟨pa, pb, pc, pd, pe⟩, Q, X.hs, X.ws⟩) HI.out
        simp only [szN] at hset
        have hz0 := HZ.out.1
        have hz1 := HZ.out.2.1
        rw [HCe.out] at hz0
        simp only at hz0
        have HTt := Lib.hid (show tot (ns.set i (some ⟨⟨pa, pb, pc, pd, pe⟩, Q, X.hs, X.ws⟩)) + z0 = t + z1 by unfold tot at *; omega)
        have HTi := Lib.hid (show ((t : Int) + ((z1 : Int) - (z0 : Int))) = ((tot (ns.set i (some ⟨⟨pa, pb, pc, pd, pe⟩, Q, X.hs, X.ws⟩)) : Nat) : Int) by have := HTt.out; omega)
        have hx7 := HX6.out.1.below hb7
        rw [HTi.out] at hx7
        have HX7 := Lib.hid hx7
        have HL7 := Lib.hid (HL6.out.below hb7)
        have HO7 := Lib.hid (HO6.out.trans (OnlyS.of_below hb7))
        have hB7 := HB7.out.below hb7
        have b0 := hB7.c0
        have b1 := hB7.c1
        have b2 := hB7.c2
        have b3 := hB7.c3
        have b4 := hB7.c4
        simp only at b0 b1 b2 b3 b4
        have HCz := Lib.hid (show szC (C ⟨pa, pb, pc, pd, pe⟩) = z0 by rw [HCe.out]; exact hz0)
        clear hb7 hset hz0 hz1 hx7 hB7 HS6 HX6 HL6 HO6
        by_cases hz : z1 = 0
        · have hz' : ((z1 : Int) == 0) = true := by subst hz; rfl
          have hH : X.hs = [] := List.length_eq_zero_iff.1 (by have := HZ.out.2.1; omega)
          have hW : X.ws = [] := List.length_eq_zero_iff.1 (by have := HZ.out.2.1; omega)
          have HD := Lib.hid (drop_any HX7.out (by omega) ((isn_set HI.out.lt).2 (.inl ⟨rfl, rfl⟩)) hH hW)
          simp only at HD
          clear hH hW
          go_wp2_with fail
          refine HD.out.mono ?_
          rintro e w8 ⟨rfl, T', ns', hx8, htt, hus, hiff, ho8, hT'⟩
          rw [← htt] at hx8
          have HE := Lib.hid (Reld.in HX3.out HTl.out HL7.out HFr.out HO7.out hx8 ho8 (fun k hk => (hT' k hk).imp id (fun q => Nat.le_trans HX3.out.size (Nat.le_trans HO7.out.size q)))
            (fun j a hj => by
              obtain ⟨hne, hj⟩ := (hiff j a).1 hj
              rcases (isn_set HI.out.lt).1 hj with ⟨ej, -⟩ | ⟨-, hj⟩
              · exact absurd ej hne
              · exact HG2.out j a hj)
            (show tot ns' + szC (C ⟨pa, pb, pc, pd, pe⟩) = t + szC (X.hs, X.ws) by rw [HCz.out, htt]; have := HTt.out; have := HZ.out.2.1; unfold szC; simp only; omega)
            (by rw [HCz.out]; have := HZ.out.2.1; unfold szC; simp only; omega) (Nat.le_refl _) g5 g6 g7)
          clear hx8 htt hus hiff ho8 hT' HD b0 b1 b2 b3 b4
          go_wp2_with fail
          go_ret2
          exact HE.out
        · have hz' : ((z1 : Int) == 0) = false := by simp; omega
          have HE := Lib.hid (Reld.in HX3.out HTl.out HL7.out HFr.out HO7.out HX7.out (OnlyS.refl _ _) (fun k hk => .inl hk)
            (fun j a hj => by
              rcases (isn_set HI.out.lt).1 hj with ⟨ej, hj⟩ | ⟨-, hj⟩
              · cases hj; have := HZ.out.2.1; simp only; omega
              · exact HG2.out j a hj)
            (show tot (ns.set i (some ⟨⟨pa, pb, pc, pd, pe⟩, Q, X.hs, X.ws⟩)) + szC (C ⟨pa, pb, pc, pd, pe⟩) = t + szC (X.hs, X.ws) by rw [HCz.out]; have := HTt.out; have := HZ.out.2.1; unfold szC; simp only; omega)
            (by rw [HCz.out]; have := HZ.out.2.1; unfold szC; simp only; omega) (Nat.le_refl _) g5 g6 g7)
          clear b0 b1 b2 b3 b4
          go_wp2_with fail
          go_ret2
          exact HE.out
    · have hXn : X = ⟨2, [], [], []⟩ := by
        have := HXX.out
        rw [hC] at this
        rw [← this]
        rfl
      have HXn := Lib.hid hXn
      subst hXn
      have hz0 : z0 = 0 := by
        have := HZ.out.1
        rw [hC] at this
        exact this.symm
      have hz1 : z1 = 0 := HZ.out.2.1.symm
      have HZz := Lib.hid (And.intro hz0 hz1)
      clear hz0 hz1
      have HC3 := Lib.hid (HCa.out w3 HTg3.out Q none 0 none 0 (by rw [hC]; exact hq))
      have HQl := Lib.hid hQl
      have HQq := Lib.hid hq
      have HC := Lib.hid hC
      clear hn hQl hq hC HCa
      go_wp2_with fail
      refine HC3.out.mono ?_
      rintro e w4 ⟨A, kk, rfl, hls4, hfr4, hlf4⟩
      have hQT : ¬ T Q := fun hk => by have := HTl.out Q hk; have := HQl.out; omega
      have hx4 := HTx3.out.far HQq.out hQT hlf4.2
      have HX4 := Lib.hid hx4
      have HO4 := Lib.hid hlf4.2
      have HLs4 := Lib.hid (show ∀ w, Below w4.heap.size w4 w → Ws.Ls w A kk [] from fun w hb => hls4.below hb)
      have HFr := Lib.hid (show ∀ a, A = some a → W.heap.size ≤ a.block from fun a ha => Nat.le_trans HX3.out.size (hfr4 a ha))
      have HS4 := Lib.hid (fun (w : World) (hb : Below w4.heap.size w4 w) => HSz.out w Q [] [] z1 HZ.out.2.1 (by omega) (by obtain ⟨⟨B1, d1, B2, d2, hq, -⟩, -⟩ := hlf4; exact ⟨B1, d1, B2, d2, hq.below hb⟩))
      obtain ⟨-, e3, fz⟩ := hx4.cells
      have hlt := (hx4.lt hx4.tb).2
      rw [g4] at e3
      clear hls4 hfr4 hlf4 hx4 HC3 hQT
      go_wp2_with fail
      go_region_law (first | (go_simp; go_at_call 146; refine (HS4.out _ (Below.refl _ _).drew).mono ?_; rintro e w5 ⟨rfl, hb5⟩; have hb6 := undrew hb5; have hx5 := HX4.out.below hb6; have j3 := hx5.cells.2.1; rw [g4] at j3; have jf := hx5.cells.2.2; have jl := (hx5.lt hx5.tb).2))
      all_goals
        have HX6 := Lib.hid (hx5.count ((t : Int) + ((z1 : Int) - (z0 : Int))))
        have HL6 := Lib.hid ((HLs4.out w5 hb6).only (OnlyS.set b 3 w5 (.int .i64 ((t : Int) + ((z1 : Int) - (z0 : Int))))) (fun a ha e => by
          have := HFr.out a ha
          have := HTl.out b HG1.out.tb
          omega))
        have HO6 := Lib.hid (show OnlyS T W (w5.setCell ⟨b, 3, none⟩ (.int .i64 ((t : Int) + ((z1 : Int) - (z0 : Int))))) from by
          have k1 : OnlyS T W w3 := OnlyS.of_below HX3.out
          have k2 : OnlyS T W w4 := ⟨HO4.out.os.trans k1.os, HO4.out.tape.trans k1.tape, HO4.out.output.trans k1.output, Nat.le_trans k1.size HO4.out.size, fun k hk hn => (HO4.out.block k (Nat.lt_of_lt_of_le hk k1.size) (fun z => by have := HQl.out; omega)).trans (k1.block k hk hn)⟩
          exact (k2.trans (OnlyS.of_below hb6)).trans HX6.out.2)
        have hx6 := HX6.out.1
        rw [show ((t : Int) + ((z1 : Int) - (z0 : Int))) = ((tot ns : Nat) : Int) by have := HZz.out; omega] at hx6
        rw [← upC_id (x := ([], [])) HC.out] at hx6
        have HE := Lib.hid (Reld.in (X := ⟨2, [], [], []⟩) (t := t) (c := c) (Below.refl _ _) HTl.out HL6.out HFr.out HO6.out (by
            rw [show ((t : Int) + ((z1 : Int) - (z0 : Int))) = ((tot ns : Nat) : Int) by have := HZz.out; omega]
            exact hx6) (OnlyS.refl _ _) (fun k hk => .inl hk) HG2.out (by rw [HC.out, g4]) (by rw [HC.out]; exact Nat.le_refl _) (Nat.le_refl _) g5 g6 g7)
        clear hb5 hb6 hx5 j3 jf jl HS4 HLs4 HX4 hx6
        go_wp2_with fail
        go_ret2
        exact HE.out
theorem Ta.cancel (ht : TabG W) (h : Ta W b T m mr c C B0 u t) (hc : c ≤ 239) (tx : Int) (p : Pa.Pt) :
    Calls Tryz.prog 95 #[tp b, .int .i64 tx, p.v] W (Reld W b T m mr c C B0 t p (relT Go.Proofs.YtlhhopanegnliaaGreatDoor.can C tx p)) := by
  have hx := box_below W (.cells (pcs p) 30)
  have HL := Lib.hid (((h.below hx).leave_can (ht.later hx) hc tx p).mono (fun e w' q => Reld.down hx q))
  have HB := Lib.hid (Pbx.new W p 30)
  clear h ht hx
  generalize relT Go.Proofs.YtlhhopanegnliaaGreatDoor.can C tx p = X at *
  obtain ⟨pa, pb, pc, pd, pe⟩ := p
  have hB1 := HB.out
  have b0 := hB1.c0
  have b1 := hB1.c1
  have b2 := hB1.c2
  have b3 := hB1.c3
  have b4 := hB1.c4
  simp only at b0 b1 b2 b3 b4
  clear hB1
  go_enter Tryz.func95, Tryz.ntmps95
  go_wp2_with fail
  refine HL.out.mono ?_
  rintro e w1 ⟨A, k, rfl, hr⟩
  have HR := Lib.hid hr
  clear hr b0 b1 b2 b3 b4 HL HB
  go_wp2_with fail
  go_ret2
  exact ⟨A, k, rfl, HR.out⟩
end
end Go.Proofs.YtlhhopanegnliaaGreatDoor
