/- The law of all answers: each is the document's. -/
import Derived.Test.YtgefponjlliaaaaHs
namespace Go.Proofs.Ytgefponjlliaaaa.Cy

section
variable {l : List Es.Ed} {s x : Int} {n m : Nat} {r q xs ys : List Int}
theorem Gr.back (h : Gr l s n x r) : ∃ z, EI l x z ∧ Wk (EI l) n z s := by
  cases h with
  | one e => exact ⟨s, e, .nil _⟩
  | more e hd _ _ _ => exact ⟨_, e, hd.wk⟩
theorem Gr.least (h : Gr l s n x r) : ∀ z m, EI l x z → Wk (EI l) m z s → n ≤ m := by
  cases h with
  | one e => intro _ _ _ _; exact Nat.zero_le _
  | more _ _ hm _ _ => exact hm
theorem Gr.uniq' (h : Gr l s n x r) : ∀ {q : List Int}, Gr l s n x q → r = q := by
  induction h with
  | one e => intro q k; cases k; rfl
  | @more n x y r e hd hm hle hr ih =>
    intro q k
    cases k with
    | @more _ _ y' q' e' hd' hm' hle' hr' =>
      have : y = y' := Int.le_antisymm (hle y' e' hd'.wk) (hle' y e hd.wk)
      subst this
      rw [ih hr']
theorem Gr.uniq (h : Gr l s n x r) (k : Gr l s m x q) : r = q := by
  obtain ⟨z, e, w⟩ := h.back
  obtain ⟨z', e', w'⟩ := k.back
  have : n = m := Nat.le_antisymm (h.least _ _ e' w') (k.least _ _ e w)
  subst this
  exact h.uniq' k
theorem Ringed.uniq (h : Ringed l r) (k : Ringed l q) : r = q := by
  cases h with
  | none h =>
    cases k with
    | none _ => rfl
    | some h1 _ _ => exact absurd h1 (h _)
  | @some s1 n1 _ h1 h2 h3 =>
    cases k with
    | none k => exact absurd h1 (k _)
    | @some s2 n2 _ k1 k2 k3 =>
      have : s1 = s2 := Int.le_antisymm (h2 _ k1) (k2 _ h1)
      subst this
      exact h3.uniq k3
theorem Topo.uniq (h : Topo l xs) (k : Topo l ys) (hl : xs.length = ys.length) : xs = ys := by
  have key : ∀ i, i ≤ xs.length → xs.take i = ys.take i := fun i => by
    induction i with
    | zero => intro _; simp
    | succ i ih =>
      intro hi
      have h1 := ih (by omega)
      have h2 := k.nxt i (by omega)
      rw [← h1] at h2
      obtain ⟨h3, h4⟩ := h.at h2
      rw [List.take_succ_eq_append_getElem h3, List.take_succ_eq_append_getElem (by omega), h1, h4]
  have := key xs.length (Nat.le_refl _)
  rw [List.take_of_length_le (Nat.le_refl _), List.take_of_length_le (by omega)] at this
  exact this
end
end Go.Proofs.Ytgefponjlliaaaa.Cy
namespace Go.Proofs.Ytgefponjlliaaaa
open Go Go.RowKit Go.Shelf
set_option maxRecDepth 100000

theorem does_long (A : Option Addr) (n c : Nat) (a : Int) (w : World) (h : 14 < n) :
    Calls Try.prog 3 #[.slice A n c, .int .i64 a] w fun e w' => e = .returned (.bool true) ∧ Below w.heap.size w w' := by
  have HA := Lib.hid (awake_any w)
  have q1 : (14 : Int) < (n : Int) := by omega
  have q1' : decide ((14 : Int) < (n : Int)) = true := by simp; omega
  go_enter Try.func3, Try.ntmps3
  go_wp2_with fail
  refine HA.out.mono ?_
  rintro e w1 ⟨rfl, hb1⟩
  have HB1 := Lib.hid hb1
  clear hb1
  go_wp2_with fail
  go_ret
  exact ⟨rfl, HB1.out⟩
/-- two orders that are told are the same -/
theorem Told.same {l : List Es.Ed} {W w1 W' w2 : World} {i1 i2 : Bool} {A1 A2 : Option Addr} {c1 c2 : Nat} {xs ys : List Int} (h : Told l W w1 i1 A1 c1 xs) (k : Told l W' w2 i2 A2 c2 ys) : i1 = i2 ∧ xs = ys := by
  have hi : i1 = i2 := Bool.eq_iff_iff.2 (h.iff.trans k.iff.symm)
  subst hi
  refine ⟨rfl, ?_⟩
  cases i1 with
  | false => rw [(h.no rfl).1, (k.no rfl).1]
  | true => exact (h.yes rfl).1.uniq (k.yes rfl).1 ((h.yes rfl).2.trans (k.yes rfl).2.symm)
set_option maxHeartbeats 8000000 in
theorem does_walk (A : Option Addr) (n c : Nat) (l : List Es.Ed) (a : Int) (w : World) (_hm : n ≤ maxLen) (hn : l.length = n) (hl : Es.Ls w A c l) :
    Calls Try.prog 3 #[.slice A n c, .int .i64 a] w fun e w' => e = .returned (.bool true) ∧ Below w.heap.size w w' := by
  by_cases h14 : 14 < n
  · exact does_long A n c a w h14
  have HA := Lib.hid (awake_any w)
  have HL := Lib.hid hl
  have HN := Lib.hid hn
  have q1 : ¬ (14 : Int) < (n : Int) := by omega
  have q1' : decide ((14 : Int) < (n : Int)) = false := by simp; omega
  clear hl hn
  go_enter Try.func3, Try.ntmps3
  go_wp2_with fail
  refine HA.out.mono ?_
  rintro e w1 ⟨rfl, hb1⟩
  have HL1 := Lib.hid (HL.out.below hb1)
  have HB1 := Lib.hid hb1
  have HO1 := Lib.hid (order_any HL1.out (by rw [HN.out]; omega))
  rw [HN.out] at HO1
  clear hb1 HA HL
  go_wp2_with fail
  refine HO1.out.mono ?_
  rintro e w2 h2
  obtain ⟨is, A2, c2, xs, rfl, ht2⟩ := h2.told
  have HT2 := Lib.hid ht2
  have HL2 := Lib.hid (HL1.out.below ht2.bel)
  have HB2 := Lib.hid (HB1.out.trans (ht2.bel.mono HB1.out.size))
  have HO2 := Lib.hid (rorder_any HL2.out (by rw [HN.out]; omega))
  rw [HN.out] at HO2
  clear h2 ht2 HO1 HL1 HB1
  go_wp2_with fail
  refine HO2.out.mono ?_
  rintro e w3 h3
  obtain ⟨is3, A3, c3, xs3, rfl, ht3⟩ := h3.told
  obtain ⟨rfl, rfl⟩ := HT2.out.same ht3
  have HLx2 := Lib.hid (HT2.out.ls.below ht3.bel)
  have HLx3 := Lib.hid ht3.ls
  have HL3 := Lib.hid (HL2.out.below ht3.bel)
  have HB3 := Lib.hid (HB2.out.trans (ht3.bel.mono HB2.out.size))
  have HXl := Lib.hid (show xs.length ≤ 1000000 from by
    have h := HT2.out
    cases is with
    | false => rw [(h.no rfl).1]; simp
    | true =>
      rw [(h.yes rfl).2]
      have := Cy.nodesC_len l
      rw [HN.out] at this
      omega)
  clear h3 ht3 HO2 HL2 HB2
  have H10 := Lib.hid (fun (v : World) (hv : Below w3.heap.size w3 v) => onC_any (HL3.out.below hv) (by rw [HN.out]; omega))
  have H11 := Lib.hid (fun (v : World) (hv : Below w3.heap.size w3 v) => ron_any (HL3.out.below hv) (by rw [HN.out]; omega))
  have H12 := Lib.hid (fun (v : World) (hv : Below w3.heap.size w3 v) => find_any (HL3.out.below hv) (by rw [HN.out]; omega))
  have H13 := Lib.hid (fun (v : World) (hv : Below w3.heap.size w3 v) => rring_any (HL3.out.below hv) (by rw [HN.out]; omega))
  have H14 := Lib.hid (fun (v : World) (hv : Below w3.heap.size w3 v) => reachC_any (HL3.out.below hv) (by rw [HN.out]; omega) a)
  have H15 := Lib.hid (fun (v : World) (hv : Below w3.heap.size w3 v) => rreach_any (HL3.out.below hv) (by rw [HN.out]; omega) a)
  have HC := Lib.hid (fun (v : World) (hv : Below w3.heap.size w3 v) => Is.same_any (HLx2.out.below hv) (HLx3.out.below hv) HXl.out)
  simp only [HN.out] at H10 H11 H12 H13 H14 H15
  have HOl := Lib.hid (fun (p : Int → Prop) (ys : List Int) (h : Cy.Rises p ys) (hp : ∀ x, p x → x ∈ Cy.nodesC l) => show ys.length ≤ 1000000 from by
    have h1 := h.len (l := l) hp
    rw [HN.out] at h1
    omega)
  have HRl := Lib.hid (fun (ys : List Int) (h : Cy.Ringed l ys) => show ys.length ≤ 1000000 from by
    have h1 := h.len
    have h2 := Cy.nodesC_len l
    rw [HN.out] at h2
    omega)
  go_wp2_with fail
  refine (H10.out _ (Below.refl _ _)).mono ?_
  rintro e x2 ⟨v2, ys2, rfl, hr2, hs2, hb2⟩
  obtain ⟨B2, d2, rfl, hls2⟩ := hr2.ls
  have HBq := Lib.hid hb2
  have RSq := Lib.hid hs2
  have LSq := Lib.hid hls2
  clear hr2 hs2 hb2 hls2
  go_wp2_with fail
  refine (H11.out _ HBq.out).mono ?_
  rintro e x3 ⟨v3, ys3, rfl, hr3, hs3, hb3⟩
  obtain ⟨B3, d3, rfl, hls3⟩ := hr3.ls
  obtain rfl := RSq.out.uniq hs3
  have HBr := Lib.hid (HBq.out.trans (hb3.mono HBq.out.size))
  have S1 := Lib.hid (Is.same_any (LSq.out.below hb3) hls3 (HOl.out _ _ hs3 fun x hx => (Cy.pl_node hx).2))
  clear hr3 hs3 hb3 hls3
  go_wp2_with fail
  refine S1.out.mono ?_
  rintro e x4 ⟨rfl, hc4⟩
  have HBs := Lib.hid (HBr.out.trans (hc4.mono HBr.out.size))
  clear hc4
  go_wp2_with fail
  refine (H12.out _ HBs.out).mono ?_
  rintro e x5 ⟨v5, ys5, rfl, hr5, hs5, hb5⟩
  obtain ⟨A5, c5, rfl, hls5⟩ := hr5.ls
  have HB5 := Lib.hid (HBs.out.trans (hb5.mono HBs.out.size))
  have RS5 := Lib.hid hs5
  have LS5 := Lib.hid hls5
  clear hr5 hs5 hb5 hls5
  go_wp2_with fail
  refine (H13.out _ HB5.out).mono ?_
  rintro e x6 ⟨A6, c6, ys6, rfl, hls6, hs6, hb6⟩
  obtain rfl := RS5.out.uniq hs6
  have HB6 := Lib.hid (HB5.out.trans (hb6.mono HB5.out.size))
  have S2 := Lib.hid (Is.same_any (LS5.out.below hb6) hls6 (HRl.out _ hs6))
  clear hs6 hb6 hls6
  go_wp2_with fail
  refine S2.out.mono ?_
  rintro e x7 ⟨rfl, hc7⟩
  have HB7 := Lib.hid (HB6.out.trans (hc7.mono HB6.out.size))
  have S3 := Lib.hid (HC.out _ HB7.out)
  clear hc7
  go_wp2_with fail
  refine S3.out.mono ?_
  rintro e x8 ⟨rfl, hc8⟩
  have HB8 := Lib.hid (HB7.out.trans (hc8.mono HB7.out.size))
  clear hc8
  have hii : (is == is) = true := by simp
  go_wp2_with fail
  refine (H14.out _ HB8.out).mono ?_
  rintro e x9 ⟨v9, ys9, rfl, hr9, hs9, hb9⟩
  obtain ⟨A9, c9, rfl, hls9⟩ := hr9.ls
  have HB9 := Lib.hid (HB8.out.trans (hb9.mono HB8.out.size))
  have RS9 := Lib.hid hs9
  have LS9 := Lib.hid hls9
  clear hr9 hs9 hb9 hls9
  go_wp2_with fail
  refine (H15.out _ HB9.out).mono ?_
  rintro e x10 ⟨v10, ys10, rfl, hr10, hs10, hb10⟩
  obtain ⟨A10, c10, rfl, hls10⟩ := hr10.ls
  obtain rfl := RS9.out.uniq hs10
  have HB10 := Lib.hid (HB9.out.trans (hb10.mono HB9.out.size))
  have S4 := Lib.hid (Is.same_any (LS9.out.below hb10) hls10 (HOl.out _ _ hs10 fun x hx => (Cy.pl_node hx).2))
  clear hr10 hs10 hb10 hls10
  go_wp2_with fail
  refine S4.out.mono ?_
  rintro e x11 ⟨rfl, hc11⟩
  have HBz := Lib.hid (HB3.out.trans ((HB10.out.trans (hc11.mono HB10.out.size)).mono HB3.out.size))
  clear hc11
  go_wp2_with fail
  go_ret
  exact ⟨rfl, HBz.out⟩
end Go.Proofs.Ytgefponjlliaaaa
