/- The walk of the law of who waits for whom, at each node and everywhere. -/
import Derived.Test.YtjhkejkdnjogiaaGreatDoorGu
import Derived.Test.YtjhkejkdnjogiaaGreatDoorAw
namespace Go.Proofs.YtjhkejkdnjogiaaGreatDoor
open Go Go.RowKit Go.Shelf
set_option maxRecDepth 100000

section
variable {w W W' : World} {b t m c : Nat} {mr : Int} {C : Pa.Pt → Cx} {es : List Nd} {K : (Nat → Prop) → World → Prop}
/-- what a law asks of both tables at their end -/
structure Both (W : World) (b t : Nat) (C : Pa.Pt → Cx) (es : List Nd) : Prop where
  all : ∀ W', Below W.heap.size W W' → Calls Tryz.prog 13 #[tp b] W' (Es.Rows W' (edgesP C (es.map (·.p))))
  ref : ∀ W', Below W.heap.size W W' → Calls Tryz.prog 14 #[qp t] W' (Es.Rows W' (edgesP C (es.map (·.p))))
  len : (edgesP C (es.map (·.p))).length ≤ 90000
  queue : ∀ p, Calls Tryz.prog 8 #[tp b, p.v] W (Cpy W (C p))
  find : ∀ p r, Rt.Fd es p r → ∀ W', Below W.heap.size W W' → Calls Tryz.prog 9 #[qp t, p.v] W' fun e w' => e = .returned (.int .i64 r) ∧ Below W'.heap.size W' w'
  at' : ∀ i (h : i < es.length), ∃ g c, W.cell? ⟨t, 0, none⟩ = some (.slice (some ⟨g, 0, none⟩) es.length c) ∧ W.cell? ⟨g, i, none⟩ = some (qp es[i].q)
  edges : ∀ i (h : i < es.length), ∀ W', Below W.heap.size W W' → Calls Tryz.prog 12 #[qp es[i].q] W' (Es.Rows W' (edgesC (C es[i].p)))
theorem Du.both (h : Du w W b t m mr c C es K) (ht : TabG w) (hm : m ≤ 1000) (hc : c ≤ 300) (R : Rt.Rel C es) : Both W b t C es := by
  have hf := h.facts R
  obtain ⟨T, B0, u, r, K0, A, D, cc, h1, h2, h3, -⟩ := h.is
  have hps : ∀ p, p ∈ es.map (·.p) ↔ 0 < szC (C p) := fun p => by rw [R.mem, List.mem_map]
  have hsr : (es.map (·.p)).Pairwise (fun p q => Pa.lessB p q = true) := by rw [List.pairwise_map]; exact R.srt
  have hon : ∀ e, e ∈ es → Once e.L := fun e he => by
    have := (h1.inv e.p).once
    rw [R.cy e he] at this
    exact this
  refine ⟨fun W' hb => ?_, fun W' hb => ?_, Nat.le_trans (Od.can_len _) (h1.flat hc R.nodup hps), fun p => h1.queue (by omega) p, fun p r hr W' hb => (h3.below hb).find (by omega) hr, fun i hi => ?_, fun i hi W' hb => ?_⟩
  · exact (h1.below hb).all ((ht.later h.bel).later hb) hm hc hsr hps
  · rw [R.flat]
    exact (h3.below hb).edges (by omega) (by omega) hon
  · obtain ⟨g, hA, hg, -⟩ := h3.at hi
    subst hA
    exact ⟨g, cc, h3.e0 rfl, hg⟩
  · rw [R.cy _ (List.getElem_mem hi)]
    exact h3.queueEdges (by omega) hon hi hb
theorem Both.below (h : Both W b t C es) (hq : ∀ p, Calls Tryz.prog 8 #[tp b, p.v] W' (Cpy W' (C p))) (hb : Below W.heap.size W W') : Both W' b t C es :=
  ⟨fun X hx => h.all X (hb.trans (hx.mono hb.size)), fun X hx => h.ref X (hb.trans (hx.mono hb.size)), h.len, hq, fun p r hr X hx => h.find p r hr X (hb.trans (hx.mono hb.size)), fun i hi => by
    obtain ⟨g, c, h1, h2⟩ := h.at' i hi
    exact ⟨g, c, (hb.cell (p := ⟨t, 0, none⟩) (cell_lt h1)).trans h1, (hb.cell (p := ⟨g, i, none⟩) (cell_lt h2)).trans h2⟩, fun i hi X hx => h.edges i hi X (hb.trans (hx.mono hb.size))⟩
end
theorem InD.below {w w' : World} {A : Option Addr} {n : Nat} {d : Nat → Dd} (h : InD w A n d) (hb : Below w.heap.size w w') : InD w' A n d := fun i hi => by
  obtain ⟨ad, h1, h2, -, h5⟩ := h i hi
  obtain ⟨ad', h1', h4⟩ := h.at hb hi
  rw [h1] at h1'
  cases h1'
  exact ⟨ad, h1, Nat.lt_of_lt_of_le h2 hb.size, h4, h5⟩
theorem does_long (A : Option Addr) (n c : Nat) (p : Pa.Pt) (w : World) (ht : TabG w) (hm : n ≤ maxLen) (h : 60 < n) :
    Calls Tryz.prog 3 #[.slice A n c, p.v] w fun e w' => e = .returned (.bool true) ∧ Below w.heap.size w w' := by
  unfold maxLen at hm
  have hx := box_below w (.cells (pcs p) 25)
  have HA := Lib.hid (awake_any _ (ht.later hx))
  have HX := Lib.hid hx
  have q1 : (60 : Int) < (n : Int) := by omega
  have q1' : decide ((60 : Int) < (n : Int)) = true := by simp; omega
  obtain ⟨pa, pb, pc, pd, pe⟩ := p
  clear ht h hx
  go_enter Tryz.func3, Tryz.ntmps3
  go_wp2_with fail
  refine HA.out.mono ?_
  rintro e w1 ⟨rfl, hb1⟩
  have HB := Lib.hid (HX.out.trans (hb1.mono HX.out.size))
  clear hb1
  go_wp2_with fail
  go_ret
  exact ⟨rfl, HB.out⟩
/-- what is read of the document's table while a node's edges are held against each other -/
abbrev Sx (t g n c i q : Nat) (w : World) : Prop := w.cell? ⟨t, 0, none⟩ = some (.slice (some ⟨g, 0, none⟩) n c) ∧ w.cell? ⟨g, i, none⟩ = some (qp q)
theorem sx_below {t g n c i q : Nat} {w w' : World} (h : Sx t g n c i q w) (hb : Below w.heap.size w w') : Sx t g n c i q w' :=
  ⟨(hb.cell (p := ⟨t, 0, none⟩) (cell_lt h.1)).trans h.1, (hb.cell (p := ⟨g, i, none⟩) (cell_lt h.2)).trans h.2⟩
set_option maxHeartbeats 16000000 in
theorem does_walk (A : Option Addr) (n c : Nat) (g : Nat → Dd) (p : Pa.Pt) (w : World) (ht : TabG w) (hm : n ≤ maxLen) (hi : InD w A n g) :
    Calls Tryz.prog 3 #[.slice A n c, p.v] w fun e w' => e = .returned (.bool true) ∧ Below w.heap.size w w' := by
  by_cases h60 : 60 < n
  · exact does_long A n c p w ht hm h60
  have hx := box_below w (.cells (pcs p) 25)
  have HX := Lib.hid hx
  have HP := Lib.hid (Pbx.new w p 25)
  have HT := Lib.hid (ht.later hx)
  have HA := Lib.hid (awake_any _ (ht.later hx))
  have D := Lib.hid (hi.below hx)
  have HSz := Lib.hid (show w.heap.size < (w.alloc (.cells (pcs p) 25)).heap.size by simp)
  have q1 : ¬ (60 : Int) < (n : Int) := by omega
  have q1' : decide ((60 : Int) < (n : Int)) = false := by simp; omega
  obtain ⟨pa, pb, pc, pd, pe⟩ := p

  clear ht hi hm hx
  go_enter Tryz.func3, Tryz.ntmps3
  go_wp2_with fail
  generalize w.alloc (.cells #[.int .i64 pa, .int .i64 pb, .int .i64 pc, .int .i64 pd, .int .i64 pe] 25) = w0 at *
  generalize hBp : w.heap.size = Bp at *
  have HBp := Lib.hid hBp
  clear hBp
  refine HA.out.mono ?_
  rintro e w1 ⟨rfl, hb1⟩
  have HDn := Lib.hid (done_any 40 200 A n c g w0 w1 HT.out (by omega) D.out hb1)
  clear hb1 HA
  go_wp2_with fail
  refine HDn.out.mono ?_
  rintro e w2 ⟨b, t, C, es, rfl, hdu, hR⟩
  have HBo := Lib.hid (hdu.both HT.out (by decide) (by omega) hR)
  have R := Lib.hid hR
  have HB2 := Lib.hid (HX.out.trans (hdu.bel.mono (Nat.le_of_lt HSz.out)))
  have HS2 := Lib.hid hdu.bel.size
  have HSize := Lib.hid (fun p => (show (C p).1.length + (C p).2.length ≤ 60 from by have := hdu.size p; omega))
  have hpb : Pbx w2 Bp ⟨pa, pb, pc, pd, pe⟩ := HP.out.below hdu.bel
  have q0 := hpb.c0
  have q2 := hpb.c1
  have q3 := hpb.c2
  have q4 := hpb.c3
  have q5 := hpb.c4
  simp only at q0 q2 q3 q4 q5
  have HPb := Lib.hid hpb
  replace HT := Lib.hid (HT.out.later hdu.bel)
  clear hdu hR hpb HDn HP D
  go_wp2_with fail
  refine (HBo.out.queue ⟨pa, pb, pc, pd, pe⟩).mono ?_
  rintro e w3 ⟨hb3, hor⟩
  have HB3 := Lib.hid hb3
  clear hb3 q0 q2 q3 q4 q5
  rcases hor with ⟨-, rfl⟩ | ⟨hz, Q, B1, d1, B2, d2, rfl, hq, -⟩
  · have HBW := HB3
    clear HPb HB3 R HT
    have HAl := Lib.hid (HBo.out.all _ HBW.out)
    have HRf := Lib.hid (fun (x : World) (hx : Below w2.heap.size w2 x) => HBo.out.ref x hx)
    have HLn := Lib.hid HBo.out.len
    generalize edgesP C (es.map (·.p)) = E at *
    obtain ⟨k, hk⟩ : ∃ k, E.length = k := ⟨_, rfl⟩
    have HK := Lib.hid hk
    clear hk HBo
    go_wp2_with fail
    refine HAl.out.mono ?_
    rintro e wa ⟨va, rfl, hra, hba⟩
    obtain ⟨Aa, ca, rfl, hlsa⟩ := hra.ls
    have HBa := Lib.hid (HBW.out.trans (hba.mono HBW.out.size))
    have HLa := Lib.hid hlsa
    have HRf' := Lib.hid (HRf.out _ HBa.out)
    rw [HK.out]
    clear hra hba hlsa HAl HRf HBW
    go_wp2_with fail
    refine HRf'.out.mono ?_
    rintro e wb ⟨vb, rfl, hrb, hbb⟩
    obtain ⟨Ab, cb, rfl, hlsb⟩ := hrb.ls
    have HBb := Lib.hid (HBa.out.trans (hbb.mono HBa.out.size))
    have HSm := Lib.hid (Es.same_any (HLa.out.below hbb) hlsb (by have := HLn.out; omega))
    rw [HK.out] at HSm ⊢
    clear hrb hbb hlsb HRf' HBa HLa
    go_wp2_with fail
    refine HSm.out.mono ?_
    rintro e wc ⟨rfl, hbc⟩
    have HBc := Lib.hid (HB2.out.trans ((HBb.out.trans (hbc.mono HBb.out.size)).mono (Nat.le_trans (Nat.le_of_lt HSz.out) HS2.out)))
    clear hbc HSm HBb
    go_wp2_with fail
    go_ret
    exact ⟨rfl, by rw [HBp.out]; exact HBc.out⟩
  · obtain ⟨e, he, hep⟩ := R.out.mem.1 hz
    obtain ⟨i, hi, rfl⟩ := List.mem_iff_getElem.1 he
    have HFi := Lib.hid (HBo.out.find _ _ (R.out.fd hi) w3 HB3.out)
    obtain ⟨gg, cg, t0, t1⟩ := HBo.out.at' i hi
    have HEd := Lib.hid (fun (x : World) (hx : Below w2.heap.size w2 x) => HBo.out.edges i hi x hx)
    rw [hep] at HFi HEd
    have HQu := Lib.hid hq
    have hsz := HSize.out ⟨pa, pb, pc, pd, pe⟩
    have HOf := Lib.hid (fun (x : World) (hx : Below w3.heap.size w3 x) => Es.of_any ((HT.out.later HB3.out).later hx) (HQu.out.below hx).its (by omega) (by omega))
    obtain ⟨ne, hne⟩ : ∃ k, es.length = k := ⟨_, rfl⟩
    rw [hne] at t0 hi
    have HSx := Lib.hid (show Sx t gg ne cg i es[i].q w2 from ⟨t0, t1⟩)
    obtain ⟨Z, hZ⟩ : ∃ Z, edgesC (C ⟨pa, pb, pc, pd, pe⟩) = Z := ⟨_, rfl⟩
    rw [hZ] at HEd
    have HOf' := Lib.hid (fun (x : World) (hx : Below w3.heap.size w3 x) => (show Calls Tryz.prog 11 #[qp Q] x (Es.Rows x Z) from by rw [← hZ]; exact HOf.out x hx))
    have hZl : Z.length ≤ 90000 := by
      rw [← hZ]
      refine Nat.le_trans (edgesC_len _ (by omega)) ?_
      have : szC (C ⟨pa, pb, pc, pd, pe⟩) * 300 ≤ 300 * 300 := Nat.mul_le_mul_right _ (by unfold szC; omega)
      omega
    obtain ⟨nz, hnz⟩ : ∃ k, Z.length = k := ⟨_, rfl⟩
    have NZ := Lib.hid hnz
    rw [hnz] at hZl
    generalize es[i].q = Qe at *
    have hpb := HPb.out.below HB3.out
    have q0 := hpb.c0
    have q2 := hpb.c1
    have q3 := hpb.c2
    have q4 := hpb.c3
    have q5 := hpb.c4
    simp only at q0 q2 q3 q4 q5
    clear he hep t0 t1 hq hsz hnz hZ HOf HPb hpb hz HT
    have hcg : i < ne := hi
    go_wp2_with fail
    refine HFi.out.mono ?_
    rintro e w4 ⟨rfl, hb4⟩
    have HB4 := Lib.hid (HB3.out.trans (hb4.mono HB3.out.size))
    have HB34 := Lib.hid hb4
    have hs4 : Sx t gg ne cg i Qe w4 := sx_below HSx.out HB4.out
    have HS4 := Lib.hid hs4
    clear hb4 HFi q0 q2 q3 q4 q5 HSx hs4
    have hi0 : ¬ (i : Int) < 0 := by omega
    go_wp2_with fail
    go_region_held3 (Sx t gg ne cg i Qe) (first | exact HS4.out | exact sx_below HS4.out hbb5 | exact sx_below HS4.out hbb6 | exact sx_below HS4.out hbb7) (first
      | (go_at_call 11; refine (HOf'.out _ (HB34.out.drew)).mono ?_; rintro e w5 ⟨v5, rfl, hr5, hb5⟩; obtain ⟨A5, c5, rfl, hls5⟩ := hr5.ls; have hbb5 : Below w4.heap.size w4 w5 := (drew_below w4 1).trans (hb5.mono (Nat.le_refl _)); rw [NZ.out])
      | (go_at_call 12; refine (HEd.out _ (HB4.out.trans (hbb5.mono HB4.out.size))).mono ?_; rintro e w6 ⟨v6, rfl, hr6, hb6⟩; obtain ⟨A6, c6, rfl, hls6⟩ := hr6.ls; have hbb6 : Below w4.heap.size w4 w6 := hbb5.trans (hb6.mono hbb5.size); have hsm := Es.same_any (hls5.below hb6) hls6 (by rw [NZ.out]; omega); rw [NZ.out] at hsm ⊢)
      | (go_at_call 10; refine hsm.mono ?_; rintro e w7 ⟨rfl, hb7⟩; have hbb7 : Below w4.heap.size w4 w7 := hbb6.trans (hb7.mono hbb6.size)))
    have HBW := Lib.hid (HB4.out.trans (hbb7.mono HB4.out.size))
    clear hbb5 hbb6 hbb7 hls5 hls6 hr5 hr6 hb5 hb6 hb7 hsm HOf' HEd HB4 HB34 HS4 HB3 R
    have HAl := Lib.hid (HBo.out.all _ HBW.out)
    have HRf := Lib.hid (fun (x : World) (hx : Below w2.heap.size w2 x) => HBo.out.ref x hx)
    have HLn := Lib.hid HBo.out.len
    generalize edgesP C (es.map (·.p)) = E at *
    obtain ⟨k, hk⟩ : ∃ k, E.length = k := ⟨_, rfl⟩
    have HK := Lib.hid hk
    clear hk HBo
    go_wp2_with fail
    refine HAl.out.mono ?_
    rintro e wa ⟨va, rfl, hra, hba⟩
    obtain ⟨Aa, ca, rfl, hlsa⟩ := hra.ls
    have HBa := Lib.hid (HBW.out.trans (hba.mono HBW.out.size))
    have HLa := Lib.hid hlsa
    have HRf' := Lib.hid (HRf.out _ HBa.out)
    rw [HK.out]
    clear hra hba hlsa HAl HRf HBW
    go_wp2_with fail
    refine HRf'.out.mono ?_
    rintro e wb ⟨vb, rfl, hrb, hbb⟩
    obtain ⟨Ab, cb, rfl, hlsb⟩ := hrb.ls
    have HBb := Lib.hid (HBa.out.trans (hbb.mono HBa.out.size))
    have HSm := Lib.hid (Es.same_any (HLa.out.below hbb) hlsb (by have := HLn.out; omega))
    rw [HK.out] at HSm ⊢
    clear hrb hbb hlsb HRf' HBa HLa
    go_wp2_with fail
    refine HSm.out.mono ?_
    rintro e wc ⟨rfl, hbc⟩
    have HBc := Lib.hid (HB2.out.trans ((HBb.out.trans (hbc.mono HBb.out.size)).mono (Nat.le_trans (Nat.le_of_lt HSz.out) HS2.out)))
    clear hbc HSm HBb
    go_wp2_with fail
    go_ret
    exact ⟨rfl, by rw [HBp.out]; exact HBc.out⟩
end Go.Proofs.YtjhkejkdnjogiaaGreatDoor
