/- A table: New, what it tells of itself; a copy of a node's queue. -/
import Derived.Test.YtmolohncllcgbaaGreatDoorTf
namespace Go.Proofs.YtmolohncllcgbaaGreatDoor
open Go Go.RowKit Go.Shelf
set_option maxRecDepth 100000

def clamp (x : Int) (hi : Nat) : Nat := if x < 0 then 0 else if (hi : Int) < x then hi else x.toNat
theorem clamp_le (x : Int) (hi : Nat) : clamp x hi ≤ hi := by unfold clamp; split <;> (try split) <;> omega
section
variable {W W' w' w0 : World} {T : Nat → Prop} {b ha mb B0 m nb i B c Q u t : Nat} {mr : Int} {ns ns' : Ns} {n : Nd} {p : Pa.Pt} {C : Pa.Pt → Cx}
theorem tnew_done {w1 w2 : World} {O : Nat → Prop} {Lo : Nat} (h0 : 0 < W.heap.size) (hA : An.ArenaAt w1 W.heap.size m (.slice none 0 0) (.slice none 0 0) [] []) (hb1 : Below W.heap.size W w1) (hM : Bu.Mq w2 Lo O mb 4 0 (fun _ => none))
    (hO : ∀ k, O k → w1.heap.size ≤ k ∧ k < w2.heap.size) (hb2 : Below w1.heap.size w1 w2) (hmr : 0 ≤ mr ∧ mr ≤ 1024) :
    ∃ T, Ta (w2.alloc (.cells #[An.wp W.heap.size, Bu.wp mb, .int .i64 mr, .int .i64 0] 72)) w2.heap.size T m mr 0 (fun _ => ([], [])) W.heap.size 0 0 ∧ Below W.heap.size W (w2.alloc (.cells #[An.wp W.heap.size, Bu.wp mb, .int .i64 mr, .int .i64 0] 72)) := by
  have hx := box_below w2 (.cells #[An.wp W.heap.size, Bu.wp mb, .int .i64 mr, .int .i64 0] 72)
  have hlt := hA.lt
  have hs1 := hb1.size
  have hs2 := hb2.size
  have hAr : An.Ar w1 W.heap.size (fun k => k = W.heap.size) m [] [] := ⟨_, _, hA, fun k => by simp [Value.ownBlock]⟩
  obtain ⟨g, cc, cs, hm⟩ := hM
  have hno : ∀ i n, ¬ Isn [] i n := fun i n h => by unfold Isn at h; simp at h
  refine ⟨Foot w2.heap.size (fun k => k = W.heap.size) O [], ⟨[], ⟨W.heap.size, mb, fun k => k = W.heap.size, O, 4, 0, [], fun _ => none, ⟨?_, ?_, ?_, ?_, ?_, ?_, ⟨Lo, g, cc, cs, hm.below hx⟩, ?_, ?_, ?_, ?_, ?_, ?_, ?_, h0⟩, Ok.nil, by omega, by omega, by omega, fun k => Iff.rfl⟩, ?_, rfl, rfl, by omega, hmr.1, hmr.2⟩, ?_⟩
  · simp [go_sem]
  · simp [go_sem]
  · simp [go_sem]
  · simp [go_sem]; rfl
  · simp [go_sem]
  · exact (hAr.below hb2).below hx
  · intro i n h; exact absurd h (hno i n)
  · intro i n h; exact absurd h (hno i n)
  · intro i n j k h; exact absurd h (hno i n)
  · intro k hk ho
    have := hO k ho
    omega
  · omega
  · intro ho
    have := hO _ ho
    omega
  · rintro k (hk | ⟨i, n, h, -⟩)
    · rcases hk with hk | hk | hk
      · omega
      · omega
      · have := hO k hk
        omega
    · exact absurd h (hno i n)
  · intro i n h; exact absurd h (hno i n)
  · exact (hb1.trans (hb2.mono hs1)).trans (hx.mono (by omega))
set_option maxHeartbeats 1000000 in
theorem tnew_any (hd rq : Int) (W : World) (h0 : 0 < W.heap.size) : Calls Tryz.prog 6 #[.int .i64 hd, .int .i64 rq] W fun e w' => ∃ b T, e = .returned (tp b) ∧ Ta w' b T (clamp hd 256) ((clamp rq 1024 : Nat) : Int) 0 (fun _ => ([], [])) W.heap.size 0 0 ∧ Below W.heap.size W w' := by
  have HA := Lib.hid (fun (x : Int) (k : Nat) (hk : k ≤ 256) (hx : x = k) => (show Calls Tryz.prog 29 #[.int .i64 x] W fun e w' => e = .returned (An.wp W.heap.size) ∧ An.ArenaAt w' W.heap.size k (.slice none 0 0) (.slice none 0 0) [] [] ∧ Below W.heap.size W w' from by
    subst hx
    have := An.new_any (k : Int) W
    rw [show An.cl (k : Int) = k by unfold An.cl; rw [if_neg (by omega), if_neg (by omega)]; simp] at this
    exact this))
  have HF := Lib.hid (fun (m : Nat) (mr : Int) (w1 w2 : World) (hA : An.ArenaAt w1 W.heap.size m (.slice none 0 0) (.slice none 0 0) [] []) (hb1 : Below W.heap.size W w1) (hM : Bu.Mq w2 w1.heap.size (fun k => w1.heap.size ≤ k ∧ k < w2.heap.size) (w1.heap.size + 1) 4 0 (fun _ => none)) (hb2 : Below w1.heap.size w1 w2) (hmr : 0 ≤ mr ∧ mr ≤ 1024) => tnew_done h0 hA hb1 hM (fun _ h => h) hb2 hmr)
  clear h0
  have hcases : ∀ (x : Int) (hi : Nat) (hI : Int), hI = hi → (x < 0 ∧ clamp x hi = 0) ∨ (¬ x < 0 ∧ hI < x ∧ clamp x hi = hi) ∨ (¬ x < 0 ∧ ¬ hI < x ∧ ∃ k : Nat, x = k ∧ clamp x hi = k) := fun x hi hI e => by
    subst e
    by_cases h1 : x < 0
    · exact .inl ⟨h1, by unfold clamp; rw [if_pos h1]⟩
    · by_cases h2 : (hi : Int) < x
      · exact .inr (.inl ⟨h1, h2, by unfold clamp; rw [if_neg h1, if_pos h2]⟩)
      · exact .inr (.inr ⟨h1, h2, x.toNat, by omega, by unfold clamp; rw [if_neg h1, if_neg h2]⟩)
  rcases hcases hd 256 256 rfl with ⟨a1, a3⟩ | ⟨a1, a2, a3⟩ | ⟨a1, a2, k, rfl, a3⟩ <;> rcases hcases rq 1024 1024 rfl with ⟨b1, b3⟩ | ⟨b1, b2, b3⟩ | ⟨b1, b2, l, rfl, b3⟩
  all_goals
    clear hcases
    rw [a3, b3]
    clear a3 b3
    go_enter Tryz.func6, Tryz.ntmps6
    go_wp2_with fail
    (first | refine (HA.out _ k (by omega) rfl).mono ?_ | refine (HA.out 0 0 (by decide) rfl).mono ?_ | refine (HA.out 256 256 (by decide) rfl).mono ?_)
    rintro e w1 ⟨rfl, hA, hb1⟩
    have HA1 := Lib.hid hA
    have HB1 := Lib.hid hb1
    clear hA hb1
    go_wp2_with fail
    refine (Bu.new_any w1).mono ?_
    rintro e w2 ⟨rfl, hM, hb2⟩
    have HE := Lib.hid (fun mr hmr => HF.out _ mr w1 w2 HA1.out HB1.out hM hb2 hmr)
    clear hM hb2
    go_wp2
    go_ret
    (first
      | (obtain ⟨T, k1, k2⟩ := HE.out (l : Int) (by omega); exact ⟨_, T, rfl, k1, k2⟩)
      | (obtain ⟨T, k1, k2⟩ := HE.out 0 (by decide); exact ⟨_, T, rfl, k1, k2⟩)
      | (obtain ⟨T, k1, k2⟩ := HE.out 1024 (by decide); exact ⟨_, T, rfl, k1, k2⟩))
theorem Tx.len {r : Int} (h : Tx W b T m mr c ns r C B0) : ∃ ha mb, ∀ W', Below W.heap.size W W' → (Calls Tryz.prog 61 #[An.wp ha] W' fun e w' => e = .returned (.int .i64 (us ns : Int)) ∧ ∃ j, w' = W'.drewN j) ∧
    (Calls Tryz.prog 42 #[An.wp ha] W' fun e w' => e = .returned (.int .i64 ((m : Int) - (us ns : Int))) ∧ ∃ j, w' = W'.drewN j) ∧ Calls Tryz.prog 56 #[tp b] W' fun e w' => e = .returned (tv (An.wp ha) (Bu.wp mb) (.int .i64 mr) (.int .i64 r)) ∧ Below W'.heap.size W' w' := by
  obtain ⟨ha, mb, S, O, nb, t, fs, F, h1, h2, h3⟩ := h.is
  have hc := h2.cnt
  refine ⟨ha, mb, fun W' hb => ⟨?_, ?_, (h1.below hb).its⟩⟩
  · obtain ⟨pv, fv, hA, -⟩ := (h1.below hb).ar
    have := An.len_any hA
    rw [pls_len] at this
    rw [show (ns.length : Int) - (fs.length : Int) = (us ns : Int) by omega] at this
    exact this
  · obtain ⟨pv, fv, hA, -⟩ := (h1.below hb).ar
    have := An.left_any hA
    rw [pls_len] at this
    rw [show (m : Int) - ((ns.length : Int) - (fs.length : Int)) = (m : Int) - (us ns : Int) by omega] at this
    exact this
theorem Ta.heads (h : Ta W b T m mr c C B0 u t) : Calls Tryz.prog 23 #[tp b] W fun e w' => e = .returned (.int .i64 (u : Int)) ∧ Below W.heap.size W w' := by
  obtain ⟨ns, g1, g2, rfl, g4⟩ := h.is
  obtain ⟨ha, mb, hh⟩ := g1.len
  have HI := Lib.hid (hh W (Below.refl _ _)).2.2
  have HL := Lib.hid (fun (W' : World) (hb : Below W.heap.size W W') => (hh W' hb).1)
  clear h g1 g2 g4 hh
  generalize us ns = u at *
  go_enter Tryz.func23, Tryz.ntmps23
  go_wp2_with fail
  refine HI.out.mono ?_
  rintro e w1 ⟨rfl, hb1⟩
  have HB1 := Lib.hid hb1
  have HL1 := Lib.hid (HL.out w1 hb1)
  clear hb1 HI HL
  go_wp2_with fail
  refine HL1.out.mono ?_
  rintro e w2 ⟨rfl, j, rfl⟩
  go_wp2_with fail
  go_ret
  exact ⟨rfl, HB1.out.trans ((drew_below w1 j).mono HB1.out.size)⟩
theorem Ta.reqs (h : Ta W b T m mr c C B0 u t) : Calls Tryz.prog 24 #[tp b] W fun e w' => e = .returned (.int .i64 (t : Int)) ∧ Below W.heap.size W w' := by
  obtain ⟨ns, g1, g2, g3, rfl, g4⟩ := h.is
  obtain ⟨ha, mb, hh⟩ := g1.len
  have HI := Lib.hid (hh W (Below.refl _ _)).2.2
  clear h g1 g2 g3 g4 hh
  generalize tot ns = u at *
  go_enter Tryz.func24, Tryz.ntmps24
  go_wp2_with fail
  refine HI.out.mono ?_
  rintro e w1 ⟨rfl, hb1⟩
  have HB1 := Lib.hid hb1
  clear hb1 HI
  go_wp2_with fail
  go_ret
  exact ⟨rfl, HB1.out⟩
theorem Ta.full (h : Ta W b T m mr c C B0 u t) : Calls Tryz.prog 22 #[tp b] W fun e w' => e = .returned (.tuple #[.int .i64 (m : Int), .int .i64 mr]) ∧ Below W.heap.size W w' := by
  obtain ⟨ns, g1, g2, g3, g4⟩ := h.is
  obtain ⟨ha, mb, hh⟩ := g1.len
  have hm := g1.usm
  have HI := Lib.hid (hh W (Below.refl _ _)).2.2
  have HL := Lib.hid (fun (W' : World) (hb : Below W.heap.size W W') => (hh W' hb).1)
  have HF := Lib.hid (fun (W' : World) (hb : Below W.heap.size W W') => (hh W' hb).2.1)
  clear h g1 g2 g3 g4 hh
  generalize us ns = v at *
  have k1 := hm.1
  have k2 := hm.2
  clear hm
  go_enter Tryz.func22, Tryz.ntmps22
  go_wp2_with fail
  refine HI.out.mono ?_
  rintro e w1 ⟨rfl, hb1⟩
  have HB1 := Lib.hid (hb1.trans ((box_below w1 (.cells #[An.wp ha, Bu.wp mb, .int .i64 mr, .int .i64 ((tot ns : Nat) : Int)] 72)).mono hb1.size))
  have HL1 := Lib.hid (fun k => HL.out _ (HB1.out.trans ((drew_below _ k).mono HB1.out.size)))
  have HF1 := Lib.hid (fun k => HF.out _ (HB1.out.trans ((drew_below _ k).mono HB1.out.size)))
  clear hb1 HI HL HF
  go_wp2_with fail
  go_quiet (first | (go_at_call 61; exact Calls.quiet_of (HL1.out _)) | (go_at_call 42; exact Calls.quiet_of (HF1.out _)))
  go_wp2_with fail
  go_ret2
  exact ⟨by simp; omega, HB1.out.trans ((drew_below _ _).mono HB1.out.size)⟩
/-- what is told of a node's queue: nil, or a copy -/
def Cpy (W : World) (x : Cx) (e : Ending) (w' : World) : Prop := Below W.heap.size W w' ∧ ((szC x = 0 ∧ e = .returned (.pointer none)) ∨ (0 < szC x ∧ ∃ B A1 c1 A2 c2, e = .returned (qp B) ∧ QAt w' B A1 c1 A2 c2 x.1 x.2 ∧ W.heap.size ≤ B ∧ (∀ a, A1 = some a → W.heap.size ≤ a.block) ∧ ∀ a, A2 = some a → W.heap.size ≤ a.block))
theorem Ta.queue (h : Ta W b T m mr c C B0 u t) (hc : c ≤ 400) (p : Pa.Pt) : Calls Tryz.prog 26 #[tp b, p.v] W (Cpy W (C p)) := by
  obtain ⟨ns, g1, g2, g3, g4, g5, g6⟩ := h.is
  have hx := box_below W (.cells (pcs p) 30)
  have HX := Lib.hid hx
  have HFi := Lib.hid ((g1.below hx).find p)
  have HB := Lib.hid (Pbx.new W p 30)
  have hsz := g1.size p
  have HNe := Lib.hid (show (∃ i n, Isn ns i n ∧ n.p = p) → 0 < szC (C p) from fun ⟨i, n, hi, e⟩ => by rw [← e, g1.cy hi]; exact g2 i n hi)
  have HCo := Lib.hid (fun (w : World) (Q : Nat) (hq : ∃ A1 c1 A2 c2, QAt w Q A1 c1 A2 c2 (C p).1 (C p).2) => (show Calls Tryz.prog 63 #[qp Q] w (Mk w (C p).1 (C p).2) from by
    obtain ⟨A1, c1, A2, c2, hq⟩ := hq
    exact copy_some hq.its (by omega) (by omega)))
  clear h g1 g2 g3 g4 g5 g6 hx hsz
  obtain ⟨pa, pb, pc, pd, pe⟩ := p
  have hB1 := HB.out
  have b0 := hB1.c0
  have b1 := hB1.c1
  have b2 := hB1.c2
  have b3 := hB1.c3
  have b4 := hB1.c4
  simp only at b0 b1 b2 b3 b4
  clear hB1
  go_enter Tryz.func26, Tryz.ntmps26
  go_wp2_with fail
  refine HFi.out.mono ?_
  rintro e w1 ⟨Q, is, rfl, hb1, hq, hor⟩
  have HX1 := Lib.hid (HX.out.trans (hb1.mono HX.out.size))
  have HC1 := Lib.hid (HCo.out w1 Q hq)
  have HO := Lib.hid hor
  clear hb1 hq hor HFi HCo b0 b1 b2 b3 b4
  rcases HO.out with ⟨rfl, i, n, hi, hnp, -⟩ | ⟨rfl, hn, -, -, hC⟩
  · have HZ := Lib.hid (HNe.out ⟨i, n, hi, hnp⟩)
    clear hi hnp
    go_wp2_with fail
    refine HC1.out.mono ?_
    rintro e w2 ⟨B, A1, c1, A2, c2, rfl, hq, hb, hB, f1, f2⟩
    have HE := Lib.hid (show Cpy W (C ⟨pa, pb, pc, pd, pe⟩) (.returned (qp B)) w2 from ⟨HX1.out.trans (hb.mono HX1.out.size), .inr ⟨HZ.out, B, A1, c1, A2, c2, rfl, hq, Nat.le_trans HX1.out.size hB, fun a ha => Nat.le_trans HX1.out.size (f1 a ha), fun a ha => Nat.le_trans HX1.out.size (f2 a ha)⟩⟩)
    clear hq hb hB f1 f2
    go_wp2_with fail
    go_ret
    exact HE.out
  · have HE := Lib.hid (show Cpy W (C ⟨pa, pb, pc, pd, pe⟩) (.returned (.pointer none)) w1 from ⟨HX1.out, .inl ⟨by rw [hC]; rfl, rfl⟩⟩)
    clear hn hC
    go_wp2_with fail
    go_ret
    exact HE.out
end
end Go.Proofs.YtmolohncllcgbaaGreatDoor
