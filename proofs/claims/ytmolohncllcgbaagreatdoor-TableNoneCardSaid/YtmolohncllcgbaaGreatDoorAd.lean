/- The arena of the heads of nodes: a place that was freed is taken again. -/
import Derived.Test.YtmolohncllcgbaaGreatDoorAc
import Derived.StillTailTactics
namespace Go.Proofs.YtmolohncllcgbaaGreatDoor.An
open Go Go.RowKit Go.Shelf
set_option maxRecDepth 100000

theorem row_cap {W : World} {base n size g c : Nat} {e : TypeId} {xs : List Value} (h : W.ownsRow base e size (.slice (some ⟨g, 0, none⟩) n c) n xs) : n ≤ c ∧ c ≤ maxLen := by
  rcases h.2 with ⟨h0, _⟩ | ⟨g', cap', cur, e', hb, hg, h1, h2, h3, h4⟩
  · cases h0
  · cases e'
    exact ⟨h1, h2⟩
/-- the last of those that were freed goes -/
theorem pop_done {W : World} {b m gf k cf i : Nat} {pv : Value} {ps : List Pl} {gs : List Nat} (h : ArenaAt W b m pv (.slice (some ⟨gf, 0, none⟩) (k + 1) cf) ps (gs ++ [i])) (hk : gs.length = k) :
    ArenaAt (W.setCell ⟨b, 2, none⟩ (.slice (some ⟨gf, 0, none⟩) k cf)) b m pv (.slice (some ⟨gf, 0, none⟩) k cf) ps gs := by
  subst hk
  have hrf := h.rf
  rw [List.length_append, nats_snoc] at hrf
  have hr := ownsRow_pop (nats_length gs) hrf
  have q2 : ∀ o, o ≠ 2 → (W.setCell ⟨b, 2, none⟩ (.slice (some ⟨gf, 0, none⟩) gs.length cf)).cell? ⟨b, o, none⟩ = W.cell? ⟨b, o, none⟩ := fun o ho => by
    rw [World.cell?_setCell_other (h := fun e => ho (by injection e with e1 e2; exact e2.symm))]
  have hl := h.fle
  rw [List.length_append] at hl
  refine ⟨(q2 0 (by omega)).trans h.c0, (q2 1 (by omega)).trans h.c1, World.cell?_setCell_same' _ _ _ (by rw [h.c2]; rfl), by rw [World.frozen?_setCell]; exact h.f1, by rw [World.frozen?_setCell]; exact h.f2, ?_, ?_, h.ne, by omega, h.ple, h.mle⟩
  · exact ownsRow_setCell_below h.rp (Nat.lt_succ_self b) _
  · exact ownsRow_setCell_below hr (Nat.lt_succ_self b) _
theorem old_done {W W1 : World} {b m gf gp k cf cp i q : Nat} {p : Pa.Pt} {v : Value} {ps : List Pl} {gs : List Nat} {S : Nat → Prop} (h1 : ArenaAt W1 b m (.slice (some ⟨gp, 0, none⟩) ps.length cp) (.slice (some ⟨gf, 0, none⟩) k cf) ps gs) (hi : i < ps.length)
    (hS : ∀ j, (j = b ∨ (Value.slice (some ⟨gp, 0, none⟩) ps.length cp).ownBlock = some j ∨ (Value.slice (some ⟨gf, 0, none⟩) k cf).ownBlock = some j) ↔ S j) (ho : OnlyS S W W1) :
    Does W b S v m (ps.set i (some (p, q))) gs (.returned v) (store7 W1 gp (i * 7) (.int .i64 p.a) (.int .i64 p.b) (.int .i64 p.c) (.int .i64 p.d) (.int .i64 p.e) (.pointer (some ⟨q, 0, none⟩)) (.bool true)) := by
  have hr := row_store7 h1.rp (i * 7) (.int .i64 p.a) (.int .i64 p.b) (.int .i64 p.c) (.int .i64 p.d) (.int .i64 p.e) (.pointer (some ⟨q, 0, none⟩)) (.bool true)
  rw [← flat_set ps i (some (p, q)) _ _ _ _ _ _ _ rfl hi] at hr
  have hg : S gp := (hS gp).1 (.inr (.inl rfl))
  have h7 := only7 W1 gp (i * 7) (.int .i64 p.a) (.int .i64 p.b) (.int .i64 p.c) (.int .i64 p.d) (.int .i64 p.e) (.pointer (some ⟨q, 0, none⟩)) (.bool true)
  exact ⟨S, rfl, ⟨_, _, arena_store (ps' := ps.set i (some (p, q))) h1 (by simp) h7 (by rw [List.length_set]; exact hr), hS⟩, ho.trans (h7.mono fun j _ hj => by rw [hj]; exact hg), fun _ hk => .inl hk⟩
set_option maxHeartbeats 2000000 in
theorem take_old {W : World} {b m : Nat} {S : Nat → Prop} {ps : List Pl} {gs : List Nat} {i : Nat} (h : Ar W b S m ps (gs ++ [i])) (p : Pa.Pt) (q : Nat) (hi : i < ps.length) :
    Calls Tryz.prog 79 #[wp b, hv p q] W (Does W b S (.tuple #[.int .i64 (i : Int), .bool true]) m (ps.set i (some (p, q))) gs) := by
  have hx0 := box_below W (.cells (hca p q) 68)
  have HX0 := Lib.hid hx0
  have HB := Lib.hid (Bxd.new W p q 68)
  obtain ⟨pv, fv, h, hS⟩ := h
  have HL := Lib.hid (left_any (h.below hx0))
  have b1 := h.fle
  have b2 := h.ple
  have b3 := h.mle
  rw [List.length_append, List.length_singleton] at b1
  obtain ⟨z, hz⟩ : ∃ z : Nat, ((m : Int) - ((ps.length : Int) - ((gs ++ [i]).length : Int))) = (z : Int) + 1 := ⟨m - (ps.length - (gs.length + 1)) - 1, by simp; omega⟩
  rw [hz] at HL
  obtain ⟨gp, cp, rfl, hbg, _⟩ := h.form (by omega)
  obtain ⟨A2, cf, rfl, hA2⟩ := row_slice h.rf
  rcases hA2 with hA2 | ⟨gf, rfl⟩
  · simp at hA2
  have hne : gp ≠ gf := fun e => h.ne gp rfl (by rw [e]; rfl)
  have hfb := (h.rf.lt gf rfl).1
  have hcf := row_cap h.rf
  obtain ⟨k, hk⟩ : ∃ k, gs.length = k := ⟨_, rfl⟩
  have hkl : (gs ++ [i]).length = k + 1 := by simp [hk]
  rw [hkl] at h hS hcf
  have hcf1 : k ≤ cf := by omega
  have hcf2 : cf ≤ 9223372036854775807 := by have := hcf.2; unfold maxLen at this; exact this
  clear hcf
  have HK := Lib.hid hk
  have HS := Lib.hid hS
  have H := Lib.hid (h.below hx0)
  have HI := Lib.hid hi
  obtain ⟨n, hn⟩ : ∃ n, ps.length = n := ⟨_, rfl⟩
  have HN := Lib.hid hn
  have hnz : ((z : Int) + 1 == 0) = false := by simp; omega
  have hin : i < n := by omega
  have hkn : k + 1 ≤ n := by omega
  have hn4 : n ≤ 4096 := by omega
  obtain ⟨pa, pb, pc, pd, pe⟩ := p
  clear h hS hz hn hk hkl b1 b2 hi hx0
  go_enter Tryz.func79, Tryz.ntmps79
  go_wp2_with fail
  refine HL.out.mono ?_
  rintro e w1 ⟨rfl, j, rfl⟩
  have hb1 := drew_below (W.alloc (.cells #[.int .i64 pa, .int .i64 pb, .int .i64 pc, .int .i64 pd, .int .i64 pe, .pointer (some ⟨q, 0, none⟩)] 68)) j
  have HB1 := Lib.hid (HB.out.below hb1)
  have HO1 := Lib.hid (HX0.out.trans (hb1.mono HX0.out.size))
  have hold := H.out.below hb1
  clear HB HX0
  generalize World.drewN _ j = w1 at HB1 HO1 hold ⊢
  clear hb1 HL
  obtain ⟨b0, b1, b2, b3, b4, b5⟩ := HB1.out
  simp only at b0 b1 b2 b3 b4 b5
  have k4 := hold.c2
  have hlt1 := hold.lt
  have k5 : w1.cell? ⟨gf, k, none⟩ = some (.int .i64 (i : Int)) := by
    have := hold.rf.cells (g := gf) rfl k (.int .i64 (i : Int)) (by rw [nats_snoc, List.getElem?_append_right (by rw [nats_length, HK.out]; omega), nats_length, HK.out]; simp)
    rw [add_at] at this
    exact this
  have hgf1 := (hold.rf.lt gf rfl).2
  have k7 := hold.f2
  have hpop := pop_done hold HK.out
  have hx := box_below (w1.setCell ⟨b, 2, none⟩ (.slice (some ⟨gf, 0, none⟩) k cf)) (.cells #[.int .i64 pa, .int .i64 pb, .int .i64 pc, .int .i64 pd, .int .i64 pe, .pointer (some ⟨q, 0, none⟩), .bool true] 169)
  have HA1 := Lib.hid (hpop.below hx)
  have HO := Lib.hid (((OnlyS.of_below (S := S) HO1.out).setIn b 2 (.slice (some ⟨gf, 0, none⟩) k cf) (.inl ((HS.out b).1 (.inl rfl)))).alloc (.cells #[.int .i64 pa, .int .i64 pb, .int .i64 pc, .int .i64 pd, .int .i64 pe, .pointer (some ⟨q, 0, none⟩), .bool true] 169))
  have HN1 := Lib.hid (show Bxd ((w1.setCell ⟨b, 2, none⟩ (.slice (some ⟨gf, 0, none⟩) k cf)).alloc (.cells #[.int .i64 pa, .int .i64 pb, .int .i64 pc, .int .i64 pd, .int .i64 pe, .pointer (some ⟨q, 0, none⟩), .bool true] 169)) w1.heap.size ⟨pa, pb, pc, pd, pe⟩ q by refine ⟨?_, ?_, ?_, ?_, ?_, ?_⟩ <;> simp [go_sem])
  have D6 := Lib.hid (show ((w1.setCell ⟨b, 2, none⟩ (.slice (some ⟨gf, 0, none⟩) k cf)).alloc (.cells #[.int .i64 pa, .int .i64 pb, .int .i64 pc, .int .i64 pd, .int .i64 pe, .pointer (some ⟨q, 0, none⟩), .bool true] 169)).cell? ⟨w1.heap.size, 6, none⟩ = some (.bool true) by simp [go_sem])
  clear hx hold H hpop HB1 HO1
  go_wp2_with fail
  clear k4 k5 k7 hgf1 hlt1 b0 b1 b2 b3 b4 b5
  generalize (w1.setCell ⟨b, 2, none⟩ (.slice (some ⟨gf, 0, none⟩) k cf)).alloc (.cells #[.int .i64 pa, .int .i64 pb, .int .i64 pc, .int .i64 pd, .int .i64 pe, .pointer (some ⟨q, 0, none⟩), .bool true] 169) = w2 at HA1 HO HN1 D6 ⊢
  generalize w1.heap.size = B0 at HN1 D6 ⊢
  obtain ⟨d0, d1, d2, d3, d4, d5⟩ := HN1.out
  simp only at d0 d1 d2 d3 d4 d5
  have d6 := D6.out
  have k6 := HA1.out.c1
  have hlt2 := HA1.out.lt
  have hgp2 := (HA1.out.rp.lt gp rfl).2
  have hB0 : B0 < w2.heap.size := cell_lt d0
  rw [HN.out] at k6
  have p0 : ∀ j, j < 7 → ∃ y, w2.cell? ⟨gp, i * 7 + j, none⟩ = some y := fun j hj => ⟨_, HA1.out.place (j := j) HI.out hj (List.getElem?_eq_getElem (by rw [plv_length]; exact hj))⟩
  have f0 := HA1.out.free (i * 7)
  have f1 := HA1.out.free (i * 7 + 1)
  have f2 := HA1.out.free (i * 7 + 2)
  have f3 := HA1.out.free (i * 7 + 3)
  have f4 := HA1.out.free (i * 7 + 4)
  have f5 := HA1.out.free (i * 7 + 5)
  have f6 := HA1.out.free (i * 7 + 6)
  obtain ⟨y0, q0⟩ := p0 0 (by omega)
  obtain ⟨y1, q1⟩ := p0 1 (by omega)
  obtain ⟨y2, q2⟩ := p0 2 (by omega)
  obtain ⟨y3, q3⟩ := p0 3 (by omega)
  obtain ⟨y4, q4⟩ := p0 4 (by omega)
  obtain ⟨y5, q5⟩ := p0 5 (by omega)
  obtain ⟨y6, q6⟩ := p0 6 (by omega)
  simp only [Nat.add_zero] at q0
  clear p0 HN1 D6
  have HA4 := Lib.hid (show ArenaAt w2.drew b m (.slice (some ⟨gp, 0, none⟩) ps.length cp) (.slice (some ⟨gf, 0, none⟩) k cf) ps gs from HA1.out.below (drew_below w2 1))
  have HO4 := Lib.hid (show OnlyS S W w2.drew from HO.out.drewN 1)
  go_still_tail 7, (by kernel_rfl)
  clear d0 d1 d2 d3 d4 d5 d6 k6 hlt2 hgp2 hB0 q0 q1 q2 q3 q4 q5 q6 f0 f1 f2 f3 f4 f5 f6 HA1 HO
  change wpList _ _ _ _ _ w2.drew
  generalize w2.drew = w4 at HA4 HO4 ⊢
  have p0 : ∀ j, j < 7 → ∃ y, w4.cell? ⟨gp, i * 7 + j, none⟩ = some y := fun j hj => ⟨_, HA4.out.place (j := j) HI.out hj (List.getElem?_eq_getElem (by rw [plv_length]; exact hj))⟩
  have f0 := HA4.out.free (i * 7)
  have f1 := HA4.out.free (i * 7 + 1)
  have f2 := HA4.out.free (i * 7 + 2)
  have f3 := HA4.out.free (i * 7 + 3)
  have f4 := HA4.out.free (i * 7 + 4)
  have f5 := HA4.out.free (i * 7 + 5)
  have f6 := HA4.out.free (i * 7 + 6)
  obtain ⟨z0, q0⟩ := p0 0 (by omega)
  obtain ⟨z1, q1⟩ := p0 1 (by omega)
  obtain ⟨z2, q2⟩ := p0 2 (by omega)
  obtain ⟨z3, q3⟩ := p0 3 (by omega)
  obtain ⟨z4, q4⟩ := p0 4 (by omega)
  obtain ⟨z5, q5⟩ := p0 5 (by omega)
  obtain ⟨z6, q6⟩ := p0 6 (by omega)
  simp only [Nat.add_zero] at q0
  clear p0
  go_wp2
  go_ret2
  exact old_done (p := ⟨pa, pb, pc, pd, pe⟩) HA4.out HI.out HS.out HO4.out
end Go.Proofs.YtmolohncllcgbaaGreatDoor.An
