/- A place that was freed is taken again. -/
import Derived.Test.YtdfkjojofhleaaaA4
import Derived.WalkSmall
namespace Go.Proofs.Ytdfkjojofhleaaa
open Go Go.RowKit

theorem row_cap {W : World} {base n size g c : Nat} {e : TypeId} {xs : List Value} (h : W.ownsRow base e size (.slice (some ⟨g, 0, none⟩) n c) n xs) : n ≤ c ∧ c ≤ maxLen := by
  rcases h.2 with ⟨h0, _⟩ | ⟨g', cap', cur, e', hb, hg, h1, h2, h3, h4⟩
  · cases h0
  · cases e'
    exact ⟨h1, h2⟩
/-- the last of those that were freed goes -/
theorem pop_done {W : World} {b m gf k cf i : Nat} {pv : Value} {ps : List Pl} {gs : List Nat} (h : ArenaAt W b m pv (.slice (some ⟨gf, 0, none⟩) (k + 1) cf) ps (gs ++ [i])) (hk : gs.length = k) :
    ArenaAt (W.setCell ⟨b, 2, none⟩ (.slice (some ⟨gf, 0, none⟩) k cf)) b m pv (.slice (some ⟨gf, 0, none⟩) k cf) ps gs := by
  subst hk
  have hrf := h.rf
  rw [List.length_append, nats_snoc] at hrf
  have hr := ownsRow_pop (nats_length gs) hrf
  have q2 : ∀ o, o ≠ 2 → (W.setCell ⟨b, 2, none⟩ (.slice (some ⟨gf, 0, none⟩) gs.length cf)).cell? ⟨b, o, none⟩ = W.cell? ⟨b, o, none⟩ := fun o ho => by
    rw [World.cell?_setCell_other (h := fun e => ho (by injection e with e1 e2; exact e2.symm))]
  have hl := h.fle
  rw [List.length_append] at hl
  refine ⟨(q2 0 (by omega)).trans h.c0, (q2 1 (by omega)).trans h.c1, World.cell?_setCell_same' _ _ _ (by rw [h.c2]; rfl), by rw [World.frozen?_setCell]; exact h.f1, by rw [World.frozen?_setCell]; exact h.f2, ?_, ?_, h.ne, by omega, h.ple, h.mle⟩
  · exact ownsRow_setCell_below h.rp (Nat.lt_succ_self b) _
  · exact ownsRow_setCell_below hr (Nat.lt_succ_self b) _
theorem old_done {W W1 : World} {b m gf gp k cf cp i : Nat} {x : Int} {v : Value} {ps : List Pl} {gs : List Nat} {S : Nat → Prop} (h1 : ArenaAt W1 b m (.slice (some ⟨gp, 0, none⟩) ps.length cp) (.slice (some ⟨gf, 0, none⟩) k cf) ps gs) (hi : i < ps.length)
    (hS : ∀ j, (j = b ∨ (Value.slice (some ⟨gp, 0, none⟩) ps.length cp).ownBlock = some j ∨ (Value.slice (some ⟨gf, 0, none⟩) k cf).ownBlock = some j) ↔ S j) (ho : OnlyS S W W1) :
    Does W b S v m (ps.set i (x, true)) gs (.returned v) ((W1.setCell ⟨gp, i * 2, none⟩ (.int .i64 x)).setCell ⟨gp, i * 2 + 1, none⟩ (.bool true)) := by
  have hr := row_store (row_store h1.rp (i * 2) (.int .i64 x)) (i * 2 + 1) (.bool true)
  rw [← flat_set ps i (x, true) hi] at hr
  have hg : S gp := (hS gp).1 (.inr (.inl rfl))
  refine ⟨S, rfl, ⟨_, _, arena_store (ps' := ps.set i (x, true)) h1 (by simp) ((OnlyS.set gp _ _ _).trans (OnlyS.set gp _ _ _)) (by rw [List.length_set]; exact hr), hS⟩, ?_, fun _ hk => .inl hk⟩
  exact (ho.setIn gp _ _ (.inl hg)).setIn gp _ _ (.inl hg)
set_option maxHeartbeats 4000000 in
theorem take_old {W : World} {b m : Nat} {S : Nat → Prop} {ps : List Pl} {gs : List Nat} {i : Nat} (h : Ar W b S m ps (gs ++ [i])) (x : Int) (hi : i < ps.length) :
    Calls Try.prog 9 #[wp b, .int .i64 x] W (Does W b S (.tuple #[.int .i64 (i : Int), .bool true]) m (ps.set i (x, true)) gs) := by
  obtain ⟨pv, fv, h, hS⟩ := h
  have HL := Lib.hid (left_any h)
  have b1 := h.fle
  have b2 := h.ple
  have b3 := h.mle
  rw [List.length_append, List.length_singleton] at b1
  obtain ⟨q, hq⟩ : ∃ q : Nat, ((m : Int) - ((ps.length : Int) - ((gs ++ [i]).length : Int))) = (q : Int) + 1 := ⟨m - (ps.length - (gs.length + 1)) - 1, by simp; omega⟩
  rw [hq] at HL
  obtain ⟨gp, cp, rfl, hbg, _⟩ := h.form (by omega)
  obtain ⟨A2, cf, rfl, hA2⟩ := row_slice h.rf
  rcases hA2 with hA2 | ⟨gf, rfl⟩
  · simp at hA2
  have hne : gp ≠ gf := fun e => h.ne gp rfl (by rw [e]; rfl)
  have hfb := (h.rf.lt gf rfl).1
  have hcf := row_cap h.rf
  obtain ⟨k, hk⟩ : ∃ k, gs.length = k := ⟨_, rfl⟩
  have hkl : (gs ++ [i]).length = k + 1 := by simp [hk]
  rw [hkl] at h hS hcf
  have hcf1 : k ≤ cf := by omega
  have hcf2 : cf ≤ 9223372036854775807 := by have := hcf.2; unfold maxLen at this; exact this
  clear hcf
  have HK := Lib.hid hk
  have HS := Lib.hid hS
  have H := Lib.hid h
  have HI := Lib.hid hi
  obtain ⟨n, hn⟩ : ∃ n, ps.length = n := ⟨_, rfl⟩
  have HN := Lib.hid hn
  have hnz : ((q : Int) + 1 == 0) = false := by simp; omega
  have hin : i < n := by omega
  have hkn : k + 1 ≤ n := by omega
  have hn4 : n ≤ 4096 := by omega
  clear h hS hq hn hk hkl b1 b2 hi
  go_enter Try.func9, Try.ntmps9
  go_wp2_with fail
  refine HL.out.mono ?_
  rintro e w1 ⟨rfl, j, rfl⟩
  have hb1 := drew_below W j
  generalize W.drewN j = w1 at hb1 ⊢
  have hold := (H.out.below hb1)
  have k4 := hold.c2
  have hlt1 := hold.lt
  have k5 : w1.cell? ⟨gf, k, none⟩ = some (.int .i64 (i : Int)) := by
    have := hold.rf.cells (g := gf) rfl k (.int .i64 (i : Int)) (by rw [nats_snoc, List.getElem?_append_right (by rw [nats_length, HK.out]; omega), nats_length, HK.out]; simp)
    rw [add_at] at this
    exact this
  have hgf1 := (hold.rf.lt gf rfl).2
  have k7 := hold.f2
  have hpop := pop_done hold HK.out
  have hx := box_below (w1.setCell ⟨b, 2, none⟩ (.slice (some ⟨gf, 0, none⟩) k cf)) (.cells #[.int .i64 x, .bool true] 49)
  have HA1 := Lib.hid (hpop.below hx)
  have HO := Lib.hid (((OnlyS.of_below (S := S) hb1).setIn b 2 (.slice (some ⟨gf, 0, none⟩) k cf) (.inl ((HS.out b).1 (.inl rfl)))).alloc (.cells #[.int .i64 x, .bool true] 49))
  have d0 : ((w1.setCell ⟨b, 2, none⟩ (.slice (some ⟨gf, 0, none⟩) k cf)).alloc (.cells #[.int .i64 x, .bool true] 49)).cell? ⟨w1.heap.size, 0, none⟩ = some (.int .i64 x) := by simp [go_sem]
  have d1 : ((w1.setCell ⟨b, 2, none⟩ (.slice (some ⟨gf, 0, none⟩) k cf)).alloc (.cells #[.int .i64 x, .bool true] 49)).cell? ⟨w1.heap.size, 1, none⟩ = some (.bool true) := by simp [go_sem]
  have HD0 := Lib.hid d0
  have HD1 := Lib.hid d1
  clear hb1 HL hx hold H hpop d0 d1
  go_wp2_with fail
  generalize (w1.setCell ⟨b, 2, none⟩ (.slice (some ⟨gf, 0, none⟩) k cf)).alloc (.cells #[.int .i64 x, .bool true] 49) = w2 at HA1 HO HD0 HD1 ⊢
  clear k4 k5 k7 hgf1 hlt1
  generalize w1.heap.size = B0 at HD0 HD1 ⊢
  have d0 := HD0.out
  have d1 := HD1.out
  have k6 := HA1.out.c1
  have hlt2 := HA1.out.lt
  have hgp2 := (HA1.out.rp.lt gp rfl).2
  have hB0 : B0 < w2.heap.size := cell_lt d0
  rw [HN.out] at k6
  obtain ⟨p0, p1, p2, p3⟩ := HA1.out.place HI.out
  generalize ps[i].1 = y1 at p0
  generalize ps[i].2 = y2 at p1
  go_region
  all_goals go_wp2
  all_goals go_ret2
  all_goals exact old_done (HA1.out.below (drew_below w2 1)) HI.out HS.out (HO.out.drewN 1)
end Go.Proofs.Ytdfkjojofhleaaa
