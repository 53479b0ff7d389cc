/- An alarm of the document's wheel is set. -/
import Derived.Test.YthoicmbpjcgdpaaP4
import Derived.Deep.QuietTactic
import Derived.BigQuiet
namespace Go.Proofs.Ythoicmbpjcgdpaa
open Go Go.RowKit Go.Shelf

set_option maxRecDepth 100000 in
set_option maxHeartbeats 16000000 in
theorem rset_yes {W : World} {bx g off c : Nat} {xs : List Al} (a : Al) (h : RefAt W bx (some ⟨g, off, none⟩) c xs) (hx : idxP (isId a.1) xs = -1) (h0 : 0 ≤ a.2) (h9 : xs.length ≤ 900) :
    Calls Try.prog 10 #[wp bx, alv a] W (fun e w' => ∃ j, Stands a xs j ∧ RStop W bx (some ⟨g, off, none⟩) true (putIn a xs j) e w') := by
  have hb0 := box_below W (.cells #[.int .i64 a.1, .int .i64 a.2] 31)
  have HF := Lib.hid (rfind_any a.1 (h.below hb0))
  rw [hx] at HF
  have H := Lib.hid h
  have h0b : decide (a.2 < 0) = false := by simp; omega
  clear h hx
  go_enter Try.func10, Try.ntmps10
  go_wp2_with fail
  refine HF.out.mono ?_
  rintro e w1 ⟨rfl, hb1⟩
  have k0 : w1.cell? ⟨W.heap.size, 0, none⟩ = some (.int .i64 a.1) := (hb1.cell (p := ⟨W.heap.size, 0, none⟩) (by simp)).trans (BoxA.new W a).c0
  have k1 : w1.cell? ⟨W.heap.size, 1, none⟩ = some (.int .i64 a.2) := (hb1.cell (p := ⟨W.heap.size, 1, none⟩) (by simp)).trans (BoxA.new W a).c1
  have K0 := Lib.hid k0
  have K1 := Lib.hid k1
  have hb1' : Below W.heap.size W w1 := hb0.trans (hb1.mono hb0.size)
  have hz1 : W.heap.size < w1.heap.size := cell_lt k0
  have H1 := Lib.hid (H.out.below hb1')
  have hs := h9
  have hcp := H1.out.lst.cap
  have hrm := H1.out.lst.room
  obtain ⟨n, hn⟩ : ∃ n, xs.length = n := ⟨_, rfl⟩
  have HN := Lib.hid hn
  rw [hn] at hs hcp
  clear HF hb0 hb1 hn
  go_wp2_with fail
  clear k0 k1
  go_loopw [5] (fun t wr => ∃ j : Nat, j ≤ n ∧ t = .int .i64 j ∧ (∀ y ∈ xs.take j, before y a = true) ∧ Below w1.heap.size w1 wr) (fun t _ => n - (intOf t).toNat)
  case atStart => exact ⟨0, by omega, rfl, by simp, Below.refl _ _⟩
  case round =>
    obtain ⟨j, hj, rfl, hall, hb⟩ := hrel
    have HA := Lib.hid hall
    have H2 := Lib.hid (H1.out.below hb)
    have hc := H2.out.cell
    rw [HN.out] at hc
    have k0 : wr.cell? ⟨W.heap.size, 0, none⟩ = some (.int .i64 a.1) := (hb.cell (p := ⟨W.heap.size, 0, none⟩) hz1).trans K0.out
    have k1 : wr.cell? ⟨W.heap.size, 1, none⟩ = some (.int .i64 a.2) := (hb.cell (p := ⟨W.heap.size, 1, none⟩) hz1).trans K1.out
    clear hall
    by_cases hjn : j < n
    · have hjl : j < xs.length := by rw [HN.out]; exact hjn
      obtain ⟨g', off', e', _, hcs⟩ := H2.out.lst.at' _ rfl
      obtain ⟨rfl, rfl⟩ : g = g' ∧ off = off' := by simpa using e'
      obtain ⟨c1, c2⟩ := hcs j hjl
      obtain ⟨x, hx⟩ : ∃ x, xs[j] = x := ⟨_, rfl⟩
      rw [hx] at c1 c2
      obtain ⟨hs1, hs2⟩ := take_split xs hjl
      rw [hx] at hs2
      have HS2 := Lib.hid hs2
      have HX := Lib.hid (show ∃ h : j < xs.length, xs[j] = x from ⟨hjl, hx⟩)
      clear hs1 hs2 hx hcs hjl e'
      by_cases hlt : x.2 < a.2
      · have e1 : decide (x.2 < a.2) = true := by simpa using hlt
        have HBf := Lib.hid (show before x a = true by simp [before]; omega)
        clear hlt
        go_wp2_with fail
        go_quiet (fail)
        go_wp2_with fail
        go_roundw
        case rel =>
          refine ⟨j + 1, by omega, by go_num, fun y hy => ?_, hb.trans ((drewN_below wr nq).mono hb.size)⟩
          rw [HS2.out] at hy
          rcases List.mem_append.1 hy with hy | hy
          · exact HA.out y hy
          · rw [List.mem_singleton.1 hy]; exact HBf.out
        case measure => simp [intOf]; omega
      · have e1 : decide (x.2 < a.2) = false := by simpa using hlt
        by_cases heq : x.2 = a.2
        · have e2 : (x.2 == a.2) = true := by simpa using heq
          by_cases hid : x.1 < a.1
          · have e3 : decide (x.1 < a.1) = true := by simpa using hid
            have HBf := Lib.hid (show before x a = true by simp [before]; omega)
            clear hlt heq hid
            go_wp2_with fail
            go_quiet (fail)
            go_wp2_with fail
            go_roundw
            case rel =>
              refine ⟨j + 1, by omega, by go_num, fun y hy => ?_, hb.trans ((drewN_below wr nq).mono hb.size)⟩
              rw [HS2.out] at hy
              rcases List.mem_append.1 hy with hy | hy
              · exact HA.out y hy
              · rw [List.mem_singleton.1 hy]; exact HBf.out
            case measure => simp [intOf]; omega
          · have e3 : decide (x.1 < a.1) = false := by simpa using hid
            have HBf := Lib.hid (show before x a = false by simp [before]; omega)
            have HSt := Lib.hid (show Stands a xs j from ⟨by rw [HN.out]; exact hj, HA.out, fun _ => by obtain ⟨q, e⟩ := HX.out; exact ⟨q, by rw [e]; exact HBf.out⟩⟩)
            clear hlt heq hid HBf
            go_wp2_with fail
            go_quiet (fail)
            go_wp2_with fail
            have hb2 := hb1'.trans ((hb.trans ((drewN_below wr nq).mono hb.size)).mono hb1'.size)
            have m0 : (wr.drewN nq).cell? ⟨W.heap.size, 0, none⟩ = some (.int .i64 a.1) := k0
            have m1 : (wr.drewN nq).cell? ⟨W.heap.size, 1, none⟩ = some (.int .i64 a.2) := k1
            have hc2 : (wr.drewN nq).cell? ⟨bx, 0, none⟩ = some (.slice (some ⟨g, off, none⟩) n c) := hc
            have hz2 : W.heap.size < (wr.drewN nq).heap.size := cell_lt m0
            go_wp2_with fail
            clear k0 k1 hc
            generalize wr.drewN nq = w2 at hb2 m0 m1 hc2 hz2 ⊢
            have H3 := Lib.hid (H.out.below hb2)
            have HB2 := Lib.hid hb2
            have hlt2 := H3.out.lt
            obtain ⟨i0, hi0, hv0, hv1, hv2⟩ := info_parts info31
            have hb3 : Below W.heap.size W (w2.drew.alloc (.cells #[.int .i64 a.1, .int .i64 a.2] 31)) := hb2.drew.alloc hb2.size _
            have HB3 := Lib.hid hb3
            have HZ3 := Lib.hid (show W.heap.size ≤ (w2.drew.alloc (.cells #[.int .i64 a.1, .int .i64 a.2] 31)).heap.size from hb3.size)
            have hO1 : ∀ b, (some ⟨w2.heap.size, 0, none⟩ : Option Addr) = some b → ∀ k u, ([.int .i64 a.1, .int .i64 a.2] : List Value)[k]? = some u → (w2.drew.alloc (.cells #[.int .i64 a.1, .int .i64 a.2] 31)).cell? (b.add k) = some u := by
              intro b hb k u hk
              obtain rfl : (⟨w2.heap.size, 0, none⟩ : Addr) = b := by simpa using hb
              exact new_cells w2 a k u hk
            have HO1 := Lib.hid hO1
            have HLn := Lib.hid (show (flat (xs.drop j)).length = (n - j) * 2 by rw [flat_length, List.length_drop, HN.out])
            have HLo := Lib.hid (show (flat (xs.take j)).length = j * 2 by rw [flat_length, List.length_take, HN.out]; omega)
            have hNw : ∀ k u, (flat (xs.drop j))[k]? = some u → (w2.drew.alloc (.cells #[.int .i64 a.1, .int .i64 a.2] 31)).cell? ((⟨g, off + j * 2, none⟩ : Addr).add k) = some u := by
              intro k u hk
              exact lst_part (H.out.below HB3.out).lst j (n - j) (by rw [HN.out]; omega) k u (by rw [List.take_of_length_le (by rw [List.length_drop, HN.out]; omega)]; exact hk)
            have HNw := Lib.hid hNw
            have HL1 := Lib.hid (show (flat ([a] ++ xs.drop j)).length = (1 + (n - j)) * 2 by rw [flat_length]; simp [HN.out]; omega)
            have HFl := Lib.hid (flat_one' a (xs.drop j))
            have HOl : Hid (∀ w5, Below W.heap.size W w5 → ∀ b, (some ⟨g, off, none⟩ : Option Addr) = some b → ∀ k u, (flat (xs.take j))[k]? = some u → w5.cell? (b.add k) = some u) := by
              refine Lib.hid ?_
              intro w5 hw5 b hb k u hk
              obtain rfl : (⟨g, off, none⟩ : Addr) = b := by simpa using hb
              have := lst_part (H.out.below hw5).lst 0 j (by rw [HN.out]; omega) k u (by simpa using hk)
              simpa using this
            clear hO1 hNw hb3 hb2 hb hb1'
            have q2 : ¬ c = j := by omega
            have q3 : j ≤ c := by omega
            go_region_law (first
              | (refine step_append_grows rfl (.tmp 73) (.tmp 79) 27 rfl 31 i0 (.agg #[.int .i64 0, .int .i64 0]) 2 16 Try.underlying27 hi0 hv0 hv1 hv2 rfl (by decide) (some ⟨w2.heap.size, 0, none⟩) 1 1 [.int .i64 a.1, .int .i64 a.2] rfl (by simp) rfl HO1.out ⟨g, off + j * 2, none⟩ (n - j) (c - j) (flat (xs.drop j)) rfl HLn.out HNw.out (flat_one _) (by omega) (by unfold maxLen; omega) (by omega) ?_; intro v5 w5 hown5 hgrow5; rw [← HFl.out] at hown5; obtain ⟨g5, cap5, rfl⟩ := ownsRow_pos hown5 (by omega); have hb5 := HB3.out.trans (grown_bel hgrow5 HZ3.out); have s1 := (H.out.below hb5).cell; rw [HN.out] at s1; have HO5 := Lib.hid hown5; have HB5 := Lib.hid hb5; clear hown5 hb5 hgrow5)
              | (refine step_append_grows rfl (.tmp 71) (.tmp 80) 27 rfl 31 i0 (.agg #[.int .i64 0, .int .i64 0]) 2 16 Try.underlying27 hi0 hv0 hv1 hv2 rfl (by decide) (some ⟨g, off, none⟩) j j (flat (xs.take j)) rfl (by simp) HLo.out (HOl.out _ HB5.out) ⟨g5, 0, none⟩ (1 + (n - j)) cap5 (flat ([a] ++ xs.drop j)) rfl HL1.out (row_at HO5.out HN.out) (flat_one _) (by omega) (by unfold maxLen; omega) (by omega) ?_; intro v6 w6 hown6 hgrow6; obtain ⟨g6, cap6, rfl⟩ := ownsRow_pos hown6 (by omega); have hb6 := HB5.out.trans (grown_bel hgrow6 HB5.out.size); have r1 := (H.out.below hb6).cell; have r2 := (H.out.below hb6).free))
            all_goals
              go_wp2_with fail
              go_ret
              exact ⟨_, HSt.out, rset_done H.out hb6 HN.out hj hs HB5.out.size hown6⟩
        · have e2 : (x.2 == a.2) = false := by simpa using heq
          have HBf := Lib.hid (show before x a = false by simp [before]; omega)
          have HSt := Lib.hid (show Stands a xs j from ⟨by rw [HN.out]; exact hj, HA.out, fun _ => by obtain ⟨q, e⟩ := HX.out; exact ⟨q, by rw [e]; exact HBf.out⟩⟩)
          clear hlt heq HBf
          go_wp2_with fail
          go_quiet (fail)
          go_wp2_with fail
          have hb2 := hb1'.trans ((hb.trans ((drewN_below wr nq).mono hb.size)).mono hb1'.size)
          have m0 : (wr.drewN nq).cell? ⟨W.heap.size, 0, none⟩ = some (.int .i64 a.1) := k0
          have m1 : (wr.drewN nq).cell? ⟨W.heap.size, 1, none⟩ = some (.int .i64 a.2) := k1
          have hc2 : (wr.drewN nq).cell? ⟨bx, 0, none⟩ = some (.slice (some ⟨g, off, none⟩) n c) := hc
          have hz2 : W.heap.size < (wr.drewN nq).heap.size := cell_lt m0
          go_wp2_with fail
          clear k0 k1 hc
          generalize wr.drewN nq = w2 at hb2 m0 m1 hc2 hz2 ⊢
          have H3 := Lib.hid (H.out.below hb2)
          have HB2 := Lib.hid hb2
          have hlt2 := H3.out.lt
          obtain ⟨i0, hi0, hv0, hv1, hv2⟩ := info_parts info31
          have hb3 : Below W.heap.size W (w2.drew.alloc (.cells #[.int .i64 a.1, .int .i64 a.2] 31)) := hb2.drew.alloc hb2.size _
          have HB3 := Lib.hid hb3
          have HZ3 := Lib.hid (show W.heap.size ≤ (w2.drew.alloc (.cells #[.int .i64 a.1, .int .i64 a.2] 31)).heap.size from hb3.size)
          have hO1 : ∀ b, (some ⟨w2.heap.size, 0, none⟩ : Option Addr) = some b → ∀ k u, ([.int .i64 a.1, .int .i64 a.2] : List Value)[k]? = some u → (w2.drew.alloc (.cells #[.int .i64 a.1, .int .i64 a.2] 31)).cell? (b.add k) = some u := by
            intro b hb k u hk
            obtain rfl : (⟨w2.heap.size, 0, none⟩ : Addr) = b := by simpa using hb
            exact new_cells w2 a k u hk
          have HO1 := Lib.hid hO1
          have HLn := Lib.hid (show (flat (xs.drop j)).length = (n - j) * 2 by rw [flat_length, List.length_drop, HN.out])
          have HLo := Lib.hid (show (flat (xs.take j)).length = j * 2 by rw [flat_length, List.length_take, HN.out]; omega)
          have hNw : ∀ k u, (flat (xs.drop j))[k]? = some u → (w2.drew.alloc (.cells #[.int .i64 a.1, .int .i64 a.2] 31)).cell? ((⟨g, off + j * 2, none⟩ : Addr).add k) = some u := by
            intro k u hk
            exact lst_part (H.out.below HB3.out).lst j (n - j) (by rw [HN.out]; omega) k u (by rw [List.take_of_length_le (by rw [List.length_drop, HN.out]; omega)]; exact hk)
          have HNw := Lib.hid hNw
          have HL1 := Lib.hid (show (flat ([a] ++ xs.drop j)).length = (1 + (n - j)) * 2 by rw [flat_length]; simp [HN.out]; omega)
          have HFl := Lib.hid (flat_one' a (xs.drop j))
          have HOl : Hid (∀ w5, Below W.heap.size W w5 → ∀ b, (some ⟨g, off, none⟩ : Option Addr) = some b → ∀ k u, (flat (xs.take j))[k]? = some u → w5.cell? (b.add k) = some u) := by
            refine Lib.hid ?_
            intro w5 hw5 b hb k u hk
            obtain rfl : (⟨g, off, none⟩ : Addr) = b := by simpa using hb
            have := lst_part (H.out.below hw5).lst 0 j (by rw [HN.out]; omega) k u (by simpa using hk)
            simpa using this
          clear hO1 hNw hb3 hb2 hb hb1'
          have q2 : ¬ c = j := by omega
          have q3 : j ≤ c := by omega
          go_region_law (first
            | (refine step_append_grows rfl (.tmp 73) (.tmp 79) 27 rfl 31 i0 (.agg #[.int .i64 0, .int .i64 0]) 2 16 Try.underlying27 hi0 hv0 hv1 hv2 rfl (by decide) (some ⟨w2.heap.size, 0, none⟩) 1 1 [.int .i64 a.1, .int .i64 a.2] rfl (by simp) rfl HO1.out ⟨g, off + j * 2, none⟩ (n - j) (c - j) (flat (xs.drop j)) rfl HLn.out HNw.out (flat_one _) (by omega) (by unfold maxLen; omega) (by omega) ?_; intro v5 w5 hown5 hgrow5; rw [← HFl.out] at hown5; obtain ⟨g5, cap5, rfl⟩ := ownsRow_pos hown5 (by omega); have hb5 := HB3.out.trans (grown_bel hgrow5 HZ3.out); have s1 := (H.out.below hb5).cell; rw [HN.out] at s1; have HO5 := Lib.hid hown5; have HB5 := Lib.hid hb5; clear hown5 hb5 hgrow5)
            | (refine step_append_grows rfl (.tmp 71) (.tmp 80) 27 rfl 31 i0 (.agg #[.int .i64 0, .int .i64 0]) 2 16 Try.underlying27 hi0 hv0 hv1 hv2 rfl (by decide) (some ⟨g, off, none⟩) j j (flat (xs.take j)) rfl (by simp) HLo.out (HOl.out _ HB5.out) ⟨g5, 0, none⟩ (1 + (n - j)) cap5 (flat ([a] ++ xs.drop j)) rfl HL1.out (row_at HO5.out HN.out) (flat_one _) (by omega) (by unfold maxLen; omega) (by omega) ?_; intro v6 w6 hown6 hgrow6; obtain ⟨g6, cap6, rfl⟩ := ownsRow_pos hown6 (by omega); have hb6 := HB5.out.trans (grown_bel hgrow6 HB5.out.size); have r1 := (H.out.below hb6).cell; have r2 := (H.out.below hb6).free))
          all_goals
            go_wp2_with fail
            go_ret
            exact ⟨_, HSt.out, rset_done H.out hb6 HN.out hj hs HB5.out.size hown6⟩
    · have hjn2 : j = n := by omega
      subst hjn2
      have HSt := Lib.hid (show Stands a xs j from ⟨by rw [HN.out]; exact hj, HA.out, fun q => absurd q (by rw [HN.out]; omega)⟩)
      by_cases q2 : c = j
      · subst q2
        go_wp2_with fail
        go_quiet (fail)
        go_wp2_with fail
        have hb2 := hb1'.trans ((hb.trans ((drewN_below wr nq).mono hb.size)).mono hb1'.size)
        have m0 : (wr.drewN nq).cell? ⟨W.heap.size, 0, none⟩ = some (.int .i64 a.1) := k0
        have m1 : (wr.drewN nq).cell? ⟨W.heap.size, 1, none⟩ = some (.int .i64 a.2) := k1
        have hc2 : (wr.drewN nq).cell? ⟨bx, 0, none⟩ = some (.slice (some ⟨g, off, none⟩) c c) := hc
        have hz2 : W.heap.size < (wr.drewN nq).heap.size := cell_lt m0
        go_wp2_with fail
        clear k0 k1 hc
        generalize wr.drewN nq = w2 at hb2 m0 m1 hc2 hz2 ⊢
        have H3 := Lib.hid (H.out.below hb2)
        have HB2 := Lib.hid hb2
        have hlt2 := H3.out.lt
        obtain ⟨i0, hi0, hv0, hv1, hv2⟩ := info_parts info31
        have hb3 : Below W.heap.size W (w2.drew.alloc (.cells #[.int .i64 a.1, .int .i64 a.2] 31)) := hb2.drew.alloc hb2.size _
        have HB3 := Lib.hid hb3
        have HZ3 := Lib.hid (show W.heap.size ≤ (w2.drew.alloc (.cells #[.int .i64 a.1, .int .i64 a.2] 31)).heap.size from hb3.size)
        have hO1 : ∀ b, (some ⟨w2.heap.size, 0, none⟩ : Option Addr) = some b → ∀ k u, ([.int .i64 a.1, .int .i64 a.2] : List Value)[k]? = some u → (w2.drew.alloc (.cells #[.int .i64 a.1, .int .i64 a.2] 31)).cell? (b.add k) = some u := by
          intro b hb k u hk
          obtain rfl : (⟨w2.heap.size, 0, none⟩ : Addr) = b := by simpa using hb
          exact new_cells w2 a k u hk
        have HO1 := Lib.hid hO1
        have HLo := Lib.hid (show (flat (xs.take c)).length = c * 2 by rw [flat_length, List.length_take, HN.out]; omega)
        have HOl : Hid (∀ w5, Below W.heap.size W w5 → ∀ b, (some ⟨g, off, none⟩ : Option Addr) = some b → ∀ k u, (flat (xs.take c))[k]? = some u → w5.cell? (b.add k) = some u) := by
          refine Lib.hid ?_
          intro w5 hw5 b hb k u hk
          obtain rfl : (⟨g, off, none⟩ : Addr) = b := by simpa using hb
          have := lst_part (H.out.below hw5).lst 0 c (by rw [HN.out]; omega) k u (by simpa using hk)
          simpa using this
        clear hO1 hb3 hb2 hb hb1'
        go_region_law (first
          | (refine step_append_nothing rfl (.tmp 73) (.tmp 79) 27 rfl 31 i0 2 Try.underlying27 hi0 hv1 w2.heap.size 0 1 1 rfl ⟨g, off, none⟩ 0 0 rfl rfl (Nat.le_refl _) ?_)
          | (refine step_append_grows rfl (.tmp 71) (.tmp 80) 27 rfl 31 i0 (.agg #[.int .i64 0, .int .i64 0]) 2 16 Try.underlying27 hi0 hv0 hv1 hv2 rfl (by decide) (some ⟨g, off, none⟩) c c (flat (xs.take c)) rfl (by simp) HLo.out (HOl.out _ HB3.out) ⟨w2.heap.size, 0, none⟩ 1 1 [.int .i64 a.1, .int .i64 a.2] rfl rfl (HO1.out _ rfl) (one_cells a) (by omega) (by unfold maxLen; omega) (by omega) ?_; intro v6 w6 hown6 hgrow6; obtain ⟨g6, cap6, rfl⟩ := ownsRow_pos hown6 (by omega); have hb6 := HB3.out.trans (grown_bel hgrow6 HB3.out.size); have r1 := (H.out.below hb6).cell; have r2 := (H.out.below hb6).free))
        all_goals
          go_wp2_with fail
          go_ret
          exact ⟨_, HSt.out, rset_done2 H.out hb6 HN.out hs HB3.out.size hown6⟩
      · go_wp2_with fail
        go_quiet (fail)
        go_wp2_with fail
        have hb2 := hb1'.trans ((hb.trans ((drewN_below wr nq).mono hb.size)).mono hb1'.size)
        have m0 : (wr.drewN nq).cell? ⟨W.heap.size, 0, none⟩ = some (.int .i64 a.1) := k0
        have m1 : (wr.drewN nq).cell? ⟨W.heap.size, 1, none⟩ = some (.int .i64 a.2) := k1
        have hc2 : (wr.drewN nq).cell? ⟨bx, 0, none⟩ = some (.slice (some ⟨g, off, none⟩) j c) := hc
        have hz2 : W.heap.size < (wr.drewN nq).heap.size := cell_lt m0
        go_wp2_with fail
        clear k0 k1 hc
        generalize wr.drewN nq = w2 at hb2 m0 m1 hc2 hz2 ⊢
        have H3 := Lib.hid (H.out.below hb2)
        have HB2 := Lib.hid hb2
        have hlt2 := H3.out.lt
        obtain ⟨i0, hi0, hv0, hv1, hv2⟩ := info_parts info31
        have hb3 : Below W.heap.size W (w2.drew.alloc (.cells #[.int .i64 a.1, .int .i64 a.2] 31)) := hb2.drew.alloc hb2.size _
        have HB3 := Lib.hid hb3
        have HZ3 := Lib.hid (show W.heap.size ≤ (w2.drew.alloc (.cells #[.int .i64 a.1, .int .i64 a.2] 31)).heap.size from hb3.size)
        have hO1 : ∀ b, (some ⟨w2.heap.size, 0, none⟩ : Option Addr) = some b → ∀ k u, ([.int .i64 a.1, .int .i64 a.2] : List Value)[k]? = some u → (w2.drew.alloc (.cells #[.int .i64 a.1, .int .i64 a.2] 31)).cell? (b.add k) = some u := by
          intro b hb k u hk
          obtain rfl : (⟨w2.heap.size, 0, none⟩ : Addr) = b := by simpa using hb
          exact new_cells w2 a k u hk
        have HO1 := Lib.hid hO1
        have HLo := Lib.hid (show (flat (xs.take j)).length = j * 2 by rw [flat_length, List.length_take, HN.out]; omega)
        have HOl : Hid (∀ w5, Below W.heap.size W w5 → ∀ b, (some ⟨g, off, none⟩ : Option Addr) = some b → ∀ k u, (flat (xs.take j))[k]? = some u → w5.cell? (b.add k) = some u) := by
          refine Lib.hid ?_
          intro w5 hw5 b hb k u hk
          obtain rfl : (⟨g, off, none⟩ : Addr) = b := by simpa using hb
          have := lst_part (H.out.below hw5).lst 0 j (by rw [HN.out]; omega) k u (by simpa using hk)
          simpa using this
        clear hO1 hb3 hb2 hb hb1'
        go_region_law (first
          | (refine step_append_nothing rfl (.tmp 73) (.tmp 79) 27 rfl 31 i0 2 Try.underlying27 hi0 hv1 w2.heap.size 0 1 1 rfl ⟨g, off + j * 2, none⟩ 0 (c - j) rfl rfl (Nat.le_refl _) ?_)
          | (refine step_append_grows rfl (.tmp 71) (.tmp 80) 27 rfl 31 i0 (.agg #[.int .i64 0, .int .i64 0]) 2 16 Try.underlying27 hi0 hv0 hv1 hv2 rfl (by decide) (some ⟨g, off, none⟩) j j (flat (xs.take j)) rfl (by simp) HLo.out (HOl.out _ HB3.out) ⟨w2.heap.size, 0, none⟩ 1 1 [.int .i64 a.1, .int .i64 a.2] rfl rfl (HO1.out _ rfl) (one_cells a) (by omega) (by unfold maxLen; omega) (by omega) ?_; intro v6 w6 hown6 hgrow6; obtain ⟨g6, cap6, rfl⟩ := ownsRow_pos hown6 (by omega); have hb6 := HB3.out.trans (grown_bel hgrow6 HB3.out.size); have r1 := (H.out.below hb6).cell; have r2 := (H.out.below hb6).free))
        all_goals
          go_wp2_with fail
          go_ret
          exact ⟨_, HSt.out, rset_done2 H.out hb6 HN.out hs HB3.out.size hown6⟩
end Go.Proofs.Ythoicmbpjcgdpaa
