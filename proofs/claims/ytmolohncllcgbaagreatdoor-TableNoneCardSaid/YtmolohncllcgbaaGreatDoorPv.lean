/- The nodes of a row are told, one by one. -/
import Derived.Test.YtmolohncllcgbaaGreatDoorPp
namespace Go.Proofs.YtmolohncllcgbaaGreatDoor
open Go Go.RowKit Go.Shelf
attribute [local go_sem] Oper.semAt_some
set_option maxRecDepth 100000

theorem node_cell {W : World} {base g n c : Nat} {ps : List Pa.Pt} (h : W.ownsRow base 30 5 (.slice (some ⟨g, 0, none⟩) n c) ps.length (Pa.flatN ps)) {i j : Nat} (hi : i < ps.length) (hj : j < 5) {u : Value} (hu : (Pa.encN ps[i])[j]? = some u) : W.cell? ⟨g, i * 5 + j, none⟩ = some u := by
  have := h.cells (g := g) rfl (i * 5 + j) u ((Pa.flatN_at ps i j hi hj).trans hu)
  rw [add_at] at this
  exact this
theorem take_node (xs : List Pa.Pt) {j : Nat} (h : j < xs.length) : xs = xs.take j ++ xs[j] :: xs.drop (j + 1) ∧ xs.take (j + 1) = xs.take j ++ [xs[j]] :=
  ⟨by rw [← List.drop_eq_getElem_cons h, List.take_append_drop], List.take_succ_eq_append_getElem h⟩
abbrev encP (p : Pa.Pt) : Array Value := #[p.v]
/-- the blocks of a box and of its row -/
def OfRow (B : Nat) (v : Value) (k : Nat) : Prop := k = B ∨ v.ownBlock = some k
set_option maxHeartbeats 2000000 in
theorem vals_tells {w : World} {B base : Nat} {v : Value} {ps : List Pa.Pt} (hbx : Boxed w B 102 v) (hr : Pa.Row w base v ps) (hl : ps.length ≤ 5000) :
    Tells Tryz.prog 96 #[] #[tp B] encP (OfRow B v) ps w := by
  intro l J Jx W hW hJ hY h0
  have hlt : ∀ k, OfRow B v k → k < w.heap.size := fun k hk => by
    rcases hk with rfl | hk
    · exact hbx.lt
    · exact (hr.lt k hk).2
  have HT : ∀ W', Keeps (OfRow B v) W W' → W.heap.size ≤ W'.heap.size ∧ Boxed W' B 102 v ∧ Pa.Row W' base v ps := fun W' hk =>
    ⟨hk.size, (hk.block B (.inl rfl)).trans ((hW.block B hbx.lt).trans hbx), row_keep hr fun g hg => (hk.block g (.inr hg)).trans (hW.block g (hr.lt g hg).2)⟩
  have HTT := Lib.hid HT
  have HJ := Lib.hid hJ
  have HY := Lib.hid hY
  have HLt := Lib.hid (fun k (hk : OfRow B v k) => Nat.lt_of_lt_of_le (hlt k hk) hW.size)
  obtain ⟨A, c, hA, hA2⟩ := row_slice hr
  subst hA
  have c0 := (HT W (Keeps.refl _ _)).2.1.cell
  have HA := Lib.hid hA2
  obtain ⟨n, hn⟩ : ∃ n, ps.length = n := ⟨_, rfl⟩
  have HN := Lib.hid hn
  rw [hn] at c0 hl
  clear hJ hY hbx hr hW HT hA2 hn hlt
  refine callsIn_of_wp Tryz.func96 rfl trivial ?_ rfl
  simp only [Tryz.ntmps96, List.size_toArray, List.length_cons, List.length_nil, Nat.reduceAdd, Nat.reduceSub, Array.replicate_succ, Array.replicate_zero, List.push_toArray, List.append_toArray, List.nil_append, List.cons_append]
  gi_wp2
  gi_loopw [7] (fun t wr => ∃ j : Nat, j ≤ n ∧ t = .int .i64 j ∧ J (ps.take j) wr ∧ Keeps (OfRow B (.slice A ps.length c)) W wr) (fun t _ => n - (intOf t).toNat)
  case atStart => exact ⟨0, by omega, rfl, by simpa using h0, Keeps.refl _ _⟩
  case round =>
    obtain ⟨j, hj, rfl, hjj, hbj⟩ := hrel
    clear c0 h0
    by_cases hjn : j < n
    · have hjl : j < ps.length := by rw [HN.out]; exact hjn
      obtain ⟨hz, h3, h4⟩ := HTT.out _ hbj
      rcases HA.out with q | ⟨ga, rfl⟩
      · have := HN.out; omega
      have c2 := fun (k : Nat) (hk : k < 5) (u : Value) => node_cell h4 hjl hk (u := u)
      obtain ⟨p, hp⟩ : ∃ p, ps[j] = p := ⟨_, rfl⟩
      rw [hp] at c2
      have b0 := c2 0 (by omega) _ rfl
      have b1 := c2 1 (by omega) _ rfl
      have b2 := c2 2 (by omega) _ rfl
      have b3 := c2 3 (by omega) _ rfl
      have b4 := c2 4 (by omega) _ rfl
      rw [Nat.add_zero] at b0
      obtain ⟨hs1, hs2⟩ := take_node ps hjl
      rw [hp] at hs1 hs2
      have hb1 := box_below wr (.cells (pcs p) 30)
      obtain ⟨fn, tmps, assign, body, hy, hR⟩ := HY.out _ p _ _ hs1 (HJ.out _ _ _ hjj hb1)
      have HS := Lib.hid hs2
      have HP := Lib.hid (show ps = (ps.take j ++ [p]) ++ ps.drop (j + 1) by rw [List.append_assoc]; exact hs1)
      have HK := Lib.hid (hbj.trans (keeps_of hb1 (fun k hk => Nat.lt_of_lt_of_le (HLt.out k hk) hz)))
      clear hs1 hs2 hp hjl h3 h4 hbj hjj c2 hb1 hz
      obtain ⟨pa, pb, pc, pd, pe⟩ := p
      simp only at b0 b1 b2 b3 b4
      gi_wp2
      refine hR.mono ?_
      rintro e W3 (⟨rfl, hJ3, hk3⟩ | ⟨rfl, hJx3⟩)
      · have HB3 := Lib.hid (HK.out.trans hk3)
        clear hy hR b0 b1 b2 b3 b4 hk3
        gi_wp2
        go_roundw
        case rel => exact ⟨j + 1, by omega, by go_num, by rw [HS.out]; exact hJ3, HB3.out⟩
        case measure => simp [intOf]; omega
      · gi_wp2
        refine bodyPost_ret (results_none rfl _ _ _) rfl ?_
        exact ⟨⟨_, rfl⟩, .inr ⟨_, _, HP.out, hJx3⟩⟩
    · obtain rfl : j = n := by omega
      gi_wp2
      go_end0
      refine ⟨⟨_, rfl⟩, .inl ?_⟩
      rw [List.take_of_length_le (Nat.le_of_eq HN.out)] at hjj
      exact hjj
end Go.Proofs.YtmolohncllcgbaaGreatDoor
