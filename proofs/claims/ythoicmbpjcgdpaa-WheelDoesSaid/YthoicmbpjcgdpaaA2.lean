/- A wheel tells all its alarms, slot by slot. -/
import Derived.Test.YthoicmbpjcgdpaaA1
import Derived.OwnWalkIn
import Derived.TacticsInMore
import Derived.LoopNIn
import Derived.LoopIn
import Derived.Shelf.RegionOpen
namespace Go.Proofs.Ythoicmbpjcgdpaa
open Go Go.RowKit Go.Shelf
attribute [local go_sem] Oper.semAt_some

theorem Tells.later {α : Type} {P : Program} {gf : Nat} {bs lb : Array Value} {encs : α → Array Value} {S : Nat → Prop} {xs : List α} {w w' : World} (h : Tells P gf bs lb encs S xs w) (hb : Below w.heap.size w w') : Tells P gf bs lb encs S xs w' :=
  fun l J Jx W hW => h l J Jx W (hb.trans (hW.mono hb.size))

/-- all alarms, slot by slot -/
def alls (ss : Nat → List Al) (u : Nat) : List Al := (List.range u).flatMap ss
theorem alls_succ (ss : Nat → List Al) (u : Nat) : alls ss (u + 1) = alls ss u ++ ss u := by simp [alls, List.range_succ]

theorem WheelAt.keep {W W' : World} {b u : Nat} {ss : Nat → List Al} {vs : Nat → Value} (h : WheelAt W b u ss vs) (hz : W.heap.size ≤ W'.heap.size) (hb : W'.heap[b]? = W.heap[b]?) (hr : ∀ i g, i < u → (vs i).ownBlock = some g → W'.heap[g]? = W.heap[g]?) : WheelAt W' b u ss vs :=
  ⟨h.u1, h.u64, (World.cell?_of_block (w := W) (a := ⟨b, 64, none⟩) hb).trans h.used, Nat.lt_of_lt_of_le h.lt hz,
   fun i hi => (World.cell?_of_block (w := W) (a := ⟨b, i, none⟩) hb).trans (h.cell i hi), fun i hi => (World.frozen?_of_block (w := W) (a := ⟨b, i, none⟩) hb).trans (h.free i hi),
   fun i hi => (h.row i hi).keep (fun g hg => hr i g hi hg), h.apart⟩
theorem WheelAt.rowlt {W : World} {b u : Nat} {ss : Nat → List Al} {vs : Nat → Value} (h : WheelAt W b u ss vs) {i g : Nat} (hi : i < u) (hg : (vs i).ownBlock = some g) : b < g ∧ g < W.heap.size := by
  have := (h.row i hi).lt g hg
  omega
theorem WheelAt.keeps {W W' : World} {b u : Nat} {ss : Nat → List Al} {vs : Nat → Value} (h : WheelAt W b u ss vs) (hb : Keeps (· < W.heap.size) W W') : WheelAt W' b u ss vs :=
  h.keep hb.size (hb.block b h.lt) (fun _ _ hi hg => hb.block _ (h.rowlt hi hg).2)
theorem WheelAt.below {W W' : World} {b u : Nat} {ss : Nat → List Al} {vs : Nat → Value} (h : WheelAt W b u ss vs) (hb : Below W.heap.size W W') : WheelAt W' b u ss vs :=
  h.keep hb.size (hb.block b h.lt) (fun _ _ hi hg => hb.block _ (h.rowlt hi hg).2)

@[go_sem ↓] theorem run_slots (b u : Nat) (h : u ≤ 64) (W : World) : (Instr.sliceAt 49 (.pointer (some ⟨b, 0, none⟩)) none (some (.int .i64 u)) none).run Try.prog W = .ok (.slice (some ⟨b, 0, none⟩) u 64) W := by
  have h2 : ¬ (64 : Int) < u := by omega
  simp [Instr.sliceAt, run_underlying Try.underlying49, go_sem, Instr.sliceBounds, h2, Try.sizeOf27]
theorem alls_split (ss : Nat → List Al) {i u : Nat} (h : i < u) : ∃ r, alls ss u = alls ss i ++ (ss i ++ r) := by
  induction u with
  | zero => omega
  | succ u ih =>
    by_cases e : i = u
    · subst e; exact ⟨[], by rw [alls_succ]; simp⟩
    · obtain ⟨r, hr⟩ := ih (by omega)
      exact ⟨r ++ ss u, by rw [alls_succ, hr]; simp⟩
theorem take_split (xs : List Al) {j : Nat} (h : j < xs.length) : xs = xs.take j ++ xs[j] :: xs.drop (j + 1) ∧ xs.take (j + 1) = xs.take j ++ [xs[j]] :=
  ⟨by rw [← List.drop_eq_getElem_cons h, List.take_append_drop], List.take_succ_eq_append_getElem h⟩
theorem add_at (g k : Nat) : (⟨g, 0, none⟩ : Addr).add k = ⟨g, k, none⟩ := by
  unfold Addr.add
  split
  · rename_i h; subst h; rfl
  · simp
/-- in a world in which all that lay in w is as it was the wheel's rows read as in w -/
theorem row_cells {W : World} {base g n cap : Nat} {xs : List Al} (h : Row W base (.slice (some ⟨g, 0, none⟩) n cap) xs) {j : Nat} (hj : j < xs.length) :
    W.cell? ⟨g, j * 2, none⟩ = some (.int .i64 xs[j].1) ∧ W.cell? ⟨g, j * 2 + 1, none⟩ = some (.int .i64 xs[j].2) := by
  have h1 := h.cells (g := g) rfl (j * 2) _ (flat_at xs j hj).1
  have h2 := h.cells (g := g) rfl (j * 2 + 1) _ (flat_at xs j hj).2
  rw [add_at] at h1 h2
  exact ⟨h1, h2⟩

set_option maxRecDepth 100000 in
set_option maxHeartbeats 2000000 in
theorem each_tells {w : World} {b u : Nat} {ss : Nat → List Al} {vs : Nat → Value} (hw : WheelAt w b u ss vs) :
    Tells Try.prog 27 #[wp b] #[] (fun x : Al => #[alv x]) (· < w.heap.size) (alls ss u) w := by
  intro l J Jx W hW hJ hY h0
  have hWW := hw.below hW
  have HW := Lib.hid hw
  have hu := hWW.used
  have h1 : 1 ≤ u := hw.u1
  have h64 : u ≤ 64 := hw.u64
  have hz := hW.size
  have HJ := Lib.hid hJ
  have HY := Lib.hid hY
  clear hWW hw hJ hY
  refine callsIn_of_wp Try.func27 rfl trivial ?_ rfl
  simp only [Try.ntmps27, List.size_toArray, List.length_cons, List.length_nil, Nat.reduceAdd, Nat.reduceSub, Array.replicate_succ, Array.replicate_zero, List.push_toArray, List.append_toArray, List.nil_append, List.cons_append]
  gi_wp2_with (refine ⟨trivial, ?_⟩; gi_at_call 20; refine (callsIn_wide.2 (made_yes hu h1)).mono ?_; rintro e w' ⟨rfl, rfl⟩)
  refine wpIn_wide.2 ?_
  go_quiet (fail)
  rename_i nq
  have hW2 : Keeps (· < w.heap.size) w (W.drewN nq) := ⟨hW.size, hW.block⟩
  have hj2 : J [] (W.drewN nq) := HJ.out _ _ _ h0 ⟨rfl, rfl, rfl, Nat.le_refl _, fun _ _ => rfl⟩
  generalize W.drewN nq = W2 at hW2 hj2 ⊢
  clear h0 hW hu hz
  gi_wp2
  gi_loopw [20] (fun t wr => ∃ i : Nat, i ≤ u ∧ t = .int .i64 i ∧ J (alls ss i) wr ∧ Keeps (· < w.heap.size) w wr) (fun t _ => u - (intOf t).toNat)
  case atStart => exact ⟨0, by omega, rfl, hj2, hW2⟩
  case round =>
    obtain ⟨i, hi, rfl, hji, hbi⟩ := hrel
    clear hj2 hW2
    by_cases hlt : i < u
    · have hwi := HW.out.keeps hbi
      have hc := hwi.cell i hlt
      have hrow := hwi.row i hlt
      have HE := Lib.hid (alls_split ss hlt)
      clear hwi
      obtain ⟨v, hv⟩ : ∃ v, vs i = v := ⟨_, rfl⟩
      rw [hv] at hc hrow
      have HV := Lib.hid hv
      clear hv
      have HR := Lib.hid hrow
      rcases hrow.2 with ⟨rfl, hn⟩ | ⟨g, cap, cur, rfl, hgb, hg, hnc, hcm, hcs, hct⟩
      · have HN := Lib.hid hn
        clear hrow hn
        gi_wp2
        gi_loopw [26] (fun t wr' => t = .int .i64 0 ∧ J (alls ss i) wr' ∧ Keeps (· < w.heap.size) w wr') (fun _ _ => 0)
        case atStart => exact ⟨rfl, hji, hbi⟩
        case round =>
          obtain ⟨rfl, hji2, hbi2⟩ := hrel
          clear hji hbi hc HR
          gi_wp2
          go_roundw
          case rel => exact ⟨i + 1, by omega, by go_num, by rw [alls_succ, List.length_eq_zero_iff.1 HN.out, List.append_nil]; exact hji2, hbi2⟩
          case measure => simp [intOf]; omega
      · obtain ⟨n, hn⟩ : ∃ n, (ss i).length = n := ⟨_, rfl⟩
        rw [hn] at hnc hc
        have HN := Lib.hid hn
        have hm : n ≤ 9223372036854775807 := by unfold maxLen at hcm; omega
        clear hrow hg hcs hct hn hgb hcm
        gi_wp2
        gi_loopw [26] (fun t wr' => ∃ j : Nat, j ≤ n ∧ t = .int .i64 j ∧ J (alls ss i ++ (ss i).take j) wr' ∧ Keeps (· < w.heap.size) w wr') (fun t _ => n - (intOf t).toNat)
        case atStart => exact ⟨0, by omega, rfl, by simpa using hji, hbi⟩
        case round =>
          obtain ⟨j, hj, rfl, hjj, hbj⟩ := hrel
          clear hji hbi hc HR
          by_cases hjn : j < n
          · have hjl : j < (ss i).length := by rw [HN.out]; exact hjn
            have hro := (HW.out.keeps hbj).row i hlt
            rw [HV.out] at hro
            obtain ⟨c1, c2⟩ := row_cells hro hjl
            obtain ⟨x, hx⟩ : ∃ x, (ss i)[j] = x := ⟨_, rfl⟩
            rw [hx] at c1 c2
            obtain ⟨hs1, hs2⟩ := take_split (ss i) hjl
            rw [hx] at hs1 hs2
            obtain ⟨r, hr⟩ := HE.out
            have hpre : alls ss u = (alls ss i ++ (ss i).take j) ++ x :: ((ss i).drop (j + 1) ++ r) := by rw [hr, List.append_assoc (alls ss i)]; refine congrArg _ ?_; rw [← List.cons_append, ← List.append_assoc, ← hs1]
            have hb1 := box_below wr (.cells #[.int .i64 x.1, .int .i64 x.2] 31)
            obtain ⟨fn, tmps, assign, body, hy, hR⟩ := HY.out _ x _ _ hpre (HJ.out _ _ _ hjj hb1)
            have HS := Lib.hid hs2
            have HP := Lib.hid (show alls ss u = ((alls ss i ++ (ss i).take j) ++ [x]) ++ ((ss i).drop (j + 1) ++ r) by rw [hpre]; simp)
            have HB := Lib.hid (hbj.trans (keeps_of hb1 (fun k hk => Nat.lt_of_lt_of_le hk hbj.size)))
            clear hs1 hs2 hr hpre hx hro hb1 hjl
            gi_wp2
            refine hR.mono ?_
            rintro e W3 (⟨rfl, hJ3, hk3⟩ | ⟨rfl, hJx3⟩)
            · have HB3 := Lib.hid (HB.out.trans hk3)
              clear hy hR c1 c2 hbj hjj hk3
              gi_wp2
              go_roundw
              case rel => exact ⟨j + 1, by omega, by go_num, by rw [HS.out, ← List.append_assoc]; exact hJ3, HB3.out⟩
              case measure => simp [intOf]; omega
            · gi_wp2
              refine bodyPost_ret (results_none rfl _ _ _) rfl ?_
              exact ⟨⟨_, rfl⟩, .inr ⟨_, _, HP.out, hJx3⟩⟩
          · obtain rfl : j = n := by omega
            gi_wp2
            go_roundw
            case rel => exact ⟨i + 1, by omega, by go_num, by rw [alls_succ, ← List.take_of_length_le (Nat.le_of_eq HN.out)]; exact hjj, hbj⟩
            case measure => simp [intOf]; omega
    · obtain rfl : i = u := by omega
      gi_wp2
      go_end0
      exact ⟨⟨_, rfl⟩, .inl hji⟩
set_option maxRecDepth 100000 in
set_option maxHeartbeats 2000000 in
theorem none_tells (w : World) : Tells Try.prog 27 #[.pointer none] #[] (fun x : Al => #[alv x]) (· < w.heap.size) [] w := by
  intro l J Jx W hW hJ hY h0
  clear hW hJ hY
  refine callsIn_of_wp Try.func27 rfl trivial ?_ rfl
  simp only [Try.ntmps27, List.size_toArray, List.length_cons, List.length_nil, Nat.reduceAdd, Nat.reduceSub, Array.replicate_succ, Array.replicate_zero, List.push_toArray, List.append_toArray, List.nil_append, List.cons_append]
  gi_wp2_with (refine ⟨trivial, ?_⟩; gi_at_call 20; refine (callsIn_wide.2 (made_no _)).mono ?_; rintro e w' ⟨rfl, rfl⟩)
  refine bodyPost_ret (results_none rfl _ _ _) rfl ?_
  exact ⟨⟨_, rfl⟩, .inl h0⟩
end Go.Proofs.Ythoicmbpjcgdpaa
