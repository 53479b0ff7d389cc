/- What was gathered is told, one by one. -/
import Derived.Test.YtdfkjojofhleaaaD2
namespace Go.Proofs.Ytdfkjojofhleaaa
open Go Go.RowKit Go.Shelf
attribute [local go_sem] Oper.semAt_some

/-- the blocks of two boxes and of their rows -/
def OfCol (n0 : Nat) (vn vt : Value) (k : Nat) : Prop := k = n0 ∨ k = n0 + 1 ∨ vn.ownBlock = some k ∨ vt.ownBlock = some k
theorem Col.lt {n0 : Nat} {w W : World} {xs ys : List Int} {vn vt : Value} (h : Col n0 w W xs ys vn vt) {k : Nat} (hk : OfCol n0 vn vt k) : n0 ≤ k ∧ k < W.heap.size := by
  rcases hk with rfl | rfl | hk | hk
  · exact ⟨Nat.le_refl _, h.bn.lt⟩
  · exact ⟨Nat.le_succ _, h.bt.lt⟩
  · exact h.rn.lt k hk
  · exact h.rt.lt k hk
/-- two boxes with two rows, whatever else has changed -/
structure Two (n0 : Nat) (W : World) (xs ys : List Int) (vn vt : Value) : Prop where
  bn : Boxed W n0 34 vn
  bt : Boxed W (n0 + 1) 34 vt
  rn : W.ownsRow n0 3 1 vn xs.length (intsL xs)
  rt : W.ownsRow n0 3 1 vt ys.length (intsL ys)
theorem Col.two {n0 : Nat} {w W W' : World} {xs ys : List Int} {vn vt : Value} (h : Col n0 w W xs ys vn vt) (hk : ∀ k, OfCol n0 vn vt k → W'.heap[k]? = W.heap[k]?) : Two n0 W' xs ys vn vt :=
  ⟨(hk _ (.inl rfl)).trans h.bn, (hk _ (.inr (.inl rfl))).trans h.bt, row_keep h.rn fun g hg => hk g (.inr (.inr (.inl hg))), row_keep h.rt fun g hg => hk g (.inr (.inr (.inr hg)))⟩
theorem ints_cell {W : World} {base g n c : Nat} {xs : List Int} (h : W.ownsRow base 3 1 (.slice (some ⟨g, 0, none⟩) n c) xs.length (intsL xs)) {j : Nat} (hj : j < xs.length) : W.cell? ⟨g, j, none⟩ = some (.int .i64 xs[j]) := by
  have := h.cells (g := g) rfl j (.int .i64 xs[j]) (by simp [intsL, hj])
  rw [add_at] at this
  exact this
theorem take_told (xs : List Told) {j : Nat} (h : j < xs.length) : xs = xs.take j ++ xs[j] :: xs.drop (j + 1) ∧ xs.take (j + 1) = xs.take j ++ [xs[j]] :=
  ⟨by rw [← List.drop_eq_getElem_cons h, List.take_append_drop], List.take_succ_eq_append_getElem h⟩
set_option maxRecDepth 100000 in
set_option maxHeartbeats 2000000 in
theorem seq_tells {w0 w : World} {n0 : Nat} {vn vt : Value} {xs : List Told} (h : Col n0 w0 w (numsT xs) (valsT xs) vn vt) (hl : xs.length ≤ 5000) :
    Tells Try.prog 21 #[] #[wp n0, wp (n0 + 1)] encT (OfCol n0 vn vt) xs w := by
  intro l J Jx W hW hJ hY h0
  have h2 : Two n0 W (numsT xs) (valsT xs) vn vt := h.two fun k hk => hW.block k (h.lt hk).2
  have HT : ∀ W', Keeps (OfCol n0 vn vt) W W' → Two n0 W' (numsT xs) (valsT xs) vn vt := fun W' hk => h.two fun k hk2 => (hk.block k hk2).trans (hW.block k (h.lt hk2).2)
  have HTT := Lib.hid HT
  have HJ := Lib.hid hJ
  have HY := Lib.hid hY
  have e1 : (numsT xs).length = xs.length := by simp [numsT]
  have e2 : (valsT xs).length = xs.length := by simp [valsT]
  obtain ⟨A, c, hA, hA2⟩ := row_slice h2.rn
  obtain ⟨B, d, hB, hB2⟩ := row_slice h2.rt
  rw [e1] at hA hA2
  rw [e2] at hB hB2
  subst hA hB
  have c0 := h2.bn.cell
  have HA := Lib.hid hA2
  have HB := Lib.hid hB2
  obtain ⟨n, hn⟩ : ∃ n, xs.length = n := ⟨_, rfl⟩
  have HN := Lib.hid hn
  rw [hn] at c0 hl
  clear hJ hY h h2 hW HT e1 e2 hA2 hB2 hn
  refine callsIn_of_wp Try.func21 rfl trivial ?_ rfl
  simp only [Try.ntmps21, List.size_toArray, List.length_cons, List.length_nil, Nat.reduceAdd, Nat.reduceSub, Array.replicate_succ, Array.replicate_zero, List.push_toArray, List.append_toArray, List.nil_append, List.cons_append]
  gi_wp2
  gi_loopw [8] (fun t wr => ∃ j : Nat, j ≤ n ∧ t = .int .i64 j ∧ J (xs.take j) wr ∧ Keeps (OfCol n0 (.slice A xs.length c) (.slice B xs.length d)) W wr) (fun t _ => n - (intOf t).toNat)
  case atStart => exact ⟨0, by omega, rfl, by simpa using h0, Keeps.refl _ _⟩
  case round =>
    obtain ⟨j, hj, rfl, hjj, hbj⟩ := hrel
    clear c0 h0
    by_cases hjn : j < n
    · have hjl : j < xs.length := by rw [HN.out]; exact hjn
      have h3 := HTT.out _ hbj
      rcases HA.out with q | ⟨ga, rfl⟩
      · have := HN.out; omega
      rcases HB.out with q | ⟨gb, rfl⟩
      · have := HN.out; omega
      have c1 := ints_cell h3.rn (j := j) (by simp [numsT]; exact hjl)
      have c2 := ints_cell h3.rt (j := j) (by simp [valsT]; exact hjl)
      have c3 := h3.bt.cell
      rw [HN.out] at c3
      obtain ⟨x, hx⟩ : ∃ x, xs[j] = x := ⟨_, rfl⟩
      rw [show (numsT xs)[j]'(by simp [numsT]; exact hjl) = (x.1 : Int) by simp [numsT, hx]] at c1
      rw [show (valsT xs)[j]'(by simp [valsT]; exact hjl) = x.2 by simp [valsT, hx]] at c2
      obtain ⟨hs1, hs2⟩ := take_told xs hjl
      rw [hx] at hs1 hs2
      obtain ⟨fn, tmps, assign, body, hy, hR⟩ := HY.out _ x _ _ hs1 hjj
      have HS := Lib.hid hs2
      have HP := Lib.hid (show xs = (xs.take j ++ [x]) ++ xs.drop (j + 1) by rw [List.append_assoc]; exact hs1)
      have HK := Lib.hid hbj
      clear hs1 hs2 hx hjl h3 hbj hjj
      gi_wp2
      refine hR.mono ?_
      rintro e W3 (⟨rfl, hJ3, hk3⟩ | ⟨rfl, hJx3⟩)
      · have HB3 := Lib.hid (HK.out.trans hk3)
        clear hy hR c1 c2 c3 hk3
        gi_wp2
        go_roundw
        case rel => exact ⟨j + 1, by omega, by go_num, by rw [HS.out]; exact hJ3, HB3.out⟩
        case measure => simp [intOf]; omega
      · gi_wp2
        refine bodyPost_ret (results_none rfl _ _ _) rfl ?_
        exact ⟨⟨_, rfl⟩, .inr ⟨_, _, HP.out, hJx3⟩⟩
    · obtain rfl : j = n := by omega
      gi_wp2
      go_end0
      refine ⟨⟨_, rfl⟩, .inl ?_⟩
      rw [List.take_of_length_le (Nat.le_of_eq HN.out)] at hjj
      exact hjj
end Go.Proofs.Ytdfkjojofhleaaa
