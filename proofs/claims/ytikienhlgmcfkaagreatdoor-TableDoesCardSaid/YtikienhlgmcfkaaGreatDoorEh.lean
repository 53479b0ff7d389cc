/- Rows of locks; lists of locks that are alike; the document's table: Held. -/
import Derived.Test.YtikienhlgmcfkaaGreatDoorEc
import Derived.Test.YtikienhlgmcfkaaGreatDoorHd
namespace Go.Proofs.YtikienhlgmcfkaaGreatDoor
open Go Go.RowKit Go.Shelf
set_option maxRecDepth 100000

theorem flatLk_length (xs : List Lk) : (flatLk xs).length = xs.length * 6 := by
  induction xs with
  | nil => rfl
  | cons x xs ih => simp only [flatLk, List.flatMap_cons, List.length_append, List.length_cons] at ih ⊢; rw [ih]; simp [encLk]; omega
theorem flatLk_at : ∀ (xs : List Lk) (i j : Nat) (h : i < xs.length), j < 6 → (flatLk xs)[i * 6 + j]? = (encLk xs[i])[j]?
  | x :: xs, 0, j, h, hj => by
    simp only [flatLk, List.flatMap_cons, Nat.zero_mul, Nat.zero_add, List.getElem_cons_zero]
    rw [List.getElem?_append_left (by simp [encLk]; exact hj)]
  | x :: xs, i + 1, j, h, hj => by
    simp only [flatLk, List.flatMap_cons, List.getElem_cons_succ]
    rw [List.getElem?_append_right (by simp [encLk]; omega)]
    have e : (i + 1) * 6 + j - (encLk x).length = i * 6 + j := by simp [encLk]; omega
    rw [e]
    exact flatLk_at xs i j (by simpa using h) hj
/-- a list of locks that is read -/
structure LkL (W : World) (A : Option Addr) (c : Nat) (xs : List Lk) : Prop where
  cap : xs.length ≤ c
  nil : A = none → c = 0
  at' : ∀ a, A = some a → ∀ j u, (flatLk xs)[j]? = some u → W.cell? (a.add j) = some u
/-- one of them, cell by cell -/
structure LkH (W : World) (a : Addr) (i : Nat) (x : Lk) : Prop where
  c0 : W.cell? (a.add (i * 6)) = some (.int .i64 x.1.a)
  c1 : W.cell? ⟨(a.add (i * 6)).block, (a.add (i * 6)).off + 1, none⟩ = some (.int .i64 x.1.b)
  c2 : W.cell? ⟨(a.add (i * 6)).block, (a.add (i * 6)).off + 2, none⟩ = some (.int .i64 x.1.c)
  c3 : W.cell? ⟨(a.add (i * 6)).block, (a.add (i * 6)).off + 3, none⟩ = some (.int .i64 x.1.d)
  c4 : W.cell? ⟨(a.add (i * 6)).block, (a.add (i * 6)).off + 4, none⟩ = some (.int .i64 x.1.e)
  c5 : W.cell? ⟨(a.add (i * 6)).block, (a.add (i * 6)).off + 5, none⟩ = some (.int .i64 x.2)
section
variable {W W' w : World} {A A1 A2 : Option Addr} {c c1 c2 K : Nat} {xs ls : List Lk}
theorem LkL.of_row {v : Value} {n : Nat} (h : W.ownsRow K 100 6 v n (flatLk xs)) (hn : xs.length = n) : ∃ A c, v = .slice A n c ∧ LkL W A c xs := by
  subst hn
  rcases h.2 with ⟨rfl, h0⟩ | ⟨g', cap', cur, rfl, hb, hg, h1, h2, h3, h4⟩
  · have := List.length_eq_zero_iff.1 h0
    subst this
    exact ⟨none, 0, rfl, Nat.le_refl _, fun _ => rfl, fun _ h => by cases h⟩
  · refine ⟨_, cap', rfl, by omega, by simp, fun a ha j u hj => ?_⟩
    obtain rfl : (⟨g', 0, none⟩ : Addr) = a := by simpa using ha
    exact h.cells (g := g') rfl j u hj
theorem LkL.below (h : LkL W A c xs) (hb : Below W.heap.size W W') : LkL W' A c xs :=
  ⟨h.cap, h.nil, fun a ha j u hj => by
    have := h.at' a ha j u hj
    rw [World.cell?_of_block (w := W) (a := a.add j) (hb.block _ (cell_lt this))]
    exact this⟩
theorem LkL.drewN (h : LkL W A c xs) (k : Nat) : LkL (W.drewN k) A c xs := ⟨h.cap, h.nil, h.at'⟩
theorem LkL.here (h : LkL W A c xs) {i : Nat} (hi : i < xs.length) : ∃ a, A = some a ∧ LkH W a i xs[i] := by
  cases A with
  | none => have h1 := h.cap; have h2 := h.nil rfl; omega
  | some a =>
    have key : ∀ j u, j < 6 → (encLk xs[i])[j]? = some u → W.cell? (a.add (i * 6 + j)) = some u := fun j u hj hu => h.at' a rfl _ _ ((flatLk_at xs i j hi hj).trans hu)
    refine ⟨a, rfl, key 0 _ (by omega) rfl, ?_, ?_, ?_, ?_, ?_⟩
    · rw [← Hs.add_next _ _ 1 (by omega)]; exact key 1 _ (by omega) rfl
    · rw [← Hs.add_next _ _ 2 (by omega)]; exact key 2 _ (by omega) rfl
    · rw [← Hs.add_next _ _ 3 (by omega)]; exact key 3 _ (by omega) rfl
    · rw [← Hs.add_next _ _ 4 (by omega)]; exact key 4 _ (by omega) rfl
    · rw [← Hs.add_next _ _ 5 (by omega)]; exact key 5 _ (by omega) rfl
end
@[go_sem ↓] theorem eq100 (n : Nat) (w : World) (a b c d e m : Int) :
    (Op.equalIn (n + 4) 100 (.agg #[.int .i64 a, .int .i64 b, .int .i64 c, .int .i64 d, .int .i64 e, .int .i64 m]) (.agg #[.int .i64 a, .int .i64 b, .int .i64 c, .int .i64 d, .int .i64 e, .int .i64 m])).run Tryz.prog w = .ok true w := by
  rw [run_equalIn_struct w (n + 3) 100 _ _ (by kernel_rfl) (by kernel_rfl)]
  simp [go_sem, Pa.eq24, Pa.eqP_self]
section
variable {W W' w : World} {A A1 A2 : Option Addr} {c c1 c2 K : Nat} {xs ls : List Lk}
theorem locks_same (h1 : LkL W A1 c1 xs) (h2 : LkL W A2 c2 xs) (hl : xs.length ≤ 5000) : Calls Tryz.prog 18 #[.slice A1 xs.length c1, .slice A2 xs.length c2] W fun e w' => e = .returned (.bool true) ∧ Below W.heap.size W w' := by
  have H1 := Lib.hid h1
  have H2 := Lib.hid h2
  clear h1 h2
  obtain ⟨n, hn⟩ : ∃ n, xs.length = n := ⟨_, rfl⟩
  rw [hn] at hl ⊢
  have HN := Lib.hid hn
  clear hn
  go_enter Tryz.func18, Tryz.ntmps18
  go_wp2
  go_loopw [13] (fun t wr => ∃ k : Nat, k ≤ n ∧ t = .int .i64 k ∧ ∃ j, wr = W.drewN j) (fun t _ => n - (intOf t).toNat)
  case atStart => exact ⟨0, by omega, rfl, 0, rfl⟩
  case round =>
    obtain ⟨k, hk, rfl, j, rfl⟩ := hrel
    by_cases hlt : k < n
    · have hlt' : k < xs.length := by rw [HN.out]; exact hlt
      obtain ⟨g1, rfl, e1⟩ := (H1.out.drewN j).here hlt'
      obtain ⟨g2, rfl, e2⟩ := (H2.out.drewN j).here hlt'
      generalize xs[k] = x at e1 e2
      obtain ⟨⟨pa, pb, pc, pd, pe⟩, m⟩ := x
      obtain ⟨a0, a1, a2, a3, a4, a5⟩ := e1
      obtain ⟨b0, b1, b2, b3, b4, b5⟩ := e2
      simp only at a0 a1 a2 a3 a4 a5 b0 b1 b2 b3 b4 b5
      generalize hX : W.drewN j = X at a0 a1 a2 a3 a4 a5 b0 b1 b2 b3 b4 b5 ⊢
      have HX := Lib.hid hX
      clear hX hlt'
      go_wp2
      go_quiet (fail)
      have HE := Lib.hid (show X.drewN nq = W.drewN (j + nq) by rw [← HX.out]; simp [World.drewN]; omega)
      generalize X.drewN nq = Y at HE ⊢
      clear a0 a1 a2 a3 a4 a5 b0 b1 b2 b3 b4 b5
      go_wp2
      go_roundw
      case rel => exact ⟨k + 1, by omega, by go_num, j + nq, HE.out⟩
      case measure => simp [intOf]; omega
    · obtain rfl : k = n := by omega
      go_wp2
      go_ret
      exact ⟨rfl, drew_below W j⟩
/-- a lock is put behind a row of one's own -/
theorem lk_app {v : Value} {n : Nat} (h : W.ownsRow K 100 6 v n (flatLk ls)) (hn : ls.length = n) (x : Lk) (hl : n ≤ 900) (hK : K ≤ W.heap.size) (hb : Below K w W) :
    ∃ A' c' w2, (Builtin.append_ #[52, 52] 52 #[v, .slice (some ⟨W.heap.size, 0, none⟩) 1 1]).run Tryz.prog (W.alloc (.cells (lca x.1 x.2) 100)) = .ok (.slice A' (n + 1) c') w2 ∧ w2.ownsRow K 100 6 (.slice A' (n + 1) c') (n + 1) (flatLk (ls ++ [x])) ∧ Below K w w2 := by
  subst hn
  obtain ⟨i0, hi, hz0, hz1, hz2⟩ := info_parts info_lock
  have hx := box_below W (.cells (lca x.1 x.2) 100)
  have h1 : (W.alloc (.cells (lca x.1 x.2) 100)).ownsRow K 100 6 v ls.length (flatLk ls) := row_below h hx
  have hK1 := Nat.le_trans hK hx.size
  obtain ⟨v', W', hr, hown, hg, -, -⟩ := run_append_own_at (P := Tryz.prog) (W.alloc (.cells (lca x.1 x.2) 100)) K 52 52 100 i0 _ 6 48 Tryz.underlying52 hi hz0 hz1 hz2 rfl (by decide) v ls.length (flatLk ls) h1 ⟨W.heap.size, 0, none⟩ 1 1 (encLk x) rfl (new_lock W x.1 x.2) (one_lock x) (by unfold maxLen; omega) (by omega) hK1
  rw [← flatLk_snoc] at hown
  obtain ⟨A', c', rfl, -⟩ := LkL.of_row (xs := ls ++ [x]) hown (by simp)
  refine ⟨A', c', W', hr, hown, hb.trans ((hx.mono hK).trans ?_)⟩
  exact OnlyS.below (S := fun k => v.ownBlock = some k) ((OnlyS.refl _ _).grown hg fun _ hk => .inl hk) (fun k hk => (h1.lt k hk).1) hK1
end
end Go.Proofs.YtikienhlgmcfkaaGreatDoor
namespace Go.Proofs.YtikienhlgmcfkaaGreatDoor.Rt
open Go Go.RowKit Go.Shelf
set_option maxRecDepth 100000

/-- what one has at these entries -/
def lksE (tx : Int) (es : List Nd) : List Lk := (es.filter fun e => Hs.fst tx e.H != 0).map fun e => (e.p, Hs.fst tx e.H)
theorem lksE_yes {tx : Int} {es : List Nd} {i : Nat} (hi : i < es.length) {x : Nd} (hx : es[i] = x) (h : Hs.fst tx x.H ≠ 0) : lksE tx (es.take (i + 1)) = lksE tx (es.take i) ++ [(x.p, Hs.fst tx x.H)] := by
  unfold lksE
  rw [List.take_succ_eq_append_getElem hi, hx, List.filter_append, List.filter_cons, if_pos (by simpa using h)]
  simp
theorem lksE_no {tx : Int} {es : List Nd} {i : Nat} (hi : i < es.length) {x : Nd} (hx : es[i] = x) (h : Hs.fst tx x.H = 0) : lksE tx (es.take (i + 1)) = lksE tx (es.take i) := by
  unfold lksE
  rw [List.take_succ_eq_append_getElem hi, hx, List.filter_append, List.filter_cons, if_neg (by simp [h])]
  simp
theorem lksE_le {tx : Int} {es : List Nd} (i : Nat) : (lksE tx (es.take i)).length ≤ i := by
  unfold lksE
  rw [List.length_map]
  refine Nat.le_trans (List.length_filter_le _ _) ?_
  rw [List.length_take]
  omega
theorem Rel.lks {C : Pa.Pt → Cx} {es : List Nd} (R : Rel C es) (tx : Int) : locksOf (fun p => Hs.fst tx (C p).1) (es.map (·.p)) = lksE tx es := by
  unfold locksOf lksE
  rw [List.filter_map, List.map_map]
  have h1 : es.filter ((fun p => Hs.fst tx (C p).1 != 0) ∘ fun x : Nd => x.p) = es.filter fun e => Hs.fst tx e.H != 0 := List.filter_congr fun e he => by
    simp only [Function.comp]
    rw [R.cy e he]
  rw [h1]
  refine List.map_congr_left fun e he => ?_
  simp only [Function.comp]
  rw [R.cy e (List.mem_filter.1 he).1]
section
variable {W W' w : World} {t K m c : Nat} {mr : Int} {es : List Nd} {D : Nat → Prop} {A : Option Addr}
set_option maxHeartbeats 2000000 in
theorem Di.held (h : Di W t K m mr es D A c) (hl : es.length ≤ 300) (hs : totE es ≤ 300) (tx : Int) : Calls Tryz.prog 20 #[qp t, .int .i64 tx] W (HeldOf W (lksE tx es)) := by
  obtain ⟨n, hn⟩ : ∃ n, es.length = n := ⟨_, rfl⟩
  rw [hn] at hl
  have HN := Lib.hid hn
  have e0 := h.e0 hn
  have hlt := h.lt
  have H1 := Lib.hid h
  clear h hn
  go_enter Tryz.func20, Tryz.ntmps20
  go_wp2_with fail
  go_loopw [5, 14] (fun s v wr => ∃ j : Nat, j ≤ n ∧ v = .int .i64 j ∧ wr.ownsRow W.heap.size 100 6 s (lksE tx (es.take j)).length (flatLk (lksE tx (es.take j))) ∧ Below W.heap.size W wr) (fun _ v _ => n - (intOf v).toNat)
  case atStart => exact ⟨0, by omega, rfl, World.ownsRow_nil _ _ _ _, Below.refl _ _⟩
  case round =>
    obtain ⟨j, hj, rfl, hrow, hb⟩ := hrel
    have HB1 := Lib.hid hb
    have hle := lksE_le (tx := tx) (es := es) j
    obtain ⟨q, hq⟩ : ∃ q, (lksE tx (es.take j)).length = q := ⟨_, rfl⟩
    have HQ := Lib.hid hq
    rw [hq] at hrow hle
    obtain ⟨A0, c0', rfl, -⟩ := LkL.of_row hrow hq
    have HRow := Lib.hid hrow
    clear hq hrow
    by_cases hjn : j < n
    · have hjl : j < es.length := by rw [HN.out]; exact hjn
      obtain ⟨g, rfl, c0, -⟩ := (H1.out.below hb).at hjl
      obtain ⟨A1, c1, A2, c2, hR, -⟩ := (H1.out.below hb).ent _ (List.getElem_mem hjl)
      obtain ⟨x, hx⟩ : ∃ x, es[j]'hjl = x := ⟨_, rfl⟩
      have hz := totE_ge (List.getElem_mem hjl)
      rw [hx] at c0 hR hz
      have HYes := Lib.hid (lksE_yes (tx := tx) hjl hx)
      have HNo := Lib.hid (lksE_no (tx := tx) hjl hx)
      have HR := Lib.hid hR
      have HMo := Lib.hid (Hs.rmode_any hR.h (by omega) tx)
      have e5 := hR.e5
      obtain ⟨⟨pa, pb, pc, pd, pe⟩, Q, H, L⟩ := x
      simp only at c0 HYes HNo HMo e5
      obtain ⟨z, hz0⟩ : ∃ z, Hs.fst tx H = z := ⟨_, rfl⟩
      rw [hz0] at HYes HNo HMo
      clear hx hz hb hR hz0
      go_wp2_with fail
      refine HMo.out.mono ?_
      rintro e w2 ⟨rfl, hb2⟩
      have HB2 := Lib.hid (HB1.out.trans (hb2.mono HB1.out.size))
      have HRow2 := Lib.hid (row_below HRow.out hb2)
      have hR2 := HR.out.below hb2
      have r0 := hR2.e0
      have r1 := hR2.e1
      have r2 := hR2.e2
      have r3 := hR2.e3
      have r4 := hR2.e4
      simp only at r0 r1 r2 r3 r4
      clear hb2 hR2 HMo e5 HB1 HRow
      by_cases hz1 : z = 0
      · have hzb : (z == 0) = true := by simpa using hz1
        have HE := Lib.hid (HNo.out hz1)
        go_wp2_with fail
        go_roundw
        case rel => exact ⟨j + 1, by omega, by go_num, by rw [HE.out, HQ.out]; exact HRow2.out, HB2.out⟩
        case measure => simp [intOf]; omega
      · have hzb : (z == 0) = false := by simpa using hz1
        have HE := Lib.hid (HYes.out hz1)
        obtain ⟨A', c', w3, hrun, hown, hb3⟩ := lk_app HRow2.out HQ.out (⟨pa, pb, pc, pd, pe⟩, z) (by omega) HB2.out.size HB2.out
        have HO := Lib.hid hown
        have HB3 := Lib.hid hb3
        simp only at hrun
        clear hown hb3
        go_wp2_with (at_builtin; refine Lib.wpList_append_run _ rfl _ _ _ _ rfl _ _ rfl rfl _ _ hrun ?_)
        go_roundw
        case rel => exact ⟨j + 1, by omega, by go_num, by rw [HE.out, List.length_append, HQ.out]; exact HO.out, HB3.out⟩
        case measure => simp [intOf]; omega
    · obtain rfl : j = n := by omega
      have HT := Lib.hid (show es.take j = es from List.take_of_length_le (Nat.le_of_eq HN.out))
      clear hle hb
      go_wp2_with fail
      go_ret
      refine ⟨_, rfl, ?_, HB1.out⟩
      have h1 := HRow.out
      have h2 := HQ.out
      rw [HT.out] at h1 h2
      rw [h2]
      exact h1
end
end Go.Proofs.YtikienhlgmcfkaaGreatDoor.Rt
