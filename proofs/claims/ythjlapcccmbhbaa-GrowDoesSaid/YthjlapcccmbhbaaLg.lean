/- A lock put to others. -/
import Derived.Test.YthjlapcccmbhbaaLf
namespace Go.Proofs.Ythjlapcccmbhbaa.Lk
open Go Go.RowKit Go.Shelf Pa
set_option maxRecDepth 100000

/-- with a lock in the place of the first one at its node, or behind all -/
def withL : List Hd → Hd → List Hd
  | [], x => [x]
  | y :: ys, x => if eqP y.1 x.1 then x :: ys else y :: withL ys x
theorem with_none {x : Hd} : ∀ {xs : List Hd}, (∀ y ∈ xs, eqP y.1 x.1 = false) → withL xs x = xs ++ [x]
  | [], _ => rfl
  | y :: xs, h => by rw [withL, h y (by simp), with_none (fun z hz => h z (by simp [hz]))]; simp
theorem with_some {x : Hd} : ∀ {xs : List Hd} {k : Nat} (hk : k < xs.length), (∀ i (h : i < k), eqP (xs[i]'(by omega)).1 x.1 = false) → eqP xs[k].1 x.1 = true → withL xs x = xs.set k x
  | y :: xs, 0, _, _, hp => by simp at hp; simp [withL, hp]
  | y :: xs, k + 1, hk, h, hp => by
    have h1 := h 0 (by omega)
    have h2 := with_some (xs := xs) (k := k) (by simpa using hk) (fun i hi => h (i + 1) (by omega)) hp
    simp at h1
    simp [withL, h1, h2]
theorem with_len (x : Hd) : ∀ xs : List Hd, (withL xs x).length ≤ xs.length + 1
  | [] => by simp [withL]
  | y :: xs => by
    have := with_len x xs
    unfold withL
    split
    · simp
    · simp; omega
theorem flat_cons (x : Hd) (xs : List Hd) : flat (x :: xs) = .int .i64 x.1.a :: .int .i64 x.1.b :: .int .i64 x.1.c :: .int .i64 x.1.d :: .int .i64 x.1.e :: .int .i64 x.2 :: flat xs := by simp [flat, cellsW]
theorem set_six (x : Hd) : ∀ {zs : List Hd} {k : Nat}, k < zs.length →
    ((((((flat zs).set (k * 6) (.int .i64 x.1.a)).set (k * 6 + 1) (.int .i64 x.1.b)).set (k * 6 + 2) (.int .i64 x.1.c)).set (k * 6 + 3) (.int .i64 x.1.d)).set (k * 6 + 4) (.int .i64 x.1.e)).set (k * 6 + 5) (.int .i64 x.2) = flat (zs.set k x)
  | y :: zs, 0, _ => by simp [flat_cons]
  | y :: zs, k + 1, h => by
    have ih := set_six x (zs := zs) (k := k) (by simpa using h)
    rw [show (k + 1) * 6 = k * 6 + 6 by omega]
    simp only [flat_cons, List.set_cons_succ, ← ih]
/-- a lock stored at a place -/
abbrev put6 (W : World) (g o : Nat) (x : Hd) : World := (((((W.setCell ⟨g, o, none⟩ (.int .i64 x.1.a)).setCell ⟨g, o + 1, none⟩ (.int .i64 x.1.b)).setCell ⟨g, o + 2, none⟩ (.int .i64 x.1.c)).setCell ⟨g, o + 3, none⟩ (.int .i64 x.1.d)).setCell ⟨g, o + 4, none⟩ (.int .i64 x.1.e)).setCell ⟨g, o + 5, none⟩ (.int .i64 x.2)
theorem Row.put {W : World} {K g n cap : Nat} {xs : List Hd} (h : Row W K (.slice (some ⟨g, 0, none⟩) n cap) xs) (hn : xs.length = n) {k : Nat} (hk : k < xs.length) (x : Hd) : Row (put6 W g (k * 6) x) K (.slice (some ⟨g, 0, none⟩) n cap) (xs.set k x) := by
  unfold Row at h ⊢
  rw [hn] at h
  rw [List.length_set, hn, ← set_six x hk]
  exact row_store (row_store (row_store (row_store (row_store (row_store h _ _) _ _) _ _) _ _) _ _) _ _
/-- the cells of a place of a row of one's own -/
structure Pl6 (W : World) (g o : Nat) (y : Hd) : Prop where
  c0 : W.cell? ⟨g, o, none⟩ = some (.int .i64 y.1.a)
  c1 : W.cell? ⟨g, o + 1, none⟩ = some (.int .i64 y.1.b)
  c2 : W.cell? ⟨g, o + 2, none⟩ = some (.int .i64 y.1.c)
  c3 : W.cell? ⟨g, o + 3, none⟩ = some (.int .i64 y.1.d)
  c4 : W.cell? ⟨g, o + 4, none⟩ = some (.int .i64 y.1.e)
  c5 : W.cell? ⟨g, o + 5, none⟩ = some (.int .i64 y.2)
  f0 : W.frozen? ⟨g, o, none⟩ = false
  f1 : W.frozen? ⟨g, o + 1, none⟩ = false
  f2 : W.frozen? ⟨g, o + 2, none⟩ = false
  f3 : W.frozen? ⟨g, o + 3, none⟩ = false
  f4 : W.frozen? ⟨g, o + 4, none⟩ = false
  f5 : W.frozen? ⟨g, o + 5, none⟩ = false
  lt : g < W.heap.size
theorem Row.at {W : World} {K g n cap : Nat} {xs : List Hd} (h : Row W K (.slice (some ⟨g, 0, none⟩) n cap) xs) {k : Nat} (hk : k < xs.length) : Pl6 W g (k * 6) xs[k] := by
  have hc : ∀ q u, q < 6 → (cellsW xs[k])[q]? = some u → W.cell? ⟨g, k * 6 + q, none⟩ = some u := fun q u hq hu => by
    have := h.cells (g := g) rfl (k * 6 + q) u ((flat_at xs k q hk hq).trans hu)
    rwa [add_at] at this
  have hf : ∀ o, W.frozen? ⟨g, o, none⟩ = false := fun o => by
    rcases h.2 with ⟨h0, _⟩ | ⟨g', cap', cur, e, _, hb, _⟩
    · cases h0
    · cases e
      unfold World.frozen?
      simp [hb]
  exact ⟨hc 0 _ (by omega) rfl, hc 1 _ (by omega) rfl, hc 2 _ (by omega) rfl, hc 3 _ (by omega) rfl, hc 4 _ (by omega) rfl, hc 5 _ (by omega) rfl, hf _, hf _, hf _, hf _, hf _, hf _, (h.lt g rfl).2⟩
theorem put6_only (W : World) (g o : Nat) (x : Hd) : OnlyS (· = g) W (put6 W g o x) :=
  (((((OnlyS.set g o W _).trans (OnlyS.set g _ _ _)).trans (OnlyS.set g _ _ _)).trans (OnlyS.set g _ _ _)).trans (OnlyS.set g _ _ _)).trans (OnlyS.set g _ _ _)
/-- a list is handed out, in memory of its own -/
def Lists (W : World) (xs : List Hd) (e : Ending) (w' : World) : Prop := ∃ A c, e = .returned (.slice A xs.length c) ∧ Ls w' A c xs ∧ Below W.heap.size W w'
section
variable {W W' : World} {A : Option Addr} {c : Nat} {xs : List Hd}
set_option maxHeartbeats 2000000 in
theorem with_any (hr : Ls W A c xs) (hl : xs.length ≤ 400) (x : Hd) : Calls Try.prog 44 #[.slice A xs.length c, wv x] W (Lists W (withL xs x)) := by
  have hx := Go.Proofs.Ythjlapcccmbhbaa.box_below W (.cells #[.int .i64 x.1.a, .int .i64 x.1.b, .int .i64 x.1.c, .int .i64 x.1.d, .int .i64 x.1.e, .int .i64 x.2] 27)
  have HC := Lib.hid (clone_any (hr.below hx) (by omega))
  have HP := Lib.hid (fun (w1 : World) (hb : Below W.heap.size W w1) => place_any (hr.below hb) (by omega) x.1)
  have HX := Lib.hid hx
  have HB := Lib.hid (LkAt.new W x)
  have hcs := idx_cases (fun y => eqP y.1 x.1) xs
  obtain ⟨n, hn⟩ : ∃ n, xs.length = n := ⟨_, rfl⟩
  have HN := Lib.hid hn
  rw [hn] at HC HP hl ⊢
  clear hr hx
  rcases hcs with ⟨h1, h2⟩ | ⟨k, hk, h1, h2, h3⟩
  · have HW := Lib.hid (with_none h2)
    have h1' : plI xs x.1 = -1 := h1
    simp only [h1'] at HP
    clear h1 h2 h1' hn
    obtain ⟨⟨xa, xb, xc, xd, xe⟩, xm⟩ := x
    simp only at HC HP HX HB
    go_enter Try.func44, Try.ntmps44
    go_wp2_with fail
    refine HC.out.mono ?_
    rintro e1 w1 ⟨v, rfl, hrow, hb1⟩
    have hB1 := HB.out.later hb1
    have HB1 := Lib.hid hB1
    obtain ⟨d0, d1, d2, d3, d4, d5, hlt⟩ := hB1
    have HX1 := Lib.hid (thenCall HX.out hb1)
    have HRow := Lib.hid hrow
    have HS1 := Lib.hid hb1.size
    have HK : Hid (W.heap.size ≤ (W.alloc (.cells #[.int .i64 xa, .int .i64 xb, .int .i64 xc, .int .i64 xd, .int .i64 xe, .int .i64 xm] 27)).heap.size) := HX.out.size
    clear hrow hb1
    go_wp2_with fail
    refine (HP.out _ HX1.out).mono ?_
    rintro e2 w2 ⟨rfl, hb2⟩
    obtain ⟨d0, d1, d2, d3, d4, d5, hlt⟩ := HB1.out.later hb2
    simp only at d0 d1 d2 d3 d4 d5 hlt
    have hb3 := Go.Proofs.Ythjlapcccmbhbaa.box_below w2 (.cells #[.int .i64 xa, .int .i64 xb, .int .i64 xc, .int .i64 xd, .int .i64 xe, .int .i64 xm] 27)
    have hrow3 := row_below (row_below HRow.out hb2) hb3
    have hle3 : (W.alloc (.cells #[.int .i64 xa, .int .i64 xb, .int .i64 xc, .int .i64 xd, .int .i64 xe, .int .i64 xm] 27)).heap.size ≤ (w2.alloc (.cells #[.int .i64 xa, .int .i64 xb, .int .i64 xc, .int .i64 xd, .int .i64 xe, .int .i64 xm] 27)).heap.size := by
      exact Nat.le_trans (Nat.le_trans HS1.out hb2.size) hb3.size
    obtain ⟨v', w9, hrun, hrow9, hg9, -⟩ := Row.app hrow3 (box_ls w2 (⟨xa, xb, xc, xd, xe⟩, xm)) (by simp [HN.out]; omega) hle3 22
    have HB9 := Lib.hid ((thenCall (thenCall HX1.out hb2) hb3).trans ((Row.app_below hrow3 hg9 hle3).mono HK.out))
    have HRow9 := Lib.hid hrow9
    clear hrow3 hrow9 hg9 hle3 hb2 hb3
    go_wp2_with (at_builtin; refine Lib.wpList_append_run _ rfl _ _ _ _ rfl _ _ rfl rfl _ _ hrun ?_)
    go_ret
    obtain ⟨A', c', rfl, hls⟩ := HRow9.out.ls
    rw [HW.out]
    exact ⟨A', c', rfl, hls, HB9.out⟩
  · have HW := Lib.hid (with_some hk h3 h2)
    have h1' : plI xs x.1 = (k : Int) := h1
    simp only [h1'] at HP
    have hkn : (k : Int) < (n : Int) := by omega
    have hk0 : ¬ (k : Int) < 0 := by omega
    have hk1 : (0 : Int) ≤ (k : Int) := by omega
    have HK := Lib.hid hk
    clear h1 h2 h1' hn h3 hk
    obtain ⟨⟨xa, xb, xc, xd, xe⟩, xm⟩ := x
    simp only at HC HP HX HB
    go_enter Try.func44, Try.ntmps44
    go_wp2_with fail
    refine HC.out.mono ?_
    rintro e1 w1 ⟨v, rfl, hrow, hb1⟩
    have hB1 := HB.out.later hb1
    have HB1 := Lib.hid hB1
    obtain ⟨d0, d1, d2, d3, d4, d5, hlt⟩ := hB1
    have HX1 := Lib.hid (thenCall HX.out hb1)
    have HRow := Lib.hid hrow
    clear hrow hb1
    go_wp2_with fail
    refine (HP.out _ HX1.out).mono ?_
    rintro e2 w2 ⟨rfl, hb2⟩
    obtain ⟨d0, d1, d2, d3, d4, d5, hlt⟩ := HB1.out.later hb2
    simp only at d0 d1 d2 d3 d4 d5 hlt
    have hrow2 := row_below HRow.out hb2
    have HX2 := Lib.hid (thenCall HX1.out hb2)
    rcases hrow2.2 with ⟨rfl, hz⟩ | ⟨g, cap, cur, rfl, hbg, hg, -⟩
    · exfalso
      have := HK.out
      omega
    have HRow2 := Lib.hid hrow2
    obtain ⟨q0, q1, q2, q3, q4, q5, f0, f1, f2, f3, f4, f5, hlg⟩ := Row.at hrow2 HK.out
    rw [HN.out]
    clear hg hb2 hrow2
    go_wp2_with fail
    go_ret
    have hp := Row.put HRow2.out rfl HK.out (⟨xa, xb, xc, xd, xe⟩, xm)
    obtain ⟨A', c', e', hls⟩ := hp.ls
    injection e' with e1 e2 e3
    subst e1 e3
    rw [HW.out]
    refine ⟨_, _, ?_, hls, HX2.out.trans ((put6_only w2 g (k * 6) (⟨xa, xb, xc, xd, xe⟩, xm)).below (fun _ e => by rw [e]; exact Nat.le_trans HX.out.size hbg) HX2.out.size)⟩
    rw [List.length_set, HN.out]
    rfl
end
end Go.Proofs.Ythjlapcccmbhbaa.Lk
