/- Edges compared; those of a sorted row that stand there again are taken away by the library. -/
import Derived.Test.YtjhkejkdnjogiaaGreatDoorGa
import Derived.Test.YtjhkejkdnjogiaaGreatDoorGb
namespace Go.Proofs.YtjhkejkdnjogiaaGreatDoor.Es
open Go Go.RowKit Go.Shelf
set_option maxRecDepth 100000

/-- by from whom, then by to whom -/
def lessE (a b : Ed) : Bool := if a.1 = b.1 then decide (a.2 < b.2) else decide (a.1 < b.1)
theorem lessE_iff {a b : Ed} : lessE a b = true ↔ a.1 < b.1 ∨ (a.1 = b.1 ∧ a.2 < b.2) := by
  unfold lessE
  split
  · rename_i h; rw [decide_eq_true_iff]; omega
  · rename_i h; rw [decide_eq_true_iff]; omega
theorem lessE_not {a b : Ed} : lessE a b = false ↔ ¬ (a.1 < b.1 ∨ (a.1 = b.1 ∧ a.2 < b.2)) := by
  rw [← lessE_iff]; simp
theorem ordE : Od.Ordr lessE where
  irr a := lessE_not.2 (by omega)
  tr a b c h1 h2 := by rw [lessE_iff] at *; omega
  tot a b h1 h2 := by
    rw [lessE_not] at *
    exact Prod.ext (by omega) (by omega)
def eqE (x y : Ed) : Bool := x.1 == y.1 && x.2 == y.2
@[go_sem ↓] theorem eqE_run (n : Nat) (w : World) (a b c d : Int) :
    (Op.equalIn (n + 3) 47 (.agg #[.int .i64 a, .int .i64 b]) (.agg #[.int .i64 c, .int .i64 d])).run Tryz.prog w = .ok (eqE (a, b) (c, d)) w := by
  rw [run_equalIn_struct w (n + 2) 47 _ _ (by kernel_rfl) (by kernel_rfl)]
  simp [go_sem]
  unfold eqE
  by_cases h1 : a = c <;> by_cases h2 : b = d <;> simp [h1, h2]
theorem eqE_iff {x y : Ed} : eqE x y = true ↔ x = y := by
  unfold eqE
  rw [Bool.and_eq_true, beq_iff_eq, beq_iff_eq]
  exact ⟨fun h => Prod.ext h.1 h.2, fun h => by rw [h]; exact ⟨rfl, rfl⟩⟩
theorem eqE_self (x : Ed) : eqE x x = true := eqE_iff.2 rfl
theorem eqE_ne {x y : Ed} (h : x ≠ y) : eqE x y = false := by
  cases e : eqE x y
  · rfl
  · exact absurd (eqE_iff.1 e) h
/-- what a call that takes some of a row away hands back -/
def Drops (W : World) (K : Nat) (v : Value) (xs : List Ed) (e : Ending) (w' : World) : Prop :=
  ∃ v', e = .returned v' ∧ Row w' K v' xs ∧ OnlyS (fun k => v.ownBlock = some k) W w'
section
variable {W W' : World} {c K : Nat} {xs : List Ed} {v : Value}
theorem Row.drewN (h : Row W K v xs) (q : Nat) : Row (W.drewN q) K v xs := row_keep h fun _ _ => rfl
/-- its cells, at a place -/
theorem Row.cellsAt {g n : Nat} (h : Row W K (.slice (some ⟨g, 0, none⟩) n c) xs) {i : Nat} (hi : i < xs.length) : W.cell? ⟨g, i * 2, none⟩ = some (.int .i64 xs[i].1) ∧ W.cell? ⟨g, i * 2 + 1, none⟩ = some (.int .i64 xs[i].2) := by
  have h0 := h.cells (g := g) rfl (i * 2) (.int .i64 xs[i].1) (by have := flat_at xs i 0 hi (by omega); rw [Nat.add_zero] at this; rw [this]; rfl)
  have h1 := h.cells (g := g) rfl (i * 2 + 1) (.int .i64 xs[i].2) (by rw [flat_at xs i 1 hi (by omega)]; rfl)
  rw [add_at] at h0 h1
  exact ⟨h0, h1⟩
set_option maxHeartbeats 8000000 in
theorem compact_any (hr : Row W K v xs) (hl : xs.length ≤ 1000000) (hs : Od.Srt lessE xs) : Calls Tryz.prog 42 #[v] W (Drops W K v (Od.can lessE xs)) := by
  by_cases h2 : xs.length < 2
  · rw [Od.can_short xs h2]
    obtain ⟨A, c, rfl, -⟩ := hr.ls
    have HR := Lib.hid hr
    generalize xs.length = n at *
    have h2' : ((n : Int) < 2) := by omega
    clear hr h2
    go_enter Tryz.func42, Tryz.ntmps42
    go_wp2
    go_ret
    exact ⟨_, rfl, HR.out, OnlyS.refl _ _⟩
  · obtain ⟨A, c, rfl, -⟩ := hr.ls
    have hg : ∃ g, A = some ⟨g, 0, none⟩ := by
      rcases hr.2 with ⟨h0, h1⟩ | ⟨g, cap, cur, e, _⟩
      · omega
      · cases e; exact ⟨g, rfl⟩
    obtain ⟨g, rfl⟩ := hg
    obtain ⟨cur, hblk, hnc, hcm⟩ := hr.blk
    have HG := Lib.hid (Array.getElem?_eq_some_iff.1 hblk).1
    have HR := Lib.hid hr
    have HS := Lib.hid hs
    obtain ⟨n, hn⟩ : ∃ n, xs.length = n := ⟨_, rfl⟩
    have HN := Lib.hid hn
    have hcm2 : c ≤ 9223372036854775807 := by unfold maxLen at hcm; omega
    rw [hn] at hnc hl h2 ⊢
    rw [hn] at HR
    have h2' : ¬ ((n : Int) < 2) := by omega
    clear hr hs hblk hcm hn
    go_enter Tryz.func42, Tryz.ntmps42
    go_wp2
    go_loopw [3] (fun s wr => ∃ k q : Nat, 1 ≤ k ∧ k ≤ n ∧ s = .int .i64 k ∧ wr = W.drewN q ∧ Od.can lessE (xs.take k) = xs.take k) (fun s _ => n - (intOf s).toNat)
    case atStart =>
      refine ⟨1, 0, Nat.le_refl _, by omega, rfl, rfl, ?_⟩
      exact Od.can_short _ (by rw [List.length_take]; omega)
    case round =>
      obtain ⟨k, q, hk1, hk, rfl, rfl, hall⟩ := hrel
      have HA := Lib.hid hall
      clear hall
      by_cases hlt : k < n
      · have hkl : k < xs.length := by rw [HN.out]; exact hlt
        obtain ⟨a0, a1⟩ := (HR.out.drewN q).cellsAt hkl
        obtain ⟨b0, b1⟩ := (HR.out.drewN q).cellsAt (i := k - 1) (by omega)
        obtain ⟨x, hx⟩ : ∃ x, xs[k] = x := ⟨_, rfl⟩
        obtain ⟨y, hy⟩ : ∃ y, xs[k - 1]'(by omega) = y := ⟨_, rfl⟩
        have HX := Lib.hid (show ∃ h : k < xs.length, xs[k] = x from ⟨hkl, hx⟩)
        have HY := Lib.hid (show ∃ h : k - 1 < xs.length, xs[k - 1] = y from ⟨by omega, hy⟩)
        rw [hx] at a0 a1
        rw [hy] at b0 b1
        obtain ⟨x1, x2⟩ := x
        obtain ⟨y1, y2⟩ := y
        simp only at a0 a1 b0 b1
        clear hx hy hkl
        generalize hXw : W.drewN q = X at a0 a1 b0 b1 ⊢
        have HXw := Lib.hid hXw
        clear hXw
        by_cases hdup : ((x1, x2) : Ed) = (y1, y2)
        · have heq := eqE_iff.2 hdup
          have HD := Lib.hid hdup
          clear hdup
          go_wp2
          go_quiet (fail)
          have HE := Lib.hid (show X.drewN nq = W.drewN (q + nq) by rw [← HXw.out]; simp [World.drewN]; omega)
          generalize X.drewN nq = Y at HE ⊢
          clear a0 a1 b0 b1
          go_wp2
          have HRY := Lib.hid (show Row Y K (.slice (some ⟨g, 0, none⟩) n c) xs by rw [HE.out]; exact HR.out.drewN _)
          have HOY := Lib.hid (show OnlyS (· = g) W Y by rw [HE.out]; exact (OnlyS.refl _ _).drewN _)
          have HM0 := Lib.hid (show Od.Cmid lessE xs xs k (k + 1) by
            obtain ⟨h1, e1⟩ := HX.out
            obtain ⟨h3, e3⟩ := HY.out
            exact Od.Cmid.start ordE h1 (by omega) HA.out (by rw [e1, e3, HD.out]))
          clear HXw HE
          go_loopw [3, 5] (fun s t wr => ∃ (a b : Nat) (zs : List Ed), s = .int .i64 a ∧ t = .int .i64 b ∧ 1 ≤ b ∧ Od.Cmid lessE xs zs a (k + b) ∧ Row wr K (.slice (some ⟨g, 0, none⟩) n c) zs ∧ OnlyS (· = g) W wr) (fun _ t _ => n - (intOf t).toNat)
          case atStart => exact ⟨k, 1, xs, rfl, rfl, Nat.le_refl _, HM0.out, HRY.out, HOY.out⟩
          case round =>
            obtain ⟨a, b, zs, rfl, rfl, hb1, hmid, hrow, hon⟩ := hrel
            have hab := hmid.km
            have hbn : k + b ≤ n := by rw [← HN.out]; exact hmid.mn
            have HMd := Lib.hid hmid
            have HRw := Lib.hid hrow
            have HOn := Lib.hid hon
            have hzn : zs.length = n := by rw [hmid.len, HN.out]
            have HZN := Lib.hid hzn
            clear hmid hrow hon HM0 HRY HOY hzn
            by_cases hlt2 : k + b < n
            · have hml : k + b < xs.length := by rw [HN.out]; exact hlt2
              obtain ⟨hz1, e1⟩ := HMd.out.at (by omega) hml
              obtain ⟨hz2, e2⟩ := HMd.out.at (j := k + b - 1) (by omega) (by omega)
              obtain ⟨c0, c1⟩ := HRw.out.cellsAt hz1
              obtain ⟨d0, d1⟩ := HRw.out.cellsAt hz2
              rw [e1] at c0 c1
              rw [e2] at d0 d1
              obtain ⟨u, hu⟩ : ∃ u, xs[k + b] = u := ⟨_, rfl⟩
              obtain ⟨z, hz⟩ : ∃ z, xs[k + b - 1]'(by omega) = z := ⟨_, rfl⟩
              have HU := Lib.hid (show ∃ h : k + b < xs.length, xs[k + b] = u from ⟨hml, hu⟩)
              have HZ := Lib.hid (show ∃ h : k + b - 1 < xs.length, xs[k + b - 1] = z from ⟨by omega, hz⟩)
              rw [hu] at c0 c1
              rw [hz] at d0 d1
              obtain ⟨u1, u2⟩ := u
              obtain ⟨z1, z2⟩ := z
              simp only at c0 c1 d0 d1
              rw [show (k + b) * 2 = k * 2 + b * 2 by omega] at c0 c1
              rw [show (k + b - 1) * 2 = k * 2 + (b - 1) * 2 by omega] at d0 d1
              have hzk : k * 2 + b * 2 < zs.length * 2 := by omega
              clear hu hz hz1 hz2 e1 e2 hml
              by_cases hd2 : ((u1, u2) : Ed) = (z1, z2)
              · have heq2 := eqE_iff.2 hd2
                have HD2 := Lib.hid hd2
                clear hd2
                go_wp2
                go_quiet (fail)
                have HRn := Lib.hid (HRw.out.drewN nq)
                have HOn2 := Lib.hid (HOn.out.drewN nq)
                generalize wr.drewN nq = Y2 at HRn HOn2 ⊢
                clear c0 c1 d0 d1
                go_wp2
                go_roundw
                case rel =>
                  refine ⟨a, b + 1, zs, rfl, by go_num, by omega, ?_, HRn.out, HOn2.out⟩
                  obtain ⟨h1, e1⟩ := HU.out
                  obtain ⟨h3, e3⟩ := HZ.out
                  exact HMd.out.skip ordE h1 (by rw [e1, e3, HD2.out])
                case measure => simp [intOf]; omega
              · have heq2 := eqE_ne hd2
                have HD2 := Lib.hid hd2
                clear hd2
                go_wp2
                go_quiet (fail)
                have HRn := Lib.hid (HRw.out.drewN nq)
                have HOn2 := Lib.hid (HOn.out.drewN nq)
                have c0' := (show (wr.drewN nq).cell? ⟨g, k * 2 + b * 2, none⟩ = some (.int .i64 u1) from c0)
                have c1' := (show (wr.drewN nq).cell? ⟨g, k * 2 + b * 2 + 1, none⟩ = some (.int .i64 u2) from c1)
                generalize wr.drewN nq = Y2 at HRn HOn2 c0' c1' ⊢
                clear c0 c1 d0 d1
                have haz : a < zs.length := by rw [HZN.out]; omega
                have s0 := HRn.out.there (k := a * 2) (by omega)
                have s1 := HRn.out.there (k := a * 2 + 1) (by omega)
                obtain ⟨y0, t0⟩ := Option.isSome_iff_exists.1 s0
                obtain ⟨y1', t1⟩ := Option.isSome_iff_exists.1 s1
                have f0 : Y2.frozen? ⟨g, a * 2, none⟩ = false := HRn.out.free
                have f1 : Y2.frozen? ⟨g, a * 2 + 1, none⟩ = false := HRn.out.free
                have HPut := Lib.hid (HRn.out.put (u1, u2) haz)
                have han : a < n := by omega
                clear s0 s1 haz
                go_wp2
                go_roundw
                case rel =>
                  refine ⟨a + 1, b + 1, zs.set a (u1, u2), by go_num, by go_num, by omega, ?_, HPut.out, (HOn2.out.trans (OnlyS.set _ _ _ _)).trans (OnlyS.set _ _ _ _)⟩
                  obtain ⟨h1, e1⟩ := HU.out
                  obtain ⟨h3, e3⟩ := HZ.out
                  have := HMd.out.keep ordE HS.out h1 (by rw [e1, e3]; exact HD2.out)
                  rw [e1] at this
                  exact this
                case measure => simp [intOf]; omega
            · obtain rfl : n = k + b := by omega
              have hzl : zs.length = k + b := HZN.out
              have hclr := fun ty => run_clear_w wr ty g (a * 2) (k + b - a) (c - a) (by omega) (fun j hj => HRw.out.there (by omega)) (fun j _ => HRw.out.free)
              clear hzl
              go_wp2
              go_ret
              have hset : ∀ cur, wr.heap[g]? = some (.cells cur 47 (0, 0)) → ∃ cur', (wr.setCells g (a * 2) (zz (k + b - a))).heap[g]? = some (.cells cur' 47 (0, 0)) ∧ cur'.size = cur.size ∧ ∀ j, j < a * 2 → cur'[j]? = cur[j]? := fun cur hcur => by
                obtain ⟨cur', q1, q2, q3, _⟩ := sets_blk (zz (k + b - a)) wr (a * 2) cur hcur
                exact ⟨cur', q1, q2, q3⟩
              refine ⟨_, rfl, ?_, ?_⟩
              · have hmd := HMd.out
                rw [← HN.out] at hmd
                have hz := hmd.done
                rw [← hz]
                have := HRw.out.cut (i := a) (by rw [HZN.out]; omega) hset
                exact this
              · obtain ⟨cur, hb, -⟩ := HRw.out.blk
                obtain ⟨_, _, _, _, q4⟩ := sets_blk (zz (k + b - a)) wr (a * 2) cur hb
                exact (HOn.out.trans q4).mono (fun k _ hk => by rw [hk]; rfl)
        · have heq := eqE_ne hdup
          have HD := Lib.hid hdup
          clear hdup
          go_wp2
          go_quiet (fail)
          have HE := Lib.hid (show X.drewN nq = W.drewN (q + nq) by rw [← HXw.out]; simp [World.drewN]; omega)
          generalize X.drewN nq = Y at HE ⊢
          clear a0 a1 b0 b1
          go_wp2
          go_roundw
          case rel =>
            refine ⟨k + 1, q + nq, by omega, by omega, by go_num, HE.out, ?_⟩
            obtain ⟨h1, e1⟩ := HX.out
            obtain ⟨h3, e3⟩ := HY.out
            exact Od.can_grow ordE HS.out h1 (by omega) (by rw [e1, e3]; exact HD.out) HA.out
          case measure => simp [intOf]; omega
      · obtain rfl : k = n := by omega
        have HE := Lib.hid (show Od.can lessE xs = xs by
          have := HA.out
          rwa [List.take_of_length_le (by rw [HN.out]; exact Nat.le_refl _)] at this)
        go_wp2
        go_ret
        exact ⟨_, rfl, by rw [HE.out]; exact HR.out.drewN q, (OnlyS.refl _ _).drewN q⟩
end
end Go.Proofs.YtjhkejkdnjogiaaGreatDoor.Es
