/- Edges put in order one by one, each once: the document's answer. -/
import Derived.Test.YtjhkejkdnjogiaaGreatDoorGe
import Derived.ArgAppend
namespace Go.Proofs.YtjhkejkdnjogiaaGreatDoor.Es
open Go Go.RowKit Go.Shelf
set_option maxRecDepth 100000

section
variable {W Y : World} {g c k : Nat} {A : Option Addr} {xs ys : List Ed}
theorem Ls.tl0 (h : Ls W (some ⟨g, 0, none⟩) c xs) (hk : k ≤ xs.length) : Ls W (some ⟨g, k * 2, none⟩) (c - k) (xs.drop k) := by
  rcases Nat.eq_zero_or_pos k with rfl | h0
  · simpa using h
  · have := h.tail h0 hk
    simpa using this
/-- what is put behind a list that has no room -/
theorem Ls.grow (h : Ls W (some ⟨g, 0, none⟩) c xs) (hk : k ≤ xs.length) {c2 m q : Nat} (hs : Ls W A c2 ys) (hm : ys.length = m) (h0 : 0 < m) (hq : k + m = q) (hl : q ≤ 1000000) (ty : TypeId) :
    ∃ A' c' w', (Builtin.append_ #[35, 35] ty #[.slice (some ⟨g, 0, none⟩) k k, .slice A m c2]).run Tryz.prog W = .ok (.slice A' q c') w' ∧ Row w' W.heap.size (.slice A' q c') (xs.take k ++ ys) ∧ Below W.heap.size W w' := by
  subst hm
  subst hq
  obtain ⟨i0, hi, hz0, hz1, hz2⟩ := info_parts infoE
  have hh := h.head k
  have hlen : (xs.take k).length = k := by rw [List.length_take]; omega
  cases A with
  | none => rw [hs.empty] at h0; simp at h0
  | some a =>
    obtain ⟨v', w', hr, hown, hg⟩ := run_append_arg_grows (P := Tryz.prog) W 35 ty 47 i0 _ 2 16 Tryz.underlying35 hi hz0 hz1 hz2 rfl (by decide) ⟨g, 0, none⟩ k k (flat (xs.take k)) (by rw [flat_length, hlen])
      (hh.at' _ rfl) a ys.length c2 (flat ys) (flat_length ys) (hs.at' a rfl) (by omega) (by unfold maxLen; omega) (by omega)
    rw [← flat_append] at hown
    have hl2 : (xs.take k ++ ys).length = k + ys.length := by rw [List.length_append, hlen]
    have hrow : Row w' W.heap.size v' (xs.take k ++ ys) := by unfold Row; rw [hl2]; exact hown
    obtain ⟨A', c', rfl, -⟩ := hrow.ls
    rw [hl2] at hr hrow
    exact ⟨A', c', w', hr, hrow, ⟨hg.os, hg.tape, hg.output, hg.size, fun j hj => hg.block j hj (by simp)⟩⟩
theorem lit_row (W : World) (e : Ed) : Row (W.alloc (.cells #[.int .i64 e.1, .int .i64 e.2] 47)) W.heap.size (.slice (some ⟨W.heap.size, 0, none⟩) 1 1) [e] :=
  ⟨rfl, .inr ⟨W.heap.size, 1, _, rfl, Nat.le_refl _, heap_alloc_new W _, Nat.le_refl _, by decide, rfl, rfl⟩⟩
/-- what an edge that is put in comes to -/
structure Puts (Y : World) (n : Nat) (zs : List Ed) (A6 : Option Addr) (c6 : Nat) (w6 : World) : Prop where
  row : Row w6 Y.heap.size (.slice A6 n c6) zs
  bel : Below Y.heap.size Y w6
theorem put_some (h : Ls Y (some ⟨g, 0, none⟩) c xs) (hk : k ≤ xs.length) {n : Nat} (hn : xs.length = n) (hl : n ≤ 900000) (e : Ed) (sa : Addr) (hsa : sa = if c = k then ⟨g, 0, none⟩ else ⟨g, k * 2, none⟩) :
    ∃ A5 c5 w5 A6 c6 w6, (Builtin.append_ #[35, 35] 35 #[.slice (some ⟨Y.heap.size, 0, none⟩) 1 1, .slice (some sa) (n - k) (c - k)]).run Tryz.prog (Y.alloc (.cells #[.int .i64 e.1, .int .i64 e.2] 47)) = .ok (.slice A5 (1 + (n - k)) c5) w5 ∧
      (Builtin.append_ #[35, 35] 35 #[.slice (some ⟨g, 0, none⟩) k k, .slice A5 (1 + (n - k)) c5]).run Tryz.prog w5 = .ok (.slice A6 (n + 1) c6) w6 ∧ Puts Y (n + 1) (xs.take k ++ e :: xs.drop k) A6 c6 w6 := by
  subst hn
  have hx := box_below Y (.cells #[.int .i64 e.1, .int .i64 e.2] 47)
  have hcap := h.cap
  have ht : Ls Y (some sa) (c - k) (xs.drop k) := by
    subst hsa
    split
    · rename_i hck
      have : xs.drop k = [] := by rw [List.drop_eq_nil_iff]; omega
      rw [this]
      exact Ls.none_left _ (Nat.le_trans (Nat.sub_le _ _) h.room)
    · exact h.tl0 hk
  have hd : (xs.drop k).length = xs.length - k := List.length_drop
  obtain ⟨v5, w5, hr5, hrow5, hg5, -⟩ := (lit_row Y e).app (ht.below hx) (by rw [hd]; simp; omega) hx.size 35
  have hb5 := (lit_row Y e).app_below hg5 hx.size
  obtain ⟨A5, c5, rfl, hls5⟩ := hrow5.ls
  have hl5 : ([e] ++ xs.drop k).length = 1 + (xs.length - k) := by rw [List.length_append, hd]; rfl
  have hb05 := hx.trans hb5
  obtain ⟨A6, c6, w6, hr6, hrow6, hb6⟩ := (h.below hb05).grow hk hls5 hl5 (by omega) (q := xs.length + 1) (by omega) (by omega) 35
  rw [hd, hl5] at hr5
  exact ⟨A5, c5, w5, A6, c6, w6, hr5, hr6, row_base hrow6 hb05.size, hb05.trans (hb6.mono hb05.size)⟩
theorem put_none (Y : World) (e : Ed) : ∃ A6 c6 w6, (Builtin.append_ #[35, 35] 35 #[.slice (some ⟨Y.heap.size, 0, none⟩) 1 1, .slice none 0 0]).run Tryz.prog (Y.alloc (.cells #[.int .i64 e.1, .int .i64 e.2] 47)) = .ok (.slice (some ⟨Y.heap.size, 0, none⟩) 1 1) (Y.alloc (.cells #[.int .i64 e.1, .int .i64 e.2] 47)) ∧
      (Builtin.append_ #[35, 35] 35 #[.slice none 0 0, .slice (some ⟨Y.heap.size, 0, none⟩) 1 1]).run Tryz.prog (Y.alloc (.cells #[.int .i64 e.1, .int .i64 e.2] 47)) = .ok (.slice A6 1 c6) w6 ∧ Puts Y 1 [e] A6 c6 w6 := by
  obtain ⟨i0, hi, hz0, hz1, hz2⟩ := info_parts infoE
  have hx := box_below Y (.cells #[.int .i64 e.1, .int .i64 e.2] 47)
  have h5 := run_append_nothing (P := Tryz.prog) (Y.alloc (.cells #[.int .i64 e.1, .int .i64 e.2] 47)) 35 35 35 47 i0 Tryz.underlying35 hi (some ⟨Y.heap.size, 0, none⟩) 1 1 (Nat.le_refl _) (.slice none 0 0) (by rw [hz1]; exact (Ls.nils _).src)
  obtain ⟨v6, w6, hr6, hrow6, hg6, -⟩ := (show Row (Y.alloc (.cells #[.int .i64 e.1, .int .i64 e.2] 47)) Y.heap.size (.slice none 0 0) [] from World.ownsRow_nil _ _ _ _).app (box_ls Y e) (by simp) hx.size 35
  have hb6 := (show Row (Y.alloc (.cells #[.int .i64 e.1, .int .i64 e.2] 47)) Y.heap.size (.slice none 0 0) [] from World.ownsRow_nil _ _ _ _).app_below hg6 hx.size
  obtain ⟨A6, c6, rfl, -⟩ := hrow6.ls
  exact ⟨A6, c6, w6, h5, hr6, hrow6, hx.trans hb6⟩
end
/-- the box of an edge -/
structure Bx (X : World) (B : Nat) (x : Ed) : Prop where
  c0 : X.cell? ⟨B, 0, none⟩ = some (.int .i64 x.1)
  c1 : X.cell? ⟨B, 1, none⟩ = some (.int .i64 x.2)
theorem can_put {xs : List Ed} {j k : Nat} {x : Ed} {out : List Ed} (hj : j < xs.length) (hx : xs[j] = x) (ho : Od.can lessE (xs.take j) = out) (hk : k ≤ out.length) (hl : ∀ i (_ : i < k) (h : i < out.length), lessE out[i] x = true) (hn : ∀ h : k < out.length, lessE out[k] x = false ∧ out[k] ≠ x) :
    Od.can lessE (xs.take (j + 1)) = out.take k ++ x :: out.drop k := by
  rw [Od.take_last xs hj, Od.can_snoc, ho, hx]
  exact Od.ins_new hk hl hn
theorem can_stays {xs : List Ed} {j k : Nat} {x : Ed} {out : List Ed} (hj : j < xs.length) (hx : xs[j] = x) (ho : Od.can lessE (xs.take j) = out) (hl : ∀ i (_ : i < k) (h : i < out.length), lessE out[i] x = true) (hk : k < out.length) (he : out[k] = x) :
    Od.can lessE (xs.take (j + 1)) = out := by
  rw [Od.take_last xs hj, Od.can_snoc, ho, hx]
  exact Od.ins_at ordE hl hk he

section
variable {W : World} {A : Option Addr} {c : Nat} {xs : List Ed}
set_option maxHeartbeats 32000000 in
theorem rsort_any (hr : Ls W A c xs) (hl : xs.length ≤ 300000) : Calls Tryz.prog 17 #[.slice A xs.length c] W (Rows W (Od.can lessE xs)) := by
  have HR := Lib.hid hr
  obtain ⟨n, hn⟩ : ∃ n, xs.length = n := ⟨_, rfl⟩
  rw [hn] at hl ⊢
  have HN := Lib.hid hn
  clear hr hn
  go_enter Tryz.func17, Tryz.ntmps17
  go_wp2_with fail
  go_loopw [9, 3] (fun t v wr => ∃ j : Nat, j ≤ n ∧ t = .int .i64 j ∧ Kp W (Od.can lessE (xs.take j)) v wr) (fun t _ _ => n - (intOf t).toNat)
  case atStart => exact ⟨0, by omega, rfl, Kp.nil W⟩
  case round =>
    obtain ⟨j, hj, rfl, hk⟩ := hrel
    by_cases hjn : j < n
    · have hjl : j < xs.length := by rw [HN.out]; exact hjn
      obtain ⟨a, rfl, hh⟩ := (HR.out.below hk.bel).here hjl
      obtain ⟨d0, d1⟩ := hh
      obtain ⟨x, hx⟩ : ∃ x, xs[j] = x := ⟨_, rfl⟩
      obtain ⟨out, ho⟩ : ∃ out, Od.can lessE (xs.take j) = out := ⟨_, rfl⟩
      have HCp := Lib.hid (fun (k : Nat) => can_put (k := k) hjl hx ho)
      have HCs := Lib.hid (fun (k : Nat) => can_stays (k := k) hjl hx ho)
      have hol : out.length ≤ n := by
        rw [← ho]
        refine Nat.le_trans (Od.can_len _) ?_
        rw [List.length_take]
        omega
      rw [hx] at d0 d1
      rw [ho] at hk
      have hb1 := box_below wr (.cells #[.int .i64 x.1, .int .i64 x.2] 47)
      have K1 := Lib.hid (hk.below hb1)
      obtain ⟨ad, had, f0, f1⟩ := (box_ls wr x).here (i := 0) (by simp)
      cases had
      simp only [List.getElem_cons_zero, Nat.zero_mul, add_at, Nat.zero_add] at f0 f1
      have HBx := Lib.hid (show Bx (wr.alloc (.cells #[.int .i64 x.1, .int .i64 x.2] 47)) wr.heap.size x from ⟨f0, f1⟩)
      have HRw := Lib.hid hk.row
      obtain ⟨m, hm⟩ : ∃ m, out.length = m := ⟨_, rfl⟩
      have HM := Lib.hid hm
      rw [hm] at hol
      obtain ⟨A0, c0', hv, hls⟩ := K1.out.row.ls
      have HL0 := Lib.hid hls
      have hcap := hls.cap
      have hroom := hls.room
      unfold maxLen at hroom
      rw [hm] at hv hcap
      subst hv
      have hA0 : A0 = none ∨ ∃ g, A0 = some ⟨g, 0, none⟩ := by
        rcases HRw.out.2 with ⟨h0, _⟩ | ⟨g, cap, cur, e, _⟩
        · cases h0; exact .inl rfl
        · cases e; exact .inr ⟨g, rfl⟩
      have hA1 : A0 = none → c0' = 0 ∧ m = 0 := fun e => by
        have h1 := hls.nil e
        omega
      have HA0 := Lib.hid (And.intro hA0 hA1)
      obtain ⟨x1, x2⟩ := x
      simp only at d0 d1 K1 HBx
      clear hx ho hk hjl hb1 f0 f1 hm hls hA0 hA1
      go_wp2_with fail
      generalize wr.heap.size = Bb at HBx ⊢
      generalize wr.alloc (.cells #[.int .i64 x1, .int .i64 x2] 47) = X at *
      clear HRw
      go_loopw [6] (fun s wk => ∃ k q : Nat, k ≤ m ∧ s = .int .i64 k ∧ wk = X.drewN q ∧ ∀ i (_ : i < k) (h : i < out.length), lessE out[i] (x1, x2) = true) (fun s _ => m - (intOf s).toNat)
      case atStart => exact ⟨0, 0, Nat.zero_le _, rfl, rfl, fun i hi => by omega⟩
      case round =>
        obtain ⟨k, q, hkm, rfl, rfl, hall⟩ := hrel
        have HAll := Lib.hid hall
        clear hall d0 d1
        obtain ⟨b0, b1⟩ := HBx.out
        have b0' : (X.drewN q).cell? ⟨Bb, 0, none⟩ = some (.int .i64 x1) := b0
        have b1' : (X.drewN q).cell? ⟨Bb, 1, none⟩ = some (.int .i64 x2) := b1
        by_cases hlt : k < m
        · have hko : k < out.length := by rw [HM.out]; exact hlt
          obtain ⟨ao, hao, o0, o1⟩ := (HL0.out.drewN q).here hko
          rcases HA0.out.1 with rfl | ⟨g, rfl⟩
          · cases hao
          cases hao
          obtain ⟨y, hy⟩ : ∃ y, out[k] = y := ⟨_, rfl⟩
          have HY := Lib.hid (show ∃ h : k < out.length, out[k] = y from ⟨hko, hy⟩)
          rw [hy] at o0 o1
          obtain ⟨y1, y2⟩ := y
          simp only [add_at] at o0 o1
          clear hy hko b0 b1
          generalize hXq : X.drewN q = Xq at *
          have HXq := Lib.hid hXq
          clear hXq
          by_cases h1 : y1 < x1
          · have HLs := Lib.hid (show lessE (y1, y2) (x1, x2) = true from lessE_iff.2 (.inl h1))
            go_wp2_with fail
            go_quiet (fail)
            have HYw := Lib.hid (show Xq.drewN nq = X.drewN (q + nq) by rw [← HXq.out]; simp [World.drewN]; omega)
            generalize Xq.drewN nq = Yw at HYw ⊢
            generalize q + nq = q2 at HYw
            clear o0 o1 b0' b1'
            go_wp2_with fail
            go_roundw
            case rel =>
              refine ⟨k + 1, q2, by omega, by go_num, HYw.out, fun i hi h => ?_⟩
              rcases Nat.lt_or_ge i k with h' | h'
              · exact HAll.out i h' h
              · obtain rfl : i = k := by omega
                obtain ⟨_, e⟩ := HY.out
                rw [e]
                exact HLs.out
            case measure => simp [intOf]; omega
          · by_cases h2 : y1 = x1
            · by_cases h3 : y2 < x2
              · have HLs := Lib.hid (show lessE (y1, y2) (x1, x2) = true from lessE_iff.2 (.inr ⟨h2, h3⟩))
                subst h2
                go_wp2_with fail
                go_quiet (fail)
                have HYw := Lib.hid (show Xq.drewN nq = X.drewN (q + nq) by rw [← HXq.out]; simp [World.drewN]; omega)
                generalize Xq.drewN nq = Yw at HYw ⊢
                generalize q + nq = q2 at HYw
                clear o0 o1 b0' b1'
                go_wp2_with fail
                go_roundw
                case rel =>
                  refine ⟨k + 1, q2, by omega, by go_num, HYw.out, fun i hi h => ?_⟩
                  rcases Nat.lt_or_ge i k with h' | h'
                  · exact HAll.out i h' h
                  · obtain rfl : i = k := by omega
                    obtain ⟨_, e⟩ := HY.out
                    rw [e]
                    exact HLs.out
                case measure => simp [intOf]; omega
              · subst h2
                have HLs := Lib.hid (show lessE (y1, y2) (y1, x2) = false from lessE_not.2 (by simp only; omega))
                go_wp2_with fail
                go_quiet (fail)
                have HYw := Lib.hid (show Xq.drewN nq = X.drewN (q + nq) by rw [← HXq.out]; simp [World.drewN]; omega)
                generalize Xq.drewN nq = Yw at HYw ⊢
                generalize q + nq = q2 at HYw
                have b0y : Yw.cell? ⟨Bb, 0, none⟩ = some (.int .i64 y1) := by rw [HYw.out]; exact HBx.out.c0
                have b1y : Yw.cell? ⟨Bb, 1, none⟩ = some (.int .i64 x2) := by rw [HYw.out]; exact HBx.out.c1
                have p0 : Yw.cell? ⟨g, k * 2, none⟩ = some (.int .i64 y1) := by rw [HYw.out]; rw [← HXq.out] at o0; exact o0
                have p1 : Yw.cell? ⟨g, k * 2 + 1, none⟩ = some (.int .i64 y2) := by rw [HYw.out]; rw [← HXq.out] at o1; exact o1
                clear o0 o1 b0' b1'
                by_cases h4 : y2 = x2
                · subst h4
                  have he := eqE_self (y1, y2)
                  have HCan := Lib.hid (HCs.out k HAll.out HY.out.1 HY.out.2)
                  go_wp2_with fail
                  go_quiet (fail)
                  have HKz := Lib.hid (K1.out.below (show Below X.heap.size X (Yw.drewN nq) by rw [HYw.out]; exact (drew_below X q2).trans ((drew_below (X.drewN q2) nq).mono (Nat.le_refl _))))
                  clear p0 p1 b0y b1y
                  go_wp2_with fail
                  go_roundw
                  case rel => exact ⟨j + 1, by omega, by go_num, by rw [HCan.out]; exact HKz.out⟩
                  case measure => simp [intOf]; omega
                · have he := eqE_ne (show ((y1, y2) : Ed) ≠ (y1, x2) from fun e => h4 (by cases e; rfl))
                  have HCan := Lib.hid (HCp.out k (Nat.le_of_lt HY.out.1) HAll.out (fun h => by rw [HY.out.2]; exact ⟨HLs.out, fun e => by rw [e, eqE_self] at he; cases he⟩))
                  go_wp2_with fail
                  go_quiet (fail)
                  have HYz := Lib.hid (show Yw.drewN nq = X.drewN (q2 + nq) by rw [HYw.out]; simp [World.drewN]; omega)
                  generalize Yw.drewN nq = Yv at HYz ⊢
                  clear p0 p1 b0y b1y HYw
                  generalize q2 + nq = q3 at HYz
                  have bz0 : Yv.cell? ⟨Bb, 0, none⟩ = some (.int .i64 y1) := by rw [HYz.out]; exact HBx.out.c0
                  have bz1 : Yv.cell? ⟨Bb, 1, none⟩ = some (.int .i64 x2) := by rw [HYz.out]; exact HBx.out.c1
                  have HLy := Lib.hid (show Ls Yv (some ⟨g, 0, none⟩) c0' out by rw [HYz.out]; exact HL0.out.drewN q3)
                  have HYb := Lib.hid (show Below W.heap.size W Yv.drew by rw [HYz.out]; exact K1.out.bel.trans (((drew_below X q3).drew).mono K1.out.bel.size))
                  have hck : ¬ c0' = k := by omega
                  have q7 : (k : Int) ≤ (m : Int) := by omega
                  have q8 : (k : Int) ≤ (c0' : Int) := by omega
                  have q6 : k ≤ c0' := by omega
                  obtain ⟨A5, c5, w5, A6, c6, w6, hr5, hr6, hp⟩ := put_some (HLy.out.drewN 1) (by rw [HM.out]; omega) HM.out (by omega) (y1, x2) ⟨g, k * 2, none⟩ (by rw [if_neg (by omega)])
                  have HR5 := Lib.hid hr5
                  have HR6 := Lib.hid hr6
                  have HPt := Lib.hid hp
                  clear hr5 hr6 hp
                  go_wp2_with fail
                  go_region_law (first
                    | (refine step_append ?h1 (.tmp 66) (.tmp 69) 35 ?h2 (.slice (some ⟨Yv.heap.size, 0, none⟩) 1 1) (.slice (some ⟨g, k * 2, none⟩) (m - k) (c0' - k)) ?h3 ?h4 _ _ HR5.out ?_; rotate_right; (case h1 => rfl); (case h2 => rfl); (case h3 => kernel_rfl); (case h4 => kernel_rfl))
                    | (refine step_append ?h1 (.tmp 64) (.tmp 70) 35 ?h2 (.slice (some ⟨g, 0, none⟩) k k) (.slice A5 (1 + (m - k)) c5) ?h3 ?h4 _ _ HR6.out ?_; rotate_right; (case h1 => rfl); (case h2 => rfl); (case h3 => kernel_rfl); (case h4 => kernel_rfl)))
                  all_goals
                    go_wp2_with fail
                    go_roundw
                    case rel => exact ⟨j + 1, by omega, by go_num, by rw [HCan.out]; exact ⟨row_base HPt.out.row HYb.out.size, HYb.out.trans ((HPt.out.bel).mono HYb.out.size)⟩⟩
                    case measure => simp [intOf]; omega
            · have HLs := Lib.hid (show lessE (y1, y2) (x1, x2) = false from lessE_not.2 (by simp only; omega))
              have he := eqE_ne (show ((y1, y2) : Ed) ≠ (x1, x2) from fun e => h2 (by cases e; rfl))
              have h2' : (y1 == x1) = false := by simpa using h2
              have h1d : decide (y1 < x1) = false := by simpa using h1
              clear h1 h2
              go_wp2_with fail
              go_quiet (fail)
              have HYw := Lib.hid (show Xq.drewN nq = X.drewN (q + nq) by rw [← HXq.out]; simp [World.drewN]; omega)
              generalize Xq.drewN nq = Yw at HYw ⊢
              generalize q + nq = q2 at HYw
              have b0y : Yw.cell? ⟨Bb, 0, none⟩ = some (.int .i64 x1) := by rw [HYw.out]; exact HBx.out.c0
              have b1y : Yw.cell? ⟨Bb, 1, none⟩ = some (.int .i64 x2) := by rw [HYw.out]; exact HBx.out.c1
              have p0 : Yw.cell? ⟨g, k * 2, none⟩ = some (.int .i64 y1) := by rw [HYw.out]; rw [← HXq.out] at o0; exact o0
              have p1 : Yw.cell? ⟨g, k * 2 + 1, none⟩ = some (.int .i64 y2) := by rw [HYw.out]; rw [← HXq.out] at o1; exact o1
              clear o0 o1 b0' b1'
              have HCan := Lib.hid (HCp.out k (Nat.le_of_lt HY.out.1) HAll.out (fun h => by rw [HY.out.2]; exact ⟨HLs.out, fun e => by rw [e, eqE_self] at he; cases he⟩))
              go_wp2_with fail
              go_quiet (fail)
              have HYz := Lib.hid (show Yw.drewN nq = X.drewN (q2 + nq) by rw [HYw.out]; simp [World.drewN]; omega)
              generalize Yw.drewN nq = Yv at HYz ⊢
              clear p0 p1 b0y b1y HYw
              generalize q2 + nq = q3 at HYz
              have bz0 : Yv.cell? ⟨Bb, 0, none⟩ = some (.int .i64 x1) := by rw [HYz.out]; exact HBx.out.c0
              have bz1 : Yv.cell? ⟨Bb, 1, none⟩ = some (.int .i64 x2) := by rw [HYz.out]; exact HBx.out.c1
              have HLy := Lib.hid (show Ls Yv (some ⟨g, 0, none⟩) c0' out by rw [HYz.out]; exact HL0.out.drewN q3)
              have HYb := Lib.hid (show Below W.heap.size W Yv.drew by rw [HYz.out]; exact K1.out.bel.trans (((drew_below X q3).drew).mono K1.out.bel.size))
              have hck : ¬ c0' = k := by omega
              have q7 : (k : Int) ≤ (m : Int) := by omega
              have q8 : (k : Int) ≤ (c0' : Int) := by omega
              have q6 : k ≤ c0' := by omega
              obtain ⟨A5, c5, w5, A6, c6, w6, hr5, hr6, hp⟩ := put_some (HLy.out.drewN 1) (by rw [HM.out]; omega) HM.out (by omega) (x1, x2) ⟨g, k * 2, none⟩ (by rw [if_neg (by omega)])
              have HR5 := Lib.hid hr5
              have HR6 := Lib.hid hr6
              have HPt := Lib.hid hp
              clear hr5 hr6 hp
              go_wp2_with fail
              go_region_law (first
                | (refine step_append ?h1 (.tmp 66) (.tmp 69) 35 ?h2 (.slice (some ⟨Yv.heap.size, 0, none⟩) 1 1) (.slice (some ⟨g, k * 2, none⟩) (m - k) (c0' - k)) ?h3 ?h4 _ _ HR5.out ?_; rotate_right; (case h1 => rfl); (case h2 => rfl); (case h3 => kernel_rfl); (case h4 => kernel_rfl))
                | (refine step_append ?h1 (.tmp 64) (.tmp 70) 35 ?h2 (.slice (some ⟨g, 0, none⟩) k k) (.slice A5 (1 + (m - k)) c5) ?h3 ?h4 _ _ HR6.out ?_; rotate_right; (case h1 => rfl); (case h2 => rfl); (case h3 => kernel_rfl); (case h4 => kernel_rfl)))
              all_goals
                go_wp2_with fail
                go_roundw
                case rel => exact ⟨j + 1, by omega, by go_num, by rw [HCan.out]; exact ⟨row_base HPt.out.row HYb.out.size, HYb.out.trans ((HPt.out.bel).mono HYb.out.size)⟩⟩
                case measure => simp [intOf]; omega
        · obtain rfl : k = m := by omega
          have HCan := Lib.hid (HCp.out k (by rw [HM.out]; exact Nat.le_refl _) HAll.out (fun h => by have := HM.out; omega))
          generalize hXq : X.drewN q = Xq at *
          have HXq := Lib.hid hXq
          clear hXq b0 b1
          go_wp2_with fail
          go_quiet (fail)
          have HYw := Lib.hid (show Xq.drewN nq = X.drewN (q + nq) by rw [← HXq.out]; simp [World.drewN]; omega)
          generalize Xq.drewN nq = Yw at HYw ⊢
          generalize q + nq = q2 at HYw
          clear b0' b1'
          go_wp2_with fail
          go_quiet (fail)
          have HYz := Lib.hid (show Yw.drewN nq = X.drewN (q2 + nq) by rw [HYw.out]; simp [World.drewN]; omega)
          generalize Yw.drewN nq = Yv at HYz ⊢
          clear HYw
          generalize q2 + nq = q3 at HYz
          have bz0 : Yv.cell? ⟨Bb, 0, none⟩ = some (.int .i64 x1) := by rw [HYz.out]; exact HBx.out.c0
          have bz1 : Yv.cell? ⟨Bb, 1, none⟩ = some (.int .i64 x2) := by rw [HYz.out]; exact HBx.out.c1
          have HYb := Lib.hid (show Below W.heap.size W Yv.drew by rw [HYz.out]; exact K1.out.bel.trans (((drew_below X q3).drew).mono K1.out.bel.size))
          rcases HA0.out.1 with rfl | ⟨g, rfl⟩
          · obtain ⟨rfl, rfl⟩ := HA0.out.2 rfl
            have hout : out = [] := List.length_eq_zero_iff.1 HM.out
            rw [hout] at HCan
            simp only [List.take_nil, List.drop_nil, List.nil_append] at HCan
            obtain ⟨A6, c6, w6, hr5, hr6, hp⟩ := put_none Yv.drew (x1, x2)
            have HR5 := Lib.hid hr5
            have HR6 := Lib.hid hr6
            have HPt := Lib.hid hp
            clear hr5 hr6 hp
            go_wp2_with fail
            go_region_law (first
              | (refine step_append ?h1 (.tmp 66) (.tmp 69) 35 ?h2 (.slice (some ⟨Yv.heap.size, 0, none⟩) 1 1) (.slice none 0 0) ?h3 ?h4 _ _ HR5.out ?_; rotate_right; (case h1 => rfl); (case h2 => rfl); (case h3 => kernel_rfl); (case h4 => kernel_rfl))
              | (refine step_append ?h1 (.tmp 64) (.tmp 70) 35 ?h2 (.slice none 0 0) (.slice (some ⟨Yv.heap.size, 0, none⟩) 1 1) ?h3 ?h4 _ _ HR6.out ?_; rotate_right; (case h1 => rfl); (case h2 => rfl); (case h3 => kernel_rfl); (case h4 => kernel_rfl)))
            all_goals
              go_wp2_with fail
              go_roundw
              case rel => exact ⟨j + 1, by omega, by go_num, by rw [HCan.out]; exact ⟨row_base HPt.out.row HYb.out.size, HYb.out.trans ((HPt.out.bel).mono HYb.out.size)⟩⟩
              case measure => simp [intOf]; omega
          · have HLy := Lib.hid (show Ls Yv (some ⟨g, 0, none⟩) c0' out by rw [HYz.out]; exact HL0.out.drewN q3)
            have q8 : (k : Int) ≤ (c0' : Int) := by omega
            have q6 : k ≤ c0' := by omega
            by_cases hck : c0' = k
            · subst hck
              obtain ⟨A5, c5, w5, A6, c6, w6, hr5, hr6, hp⟩ := put_some (HLy.out.drewN 1) (by rw [HM.out]; omega) HM.out (by omega) (x1, x2) ⟨g, 0, none⟩ (by rw [if_pos (by omega)])
              simp only [Nat.sub_self, Nat.add_zero] at hr5 hr6
              have HR5 := Lib.hid hr5
              have HR6 := Lib.hid hr6
              have HPt := Lib.hid hp
              clear hr5 hr6 hp
              go_wp2_with fail
              go_region_law (first
                | (refine step_append ?h1 (.tmp 66) (.tmp 69) 35 ?h2 (.slice (some ⟨Yv.heap.size, 0, none⟩) 1 1) (.slice (some ⟨g, 0, none⟩) 0 0) ?h3 ?h4 _ _ HR5.out ?_; rotate_right; (case h1 => rfl); (case h2 => rfl); (case h3 => kernel_rfl); (case h4 => kernel_rfl))
                | (refine step_append ?h1 (.tmp 64) (.tmp 70) 35 ?h2 (.slice (some ⟨g, 0, none⟩) c0' c0') (.slice A5 1 c5) ?h3 ?h4 _ _ HR6.out ?_; rotate_right; (case h1 => rfl); (case h2 => rfl); (case h3 => kernel_rfl); (case h4 => kernel_rfl)))
              all_goals
                go_wp2_with fail
                go_roundw
                case rel => exact ⟨j + 1, by omega, by go_num, by rw [HCan.out]; exact ⟨row_base HPt.out.row HYb.out.size, HYb.out.trans ((HPt.out.bel).mono HYb.out.size)⟩⟩
                case measure => simp [intOf]; omega
            · skip
              obtain ⟨A5, c5, w5, A6, c6, w6, hr5, hr6, hp⟩ := put_some (HLy.out.drewN 1) (by rw [HM.out]; omega) HM.out (by omega) (x1, x2) ⟨g, k * 2, none⟩ (by rw [if_neg (by omega)])
              simp only [Nat.sub_self, Nat.add_zero] at hr5 hr6
              have HR5 := Lib.hid hr5
              have HR6 := Lib.hid hr6
              have HPt := Lib.hid hp
              clear hr5 hr6 hp
              go_wp2_with fail
              go_region_law (first
                | (refine step_append ?h1 (.tmp 66) (.tmp 69) 35 ?h2 (.slice (some ⟨Yv.heap.size, 0, none⟩) 1 1) (.slice (some ⟨g, k * 2, none⟩) 0 (c0' - k)) ?h3 ?h4 _ _ HR5.out ?_; rotate_right; (case h1 => rfl); (case h2 => rfl); (case h3 => kernel_rfl); (case h4 => kernel_rfl))
                | (refine step_append ?h1 (.tmp 64) (.tmp 70) 35 ?h2 (.slice (some ⟨g, 0, none⟩) k k) (.slice A5 1 c5) ?h3 ?h4 _ _ HR6.out ?_; rotate_right; (case h1 => rfl); (case h2 => rfl); (case h3 => kernel_rfl); (case h4 => kernel_rfl)))
              all_goals
                go_wp2_with fail
                go_roundw
                case rel => exact ⟨j + 1, by omega, by go_num, by rw [HCan.out]; exact ⟨row_base HPt.out.row HYb.out.size, HYb.out.trans ((HPt.out.bel).mono HYb.out.size)⟩⟩
                case measure => simp [intOf]; omega
    · obtain rfl : j = n := by omega
      have HE := Lib.hid (show Od.can lessE (xs.take j) = Od.can lessE xs by rw [List.take_of_length_le (Nat.le_of_eq HN.out)])
      rw [HE.out] at hk
      have K9 := Lib.hid hk
      obtain ⟨A9, c9, hv, -⟩ := hk.row.ls
      subst hv
      clear hk
      go_wp2_with fail
      go_ret
      exact ⟨_, rfl, K9.out.row, K9.out.bel⟩
end
end Go.Proofs.YtjhkejkdnjogiaaGreatDoor.Es
