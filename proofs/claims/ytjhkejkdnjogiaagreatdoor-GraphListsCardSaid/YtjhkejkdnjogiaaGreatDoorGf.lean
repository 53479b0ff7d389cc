/- Who waits for whom at a node. -/
import Derived.Test.YtjhkejkdnjogiaaGreatDoorGe
import Derived.Deep.RegionLaw
namespace Go.Proofs.YtjhkejkdnjogiaaGreatDoor.Es
open Go Go.RowKit Go.Shelf
set_option maxRecDepth 100000

/-- append in a region that draws, by what it comes to -/
theorem step_append {P : Program} {ops : Array Oper} {o : Oper} {a : Act} {w : World} {K : Act → World → Prop} {Q : Exit → Act → World → Prop} {E : Prop}
    (hg : o.guard = none) (s x : Operand) (t : TypeId) (hop : o.op = Op.call { callee := Callee.builtin Builtin.append, args := #[s, x], argTypes := #[t, t] })
    (vs vx : Value) (hs : a.eval s = vs) (hx : a.eval x = vx) (v' : Value) (w' : World) (hrun : (Builtin.append_ #[t, t] o.type #[vs, vx]).run P w = .ok v' w') (hK : K (a.put o.dst v') w') :
    if Region.wanted o (yielded ops a.tmps) = true then Oper.wp P o a w K Q else E := by
  have hw : Region.wanted o (yielded ops a.tmps) = true := by simp [Region.wanted, hg]
  rw [if_pos hw]
  unfold Oper.wp
  simp [execOp, hop, resolve, invoke, builtin, hs, hx, hrun, Result.andThen]
  exact hK
/-- the edges of the first ones that wait, as they are gathered -/
def rawOf (H : List Hs.Hd) (L : List Ws.Wt) : Nat → List Ed
  | 0 => []
  | k + 1 => rawOf H L k ++ (match L[k]? with | some w => edgesL w H (L.take k) | none => [])
theorem rawOf_succ {H : List Hs.Hd} {L : List Ws.Wt} {k : Nat} (hk : k < L.length) : rawOf H L (k + 1) = rawOf H L k ++ edgesL L[k] H (L.take k) := by
  show rawOf H L k ++ _ = _
  rw [List.getElem?_eq_getElem hk]
theorem edgesL_len (w : Ws.Wt) (H : List Hs.Hd) (L : List Ws.Wt) : (edgesL w H L).length ≤ H.length + L.length := by
  unfold edgesL
  rw [List.length_append, aheadL_len]
  have := barsL_len w H
  omega
theorem rawOf_len {H : List Hs.Hd} {L : List Ws.Wt} : ∀ {k : Nat}, k ≤ L.length → (rawOf H L k).length ≤ k * (H.length + L.length)
  | 0, _ => by simp [rawOf]
  | k + 1, h => by
    have ih := rawOf_len (H := H) (L := L) (k := k) (by omega)
    have h1 := edgesL_len L[k] H (L.take k)
    rw [List.length_take] at h1
    rw [rawOf_succ (by omega), List.length_append, Nat.succ_mul]
    omega
/-- who waits for whom at a node -/
def ofL (H : List Hs.Hd) (L : List Ws.Wt) : List Ed := Od.can lessE (rawOf H L L.length)
set_option maxHeartbeats 8000000 in
theorem of_any {W : World} {p : Value} {A1 A2 : Option Addr} {c1 c2 : Nat} {H : List Hs.Hd} {L : List Ws.Wt} (ht : TabG W) (h : Its W p A1 c1 A2 c2 H L) (hl1 : H.length ≤ 300) (hl2 : L.length ≤ 300) :
    Calls Tryz.prog 11 #[p] W (Rows W (ofL H L)) := by
  have HH := Lib.hid (holds_any h (by omega))
  have HW := Lib.hid (fun w1 (hb : Below W.heap.size W w1) => waits_any (h.below hb) (by omega))
  have HT := Lib.hid ht
  obtain ⟨n1, hn1⟩ : ∃ n, H.length = n := ⟨_, rfl⟩
  obtain ⟨n2, hn2⟩ : ∃ n, L.length = n := ⟨_, rfl⟩
  have N1 := Lib.hid hn1
  have N2 := Lib.hid hn2
  unfold Hs.Lists at HH
  unfold Ws.Lists at HW
  rw [hn1] at hl1 HH
  rw [hn2] at hl2 HW
  clear h ht hn1 hn2
  go_enter Tryz.func11, Tryz.ntmps11
  go_wp2_with fail
  refine HH.out.mono ?_
  rintro e w1 ⟨B1, d1, rfl, hls1, hb1⟩
  have HW1 := Lib.hid (HW.out w1 hb1)
  have HL1 := Lib.hid hls1
  have HB1 := Lib.hid hb1
  clear hls1 hb1 HH HW
  go_wp2_with fail
  refine HW1.out.mono ?_
  rintro e w2 ⟨B2, d2, rfl, hls2, hb2⟩
  have HL1' := Lib.hid (HL1.out.below hb2)
  have HL2 := Lib.hid hls2
  have HB2 := Lib.hid (HB1.out.trans (hb2.mono HB1.out.size))
  have HT2 := Lib.hid (HT.out.later HB2.out)
  have hcap := hls2.cap
  have hroom := hls2.room
  rw [N2.out] at hcap
  unfold maxLen at hroom
  clear hls2 hb2 HL1 HB1 HW1 HT
  go_wp2_with fail
  go_loopw [14, 5] (fun t v wr => ∃ j : Nat, j ≤ n2 ∧ t = .int .i64 j ∧ Kp w2 (rawOf H L j) v wr) (fun t _ _ => n2 - (intOf t).toNat)
  case atStart => exact ⟨0, by omega, rfl, Kp.nil w2⟩
  case round =>
    obtain ⟨j, hj, rfl, hk⟩ := hrel
    have K0 := Lib.hid hk
    obtain ⟨A0, c0', ev, -⟩ := hk.row.ls
    subst ev
    obtain ⟨q, hq⟩ : ∃ q, (rawOf H L j).length = q := ⟨_, rfl⟩
    have hq1 : q ≤ 180000 := by
      rw [← hq]
      refine Nat.le_trans (rawOf_len (by rw [N2.out]; exact hj)) ?_
      rw [N1.out, N2.out]
      exact Nat.mul_le_mul (show j ≤ 300 by omega) (show n1 + n2 ≤ 600 by omega)
    have HQ := Lib.hid hq
    clear hk
    rw [hq] at K0 ⊢
    clear hq
    by_cases hjn : j < n2
    · have hjl : j < L.length := by rw [N2.out]; exact hjn
      obtain ⟨a, rfl, hh⟩ := (HL2.out.below K0.out.bel).here hjl
      obtain ⟨e0, e1, e2, e3⟩ := hh
      obtain ⟨y, hy⟩ : ∃ y, L[j] = y := ⟨_, rfl⟩
      have HE := Lib.hid (show rawOf H L (j + 1) = rawOf H L j ++ edgesL y H (L.take j) by rw [rawOf_succ hjl, hy])
      rw [hy] at e0 e1 e2 e3
      have hb1 := box_below wr (.cells #[.int .i64 y.1, .int .i64 y.2.1, .bool y.2.2.1, .bool y.2.2.2] 54)
      have K1 := Lib.hid (K0.out.below hb1.drew)
      obtain ⟨ad, had, f0, f1, f2, f3⟩ := (Ws.box_ls wr y).here (i := 0) (by simp)
      cases had
      simp only [List.getElem_cons_zero, Nat.zero_mul, add_at, Nat.zero_add] at f0 f1 f2 f3
      have HEd := Lib.hid (edges_any (HT2.out.later K1.out.bel) (HL1'.out.below K1.out.bel) ((HL2.out.head j).below K1.out.bel) (by rw [N1.out]; omega) (by rw [List.length_take]; omega) y)
      obtain ⟨m5, hm5⟩ : ∃ m, (edgesL y H (L.take j)).length = m := ⟨_, rfl⟩
      have hm5' : m5 ≤ 600 := by
        have := edgesL_len y H (L.take j)
        rw [List.length_take, N1.out, N2.out] at this
        omega
      have HM5 := Lib.hid hm5
      rw [N1.out, List.length_take, N2.out, Nat.min_eq_left (Nat.le_of_lt hjn)] at HEd
      have hjd : (j : Int) ≤ (d2 : Int) := by omega
      clear hy hb1 hm5 hjl
      obtain ⟨y1, y2, y3, y4⟩ := y
      simp only at e0 e1 e2 e3 f0 f1 f2 f3 K1 HEd HM5
      go_wp2_with fail
      generalize wr.heap.size = Bx at f0 f1 f2 f3 ⊢
      generalize wr.alloc (.cells #[.int .i64 y1, .int .i64 y2, .bool y3, .bool y4] 54) = w3 at *
      go_region_law (first
        | (go_simp; go_at_call 36; refine HEd.out.mono ?_; rintro e w5 ⟨v5, rfl, hrow5, hb5⟩; obtain ⟨A5, c5, rfl, hls5⟩ := hrow5.ls; obtain ⟨A6, c6, w6, hrun, hk6⟩ := (K1.out.below hb5).join (m := m5) (q := q + m5) hls5 HQ.out HM5.out rfl (by omega) 35; rw [HM5.out])
        | (refine step_append ?h1 (.tmp 19) (.tmp 25) 35 ?h2 (.slice A0 q c0') (.slice A5 m5 c5) ?h3 ?h4 _ _ hrun ?_; rotate_right; (case h1 => rfl); (case h2 => rfl); (case h3 => kernel_rfl); (case h4 => kernel_rfl)))
      all_goals
        have K6 := Lib.hid hk6
        clear hk6 hrun hls5 hrow5 hb5
        go_wp2_with fail
        go_roundw
        case rel => exact ⟨j + 1, by omega, by go_num, by rw [HE.out]; exact K6.out⟩
        case measure => simp [intOf]; omega
    · obtain rfl : j = n2 := by omega
      have hls := K0.out.row.ls
      obtain ⟨A9, c9, hv, hls9⟩ := hls
      rw [HQ.out] at hv
      cases hv
      have HS := Lib.hid (sort_any hls9 (by rw [HQ.out]; omega))
      rw [HQ.out] at HS
      have HE := Lib.hid (show Od.can lessE (rawOf H L j) = ofL H L by rw [← N2.out]; rfl)
      have HB := Lib.hid (HB2.out.trans (K0.out.bel.mono HB2.out.size))
      clear hls9 K0 hjn hj
      go_wp2_with fail
      refine HS.out.mono ?_
      rintro e w7 ⟨v7, rfl, hrow7, hb7⟩
      rw [HE.out] at hrow7
      have HF := Lib.hid (show Rows W (ofL H L) (.returned v7) w7 from ⟨v7, rfl, row_base hrow7 HB.out.size, HB.out.trans (hb7.mono HB.out.size)⟩)
      clear hrow7 hb7
      go_wp2_with fail
      go_ret
      exact HF.out
end Go.Proofs.YtjhkejkdnjogiaaGreatDoor.Es
