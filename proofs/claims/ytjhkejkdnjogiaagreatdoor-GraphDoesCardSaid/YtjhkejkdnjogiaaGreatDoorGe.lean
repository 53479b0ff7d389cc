/- Whose lock is in the way; the edges of one that waits. -/
import Derived.Test.YtjhkejkdnjogiaaGreatDoorGd
import Derived.Test.YtjhkejkdnjogiaaGreatDoorQa
import Derived.Deep.RegionLaw
namespace Go.Proofs.YtjhkejkdnjogiaaGreatDoor.Es
open Go Go.RowKit Go.Shelf
set_option maxRecDepth 100000

/-- whether a lock is in the way of a request -/
def barB (h : Hs.Hd) (w : Ws.Wt) : Bool := !(h.1 == w.1) && !goesN (kn h.2) (kn w.2.1)
theorem bars_any {W : World} (ht : TabG W) (h : Hs.Hd) (x : Ws.Wt) : Calls Tryz.prog 73 #[Hs.wv h, Ws.wv x] W fun e w' => e = .returned (.bool (barB h x)) ∧ Below W.heap.size W w' := by
  have HX := Lib.hid ((box_below W (.cells #[.int .i64 h.1, .int .i64 h.2] 84)).trans ((box_below (W.alloc (.cells #[.int .i64 h.1, .int .i64 h.2] 84)) (.cells #[.int .i64 x.1, .int .i64 x.2.1, .bool x.2.2.1, .bool x.2.2.2] 54)).mono (box_below _ _).size))
  obtain ⟨h1, h2⟩ := h
  obtain ⟨x1, x2, x3, x4⟩ := x
  by_cases he : h1 = x1
  · have HV := Lib.hid (show barB (h1, h2) (x1, x2, x3, x4) = false by unfold barB; simp [he])
    clear ht
    subst he
    go_enter Tryz.func73, Tryz.ntmps73
    go_wp2_with fail
    go_ret
    exact ⟨by rw [HV.out]; rfl, HX.out⟩
  · have HV := Lib.hid (show barB (h1, h2) (x1, x2, x3, x4) = !goesN (kn h2) (kn x2) by unfold barB; simp [he])
    have he' : (h1 != x1) = true := by simpa using he
    have HC := Lib.hid (fun w hb => compat_any h2 x2 W w ht hb)
    clear ht he
    generalize goesN (kn h2) (kn x2) = q at *
    go_enter Tryz.func73, Tryz.ntmps73
    go_wp2_with fail
    refine (HC.out _ HX.out).mono ?_
    rintro e w1 ⟨rfl, hb1⟩
    have HB := Lib.hid hb1
    clear hb1 HC
    cases q
    · go_wp2_with fail
      go_ret
      exact ⟨by rw [HV.out]; rfl, HB.out⟩
    · go_wp2_with fail
      go_ret
      exact ⟨by rw [HV.out]; rfl, HB.out⟩
/-- a row of one's own, made since -/
structure Kp (W : World) (l : List Ed) (v : Value) (w1 : World) : Prop where
  row : Row w1 W.heap.size v l
  bel : Below W.heap.size W w1
section
variable {W W' : World} {A : Option Addr} {c : Nat} {xs l : List Ed} {v : Value}
theorem Kp.nil (W : World) : Kp W [] (.slice none 0 0) W := ⟨World.ownsRow_nil _ _ _ _, Below.refl _ _⟩
theorem Kp.below (h : Kp W l v W') {w2 : World} (hb : Below W'.heap.size W' w2) : Kp W l v w2 := ⟨row_below h.row hb, h.bel.trans (hb.mono h.bel.size)⟩
/-- others are put behind -/
theorem Kp.join {n m q : Nat} {ys : List Ed} (h : Kp W l v W') (hs : Ls W' A c ys) (hn : l.length = n) (hm : ys.length = m) (hq : n + m = q) (hl : q ≤ 1000000) (ty : TypeId) :
    ∃ A' c' w2, (Builtin.append_ #[35, 35] ty #[v, .slice A m c]).run Tryz.prog W' = .ok (.slice A' q c') w2 ∧ Kp W (l ++ ys) (.slice A' q c') w2 := by
  subst hn
  subst hm
  subst hq
  obtain ⟨v', w2, hrun, hrow, hg, -⟩ := h.row.app hs hl h.bel.size ty
  obtain ⟨A', c', rfl, -⟩ := hrow.ls
  rw [List.length_append] at hrun hrow
  exact ⟨A', c', w2, hrun, hrow, h.bel.trans (h.row.app_below hg h.bel.size)⟩
/-- one is put behind -/
theorem Kp.app {n : Nat} {x : Ed} (h : Kp W l v W') (hn : l.length = n) (hl : n ≤ 900000) (ty : TypeId) :
    ∃ A' c' w2, (Builtin.append_ #[35, 35] ty #[v, .slice (some ⟨W'.heap.size, 0, none⟩) 1 1]).run Tryz.prog (W'.alloc (.cells #[.int .i64 x.1, .int .i64 x.2] 47)) = .ok (.slice A' (n + 1) c') w2 ∧ Kp W (l ++ [x]) (.slice A' (n + 1) c') w2 :=
  (h.below (box_below W' _)).join (m := 1) (q := n + 1) (box_ls W' x) hn rfl rfl (by omega) ty
theorem Kp.rows {W0 : World} {e : Ending} {zs : List Ed} (h : Kp W l v W') (hb : Below W0.heap.size W0 W) (he : e = .returned v) (hz : l = zs) : Rows W0 zs e W' := by
  subst hz
  exact ⟨v, he, row_base h.row hb.size, hb.trans (h.bel.mono hb.size)⟩
end
/-- the edges to those whose locks are in the way -/
def barsL (w : Ws.Wt) (H : List Hs.Hd) : List Ed := (H.filter fun h => barB h w).map fun h => (w.1, h.1)
/-- .. to those ahead -/
def aheadL (t : Int) (A : List Ws.Wt) : List Ed := A.map fun o => (t, o.1)
def edgesL (w : Ws.Wt) (H : List Hs.Hd) (A : List Ws.Wt) : List Ed := barsL w H ++ aheadL w.1 A
theorem barsL_no {w : Ws.Wt} {H : List Hs.Hd} {k : Nat} (hk : k < H.length) (h : barB H[k] w = false) : barsL w (H.take (k + 1)) = barsL w (H.take k) := by
  unfold barsL
  rw [List.take_succ_eq_append_getElem hk, List.filter_append]
  simp [h]
theorem barsL_yes {w : Ws.Wt} {H : List Hs.Hd} {k : Nat} (hk : k < H.length) (h : barB H[k] w = true) : barsL w (H.take (k + 1)) = barsL w (H.take k) ++ [(w.1, H[k].1)] := by
  unfold barsL
  rw [List.take_succ_eq_append_getElem hk, List.filter_append]
  simp [h]
theorem barsL_len (w : Ws.Wt) (H : List Hs.Hd) : (barsL w H).length ≤ H.length := by
  unfold barsL
  rw [List.length_map]
  exact List.length_filter_le _ _
theorem aheadL_succ {t : Int} {A : List Ws.Wt} {k : Nat} (hk : k < A.length) : aheadL t (A.take (k + 1)) = aheadL t (A.take k) ++ [(t, A[k].1)] := by
  unfold aheadL
  rw [List.take_succ_eq_append_getElem hk, List.map_append]
  rfl
theorem aheadL_len (t : Int) (A : List Ws.Wt) : (aheadL t A).length = A.length := by unfold aheadL; simp
set_option maxHeartbeats 8000000 in
theorem edges_any {W : World} {A1 A2 : Option Addr} {c1 c2 : Nat} {H : List Hs.Hd} {L : List Ws.Wt} (ht : TabG W) (h1 : Hs.Ls W A1 c1 H) (h2 : Ws.Ls W A2 c2 L) (hl1 : H.length ≤ 1000) (hl2 : L.length ≤ 1000) (x : Ws.Wt) :
    Calls Tryz.prog 36 #[Ws.wv x, .slice A1 H.length c1, .slice A2 L.length c2] W (Rows W (edgesL x H L)) := by
  have hx := box_below W (.cells #[.int .i64 x.1, .int .i64 x.2.1, .bool x.2.2.1, .bool x.2.2.2] 54)
  obtain ⟨ad, had, e0, e1, e2, e3⟩ := (Ws.box_ls W x).here (i := 0) (by simp)
  cases had
  simp only [List.getElem_cons_zero, Nat.zero_mul, add_at, Nat.zero_add] at e0 e1 e2 e3
  have HS4 := Lib.hid (show Ws.S4 W.heap.size x.1 x.2.1 x.2.2.1 x.2.2.2 (W.alloc (.cells #[.int .i64 x.1, .int .i64 x.2.1, .bool x.2.2.1, .bool x.2.2.2] 54)) from ⟨e0, e1, e2, e3⟩)
  have HX := Lib.hid hx
  have H1 := Lib.hid (h1.below hx)
  have H2 := Lib.hid (h2.below hx)
  have HT := Lib.hid (ht.later hx)
  obtain ⟨n1, hn1⟩ : ∃ n, H.length = n := ⟨_, rfl⟩
  obtain ⟨n2, hn2⟩ : ∃ n, L.length = n := ⟨_, rfl⟩
  have N1 := Lib.hid hn1
  have N2 := Lib.hid hn2
  rw [hn1] at hl1 ⊢
  rw [hn2] at hl2 ⊢
  obtain ⟨R, hR⟩ : ∃ R, Rows W (edgesL x H L) = R := ⟨_, rfl⟩
  have HR := Lib.hid hR
  rw [hR]
  obtain ⟨x1, x2, x3, x4⟩ := x
  simp only at HX H1 H2 HT HS4
  clear hx h1 h2 ht e0 e1 e2 e3 hn1 hn2 hR
  go_enter Tryz.func36, Tryz.ntmps36
  go_wp2_with fail
  generalize W.alloc (.cells #[.int .i64 x1, .int .i64 x2, .bool x3, .bool x4] 54) = W1 at *
  generalize W.heap.size = Bx at HS4 ⊢
  go_loopw [14, 7] (fun t v wr => ∃ j : Nat, j ≤ n1 ∧ t = .int .i64 j ∧ Kp W1 (barsL (x1, x2, x3, x4) (H.take j)) v wr) (fun t _ _ => n1 - (intOf t).toNat)
  case atStart => exact ⟨0, by omega, rfl, Kp.nil W1⟩
  case round =>
    obtain ⟨j, hj, rfl, hk⟩ := hrel
    have K0 := Lib.hid hk
    obtain ⟨A0, c0', ev, -⟩ := hk.row.ls
    subst ev
    obtain ⟨q, hq⟩ : ∃ q, (barsL (x1, x2, x3, x4) (H.take j)).length = q := ⟨_, rfl⟩
    have hq1 : q ≤ j := by rw [← hq]; refine Nat.le_trans (barsL_len _ _) ?_; rw [List.length_take]; omega
    have HQ := Lib.hid hq
    clear hk
    rw [hq] at K0 ⊢
    clear hq
    by_cases hjn : j < n1
    · have hjl : j < H.length := by rw [N1.out]; exact hjn
      obtain ⟨a, rfl, hh⟩ := (H1.out.below K0.out.bel).here hjl
      obtain ⟨c0, c1⟩ := hh
      obtain ⟨y, hy⟩ : ∃ y, H[j] = y := ⟨_, rfl⟩
      have HY := Lib.hid (show ∃ h : j < H.length, H[j] = y from ⟨hjl, hy⟩)
      rw [hy] at c0 c1
      have hb1 := box_below wr (.cells #[.int .i64 y.1, .int .i64 y.2] 84)
      have K1 := Lib.hid (K0.out.below hb1)
      have hbx := (Hs.box_ls wr y).here (i := 0) (by simp)
      obtain ⟨ad, had, f0, f1⟩ := hbx
      cases had
      simp only [List.getElem_cons_zero, Nat.zero_mul, add_at, Nat.zero_add] at f0 f1
      have F := Lib.hid (And.intro f0 f1)
      have hwz : wr.heap.size < (wr.alloc (.cells #[.int .i64 y.1, .int .i64 y.2] 84)).heap.size := by simp
      have HWZ := Lib.hid hwz
      have HBr := Lib.hid (bars_any (HT.out.later K1.out.bel) y (x1, x2, x3, x4))
      obtain ⟨s, hs⟩ : ∃ s, barB y (x1, x2, x3, x4) = s := ⟨_, rfl⟩
      have HSb := Lib.hid hs
      rw [hs] at HBr
      obtain ⟨g0, g1, g2, g3⟩ := Ws.s4_below HS4.out K1.out.bel
      obtain ⟨b0, b1, b2, b3⟩ := Ws.s4_below HS4.out K0.out.bel
      have HS1 := Lib.hid (show Ws.S4 Bx x1 x2 x3 x4 (wr.alloc (.cells #[.int .i64 y.1, .int .i64 y.2] 84)) from ⟨g0, g1, g2, g3⟩)
      clear hy hb1 f0 f1 hwz hs g0 g1 g2 g3 hjl
      obtain ⟨y1, y2⟩ := y
      simp only at c0 c1 HBr F HWZ K1 HS1
      have hblt : Bx < wr.heap.size := cell_lt b0
      go_wp2_with fail
      refine HBr.out.mono ?_
      rintro e w5 ⟨rfl, hb5⟩
      have K2 := Lib.hid (K1.out.below hb5)
      obtain ⟨g0, g1, g2, g3⟩ := Ws.s4_below HS1.out hb5
      have f0 := (hb5.cell (p := ⟨wr.heap.size, 0, none⟩) HWZ.out).trans F.out.1
      have hsz5 : wr.heap.size < w5.heap.size := Nat.lt_of_lt_of_le HWZ.out hb5.size
      clear hb5 HBr K1 HS1 F HWZ c0 c1 b0 b1 b2 b3
      cases s
      · have HE := Lib.hid (show barsL (x1, x2, x3, x4) (H.take (j + 1)) = barsL (x1, x2, x3, x4) (H.take j) by
          obtain ⟨h, e⟩ := HY.out
          exact barsL_no h (by rw [e]; exact HSb.out))
        clear g0 g1 g2 g3 f0
        go_wp2_with fail
        go_roundw
        case rel => exact ⟨j + 1, by omega, by go_num, by rw [HE.out]; exact K2.out⟩
        case measure => simp [intOf]; omega
      · have HE := Lib.hid (show barsL (x1, x2, x3, x4) (H.take (j + 1)) = barsL (x1, x2, x3, x4) (H.take j) ++ [(x1, y1)] by
          obtain ⟨h, e⟩ := HY.out
          rw [barsL_yes h (by rw [e]; exact HSb.out), e])
        obtain ⟨A', c', w6, hrun, hk6⟩ := K2.out.app (x := (x1, y1)) HQ.out (by omega) 35
        have K6 := Lib.hid hk6
        clear hk6
        go_wp2_with (at_builtin; refine Lib.wpList_append_run _ rfl _ _ _ _ rfl _ _ rfl rfl _ _ hrun ?_)
        go_roundw
        case rel => exact ⟨j + 1, by omega, by go_num, by rw [HE.out]; exact K6.out⟩
        case measure => simp [intOf]; omega
    · obtain rfl : j = n1 := by omega
      have HE := Lib.hid (show barsL (x1, x2, x3, x4) (H.take j) = barsL (x1, x2, x3, x4) H by rw [List.take_of_length_le (Nat.le_of_eq N1.out)])
      have hk2 := K0.out
      rw [HE.out] at hk2 HQ
      have K9 := Lib.hid hk2
      clear hk2 K0 HE H1 hjn hj
      go_wp2_with fail
      go_loopw [32, 7] (fun t v wr => ∃ i : Nat, i ≤ n2 ∧ t = .int .i64 i ∧ Kp W1 (barsL (x1, x2, x3, x4) H ++ aheadL x1 (L.take i)) v wr) (fun t _ _ => n2 - (intOf t).toNat)
      case atStart => exact ⟨0, by omega, rfl, by have := K9.out; simpa [aheadL] using this⟩
      case round =>
        obtain ⟨i, hi, rfl, hk⟩ := hrel
        have K0 := Lib.hid hk
        obtain ⟨A3, c3, ev, -⟩ := hk.row.ls
        subst ev
        obtain ⟨p, hp⟩ : ∃ p, (barsL (x1, x2, x3, x4) H ++ aheadL x1 (L.take i)).length = p := ⟨_, rfl⟩
        have hp1 : p ≤ 2000 := by rw [← hp, List.length_append, aheadL_len, List.length_take, HQ.out]; omega
        have HP := Lib.hid hp
        clear hk K9
        rw [hp] at K0 ⊢
        clear hp
        by_cases hin : i < n2
        · have hil : i < L.length := by rw [N2.out]; exact hin
          obtain ⟨a, rfl, hh⟩ := (H2.out.below K0.out.bel).here hil
          obtain ⟨d0, d1, d2, d3⟩ := hh
          obtain ⟨z, hz⟩ : ∃ z, L[i] = z := ⟨_, rfl⟩
          have HE := Lib.hid (show barsL (x1, x2, x3, x4) H ++ aheadL x1 (L.take (i + 1)) = (barsL (x1, x2, x3, x4) H ++ aheadL x1 (L.take i)) ++ [(x1, z.1)] by rw [aheadL_succ hil, hz, List.append_assoc])
          rw [hz] at d0 d1 d2 d3
          obtain ⟨z1, z2, z3, z4⟩ := z
          simp only at d0 d1 d2 d3 HE
          have hb1 := box_below wr (.cells #[.int .i64 z1, .int .i64 z2, .bool z3, .bool z4] 54)
          obtain ⟨b0, b1, b2, b3⟩ := Ws.s4_below HS4.out K0.out.bel
          have hblt : Bx < wr.heap.size := cell_lt b0
          obtain ⟨A', c', w6, hrun, hk6⟩ := (K0.out.below hb1).app (x := (x1, z1)) HP.out (by omega) 35
          have K6 := Lib.hid hk6
          simp only at hrun
          rw [show (wr.alloc (.cells #[.int .i64 z1, .int .i64 z2, .bool z3, .bool z4] 54)).heap.size = wr.heap.size + 1 by simp] at hrun
          clear hk6 hb1 hz hil
          go_wp2_with (at_builtin; refine Lib.wpList_append_run _ rfl _ _ _ _ rfl _ _ rfl rfl _ _ hrun ?_)
          go_roundw
          case rel => exact ⟨i + 1, by omega, by go_num, by rw [HE.out]; exact K6.out⟩
          case measure => simp [intOf]; omega
        · obtain rfl : i = n2 := by omega
          have HE := Lib.hid (show barsL (x1, x2, x3, x4) H ++ aheadL x1 (L.take i) = edgesL (x1, x2, x3, x4) H L by rw [List.take_of_length_le (Nat.le_of_eq N2.out)]; rfl)
          go_wp2_with fail
          rw [← HR.out]
          exact K0.out.rows HX.out rfl HE.out
end Go.Proofs.YtjhkejkdnjogiaaGreatDoor.Es
/- Who waits for whom at a node. -/
namespace Go.Proofs.YtjhkejkdnjogiaaGreatDoor.Es
open Go Go.RowKit Go.Shelf
set_option maxRecDepth 100000

/-- append in a region that draws, by what it comes to -/
theorem step_append {P : Program} {ops : Array Oper} {o : Oper} {a : Act} {w : World} {K : Act → World → Prop} {Q : Exit → Act → World → Prop} {E : Prop}
    (hg : o.guard = none) (s x : Operand) (t : TypeId) (hop : o.op = Op.call { callee := Callee.builtin Builtin.append, args := #[s, x], argTypes := #[t, t] })
    (vs vx : Value) (hs : a.eval s = vs) (hx : a.eval x = vx) (v' : Value) (w' : World) (hrun : (Builtin.append_ #[t, t] o.type #[vs, vx]).run P w = .ok v' w') (hK : K (a.put o.dst v') w') :
    if Region.wanted o (yielded ops a.tmps) = true then Oper.wp P o a w K Q else E := by
  have hw : Region.wanted o (yielded ops a.tmps) = true := by simp [Region.wanted, hg]
  rw [if_pos hw]
  unfold Oper.wp
  simp [execOp, hop, resolve, invoke, builtin, hs, hx, hrun, Result.andThen]
  exact hK
/-- the edges of the first ones that wait, as they are gathered -/
def rawOf (H : List Hs.Hd) (L : List Ws.Wt) : Nat → List Ed
  | 0 => []
  | k + 1 => rawOf H L k ++ (match L[k]? with | some w => edgesL w H (L.take k) | none => [])
theorem rawOf_succ {H : List Hs.Hd} {L : List Ws.Wt} {k : Nat} (hk : k < L.length) : rawOf H L (k + 1) = rawOf H L k ++ edgesL L[k] H (L.take k) := by
  show rawOf H L k ++ _ = _
  rw [List.getElem?_eq_getElem hk]
theorem edgesL_len (w : Ws.Wt) (H : List Hs.Hd) (L : List Ws.Wt) : (edgesL w H L).length ≤ H.length + L.length := by
  unfold edgesL
  rw [List.length_append, aheadL_len]
  have := barsL_len w H
  omega
theorem rawOf_len {H : List Hs.Hd} {L : List Ws.Wt} : ∀ {k : Nat}, k ≤ L.length → (rawOf H L k).length ≤ k * (H.length + L.length)
  | 0, _ => by simp [rawOf]
  | k + 1, h => by
    have ih := rawOf_len (H := H) (L := L) (k := k) (by omega)
    have h1 := edgesL_len L[k] H (L.take k)
    rw [List.length_take] at h1
    rw [rawOf_succ (by omega), List.length_append, Nat.succ_mul]
    omega
/-- who waits for whom at a node -/
def ofL (H : List Hs.Hd) (L : List Ws.Wt) : List Ed := Od.can lessE (rawOf H L L.length)
set_option maxHeartbeats 8000000 in
theorem of_any {W : World} {p : Value} {A1 A2 : Option Addr} {c1 c2 : Nat} {H : List Hs.Hd} {L : List Ws.Wt} (ht : TabG W) (h : Its W p A1 c1 A2 c2 H L) (hl1 : H.length ≤ 300) (hl2 : L.length ≤ 300) :
    Calls Tryz.prog 11 #[p] W (Rows W (ofL H L)) := by
  have HH := Lib.hid (holds_any h (by omega))
  have HW := Lib.hid (fun w1 (hb : Below W.heap.size W w1) => waits_any (h.below hb) (by omega))
  have HT := Lib.hid ht
  obtain ⟨n1, hn1⟩ : ∃ n, H.length = n := ⟨_, rfl⟩
  obtain ⟨n2, hn2⟩ : ∃ n, L.length = n := ⟨_, rfl⟩
  have N1 := Lib.hid hn1
  have N2 := Lib.hid hn2
  unfold Hs.Lists at HH
  unfold Ws.Lists at HW
  rw [hn1] at hl1 HH
  rw [hn2] at hl2 HW
  clear h ht hn1 hn2
  go_enter Tryz.func11, Tryz.ntmps11
  go_wp2_with fail
  refine HH.out.mono ?_
  rintro e w1 ⟨B1, d1, rfl, hls1, hb1⟩
  have HW1 := Lib.hid (HW.out w1 hb1)
  have HL1 := Lib.hid hls1
  have HB1 := Lib.hid hb1
  clear hls1 hb1 HH HW
  go_wp2_with fail
  refine HW1.out.mono ?_
  rintro e w2 ⟨B2, d2, rfl, hls2, hb2⟩
  have HL1' := Lib.hid (HL1.out.below hb2)
  have HL2 := Lib.hid hls2
  have HB2 := Lib.hid (HB1.out.trans (hb2.mono HB1.out.size))
  have HT2 := Lib.hid (HT.out.later HB2.out)
  have hcap := hls2.cap
  have hroom := hls2.room
  rw [N2.out] at hcap
  unfold maxLen at hroom
  clear hls2 hb2 HL1 HB1 HW1 HT
  go_wp2_with fail
  go_loopw [14, 5] (fun t v wr => ∃ j : Nat, j ≤ n2 ∧ t = .int .i64 j ∧ Kp w2 (rawOf H L j) v wr) (fun t _ _ => n2 - (intOf t).toNat)
  case atStart => exact ⟨0, by omega, rfl, Kp.nil w2⟩
  case round =>
    obtain ⟨j, hj, rfl, hk⟩ := hrel
    have K0 := Lib.hid hk
    obtain ⟨A0, c0', ev, -⟩ := hk.row.ls
    subst ev
    obtain ⟨q, hq⟩ : ∃ q, (rawOf H L j).length = q := ⟨_, rfl⟩
    have hq1 : q ≤ 180000 := by
      rw [← hq]
      refine Nat.le_trans (rawOf_len (by rw [N2.out]; exact hj)) ?_
      rw [N1.out, N2.out]
      exact Nat.mul_le_mul (show j ≤ 300 by omega) (show n1 + n2 ≤ 600 by omega)
    have HQ := Lib.hid hq
    clear hk
    rw [hq] at K0 ⊢
    clear hq
    by_cases hjn : j < n2
    · have hjl : j < L.length := by rw [N2.out]; exact hjn
      obtain ⟨a, rfl, hh⟩ := (HL2.out.below K0.out.bel).here hjl
      obtain ⟨e0, e1, e2, e3⟩ := hh
      obtain ⟨y, hy⟩ : ∃ y, L[j] = y := ⟨_, rfl⟩
      have HE := Lib.hid (show rawOf H L (j + 1) = rawOf H L j ++ edgesL y H (L.take j) by rw [rawOf_succ hjl, hy])
      rw [hy] at e0 e1 e2 e3
      have hb1 := box_below wr (.cells #[.int .i64 y.1, .int .i64 y.2.1, .bool y.2.2.1, .bool y.2.2.2] 54)
      have K1 := Lib.hid (K0.out.below hb1.drew)
      obtain ⟨ad, had, f0, f1, f2, f3⟩ := (Ws.box_ls wr y).here (i := 0) (by simp)
      cases had
      simp only [List.getElem_cons_zero, Nat.zero_mul, add_at, Nat.zero_add] at f0 f1 f2 f3
      have HEd := Lib.hid (edges_any (HT2.out.later K1.out.bel) (HL1'.out.below K1.out.bel) ((HL2.out.head j).below K1.out.bel) (by rw [N1.out]; omega) (by rw [List.length_take]; omega) y)
      obtain ⟨m5, hm5⟩ : ∃ m, (edgesL y H (L.take j)).length = m := ⟨_, rfl⟩
      have hm5' : m5 ≤ 600 := by
        have := edgesL_len y H (L.take j)
        rw [List.length_take, N1.out, N2.out] at this
        omega
      have HM5 := Lib.hid hm5
      rw [N1.out, List.length_take, N2.out, Nat.min_eq_left (Nat.le_of_lt hjn)] at HEd
      have hjd : (j : Int) ≤ (d2 : Int) := by omega
      clear hy hb1 hm5 hjl
      obtain ⟨y1, y2, y3, y4⟩ := y
      simp only at e0 e1 e2 e3 f0 f1 f2 f3 K1 HEd HM5
      go_wp2_with fail
      generalize wr.heap.size = Bx at f0 f1 f2 f3 ⊢
      generalize wr.alloc (.cells #[.int .i64 y1, .int .i64 y2, .bool y3, .bool y4] 54) = w3 at *
      go_region_law (first
        | (go_simp; go_at_call 36; refine HEd.out.mono ?_; rintro e w5 ⟨v5, rfl, hrow5, hb5⟩; obtain ⟨A5, c5, rfl, hls5⟩ := hrow5.ls; obtain ⟨A6, c6, w6, hrun, hk6⟩ := (K1.out.below hb5).join (m := m5) (q := q + m5) hls5 HQ.out HM5.out rfl (by omega) 35; rw [HM5.out])
        | (refine step_append ?h1 (.tmp 19) (.tmp 25) 35 ?h2 (.slice A0 q c0') (.slice A5 m5 c5) ?h3 ?h4 _ _ hrun ?_; rotate_right; (case h1 => rfl); (case h2 => rfl); (case h3 => kernel_rfl); (case h4 => kernel_rfl)))
      all_goals
        have K6 := Lib.hid hk6
        clear hk6 hrun hls5 hrow5 hb5
        go_wp2_with fail
        go_roundw
        case rel => exact ⟨j + 1, by omega, by go_num, by rw [HE.out]; exact K6.out⟩
        case measure => simp [intOf]; omega
    · obtain rfl : j = n2 := by omega
      have hls := K0.out.row.ls
      obtain ⟨A9, c9, hv, hls9⟩ := hls
      rw [HQ.out] at hv
      cases hv
      have HS := Lib.hid (sort_any hls9 (by rw [HQ.out]; omega))
      rw [HQ.out] at HS
      have HE := Lib.hid (show Od.can lessE (rawOf H L j) = ofL H L by rw [← N2.out]; rfl)
      have HB := Lib.hid (HB2.out.trans (K0.out.bel.mono HB2.out.size))
      clear hls9 K0 hjn hj
      go_wp2_with fail
      refine HS.out.mono ?_
      rintro e w7 ⟨v7, rfl, hrow7, hb7⟩
      rw [HE.out] at hrow7
      have HF := Lib.hid (show Rows W (ofL H L) (.returned v7) w7 from ⟨v7, rfl, row_base hrow7 HB.out.size, HB.out.trans (hb7.mono HB.out.size)⟩)
      clear hrow7 hb7
      go_wp2_with fail
      go_ret
      exact HF.out
end Go.Proofs.YtjhkejkdnjogiaaGreatDoor.Es
