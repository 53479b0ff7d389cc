import Derived.Test.YtlhhopanegnliaaGreatDoorAn
import Derived.Test.YtlhhopanegnliaaGreatDoorZRg
import Derived.OwnWalkIn
import Derived.TacticsInMore
import Derived.LoopNIn
import Derived.LoopIn
import Derived.Shelf.RegionOpen
import Derived.OwnWalk
import Derived.Maps.OwnIn
import Derived.Shelf.SlSortCmp.NoneTotal
import Derived.Test.YtlhhopanegnliaaGreatDoorProg
namespace Go.Proofs.YtlhhopanegnliaaGreatDoor.An
open Go Go.RowKit Go.Shelf
attribute [local go_sem] Oper.semAt_some
set_option maxRecDepth 100000

theorem row_turn {W W' : World} {C base n size : Nat} {e : TypeId} {v : Value} {xs : List Value} (h : W.ownsRow base e size v n xs) (t : Turn C W W') : W'.ownsRow base e size v n xs := by
  refine ⟨h.1, ?_⟩
  rcases h.2 with h0 | ⟨g, cap, cur, rfl, hb, hg, h1, h2, h3, h4⟩
  · exact .inl h0
  · exact .inr ⟨g, cap, cur, rfl, hb, t.cells _ _ hg rfl, h1, h2, h3, h4⟩
theorem ArenaAt.keeps {W W' : World} {b m : Nat} {pv fv : Value} {ps : List Pl} {fs : List Nat} (h : ArenaAt W b m pv fv ps fs) (hk : Keeps (· < W.heap.size) W W') : ArenaAt W' b m pv fv ps fs :=
  h.keep (hk.block b h.lt) (fun g hg => hk.block g (h.rp.lt g hg).2) (fun g hg => hk.block g (h.rf.lt g hg).2)
theorem _root_.Go.Proofs.YtlhhopanegnliaaGreatDoor.Tells.later {α : Type} {P : Program} {gf : Nat} {bs lb : Array Value} {encs : α → Array Value} {S : Nat → Prop} {xs : List α} {w W : World} (h : Tells P gf bs lb encs S xs w) (hb : Below w.heap.size w W) : Tells P gf bs lb encs S xs W :=
  fun l J Jx W' hW' => h l J Jx W' (hb.trans (hW'.mono hb.size))
abbrev Told := Nat × Pa.Pt × Nat
abbrev encT (x : Told) : Array Value := #[.int .i64 (x.1 : Int), hv x.2.1 x.2.2]
def usedN (ps : List Pl) : Nat → List Told
  | 0 => []
  | n + 1 => usedN ps n ++ (match ps[n]? with | some (some x) => [(n, x.1, x.2)] | _ => [])
def usedL (ps : List Pl) : List Told := usedN ps ps.length
theorem usedN_yes {ps : List Pl} {n : Nat} {p : Pa.Pt} {q : Nat} (hu : ps[n]? = some (some (p, q))) : usedN ps (n + 1) = usedN ps n ++ [(n, p, q)] := by
  show usedN ps n ++ _ = _
  rw [hu]
theorem usedN_no {ps : List Pl} {n : Nat} (hu : ps[n]? = some none) : usedN ps (n + 1) = usedN ps n := by
  show usedN ps n ++ _ = _
  rw [hu]
  simp
theorem usedN_split (ps : List Pl) {i n : Nat} (h : i ≤ n) : ∃ r, usedN ps n = usedN ps i ++ r := by
  induction n with
  | zero => obtain rfl : i = 0 := by omega
            exact ⟨[], by simp⟩
  | succ n ih =>
    by_cases e : i = n + 1
    · subst e; exact ⟨[], by simp⟩
    · obtain ⟨r, hr⟩ := ih (by omega)
      exact ⟨r ++ (match ps[n]? with | some (some x) => [(n, x.1, x.2)] | _ => []), by show usedN ps n ++ _ = _; rw [hr, List.append_assoc]⟩
set_option maxRecDepth 100000 in
set_option maxHeartbeats 2000000 in
theorem each_tells {w : World} {b m : Nat} {pv fv : Value} {ps : List Pl} {fs : List Nat} (hw : ArenaAt w b m pv fv ps fs) :
    Tells Tryz.prog 135 #[wp b] #[] encT (· < w.heap.size) (usedL ps) w := by
  intro l J Jx W hW hJ hY h0
  have hq := (hw.below hW).c1
  have hn4 : ps.length ≤ 4096 := Nat.le_trans hw.ple hw.mle
  obtain ⟨A, c, rfl, hA⟩ := row_slice hw.rp
  have HA := Lib.hid hA
  have HW := Lib.hid hw
  have HJ := Lib.hid hJ
  have HY := Lib.hid hY
  obtain ⟨n, hn⟩ : ∃ n, ps.length = n := ⟨_, rfl⟩
  have HN := Lib.hid hn
  have hz := hW.size
  have hK : Keeps (· < w.heap.size) w W := ⟨hW.size, hW.block⟩
  rw [hn] at hq hn4
  clear hw hJ hY hA hn hW
  refine callsIn_of_wp Tryz.func135 rfl trivial ?_ rfl
  simp only [Tryz.ntmps135, List.size_toArray, List.length_cons, List.length_nil, Nat.reduceAdd, Nat.reduceSub, Array.replicate_succ, Array.replicate_zero, List.push_toArray, List.append_toArray, List.nil_append, List.cons_append]
  gi_wp2
  gi_loopw [13] (fun t wr => ∃ j : Nat, j ≤ n ∧ t = .int .i64 j ∧ J (usedN ps j) wr ∧ Keeps (· < w.heap.size) w wr) (fun t _ => n - (intOf t).toNat)
  case atStart => exact ⟨0, by omega, rfl, h0, hK⟩
  case round =>
    obtain ⟨j, hj, rfl, hjj, hbj⟩ := hrel
    clear h0 hK hq
    by_cases hjn : j < n
    · have hjl : j < ps.length := by rw [HN.out]; exact hjn
      rcases HA.out with h' | ⟨g, rfl⟩
      · omega
      have hro := HW.out.keeps hbj
      have hgl := (hro.rp.lt g rfl).2
      have hb1 := fun (cs : Array Value) => box_below wr (.cells cs 198)
      have hkb : ∀ cs : Array Value, Keeps (· < w.heap.size) wr (wr.alloc (.cells cs 198)) := fun cs => keeps_of (hb1 cs) (fun k hk => Nat.lt_of_lt_of_le hk hbj.size)
      have HB := Lib.hid (fun cs : Array Value => hbj.trans (hkb cs))
      have HJJ := Lib.hid (fun cs : Array Value => HJ.out _ _ _ hjj (hb1 cs))
      have hpl := fun (k : Nat) (hk : k < 7) (u : Value) => hro.place (i := j) (j := k) hjl hk (u := u)
      rcases hu : ps[j] with _ | ⟨p, q⟩
      · have hu' : ps[j]? = some none := by rw [List.getElem?_eq_getElem hjl, hu]
        have HU := Lib.hid (usedN_no hu')
        have c0 := hpl 0 (by omega) _ (by rw [hu]; rfl)
        have c1 := hpl 1 (by omega) _ (by rw [hu]; rfl)
        have c2 := hpl 2 (by omega) _ (by rw [hu]; rfl)
        have c3 := hpl 3 (by omega) _ (by rw [hu]; rfl)
        have c4 := hpl 4 (by omega) _ (by rw [hu]; rfl)
        have c5 := hpl 5 (by omega) _ (by rw [hu]; rfl)
        have c6 := hpl 6 (by omega) _ (by rw [hu]; rfl)
        rw [Nat.add_zero] at c0
        clear hu hu' hro hb1 hkb hjl hjj hbj hpl
        gi_wp2
        refine ⟨(fun _ hf => by cases hf), ?_⟩
        gi_wp2
        go_roundw
        case rel => exact ⟨j + 1, by omega, by go_num, by rw [HU.out]; exact HJJ.out _, HB.out _⟩
        case measure => simp [intOf]; omega
      · have hu' : ps[j]? = some (some (p, q)) := by rw [List.getElem?_eq_getElem hjl, hu]
        have hU := usedN_yes hu'
        have c0 := hpl 0 (by omega) _ (by rw [hu]; rfl)
        have c1 := hpl 1 (by omega) _ (by rw [hu]; rfl)
        have c2 := hpl 2 (by omega) _ (by rw [hu]; rfl)
        have c3 := hpl 3 (by omega) _ (by rw [hu]; rfl)
        have c4 := hpl 4 (by omega) _ (by rw [hu]; rfl)
        have c5 := hpl 5 (by omega) _ (by rw [hu]; rfl)
        have c6 := hpl 6 (by omega) _ (by rw [hu]; rfl)
        rw [Nat.add_zero] at c0
        obtain ⟨r, hr⟩ := usedN_split ps (show j + 1 ≤ ps.length from hjl)
        have hpre : usedL ps = usedN ps j ++ (j, p, q) :: r := by show usedN ps ps.length = _; rw [hr, hU]; simp
        obtain ⟨fn, tmps, assign, body, hy, hR⟩ := HY.out _ (j, p, q) _ _ hpre (HJJ.out #[.int .i64 p.a, .int .i64 p.b, .int .i64 p.c, .int .i64 p.d, .int .i64 p.e, .pointer (some ⟨q, 0, none⟩), .bool true])
        have HU := Lib.hid hU
        have HP := Lib.hid (show usedL ps = (usedN ps j ++ [(j, p, q)]) ++ r by rw [hpre]; simp)
        clear hu hu' hro hb1 hkb hjl hjj hU hr hpre hbj hpl
        obtain ⟨pa, pb, pc, pd, pe⟩ := p
        gi_wp2
        refine hR.mono ?_
        rintro e W3 (⟨rfl, hJ3, hk3⟩ | ⟨rfl, hJx3⟩)
        · have HB3 := Lib.hid ((HB.out _).trans hk3)
          clear hy hR c0 c1 c2 c3 c4 c5 c6 hk3
          gi_wp2
          go_roundw
          case rel => exact ⟨j + 1, by omega, by go_num, by rw [HU.out]; exact hJ3, HB3.out⟩
          case measure => simp [intOf]; omega
        · gi_wp2
          refine bodyPost_ret (results_none rfl _ _ _) rfl ?_
          exact ⟨⟨_, rfl⟩, .inr ⟨_, _, HP.out, hJx3⟩⟩
    · obtain rfl : j = n := by omega
      gi_wp2
      go_end0
      refine ⟨⟨_, rfl⟩, .inl ?_⟩
      show J (usedN ps ps.length) _
      rw [HN.out]
      exact hjj
def intsL (xs : List Int) : List Value := xs.map fun i => .int .i64 i
theorem ints_snoc (xs : List Int) (i : Int) : intsL (xs ++ [i]) = intsL xs ++ [.int .i64 i] := by simp [intsL]
def heads (ys : List (Pa.Pt × Nat)) : List Value := ys.flatMap fun y => hcs y.1 y.2
theorem heads_snoc (ys : List (Pa.Pt × Nat)) (y : Pa.Pt × Nat) : heads (ys ++ [y]) = heads ys ++ hcs y.1 y.2 := by simp [heads]
structure Col (n0 : Nat) (w W : World) (xs : List Int) (ys : List (Pa.Pt × Nat)) (vn vt : Value) : Prop where
  bn : Boxed W n0 50 vn
  bt : Boxed W (n0 + 1) 170 vt
  rn : W.ownsRow n0 3 1 vn xs.length (intsL xs)
  rt : W.ownsRow n0 70 6 vt ys.length (heads ys)
  ne : ∀ g, vn.ownBlock = some g → vt.ownBlock ≠ some g
  bel : Below n0 w W
theorem Col.turn {n0 C : Nat} {w W W' : World} {xs : List Int} {ys : List (Pa.Pt × Nat)} {vn vt : Value} (h : Col n0 w W xs ys vn vt) (t : Turn C W W') (h1 : n0 ≤ C) (h2 : n0 ≤ w.heap.size) : Col n0 w W' xs ys vn vt :=
  ⟨Abides.boxed _ _ _ _ _ _ h.bn t, Abides.boxed _ _ _ _ _ _ h.bt t, row_turn h.rn t, row_turn h.rt t, h.ne, t.below h.bel h1 h2⟩
theorem app_only {W w1 : World} {B : Nat} {v v' : Value} {tmp : Obj} (hgrow : (W.alloc tmp).grownBy w1 v.ownBlock) : OnlyS (fun j => j = B ∨ v.ownBlock = some j) W (w1.setCell ⟨B, 0, none⟩ v') :=
  (OnlyS.grown (w1 := W.alloc tmp) (OnlyS.of_below (box_below W tmp)) hgrow (fun _ hj => .inl (.inr hj))).setIn B 0 v' (.inl (.inl rfl))
theorem Col.stepn {n0 : Nat} {w W w1 : World} {xs : List Int} {ys : List (Pa.Pt × Nat)} {vn vt v' : Value} {i : Int} {tmp : Obj} (h : Col n0 w W xs ys vn vt) (hown : w1.ownsRow n0 3 1 v' (xs.length + 1) (intsL xs ++ [.int .i64 i])) (hgrow : (W.alloc tmp).grownBy w1 vn.ownBlock) (hat : v'.ownBlock = vn.ownBlock ∨ v'.ownBlock = some (W.alloc tmp).heap.size) :
    (Boxed w1 n0 50 vn ∧ Boxed w1 (n0 + 1) 170 vt) ∧ Col n0 w (w1.setCell ⟨n0, 0, none⟩ v') (xs ++ [i]) ys v' vt ∧ KeepsOthers W (w1.setCell ⟨n0, 0, none⟩ v') ∧ Below n0 W (w1.setCell ⟨n0, 0, none⟩ v') := by
  obtain ⟨a1, a2, a3, a4, a5⟩ := h.bn.appended (by decide) h.rn (Nat.le_of_lt h.bn.lt) (Nat.le_refl _) hown hgrow
  have ho := app_only (B := n0) (v' := v') hgrow
  refine ⟨⟨a1, (h.bt.alloc tmp).kept hgrow (h.bt.not_row (by decide) h.rn)⟩, ⟨a2, ?_, ?_, ?_, ?_, h.bel.trans a5⟩, a4, a5⟩
  · refine (ho.block (n0 + 1) h.bt.lt ?_).trans h.bt
    rintro (q | q)
    · omega
    · exact h.bt.not_row (by decide) h.rn q.symm
  · rw [List.length_append, ints_snoc]; exact a3
  · refine row_keep h.rt fun g hg => ho.block g (h.rt.lt g hg).2 ?_
    rintro (q | q)
    · subst q; exact h.bn.not_row (by decide) h.rt hg.symm
    · exact h.ne g q hg
  · intro g hg hg2
    rcases hat with q | q
    · exact h.ne g (by rw [← q]; exact hg) hg2
    · rw [q] at hg
      have := (h.rt.lt g hg2).2
      simp at hg
      omega
theorem Col.stept {n0 : Nat} {w W w1 : World} {xs : List Int} {ys : List (Pa.Pt × Nat)} {vn vt v' : Value} {i : Pa.Pt × Nat} {tmp : Obj} (h : Col n0 w W xs ys vn vt) (hown : w1.ownsRow n0 70 6 v' (ys.length + 1) (heads ys ++ hcs i.1 i.2)) (hgrow : (W.alloc tmp).grownBy w1 vt.ownBlock) (hat : v'.ownBlock = vt.ownBlock ∨ v'.ownBlock = some (W.alloc tmp).heap.size) :
    Boxed w1 (n0 + 1) 170 vt ∧ Col n0 w (w1.setCell ⟨n0 + 1, 0, none⟩ v') xs (ys ++ [i]) vn v' ∧ KeepsOthers W (w1.setCell ⟨n0 + 1, 0, none⟩ v') ∧ Below n0 W (w1.setCell ⟨n0 + 1, 0, none⟩ v') := by
  obtain ⟨a1, a2, a3, a4, a5⟩ := h.bt.appended (by decide) h.rt (Nat.le_of_lt h.bn.lt) (Nat.le_succ _) hown hgrow
  have ho := app_only (B := n0 + 1) (v' := v') hgrow
  refine ⟨a1, ⟨?_, a2, ?_, ?_, ?_, h.bel.trans a5⟩, a4, a5⟩
  · refine (ho.block n0 h.bn.lt ?_).trans h.bn
    rintro (q | q)
    · omega
    · exact h.bn.not_row (by decide) h.rt q.symm
  · refine row_keep h.rn fun g hg => ho.block g (h.rn.lt g hg).2 ?_
    rintro (q | q)
    · subst q; exact h.bt.not_row (by decide) h.rn hg.symm
    · exact h.ne g hg q
  · rw [List.length_append, heads_snoc]; exact a3
  · intro g hg hg2
    rcases hat with q | q
    · exact h.ne g hg (by rw [← q]; exact hg2)
    · rw [q] at hg2
      have := (h.rn.lt g hg).2
      simp at hg2
      omega
theorem new_int (W : World) (k : Int) : ∀ j u, ([.int .i64 k] : List Value)[j]? = some u → (W.alloc (.cells #[.int .i64 k] 3)).cell? ((⟨W.heap.size, 0, none⟩ : Addr).add j) = some u := by
  intro j u hj
  rw [add_at]
  match j, hj with
  | 0, hj => simp at hj; subst hj; simp [go_sem]
def numsT (xs : List Told) : List Int := xs.map fun x => (x.1 : Int)
def valsT (xs : List Told) : List (Pa.Pt × Nat) := xs.map fun x => x.2
theorem one_head (p : Pa.Pt) (q : Nat) : ∀ u ∈ hcs p q, u.oneCell' = true := by
  intro u hu
  simp at hu
  rcases hu with rfl | rfl | rfl | rfl | rfl | rfl <;> rfl
theorem info_head : (Tryz.prog.info? 70).map (fun i => (i.zero, i.size, i.bytes)) = some (some (.agg #[.int .i64 0, .int .i64 0, .int .i64 0, .int .i64 0, .int .i64 0, .pointer none]), 6, 48) := by kernel_rfl
def BxT (W : World) (B : Nat) (p : Pa.Pt) (q : Nat) : Prop := W.heap[B]? = some (.cells (hca p q) 70 (0, 0))
theorem BxT.lt {W : World} {B q : Nat} {p : Pa.Pt} (h : BxT W B p q) : B < W.heap.size := (Array.getElem?_eq_some_iff.1 h).1
theorem BxT.cells {W : World} {B q : Nat} {p : Pa.Pt} (h : BxT W B p q) : Bxd W B p q := by
  have e : ∀ k, W.cell? ⟨B, k, none⟩ = (hca p q)[k]? := fun k => by unfold World.cell?; simp [show W.heap[B]? = _ from h]
  exact ⟨e 0, e 1, e 2, e 3, e 4, e 5⟩
theorem BxT.grown {W w1 : World} {B q : Nat} {p : Pa.Pt} {v : Value} {tmp : Obj} (h : BxT W B p q) (hg : (W.alloc tmp).grownBy w1 v.ownBlock) (hn : v.ownBlock ≠ some B) : BxT w1 B p q :=
  (hg.block B (Nat.lt_of_lt_of_le h.lt (box_below W tmp).size) (fun e => hn (by rw [← e]))).trans (((box_below W tmp).block B h.lt).trans h)
theorem BxT.not_ints {W : World} {B q base n : Nat} {p : Pa.Pt} {v : Value} {xs : List Value} (h : BxT W B p q) (hr : W.ownsRow base 3 1 v n xs) : v.ownBlock ≠ some B := by
  intro e
  rcases hr.2 with ⟨rfl, _⟩ | ⟨g, cap, cur, rfl, _, hg, _⟩
  · simp [Value.ownBlock] at e
  · simp [Value.ownBlock] at e
    subst e
    rw [show W.heap[g]? = _ from h] at hg
    cases hg
theorem BxT.not_box {W : World} {B q n0 : Nat} {p : Pa.Pt} {v : Value} {ty : TypeId} (h : BxT W B p q) (hb : Boxed W n0 ty v) : B ≠ n0 := by
  intro e
  subst e
  have h1 : W.heap[B]? = _ := h
  rw [show W.heap[B]? = _ from hb] at h1
  cases h1
theorem keepsFrom_box (B : Nat) (W : World) (o : Obj) : KeepsFrom B W (W.alloc o) := ⟨by simp, fun k _ _ hk _ => (Below.heap_alloc W o k (Array.getElem?_eq_some_iff.1 hk).1).trans hk⟩
def ColI (w : World) (pre : List Told) (W : World) : Prop := ∃ vn vt, Col w.heap.size w W (numsT pre) (valsT pre) vn vt
theorem ColI.abides {w : World} {C : Nat} {pre : List Told} (h1 : w.heap.size ≤ C) : Abides C (ColI w pre) := by
  rintro W W' ⟨vn, vt, h⟩ t
  exact ⟨vn, vt, h.turn t h1 (Nat.le_refl _)⟩
def GivesSeq (w : World) (xs : List Told) (e : Ending) (w' : World) : Prop :=
  ∃ vn vt, e = .returned (.func (.func 136) #[] #[wp w.heap.size, wp (w.heap.size + 1)]) ∧ Col w.heap.size w w' (numsT xs) (valsT xs) vn vt
set_option maxRecDepth 100000 in
set_option maxHeartbeats 4000000 in
theorem used_any {pv : Value} {xs : List Told} {w : World} (hs : Tells Tryz.prog 135 #[pv] #[] encT (· < w.heap.size) xs w) (hl : xs.length ≤ 5000) :
    Calls Tryz.prog 85 #[pv] w (GivesSeq w xs) := by
  refine (callsIn_wide (n := 9)).1 ?_
  refine callsIn_of_wp_marks Tryz.func85 rfl trivial ?_ rfl
  simp only [Tryz.ntmps85, List.size_toArray, List.length_cons, List.length_nil, Nat.reduceAdd, Nat.reduceSub, Array.replicate_succ, Array.replicate_zero, List.push_toArray, List.append_toArray, List.nil_append, List.cons_append]
  have HS := Lib.hid hs
  clear hs
  gi_wp2
  obtain ⟨w3, hw3⟩ : ∃ w3, (w.alloc (.cells #[.slice none 0 0] 50)).alloc (.cells #[.slice none 0 0] 170) = w3 := ⟨_, rfl⟩
  have hb3 : Below w.heap.size w w3 := by rw [← hw3]; exact ((Below.refl _ w).alloc (Nat.le_refl _) _).alloc (by simp) _
  have hf3 : Col w.heap.size w w3 [] [] (.slice none 0 0) (.slice none 0 0) := by
    refine ⟨?_, ?_, World.ownsRow_nil _ _ _ _, World.ownsRow_nil _ _ _ _, by simp [Value.ownBlock], hb3⟩
    · rw [← hw3]; exact (Boxed.new w 50 _).alloc _
    · rw [← hw3]
      have := Boxed.new (w.alloc (.cells #[.slice none 0 0] 50)) 170 (.slice none 0 0)
      rw [World.size_alloc] at this
      exact this
  rw [hw3]
  clear hw3
  have hz3 := hb3.size
  have HF := Lib.hid hf3
  clear hf3
  obtain ⟨i0, hi, hz0, hz1, hz2⟩ := info_parts info_int
  obtain ⟨i1, gi, gz0, gz1, gz2⟩ := info_parts info_head
  refine wp_range (α := Told) (encs := encT) (xs := xs) (S := (· < w.heap.size)) rfl (enters_of Tryz.func135 (by kernel_rfl) rfl) (HS.out.later hb3) (fun _ hk => Nat.lt_of_lt_of_le hk hb3.size) (fun _ => rfl)
    (ColI w) (fun _ _ _ => False)
    (fun pre x a' W => ColI w pre W ∧ ∃ B, BxT W B x.2.1 x.2.2 ∧
      a' = { tmps := #[pv, undef, .nilFunc, wp w.heap.size, wp (w.heap.size + 1), .int .i64 (x.1 : Int), wp B, pv, .func (.func 135) #[pv] #[], .int .i64 (x.1 : Int), hv x.2.1 x.2.2, undef, undef, undef, undef, undef, undef, undef, undef, undef], defers := [] })
    ?hI ?hIx ?hA ⟨_, _, HF.out⟩ ?assign ?body ?done ?stop
  case hI => exact fun s => ColI.abides hz3
  case hIx => exact fun _ _ _ _ h _ => h
  case hA =>
    rintro s x a' W W' ⟨h1, B, hB, h6⟩ t
    exact ⟨ColI.abides hz3 _ _ h1 t, B, t.cells _ _ hB rfl, h6⟩
  case assign =>
    rintro l pre x W hi
    have HI := Lib.hid (ColI.abides hz3 _ _ hi (Turn.later (box_below W (.cells (hca x.2.1 x.2.2) 70))))
    have HB := Lib.hid (show BxT (W.alloc (.cells (hca x.2.1 x.2.2) 70)) W.heap.size x.2.1 x.2.2 from World.alloc_heap_new W _)
    have HKf := Lib.hid (keepsFrom_box w3.heap.size W (.cells (hca x.2.1 x.2.2) 70))
    have hzw : w.heap.size ≤ W.heap.size := by
      obtain ⟨_, _, hc⟩ := hi
      exact hc.bel.size
    have HKs := Lib.hid (keeps_of (S := (· < w.heap.size)) (box_below W (.cells (hca x.2.1 x.2.2) 70)) (fun k hk => Nat.lt_of_lt_of_le hk hzw))
    clear hi hzw
    obtain ⟨xi, ⟨pa, pb, pc, pd, pe⟩, xq⟩ := x
    gi_wp2
    exact ⟨HKf.out, HKs.out, HI.out, HB.out⟩
  case body =>
    rintro l pre x post a' W hx ⟨⟨vn, vt, hc⟩, B, hB, rfl⟩
    have hlen : pre.length < 5000 := by
      have := congrArg List.length hx
      simp at this
      omega
    have n1 : (numsT pre).length < 5000 := by simp [numsT]; omega
    have n2 : (valsT pre).length < 5000 := by simp [valsT]; omega
    have c0 := hc.bn.cell
    have f0 := hc.bn.frozen
    have hzW := hc.bel.size
    have hBn := hB.not_box hc.bn
    have HBn := Lib.hid (hB.not_ints hc.rn)
    have HB := Lib.hid hB
    clear hx hB
    have e1 : numsT (pre ++ [x]) = numsT pre ++ [(x.1 : Int)] := by simp [numsT]
    have e2 : valsT (pre ++ [x]) = valsT pre ++ [x.2] := by simp [valsT]
    have HE1 := Lib.hid e1
    have HE2 := Lib.hid e2
    clear e1 e2
    obtain ⟨xi, ⟨pa, pb, pc, pd, pe⟩, xq⟩ := x
    simp only at HB HE1 HE2
    gi_wp2_with (first
      | (gi_at_builtin; refine wpListIn_append_own_at _ rfl (.tmp 11) (.tmp 13) 50 rfl w.heap.size 3 i0 (.int .i64 0) 1 8 Tryz.underlying50 hi hz0 hz1 hz2 rfl (by decide) _ _ _ rfl (hc.rn.alloc _) ⟨W.heap.size, 0, none⟩ 1 1 [.int .i64 (xi : Int)] rfl rfl (new_int W _) (one_nat _) (by unfold maxLen; omega) (by omega) (by simp; omega) ?_; intro v' w1 hown' hgrow _ hat; obtain ⟨g', cap', rfl⟩ := ownsRow_succ hown'; obtain ⟨⟨hv1, hv2⟩, hc2, hk2, hb2⟩ := hc.stepn hown' hgrow hat; have hc1 := hv1.cell; have hf1 := hv1.frozen; have hc3 := hv2.cell; have hf3 := hv2.frozen; have hzw := hb2.size; have hlt2 := hc2.bt.lt; have hb3' := HB.out.grown hgrow HBn.out; have d0 := hb3'.cells.c0; have d1 := hb3'.cells.c1; have d2 := hb3'.cells.c2; have d3 := hb3'.cells.c3; have d4 := hb3'.cells.c4; have d5 := hb3'.cells.c5; have hBl := hb3'.lt; simp only at d0 d1 d2 d3 d4)
      | (gi_at_builtin; refine wpListIn_append_own_at _ rfl (.tmp 15) (.tmp 17) 170 rfl w.heap.size 70 i1 (.agg #[.int .i64 0, .int .i64 0, .int .i64 0, .int .i64 0, .int .i64 0, .pointer none]) 6 48 Tryz.underlying170 gi gz0 gz1 gz2 rfl (by decide) _ _ _ rfl (hc2.rt.alloc _) ⟨w1.heap.size, 0, none⟩ 1 1 (hcs ⟨pa, pb, pc, pd, pe⟩ xq) rfl rfl ?c1 (one_head _ _) (by unfold maxLen; omega) (by omega) ?c2 ?_))
    case c2 => have hz9 : (w1.setCell ⟨w.heap.size, 0, none⟩ (.slice (some ⟨g', 0, none⟩) ((numsT pre).length + 1) cap')).heap.size = w1.heap.size := by simp [World.setCell]
               omega
    intro v2 w5 hown2 hgrow2 _ hat2
    obtain ⟨g2, cap2, rfl⟩ := ownsRow_succ hown2
    have hat3 : (Value.slice (some ⟨g2, 0, none⟩) ((valsT pre).length + 1) cap2).ownBlock = vt.ownBlock ∨ (Value.slice (some ⟨g2, 0, none⟩) ((valsT pre).length + 1) cap2).ownBlock = some ((w1.setCell ⟨w.heap.size, 0, none⟩ (.slice (some ⟨g', 0, none⟩) ((numsT pre).length + 1) cap')).alloc (.cells (hca ⟨pa, pb, pc, pd, pe⟩ xq) 70)).heap.size := by
      rcases hat2 with q | q
      · exact .inl q
      · right; rw [q]; simp
    obtain ⟨hv5, hc5, hk5, hb5⟩ := hc2.stept (i := (⟨pa, pb, pc, pd, pe⟩, xq)) hown2 hgrow2 hat3
    have hc6 := hv5.cell
    have hf6 := hv5.frozen
    have HC5 := Lib.hid hc5
    have HK := Lib.hid (hk2.trans hk5)
    have HB := Lib.hid (hb2.trans hb5)
    clear hown' hown2 hgrow hgrow2 hat hat2 hat3 hc2 hc5 hk2 hk5 hb2 hb5 hc d0 d1 d2 d3 d4 d5 hb3'
    gi_wp2
    refine ⟨HK.out.from _, keeps_of HB.out (fun _ hk => hk), ?_⟩
    unfold ColI
    rw [HE1.out, HE2.out]
    exact ⟨_, _, HC5.out⟩
  case done =>
    rintro D W hD ⟨vn, vt, hc⟩ hd
    have HD := Lib.hid hd
    have HC := Lib.hid hc
    clear hd hc
    gi_wp2
    refine ⟨by simp, .inl ⟨_, _, rfl, run_takeDeferred HD.out, ?_⟩⟩
    exact ⟨_, results_tmp rfl _ _ _, vn, vt, rfl, HC.out.turn (Turn.put _ (Nat.le_trans hz3 hD) HD.out rfl) (Nat.le_refl _) (Nat.le_refl _)⟩
  case stop =>
    rintro D c pre post W _ _ h _
    exact h.elim
def OfCol (n0 : Nat) (vn vt : Value) (k : Nat) : Prop := k = n0 ∨ k = n0 + 1 ∨ vn.ownBlock = some k ∨ vt.ownBlock = some k
theorem Col.lt {n0 : Nat} {w W : World} {xs : List Int} {ys : List (Pa.Pt × Nat)} {vn vt : Value} (h : Col n0 w W xs ys vn vt) {k : Nat} (hk : OfCol n0 vn vt k) : n0 ≤ k ∧ k < W.heap.size := by
  rcases hk with rfl | rfl | hk | hk
  · exact ⟨Nat.le_refl _, h.bn.lt⟩
  · exact ⟨Nat.le_succ _, h.bt.lt⟩
  · exact h.rn.lt k hk
  · exact h.rt.lt k hk
structure Two (n0 : Nat) (W : World) (xs : List Int) (ys : List (Pa.Pt × Nat)) (vn vt : Value) : Prop where
  bn : Boxed W n0 50 vn
  bt : Boxed W (n0 + 1) 170 vt
  rn : W.ownsRow n0 3 1 vn xs.length (intsL xs)
  rt : W.ownsRow n0 70 6 vt ys.length (heads ys)
theorem Col.two {n0 : Nat} {w W W' : World} {xs : List Int} {ys : List (Pa.Pt × Nat)} {vn vt : Value} (h : Col n0 w W xs ys vn vt) (hk : ∀ k, OfCol n0 vn vt k → W'.heap[k]? = W.heap[k]?) : Two n0 W' xs ys vn vt :=
  ⟨(hk _ (.inl rfl)).trans h.bn, (hk _ (.inr (.inl rfl))).trans h.bt, row_keep h.rn fun g hg => hk g (.inr (.inr (.inl hg))), row_keep h.rt fun g hg => hk g (.inr (.inr (.inr hg)))⟩
theorem ints_cell {W : World} {base g n c : Nat} {xs : List Int} (h : W.ownsRow base 3 1 (.slice (some ⟨g, 0, none⟩) n c) xs.length (intsL xs)) {j : Nat} (hj : j < xs.length) : W.cell? ⟨g, j, none⟩ = some (.int .i64 xs[j]) := by
  have := h.cells (g := g) rfl j (.int .i64 xs[j]) (by simp [intsL, hj])
  rw [add_at] at this
  exact this
theorem heads_at (ys : List (Pa.Pt × Nat)) (i j : Nat) (h : i < ys.length) (hj : j < 6) : (heads ys)[i * 6 + j]? = (hcs ys[i].1 ys[i].2)[j]? := by
  induction ys generalizing i with
  | nil => simp at h
  | cons y ys ih =>
    have e : heads (y :: ys) = hcs y.1 y.2 ++ heads ys := by simp [heads]
    cases i with
    | zero => rw [e, Nat.zero_mul, Nat.zero_add, List.getElem?_append_left (by simpa using hj)]; rfl
    | succ i =>
      rw [e, List.getElem?_append_right (by simp; omega), show (i + 1) * 6 + j - (hcs y.1 y.2).length = i * 6 + j by simp; omega, ih i (by simpa using h)]
      simp
theorem head_cell {W : World} {base g n c : Nat} {ys : List (Pa.Pt × Nat)} (h : W.ownsRow base 70 6 (.slice (some ⟨g, 0, none⟩) n c) ys.length (heads ys)) {i j : Nat} (hi : i < ys.length) (hj : j < 6) {u : Value} (hu : (hcs ys[i].1 ys[i].2)[j]? = some u) : W.cell? ⟨g, i * 6 + j, none⟩ = some u := by
  have := h.cells (g := g) rfl (i * 6 + j) u ((heads_at ys i j hi hj).trans hu)
  rw [add_at] at this
  exact this
theorem take_told (xs : List Told) {j : Nat} (h : j < xs.length) : xs = xs.take j ++ xs[j] :: xs.drop (j + 1) ∧ xs.take (j + 1) = xs.take j ++ [xs[j]] :=
  ⟨by rw [← List.drop_eq_getElem_cons h, List.take_append_drop], List.take_succ_eq_append_getElem h⟩
set_option maxRecDepth 100000 in
set_option maxHeartbeats 2000000 in
theorem seq_tells {w0 w : World} {n0 : Nat} {vn vt : Value} {xs : List Told} (h : Col n0 w0 w (numsT xs) (valsT xs) vn vt) (hl : xs.length ≤ 5000) :
    Tells Tryz.prog 136 #[] #[wp n0, wp (n0 + 1)] encT (OfCol n0 vn vt) xs w := by
  intro l J Jx W hW hJ hY h0
  have h2 : Two n0 W (numsT xs) (valsT xs) vn vt := h.two fun k hk => hW.block k (h.lt hk).2
  have HT : ∀ W', Keeps (OfCol n0 vn vt) W W' → Two n0 W' (numsT xs) (valsT xs) vn vt := fun W' hk => h.two fun k hk2 => (hk.block k hk2).trans (hW.block k (h.lt hk2).2)
  have HTT := Lib.hid HT
  have HJ := Lib.hid hJ
  have HY := Lib.hid hY
  have e1 : (numsT xs).length = xs.length := by simp [numsT]
  have e2 : (valsT xs).length = xs.length := by simp [valsT]
  obtain ⟨A, c, hA, hA2⟩ := row_slice h2.rn
  obtain ⟨B, d, hB, hB2⟩ := row_slice h2.rt
  rw [e1] at hA hA2
  rw [e2] at hB hB2
  subst hA hB
  have c0 := h2.bn.cell
  have HA := Lib.hid hA2
  have HB := Lib.hid hB2
  obtain ⟨n, hn⟩ : ∃ n, xs.length = n := ⟨_, rfl⟩
  have HN := Lib.hid hn
  rw [hn] at c0 hl
  clear hJ hY h h2 hW HT e1 e2 hA2 hB2 hn
  refine callsIn_of_wp Tryz.func136 rfl trivial ?_ rfl
  simp only [Tryz.ntmps136, List.size_toArray, List.length_cons, List.length_nil, Nat.reduceAdd, Nat.reduceSub, Array.replicate_succ, Array.replicate_zero, List.push_toArray, List.append_toArray, List.nil_append, List.cons_append]
  gi_wp2
  gi_loopw [8] (fun t wr => ∃ j : Nat, j ≤ n ∧ t = .int .i64 j ∧ J (xs.take j) wr ∧ Keeps (OfCol n0 (.slice A xs.length c) (.slice B xs.length d)) W wr) (fun t _ => n - (intOf t).toNat)
  case atStart => exact ⟨0, by omega, rfl, by simpa using h0, Keeps.refl _ _⟩
  case round =>
    obtain ⟨j, hj, rfl, hjj, hbj⟩ := hrel
    clear c0 h0
    by_cases hjn : j < n
    · have hjl : j < xs.length := by rw [HN.out]; exact hjn
      have h3 := HTT.out _ hbj
      rcases HA.out with q | ⟨ga, rfl⟩
      · have := HN.out; omega
      rcases HB.out with q | ⟨gb, rfl⟩
      · have := HN.out; omega
      have c1 := ints_cell h3.rn (j := j) (by simp [numsT]; exact hjl)
      have hvl : j < (valsT xs).length := by simp [valsT]; exact hjl
      have c2 := fun (k : Nat) (hk : k < 6) (u : Value) => head_cell h3.rt hvl hk (u := u)
      have c3 := h3.bt.cell
      rw [HN.out] at c3
      obtain ⟨x, hx⟩ : ∃ x, xs[j] = x := ⟨_, rfl⟩
      rw [show (numsT xs)[j]'(by simp [numsT]; exact hjl) = (x.1 : Int) by simp [numsT, hx]] at c1
      rw [show (valsT xs)[j]'hvl = x.2 by simp [valsT, hx]] at c2
      have b0 := c2 0 (by omega) _ rfl
      have b1 := c2 1 (by omega) _ rfl
      have b2 := c2 2 (by omega) _ rfl
      have b3 := c2 3 (by omega) _ rfl
      have b4 := c2 4 (by omega) _ rfl
      have b5 := c2 5 (by omega) _ rfl
      rw [Nat.add_zero] at b0
      obtain ⟨hs1, hs2⟩ := take_told xs hjl
      rw [hx] at hs1 hs2
      obtain ⟨fn, tmps, assign, body, hy, hR⟩ := HY.out _ x _ _ hs1 hjj
      have HS := Lib.hid hs2
      have HP := Lib.hid (show xs = (xs.take j ++ [x]) ++ xs.drop (j + 1) by rw [List.append_assoc]; exact hs1)
      have HK := Lib.hid hbj
      clear hs1 hs2 hx hjl h3 hbj hjj c2 hvl
      obtain ⟨xi, ⟨pa, pb, pc, pd, pe⟩, xq⟩ := x
      simp only at b0 b1 b2 b3 b4 b5 c1
      gi_wp2
      refine hR.mono ?_
      rintro e W3 (⟨rfl, hJ3, hk3⟩ | ⟨rfl, hJx3⟩)
      · have HB3 := Lib.hid (HK.out.trans hk3)
        clear hy hR c1 b0 b1 b2 b3 b4 b5 c3 hk3
        gi_wp2
        go_roundw
        case rel => exact ⟨j + 1, by omega, by go_num, by rw [HS.out]; exact hJ3, HB3.out⟩
        case measure => simp [intOf]; omega
      · gi_wp2
        refine bodyPost_ret (results_none rfl _ _ _) rfl ?_
        exact ⟨⟨_, rfl⟩, .inr ⟨_, _, HP.out, hJx3⟩⟩
    · obtain rfl : j = n := by omega
      gi_wp2
      go_end0
      refine ⟨⟨_, rfl⟩, .inl ?_⟩
      rw [List.take_of_length_le (Nat.le_of_eq HN.out)] at hjj
      exact hjj
end Go.Proofs.YtlhhopanegnliaaGreatDoor.An
namespace Go.Proofs.YtlhhopanegnliaaGreatDoor
open Go.Shelf
def sortA_ren : Go.Shelf.Ren := ⟨fun | 6 => 86 | 15 => 138 | 14 => 137 | 28 => 176 | 29 => 177 | 20 => 168 | 21 => 169 | 22 => 170 | 23 => 171 | 24 => 172 | 25 => 173 | 26 => 174 | 27 => 175 | 46 => 200 | 47 => 201 | 48 => 202 | 49 => 203 | 50 => 204 | 57 => 219 | n => n, fun | 22 => 89 | 24 => 30 | 25 => 134 | 3 => 3 | 39 => 174 | 0 => 0 | 53 => 215 | 55 => 153 | 4 => 4 | 46 => 209 | 45 => 208 | 50 => 127 | 5 => 5 | 9 => 9 | 66 => 228 | 70 => 232 | 76 => 240 | 77 => 97 | n => n, fun | n => n⟩
theorem sortA : Go.Proofs.SlLaysF0.n6 Tryz.prog sortA_ren := {
  mixed := by kernel_rfl
  f6 := ⟨Tryz.f86.name, by decide, Tryz.func86.trans (congrArg some (by kernel_rfl))⟩
  f14 := ⟨Tryz.f137.name, by decide, Tryz.func137.trans (congrArg some (by kernel_rfl))⟩
  f15 := Tryz.func138.trans (congrArg some (by kernel_rfl))
  f20 := ⟨Tryz.f168.name, by decide, Tryz.func168.trans (congrArg some (by kernel_rfl))⟩
  f21 := ⟨Tryz.f169.name, by decide, Tryz.func169.trans (congrArg some (by kernel_rfl))⟩
  f22 := ⟨Tryz.f170.name, by decide, Tryz.func170.trans (congrArg some (by kernel_rfl))⟩
  f23 := ⟨Tryz.f171.name, by decide, Tryz.func171.trans (congrArg some (by kernel_rfl))⟩
  f24 := ⟨Tryz.f172.name, by decide, Tryz.func172.trans (congrArg some (by kernel_rfl))⟩
  f25 := ⟨Tryz.f173.name, by decide, Tryz.func173.trans (congrArg some (by kernel_rfl))⟩
  f26 := ⟨Tryz.f174.name, by decide, Tryz.func174.trans (congrArg some (by kernel_rfl))⟩
  f27 := ⟨Tryz.f175.name, by decide, Tryz.func175.trans (congrArg some (by kernel_rfl))⟩
  f28 := Tryz.func176.trans (congrArg some (by kernel_rfl))
  f29 := Tryz.func177.trans (congrArg some (by kernel_rfl))
  f46 := ⟨Tryz.f200.name, by decide, Tryz.func200.trans (congrArg some (by kernel_rfl))⟩
  f47 := Tryz.func201.trans (congrArg some (by kernel_rfl))
  f48 := Tryz.func202.trans (congrArg some (by kernel_rfl))
  f49 := ⟨Tryz.f203.name, by decide, Tryz.func203.trans (congrArg some (by kernel_rfl))⟩
  f50 := ⟨Tryz.f204.name, by decide, Tryz.func204.trans (congrArg some (by kernel_rfl))⟩
  f57 := ⟨Tryz.f219.name, by decide, Tryz.func219.trans (congrArg some (by kernel_rfl))⟩
  t0 := Tryz.underlying0
  a0 := Tryz.isAgg0
  z0 := Tryz.sizeOf0
  v0 := Tryz.zeroValue0
  t3 := Tryz.underlying3
  a3 := Tryz.isAgg3
  z3 := Tryz.sizeOf3
  v3 := Tryz.zeroValue3
  t4 := Tryz.underlying4
  a4 := Tryz.isAgg4
  z4 := Tryz.sizeOf4
  v4 := Tryz.zeroValue4
  t5 := Tryz.underlying5
  a5 := Tryz.isAgg5
  z5 := Tryz.sizeOf5
  v5 := Tryz.zeroValue5
  t9 := Tryz.underlying9
  a9 := Tryz.isAgg9
  z9 := Tryz.sizeOf9
  v9 := Tryz.zeroValue9
  t22 := Tryz.underlying89
  a22 := Tryz.isAgg89
  z22 := Tryz.sizeOf89
  v22 := Tryz.zeroValue89
  t25 := Tryz.underlying134
  a25 := Tryz.isAgg134
  z25 := Tryz.sizeOf134
  v25 := Tryz.zeroValue134
  t39 := Tryz.underlying174
  a39 := Tryz.isAgg174
  z39 := Tryz.sizeOf174
  v39 := Tryz.zeroValue174
  t45 := Tryz.underlying208
  a45 := Tryz.isAgg208
  z45 := Tryz.sizeOf208
  v45 := Tryz.zeroValue208
  t46 := Tryz.underlying209
  a46 := Tryz.isAgg209
  z46 := Tryz.sizeOf209
  v46 := Tryz.zeroValue209
  t50 := Tryz.underlying127
  a50 := Tryz.isAgg127
  z50 := Tryz.sizeOf127
  v50 := Tryz.zeroValue127
  t53 := Tryz.underlying215
  a53 := Tryz.isAgg215
  z53 := Tryz.sizeOf215
  v53 := Tryz.zeroValue215
  t55 := Tryz.underlying153
  a55 := Tryz.isAgg153
  z55 := Tryz.sizeOf153
  v55 := Tryz.zeroValue153
  t66 := Tryz.underlying228
  a66 := Tryz.isAgg228
  z66 := Tryz.sizeOf228
  v66 := Tryz.zeroValue228
  t70 := Tryz.underlying232
  a70 := Tryz.isAgg232
  z70 := Tryz.sizeOf232
  v70 := Tryz.zeroValue232
  t76 := Tryz.underlying240
  a76 := Tryz.isAgg240
  z76 := Tryz.sizeOf240
  v76 := Tryz.zeroValue240
  t77 := Tryz.underlying97
  a77 := Tryz.isAgg97
  z77 := Tryz.sizeOf97
  v77 := Tryz.zeroValue97 }
end Go.Proofs.YtlhhopanegnliaaGreatDoor
