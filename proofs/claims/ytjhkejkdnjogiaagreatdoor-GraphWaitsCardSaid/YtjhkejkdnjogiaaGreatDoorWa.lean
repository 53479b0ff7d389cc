/- A table: where one waits first. -/
import Derived.Test.YtjhkejkdnjogiaaGreatDoorHd
import Derived.Test.YtjhkejkdnjogiaaGreatDoorRg
namespace Go.Proofs.YtjhkejkdnjogiaaGreatDoor
open Go Go.RowKit Go.Shelf
attribute [local go_sem] Oper.semAt_some
set_option maxRecDepth 100000

/-- a transaction's request among some -/
def hitL (tx : Int) (L : List Ws.Wt) : Option Ws.Wt := L.find? fun x => x.1 == tx
/-- .. at the first of some nodes -/
def hitP (hit : Pa.Pt → Option Ws.Wt) : List Pa.Pt → Option (Pa.Pt × Ws.Wt)
  | [] => none
  | p :: ps => match hit p with
    | some x => some (p, x)
    | none => hitP hit ps
theorem hitP_none {hit : Pa.Pt → Option Ws.Wt} : ∀ {ps : List Pa.Pt}, (∀ p, p ∈ ps → hit p = none) → hitP hit ps = none
  | [], _ => rfl
  | p :: ps, h => by
    unfold hitP
    rw [h p (by simp)]
    exact hitP_none fun q hq => h q (by simp [hq])
theorem hitP_at {hit : Pa.Pt → Option Ws.Wt} {p : Pa.Pt} {x : Ws.Wt} {post : List Pa.Pt} : ∀ {pre : List Pa.Pt}, (∀ q, q ∈ pre → hit q = none) → hit p = some x → hitP hit (pre ++ p :: post) = some (p, x)
  | [], _, hx => by
    show hitP hit (p :: post) = _
    unfold hitP
    rw [hx]
  | q :: pre, h, hx => by
    show hitP hit (q :: (pre ++ p :: post)) = _
    unfold hitP
    rw [h q (by simp)]
    exact hitP_at (fun r hr => h r (by simp [hr])) hx
theorem hit_cases (tx : Int) (L : List Ws.Wt) : (Ws.fndI tx L = -1 ∧ hitL tx L = none) ∨ ∃ k : Nat, ∃ hk : k < L.length, Ws.fndI tx L = (k : Int) ∧ hitL tx L = some L[k] := by
  unfold Ws.fndI hitL
  rcases Ws.idx_cases (fun x => x.1 == tx) L with ⟨h1, h2⟩ | ⟨k, hk, h1, h3, h4⟩
  · refine .inl ⟨h1, ?_⟩
    rw [List.find?_eq_none]
    intro x hx
    have := h2 x hx
    simpa using this
  · refine .inr ⟨k, hk, h1, ?_⟩
    rw [List.find?_eq_some_iff_getElem]
    exact ⟨h3, k, hk, rfl, fun j hj => by simpa using h4 j hj⟩
/-- a request in a block, cell by cell -/
structure Wcx (w : World) (K : Nat) (x : Ws.Wt) : Prop where
  c0 : w.cell? ⟨K, 0, none⟩ = some (.int .i64 x.1)
  c1 : w.cell? ⟨K, 1, none⟩ = some (.int .i64 x.2.1)
  c2 : w.cell? ⟨K, 2, none⟩ = some (.bool x.2.2.1)
  c3 : w.cell? ⟨K, 3, none⟩ = some (.bool x.2.2.2)
/-- the three results, in blocks -/
structure Res (R : Nat) (p : Pa.Pt) (x : Ws.Wt) (b : Bool) (w : World) : Prop where
  p : Pbx w R p
  x : Wcx w (R + 1) x
  b : w.cell? ⟨R + 1 + 1, 0, none⟩ = some (.bool b)
theorem Res.turn {B R : Nat} {p : Pa.Pt} {x : Ws.Wt} {b : Bool} {W W' : World} (h : Res R p x b W) (t : Turn B W W') : Res R p x b W' :=
  ⟨⟨t.cell h.p.c0, t.cell h.p.c1, t.cell h.p.c2, t.cell h.p.c3, t.cell h.p.c4⟩, ⟨t.cell h.x.c0, t.cell h.x.c1, t.cell h.x.c2, t.cell h.x.c3⟩, t.cell h.b⟩
theorem Res.lt {R : Nat} {p : Pa.Pt} {x : Ws.Wt} {b : Bool} {W : World} (h : Res R p x b W) : R + 1 + 1 < W.heap.size := cell_lt h.b
theorem Res.below {R : Nat} {p : Pa.Pt} {x : Ws.Wt} {b : Bool} {W W' : World} (h : Res R p x b W) (hb : Below W.heap.size W W') : Res R p x b W' := by
  have hl := h.lt
  have k : ∀ K o, K < W.heap.size → W'.cell? ⟨K, o, none⟩ = W.cell? ⟨K, o, none⟩ := fun K o hK => hb.cell (p := ⟨K, o, none⟩) hK
  exact ⟨⟨(k _ _ (by omega)).trans h.p.c0, (k _ _ (by omega)).trans h.p.c1, (k _ _ (by omega)).trans h.p.c2, (k _ _ (by omega)).trans h.p.c3, (k _ _ (by omega)).trans h.p.c4⟩,
    ⟨(k _ _ (by omega)).trans h.x.c0, (k _ _ (by omega)).trans h.x.c1, (k _ _ (by omega)).trans h.x.c2, (k _ _ (by omega)).trans h.x.c3⟩, (k _ _ (by omega)).trans h.b⟩
/-- three results are handed back -/
theorem results_wait {fn : Func} {q r s : Tmp} (h : fn.results = #[.cell q 25, .cell r 54, .cell s 4]) {tmps : Array Value} {w : World} {R : Nat} {p : Pa.Pt} {x : Ws.Wt} {b : Bool} (hq : tmps.getD q undef = .pointer (some ⟨R, 0, none⟩)) (hr : tmps.getD r undef = .pointer (some ⟨R + 1, 0, none⟩)) (hs : tmps.getD s undef = .pointer (some ⟨R + 1 + 1, 0, none⟩))
    (hR : Res R p x b w) : (results fn tmps).run Tryz.prog w = .ok (.tuple #[p.v, Ws.wv x, .bool b]) w := by
  have hq' : tmps[q]?.getD undef = .pointer (some ⟨R, 0, none⟩) := by simpa using hq
  have hr' : tmps[r]?.getD undef = .pointer (some ⟨R + 1, 0, none⟩) := by simpa using hr
  have hs' : tmps[s]?.getD undef = .pointer (some ⟨R + 1 + 1, 0, none⟩) := by simpa using hs
  simp [results, h, hq', hr', hs', go_sem, hR.p.c0, hR.p.c1, hR.p.c2, hR.p.c3, hR.p.c4, hR.x.c0, hR.x.c1, hR.x.c2, hR.x.c3, hR.b]
def zeroW : Ws.Wt := (0, 0, false, false)
def zeroP : Pa.Pt := ⟨0, 0, 0, 0, 0⟩
/-- what is told of where one waits -/
def waitV : Option (Pa.Pt × Ws.Wt) → Value
  | none => .tuple #[zeroP.v, Ws.wv zeroW, .bool false]
  | some (p, x) => .tuple #[p.v, Ws.wv x, .bool true]
structure WI (w : World) (D0 : Nat) (a : Option Addr) (tx : Int) (W : World) : Prop where
  b0 : Boxed W w.heap.size 27 (.pointer a)
  b1 : Boxed W (w.heap.size + 1) 3 (.int .i64 tx)
  r0 : PbT W (w.heap.size + 1 + 1) zeroP
  r1 : W.heap[w.heap.size + 1 + 1 + 1]? = some (.cells #[.int .i64 0, .int .i64 0, .bool false, .bool false] 54 (0, 0))
  r2 : Boxed W (w.heap.size + 1 + 1 + 1 + 1) 4 (.bool false)
  bel : Below w.heap.size w W
  sz : D0 ≤ W.heap.size
section
variable {w W W' w1 : World} {D0 : Nat} {a : Option Addr} {tx : Int}
theorem WI.turn (h : WI w D0 a tx W) (t : Turn D0 W W') (h1 : w.heap.size ≤ D0) : WI w D0 a tx W' :=
  ⟨Abides.boxed _ _ _ _ _ _ h.b0 t, Abides.boxed _ _ _ _ _ _ h.b1 t, t.cells _ _ h.r0 rfl, t.cells _ _ h.r1 rfl, Abides.boxed _ _ _ _ _ _ h.r2 t, t.below h.bel h1 (Nat.le_refl _), Nat.le_trans h.sz t.size⟩
theorem WI.below (h : WI w D0 a tx W) (hb : Below W.heap.size W W') : WI w D0 a tx W' :=
  ⟨(hb.block _ h.b0.lt).trans h.b0, (hb.block _ h.b1.lt).trans h.b1, (hb.block _ h.r0.lt).trans h.r0, (hb.block _ (lt_blk h.r1)).trans h.r1, (hb.block _ h.r2.lt).trans h.r2, h.bel.trans (hb.mono h.bel.size), Nat.le_trans h.sz hb.size⟩
theorem WI.res (h : WI w D0 a tx W) : Res (w.heap.size + 1 + 1) zeroP zeroW false W := by
  have e : ∀ k, W.cell? ⟨w.heap.size + 1 + 1 + 1, k, none⟩ = (#[.int .i64 0, .int .i64 0, .bool false, .bool false] : Array Value)[k]? := fun k => by unfold World.cell?; simp [h.r1]
  exact ⟨h.r0.cells, ⟨e 0, e 1, e 2, e 3⟩, h.r2.cell⟩
theorem WI.fz (h : WI w D0 a tx W) (k : Nat) : W.frozen? ⟨w.heap.size + 1 + 1, k, none⟩ = false ∧ W.frozen? ⟨w.heap.size + 1 + 1 + 1, k, none⟩ = false ∧ W.frozen? ⟨w.heap.size + 1 + 1 + 1 + 1, k, none⟩ = false :=
  ⟨by unfold World.frozen?; simp [show W.heap[w.heap.size + 1 + 1]? = _ from h.r0], by unfold World.frozen?; simp [h.r1], by unfold World.frozen?; simp [show W.heap[w.heap.size + 1 + 1 + 1 + 1]? = _ from h.r2]⟩
end
abbrev tenSet (W : World) (R : Nat) (p : Pa.Pt) (x : Ws.Wt) (b : Bool) : World :=
  (((((((((W.setCell ⟨R, 0, none⟩ (.int .i64 p.a)).setCell ⟨R, 1, none⟩ (.int .i64 p.b)).setCell ⟨R, 2, none⟩ (.int .i64 p.c)).setCell ⟨R, 3, none⟩ (.int .i64 p.d)).setCell ⟨R, 4, none⟩ (.int .i64 p.e)).setCell ⟨R + 1, 0, none⟩ (.int .i64 x.1)).setCell ⟨R + 1, 1, none⟩ (.int .i64 x.2.1)).setCell ⟨R + 1, 2, none⟩ (.bool x.2.2.1)).setCell ⟨R + 1, 3, none⟩ (.bool x.2.2.2)).setCell ⟨R + 1 + 1, 0, none⟩ (.bool b)
theorem ten_only (W : World) (R : Nat) (p : Pa.Pt) (x : Ws.Wt) (b : Bool) : OnlyS (fun k => k = R ∨ k = R + 1 ∨ k = R + 1 + 1) W (tenSet W R p x b) :=
  ((((((((((OnlyS.refl _ W).setIn R 0 _ (.inl (.inl rfl))).setIn R 1 _ (.inl (.inl rfl))).setIn R 2 _ (.inl (.inl rfl))).setIn R 3 _ (.inl (.inl rfl))).setIn R 4 _ (.inl (.inl rfl))).setIn (R + 1) 0 _ (.inl (.inr (.inl rfl)))).setIn (R + 1) 1 _ (.inl (.inr (.inl rfl)))).setIn (R + 1) 2 _ (.inl (.inr (.inl rfl)))).setIn (R + 1) 3 _ (.inl (.inr (.inl rfl)))).setIn (R + 1 + 1) 0 _ (.inl (.inr (.inr rfl)))
theorem ten_res {W : World} {R : Nat} {p0 : Pa.Pt} {x0 : Ws.Wt} {b0 : Bool} (h : Res R p0 x0 b0 W) (p : Pa.Pt) (x : Ws.Wt) (b : Bool) : Res R p x b (tenSet W R p x b) := by
  obtain ⟨⟨a0, a1, a2, a3, a4⟩, ⟨c0, c1, c2, c3⟩, d0⟩ := h
  refine ⟨⟨?_, ?_, ?_, ?_, ?_⟩, ⟨?_, ?_, ?_, ?_⟩, ?_⟩ <;> simp [go_sem, a0, a1, a2, a3, a4, c0, c1, c2, c3, d0]
theorem heap5 (w : World) (o0 o1 o2 o3 o4 : Obj) : let W := ((((w.alloc o0).alloc o1).alloc o2).alloc o3).alloc o4
    W.heap[w.heap.size]? = some o0 ∧ W.heap[w.heap.size + 1]? = some o1 ∧ W.heap[w.heap.size + 1 + 1]? = some o2 ∧ W.heap[w.heap.size + 1 + 1 + 1]? = some o3 ∧ W.heap[w.heap.size + 1 + 1 + 1 + 1]? = some o4 ∧ Below w.heap.size w W ∧ W.heap.size = w.heap.size + 1 + 1 + 1 + 1 + 1 := by
  intro W
  have s1 : (w.alloc o0).heap.size = w.heap.size + 1 := by simp
  have s2 : ((w.alloc o0).alloc o1).heap.size = w.heap.size + 1 + 1 := by simp
  have s3 : (((w.alloc o0).alloc o1).alloc o2).heap.size = w.heap.size + 1 + 1 + 1 := by simp
  have s4 : ((((w.alloc o0).alloc o1).alloc o2).alloc o3).heap.size = w.heap.size + 1 + 1 + 1 + 1 := by simp
  have h0 := World.alloc_heap_new w o0
  have h1 := World.alloc_heap_new (w.alloc o0) o1
  have h2 := World.alloc_heap_new ((w.alloc o0).alloc o1) o2
  have h3 := World.alloc_heap_new (((w.alloc o0).alloc o1).alloc o2) o3
  have h4 := World.alloc_heap_new ((((w.alloc o0).alloc o1).alloc o2).alloc o3) o4
  rw [s1] at h1
  rw [s2] at h2
  rw [s3] at h3
  rw [s4] at h4
  have b1 := box_below (w.alloc o0) o1
  have b2 := box_below ((w.alloc o0).alloc o1) o2
  have b3 := box_below (((w.alloc o0).alloc o1).alloc o2) o3
  have b4 := box_below ((((w.alloc o0).alloc o1).alloc o2).alloc o3) o4
  refine ⟨?_, ?_, ?_, ?_, h4, ?_, by simp [W]⟩
  · exact (b4.block _ (by omega)).trans ((b3.block _ (by omega)).trans ((b2.block _ (by omega)).trans ((b1.block _ (by omega)).trans h0)))
  · exact (b4.block _ (by omega)).trans ((b3.block _ (by omega)).trans ((b2.block _ (by omega)).trans h1))
  · exact (b4.block _ (by omega)).trans ((b3.block _ (by omega)).trans h2)
  · exact (b4.block _ (by omega)).trans h3
  · have b0 := box_below w o0
    exact b0.trans ((b1.mono (by omega)).trans ((b2.mono (by omega)).trans ((b3.mono (by omega)).trans (b4.mono (by omega)))))
set_option maxHeartbeats 8000000 in
theorem waiting_nil {a : Option Addr} {tx : Int} {w : World} (hP : ∀ W, Below w.heap.size w W → Calls Tryz.prog 38 #[.pointer a] W (PathsOf W [])) :
    Calls Tryz.prog 23 #[.pointer a, .int .i64 tx] w fun e w' => e = .returned (waitV none) ∧ Below w.heap.size w w' := by
  refine (callsIn_wide (n := 9)).1 ?_
  refine callsIn_of_wp_marks Tryz.func23 rfl trivial ?_ rfl
  simp only [Tryz.ntmps23, List.size_toArray, List.length_cons, List.length_nil, Nat.reduceAdd, Nat.reduceSub, Array.replicate_succ, Array.replicate_zero, List.push_toArray, List.append_toArray, List.nil_append, List.cons_append]
  refine wpIn_wide.2 ?_
  have h5 := heap5 w (.cells #[.pointer a] 27) (.cells #[.int .i64 tx] 3) (.cells #[.int .i64 0, .int .i64 0, .int .i64 0, .int .i64 0, .int .i64 0] 25) (.cells #[.int .i64 0, .int .i64 0, .bool false, .bool false] 54) (.cells #[.bool false] 4)
  simp only at h5
  obtain ⟨o0, o1, o2, o3, o4, ob, hsz⟩ := h5
  have hw : WI w (w.heap.size + 1 + 1 + 1 + 1 + 1) a tx (((((w.alloc (.cells #[.pointer a] 27)).alloc (.cells #[.int .i64 tx] 3)).alloc (.cells #[.int .i64 0, .int .i64 0, .int .i64 0, .int .i64 0, .int .i64 0] 25)).alloc (.cells #[.int .i64 0, .int .i64 0, .bool false, .bool false] 54)).alloc (.cells #[.bool false] 4)) :=
    ⟨o0, o1, o2, o3, o4, ob, Nat.le_of_eq hsz.symm⟩
  have HP := Lib.hid (hP _ hw.bel)
  have H0 := Lib.hid hw
  clear hP hw o0 o1 o2 o3 o4 ob
  go_wp2_with fail
  generalize ((((w.alloc (.cells #[.pointer a] 27)).alloc (.cells #[.int .i64 tx] 3)).alloc (.cells #[.int .i64 0, .int .i64 0, .int .i64 0, .int .i64 0, .int .i64 0] 25)).alloc (.cells #[.int .i64 0, .int .i64 0, .bool false, .bool false] 54)).alloc (.cells #[.bool false] 4) = w2 at *
  refine HP.out.mono ?_
  rintro e w3 ⟨B, pv, rfl, hbx, hrow, hb3, hB⟩
  have H3 := Lib.hid (H0.out.below hb3)
  have hz3 := hb3.size
  have HTl := Lib.hid (vals_tells hbx hrow (by simp))
  have HLt := Lib.hid (show ∀ k, OfRow B pv k → w2.heap.size ≤ k ∧ k < w3.heap.size from fun k hk => by
    rcases hk with rfl | hk
    · exact ⟨by omega, hbx.lt⟩
    · have := hrow.lt k hk; exact ⟨by omega, this.2⟩)
  clear hbx hrow hb3 hB HP H0
  go_wp2_with fail
  refine (wpIn_wide (n := 9)).1 ?_
  refine wp_range (α := Pa.Pt) (encs := encP) (xs := []) (S := OfRow B pv) rfl (enters_of Tryz.func116 (by kernel_rfl) rfl) HTl.out (fun k hk => (HLt.out k hk).2) (fun _ => rfl)
    (fun _ W => WI w w3.heap.size a tx W)
    (fun _ _ _ => False)
    (fun _ _ _ _ => True)
    ?hI ?hIx ?hA ⟨H3.out.b0, H3.out.b1, H3.out.r0, H3.out.r1, H3.out.r2, H3.out.bel, Nat.le_refl _⟩ ?assign ?body ?done ?stop
  case hI => exact fun s X Y h t => h.turn t (by omega)
  case hIx => exact fun _ _ _ _ h _ => h
  case hA => exact fun _ _ _ _ _ h _ => h
  case assign =>
    rintro l pre p W hi
    have HKf := Lib.hid (An.keepsFrom_box w3.heap.size W (.cells (pcs p) 25))
    have HKs := Lib.hid (keeps_of (S := OfRow B pv) (box_below W (.cells (pcs p) 25)) (fun k hk => Nat.lt_of_lt_of_le (HLt.out k hk).2 hi.sz))
    clear hi
    obtain ⟨pa, pb, pc, pd, pe⟩ := p
    gi_wp2
    first | exact ⟨HKf.out, HKs.out⟩ | exact ⟨HKf.out, HKs.out, trivial⟩
  case body =>
    rintro l pre p post a' W hx _
    simp at hx
  case done =>
    rintro D X hDD hf hd
    have HDd := Lib.hid hd
    have HF1 := Lib.hid hf
    have hR := hf.res
    obtain ⟨⟨a0, a1, a2, a3, a4⟩, ⟨g0, g1, g2, g3⟩, d0⟩ := hR
    have f0 := fun o => (hf.fz o).1
    have f1 := fun o => (hf.fz o).2.1
    have f2 := fun o => (hf.fz o).2.2
    have hrl := hf.res.lt
    have HE := Lib.hid (ten_res hf.res zeroP zeroW false)
    have HO := Lib.hid (ten_only X (w.heap.size + 1 + 1) zeroP zeroW false)
    simp only [zeroP, zeroW] at a0 a1 a2 a3 a4 g0 g1 g2 g3
    clear hf hd
    dsimp only [Exit.inBlock, Exit.then]
    rename_i hK0
    refine hK0 _ _ ?_
    clear hK0
    go_wp2_with fail
    have hd' := (HO.out.block D (Array.getElem?_eq_some_iff.1 HDd.out).1 (by omega)).trans HDd.out
    refine ⟨by simp, .inl ⟨_, _, rfl, run_takeDeferred hd', ?_⟩⟩
    have ht := Turn.put (B := w.heap.size) (.deferred none) (by omega) hd' rfl
    have hb := HO.out.below (B := w.heap.size) (fun k hk => by omega) HF1.out.bel.size
    exact ⟨_, results_wait rfl rfl rfl rfl (HE.out.turn ht), rfl, ht.below (HF1.out.bel.trans hb) (Nat.le_refl _) (Nat.le_refl _)⟩
  case stop =>
    rintro D c pre post W _ _ h _
    exact h.elim
theorem twaiting_none (tx : Int) (W : World) : Calls Tryz.prog 23 #[.pointer none, .int .i64 tx] W fun e w' => e = .returned (waitV none) ∧ Below W.heap.size W w' :=
  waiting_nil (fun W' _ => tpaths_none W')
end Go.Proofs.YtjhkejkdnjogiaaGreatDoor
/- The walk of the law that a table that nobody made has no locks, and that what is told of a node is a copy. -/
namespace Go.Proofs.YtjhkejkdnjogiaaGreatDoor
open Go Go.RowKit Go.Shelf
attribute [local go_sem] Oper.semAt_some
set_option maxRecDepth 100000

theorem gives_of {w0 : World} {f : Nat} {args : Array Value} {v : Value} (h : ∀ w, Calls Tryz.prog f args w fun e w' => e = .returned v ∧ Below w.heap.size w w') : Gives w0 f args v :=
  fun w' hb => acc hb (h w')
/-- what one that comes first to a node has there -/
theorem none_ask (tx md : Int) (p : Pa.Pt) : (askT 9 9 0 0 (fun _ => ([], [])) tx p md 0).2.2 = ([], []) ∨ ∃ k : Nat, 1 ≤ k ∧ (askT 9 9 0 0 (fun _ => ([], [])) tx p md 0).2.2 = ([(tx, (k : Int))], []) := by
  unfold askT
  simp only
  split
  · exact .inl rfl
  · by_cases hm : 1 ≤ md ∧ md ≤ 6
    · by_cases ht : 1 ≤ tx
      · have e := ask_alone (k := 0) ht hm.1 hm.2 (by omega)
        rw [show hold1 tx 0 = [] from rfl] at e
        rw [e]
        have hk : 1 ≤ supN 0 (kn md) := sup_pos 0 (by omega) _ (kn_le md) (by
          have : kn md ≠ 0 := fun e => (Hs.kn_zero md).1 e hm
          omega)
        have hh : hold1 tx (supN 0 (kn md)) = [(tx, ((supN 0 (kn md) : Nat) : Int))] := by unfold hold1; rw [if_neg (by omega)]
        rw [hh]
        right
        refine ⟨supN 0 (kn md), hk, ?_⟩
        simp [costV, szC]
      · have he : errR tx md 0 [] ≠ 0 := by
          rcases errR_cases tx md 0 [] with ⟨_, q⟩ | ⟨q, _⟩ | ⟨q, _⟩
          · rw [q]; decide
          · have := ok3.1 q; omega
          · have := ok3.1 q; omega
        rw [ask_err rfl he]
        left
        rw [if_pos he]
    · rw [ask_bad hm]
      exact .inl rfl
end Go.Proofs.YtjhkejkdnjogiaaGreatDoor
