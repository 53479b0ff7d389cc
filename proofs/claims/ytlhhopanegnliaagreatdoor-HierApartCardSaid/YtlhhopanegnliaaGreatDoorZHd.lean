import Derived.Test.YtlhhopanegnliaaGreatDoorZPd
import Derived.Test.YtlhhopanegnliaaGreatDoorZRg
namespace Go.Proofs.YtlhhopanegnliaaGreatDoor
open Go Go.RowKit Go.Shelf
attribute [local go_sem] Oper.semAt_some
set_option maxRecDepth 100000

theorem callsIn_round {l n : Nat} {P : Program} {f : FuncId} {args : Array Value} {w : World} {R : Ending → World → Prop} (h : Calls P f args w R) : CallsIn (Fence.wide.inRound l) n P f args w R := (callsIn_wide (n := n)).2 h
theorem keepsFrom_below {W W' : World} (h : Below W.heap.size W W') (B : Nat) : KeepsFrom B W W' := ⟨h.size, fun k _ _ hk _ => (h.block k (Array.getElem?_eq_some_iff.1 hk).1).trans hk⟩
def PbT (W : World) (B : Nat) (p : Pa.Pt) : Prop := W.heap[B]? = some (.cells (pcs p) 30 (0, 0))
theorem PbT.lt {W : World} {B : Nat} {p : Pa.Pt} (h : PbT W B p) : B < W.heap.size := (Array.getElem?_eq_some_iff.1 h).1
theorem PbT.cells {W : World} {B : Nat} {p : Pa.Pt} (h : PbT W B p) : Pbx W B p := by
  have e : ∀ k, W.cell? ⟨B, k, none⟩ = (pcs p)[k]? := fun k => by unfold World.cell?; simp [show W.heap[B]? = _ from h]
  exact ⟨e 0, e 1, e 2, e 3, e 4⟩
abbrev Lk : Type := Pa.Pt × Int
def encLk (x : Lk) : List Value := [.int .i64 x.1.a, .int .i64 x.1.b, .int .i64 x.1.c, .int .i64 x.1.d, .int .i64 x.1.e, .int .i64 x.2]
abbrev lca (p : Pa.Pt) (m : Int) : Array Value := #[.int .i64 p.a, .int .i64 p.b, .int .i64 p.c, .int .i64 p.d, .int .i64 p.e, .int .i64 m]
def flatLk (ls : List Lk) : List Value := ls.flatMap encLk
theorem flatLk_snoc (ls : List Lk) (x : Lk) : flatLk (ls ++ [x]) = flatLk ls ++ encLk x := by simp [flatLk]
theorem new_lock (W : World) (p : Pa.Pt) (m : Int) : ∀ j u, (encLk (p, m))[j]? = some u → (W.alloc (.cells (lca p m) 39)).cell? ((⟨W.heap.size, 0, none⟩ : Addr).add j) = some u := by
  intro j u hj
  rw [add_at]
  match j, hj with
  | 0, hj => simp [encLk] at hj; subst hj; simp [go_sem]
  | 1, hj => simp [encLk] at hj; subst hj; simp [go_sem]
  | 2, hj => simp [encLk] at hj; subst hj; simp [go_sem]
  | 3, hj => simp [encLk] at hj; subst hj; simp [go_sem]
  | 4, hj => simp [encLk] at hj; subst hj; simp [go_sem]
  | 5, hj => simp [encLk] at hj; subst hj; simp [go_sem]
theorem one_lock (x : Lk) : ∀ u ∈ encLk x, u.oneCell' = true := by
  intro u hu
  simp [encLk] at hu
  rcases hu with rfl | rfl | rfl | rfl | rfl | rfl <;> rfl
theorem info_lock : (Tryz.prog.info? 39).map (fun i => (i.zero, i.size, i.bytes)) = some (some (.agg #[.int .i64 0, .int .i64 0, .int .i64 0, .int .i64 0, .int .i64 0, .int .i64 0]), 6, 48) := by kernel_rfl
def locksOf (mo : Pa.Pt → Int) (ps : List Pa.Pt) : List Lk := (ps.filter fun p => mo p != 0).map fun p => (p, mo p)
theorem locks_snoc_yes {mo : Pa.Pt → Int} (ps : List Pa.Pt) {p : Pa.Pt} (h : mo p ≠ 0) : locksOf mo (ps ++ [p]) = locksOf mo ps ++ [(p, mo p)] := by
  unfold locksOf
  rw [List.filter_append, List.filter_cons, if_pos (by simpa using h)]
  simp
theorem locks_snoc_no {mo : Pa.Pt → Int} (ps : List Pa.Pt) {p : Pa.Pt} (h : mo p = 0) : locksOf mo (ps ++ [p]) = locksOf mo ps := by
  unfold locksOf
  rw [List.filter_append, List.filter_cons, if_neg (by simp [h])]
  simp
theorem locks_len (mo : Pa.Pt → Int) (ps : List Pa.Pt) : (locksOf mo ps).length ≤ ps.length := by
  unfold locksOf
  rw [List.length_map]
  exact List.length_filter_le _ _
structure HI (w : World) (D0 : Nat) (a : Option Addr) (tx : Int) (ls : List Lk) (v : Value) (W : World) : Prop where
  b0 : Boxed W w.heap.size 24 (.pointer a)
  b1 : Boxed W (w.heap.size + 1) 3 (.int .i64 tx)
  b2 : Boxed W (w.heap.size + 1 + 1) 35 v
  rn : W.ownsRow D0 39 6 v ls.length (flatLk ls)
  bel : Below w.heap.size w W
  sz : D0 ≤ W.heap.size
section
variable {w W W' w1 : World} {D0 : Nat} {a : Option Addr} {tx : Int} {ls : List Lk} {v : Value}
theorem HI.turn (h : HI w D0 a tx ls v W) (t : Turn D0 W W') (h1 : w.heap.size ≤ D0) : HI w D0 a tx ls v W' :=
  ⟨Abides.boxed _ _ _ _ _ _ h.b0 t, Abides.boxed _ _ _ _ _ _ h.b1 t, Abides.boxed _ _ _ _ _ _ h.b2 t, An.row_turn h.rn t, t.below h.bel h1 (Nat.le_refl _), Nat.le_trans h.sz t.size⟩
theorem HI.below (h : HI w D0 a tx ls v W) (hb : Below W.heap.size W W') : HI w D0 a tx ls v W' :=
  ⟨(hb.block _ h.b0.lt).trans h.b0, (hb.block _ h.b1.lt).trans h.b1, (hb.block _ h.b2.lt).trans h.b2, row_below h.rn hb, h.bel.trans (hb.mono h.bel.size), Nat.le_trans h.sz hb.size⟩
theorem HI.step {x : Lk} {v' : Value} {tmp : Obj} (h : HI w D0 a tx ls v W) (h1 : w.heap.size + 1 + 1 < D0) (hown : w1.ownsRow D0 39 6 v' (ls.length + 1) (flatLk ls ++ encLk x)) (hgrow : (W.alloc tmp).grownBy w1 v.ownBlock) :
    Boxed w1 (w.heap.size + 1 + 1) 35 v ∧ HI w D0 a tx (ls ++ [x]) v' (w1.setCell ⟨w.heap.size + 1 + 1, 0, none⟩ v') ∧ KeepsOthers W (w1.setCell ⟨w.heap.size + 1 + 1, 0, none⟩ v') ∧ OnlyS (fun j => j = w.heap.size + 1 + 1 ∨ v.ownBlock = some j) W (w1.setCell ⟨w.heap.size + 1 + 1, 0, none⟩ v') := by
  have hsz := h.sz
  obtain ⟨a1, a2, a3, a4, a5⟩ := h.b2.appended (by decide) (row_base h.rn (Nat.le_of_lt h1)) (by omega) (Nat.le_refl _) (row_base hown (Nat.le_of_lt h1)) hgrow
  have ho := An.app_only (B := w.heap.size + 1 + 1) (v' := v') hgrow
  refine ⟨a1, ⟨?_, ?_, a2, ?_, h.bel.trans (a5.mono (by omega)), Nat.le_trans h.sz ho.size⟩, a4, ho⟩
  · refine (ho.block _ h.b0.lt ?_).trans h.b0
    rintro (q | q)
    · omega
    · have := (h.rn.lt _ q).1; omega
  · refine (ho.block _ h.b1.lt ?_).trans h.b1
    rintro (q | q)
    · omega
    · have := (h.rn.lt _ q).1; omega
  · rw [List.length_append, flatLk_snoc]
    exact ownsRow_setCell_below hown (a := ⟨w.heap.size + 1 + 1, 0, none⟩) h1 v'
end
def HeldOf (w : World) (ls : List Lk) (e : Ending) (w' : World) : Prop := ∃ v, e = .returned v ∧ w'.ownsRow w.heap.size 39 6 v ls.length (flatLk ls) ∧ Below w.heap.size w w'
set_option maxHeartbeats 4000000 in
theorem held_any {a : Option Addr} {ps : List Pa.Pt} {mo : Pa.Pt → Int} {tx : Int} {w : World} (hP : ∀ W, Below w.heap.size w W → Calls Tryz.prog 48 #[.pointer a] W (PathsOf W ps))
    (hM : ∀ p, p ∈ ps → ∀ W, Below w.heap.size w W → Calls Tryz.prog 64 #[.pointer a, .int .i64 tx, p.v] W fun e w' => e = .returned (.int .i64 (mo p)) ∧ Below W.heap.size W w') (hl : ps.length ≤ 1000) :
    Calls Tryz.prog 23 #[.pointer a, .int .i64 tx] w (HeldOf w (locksOf mo ps)) := by
  refine (callsIn_wide (n := 9)).1 ?_
  refine callsIn_of_wp_marks Tryz.func23 rfl trivial ?_ rfl
  simp only [Tryz.ntmps23, List.size_toArray, List.length_cons, List.length_nil, Nat.reduceAdd, Nat.reduceSub, Array.replicate_succ, Array.replicate_zero, List.push_toArray, List.append_toArray, List.nil_append, List.cons_append]
  refine wpIn_wide.2 ?_
  have HM := Lib.hid hM
  have hx0 := box_below w (.cells #[.pointer a] 24)
  have hx1 := box_below (w.alloc (.cells #[.pointer a] 24)) (.cells #[.int .i64 tx] 3)
  have hx2 := box_below ((w.alloc (.cells #[.pointer a] 24)).alloc (.cells #[.int .i64 tx] 3)) (.cells #[.slice none 0 0] 35)
  have e0 : Boxed (w.alloc (.cells #[.pointer a] 24)) w.heap.size 24 (.pointer a) := Boxed.new _ _ _
  have e1 : Boxed ((w.alloc (.cells #[.pointer a] 24)).alloc (.cells #[.int .i64 tx] 3)) (w.heap.size + 1) 3 (.int .i64 tx) := by
    have := Boxed.new (w.alloc (.cells #[.pointer a] 24)) 3 (.int .i64 tx)
    rw [World.size_alloc] at this
    exact this
  have e2 : Boxed (((w.alloc (.cells #[.pointer a] 24)).alloc (.cells #[.int .i64 tx] 3)).alloc (.cells #[.slice none 0 0] 35)) (w.heap.size + 1 + 1) 35 (.slice none 0 0) := by
    have := Boxed.new ((w.alloc (.cells #[.pointer a] 24)).alloc (.cells #[.int .i64 tx] 3)) 35 (.slice none 0 0)
    rw [World.size_alloc, World.size_alloc] at this
    exact this
  have hbw := hx0.trans ((hx1.mono hx0.size).trans (hx2.mono (Nat.le_trans hx0.size hx1.size)))
  have hsz : (((w.alloc (.cells #[.pointer a] 24)).alloc (.cells #[.int .i64 tx] 3)).alloc (.cells #[.slice none 0 0] 35)).heap.size = w.heap.size + 1 + 1 + 1 := by simp
  have HP := Lib.hid (hP _ hbw)
  have H0 := Lib.hid (show HI w (w.heap.size + 1 + 1 + 1) a tx [] (.slice none 0 0) (((w.alloc (.cells #[.pointer a] 24)).alloc (.cells #[.int .i64 tx] 3)).alloc (.cells #[.slice none 0 0] 35)) from
    ⟨(hx2.block _ (by simp; omega)).trans ((hx1.block _ (by simp)).trans e0), (hx2.block _ (by simp)).trans e1, e2, World.ownsRow_nil _ _ _ _, hbw, by rw [hsz]; exact Nat.le_refl _⟩)
  clear hM hP hx0 hx1 hx2 e0 e1 e2 hbw
  go_wp2_with fail
  generalize (((w.alloc (.cells #[.pointer a] 24)).alloc (.cells #[.int .i64 tx] 3)).alloc (.cells #[.slice none 0 0] 35)) = w2 at *
  refine HP.out.mono ?_
  rintro e w3 ⟨B, pv, rfl, hbx, hrow, hb3, hB⟩
  have H3 := Lib.hid (H0.out.below hb3)
  have hz3 := hb3.size
  have HTl := Lib.hid (vals_tells hbx hrow (by omega))
  have HLt := Lib.hid (show ∀ k, OfRow B pv k → w.heap.size + 1 + 1 + 1 ≤ k ∧ k < w3.heap.size from fun k hk => by
    rcases hk with rfl | hk
    · exact ⟨by omega, hbx.lt⟩
    · have := hrow.lt k hk; exact ⟨by omega, this.2⟩)
  clear hbx hrow hb3 hB HP H0
  have hD : w.heap.size + 1 + 1 < w3.heap.size := by omega
  go_wp2_with fail
  refine (wpIn_wide (n := 9)).1 ?_
  obtain ⟨i0, hi, hz0, hz1, hz2⟩ := info_parts info_lock
  refine wp_range (α := Pa.Pt) (encs := encP) (xs := ps) (S := OfRow B pv) rfl (enters_of Tryz.func140 (by kernel_rfl) rfl) HTl.out (fun k hk => (HLt.out k hk).2) (fun _ => rfl)
    (fun pre W => ∃ v, HI w w3.heap.size a tx (locksOf mo pre) v W) (fun _ _ _ => False)
    (fun pre p a' W => (∃ v, HI w w3.heap.size a tx (locksOf mo pre) v W) ∧ ∃ K, PbT W K p ∧
      a' = { tmps := #[.pointer a, .int .i64 tx, tp w.heap.size, tp (w.heap.size + 1), .slice none 0 0, tp (w.heap.size + 1 + 1), tp K, undef, .pointer a, .func (.func 140) #[] #[tp B], p.v, undef, undef, undef, undef, undef, undef, undef, undef, undef, undef, undef, undef, undef], defers := [] })
    ?hI ?hIx ?hA ⟨_, ⟨H3.out.b0, H3.out.b1, H3.out.b2, World.ownsRow_nil _ _ _ _, H3.out.bel, Nat.le_refl _⟩⟩ ?assign ?body ?done ?stop
  case hI =>
    rintro s X Y ⟨v, h⟩ t
    exact ⟨v, h.turn t (by omega)⟩
  case hIx => exact fun _ _ _ _ h _ => h
  case hA =>
    rintro s x a' X Y ⟨⟨v, h⟩, K, hK, h6⟩ t
    exact ⟨⟨v, h.turn t (by omega)⟩, K, t.cells _ _ hK rfl, h6⟩
  case assign =>
    rintro l pre p W ⟨v, hi⟩
    have HC := Lib.hid (show ∃ v, HI w w3.heap.size a tx (locksOf mo pre) v (W.alloc (.cells (pcs p) 30)) from ⟨v, hi.below (box_below W _)⟩)
    have HK := Lib.hid (show PbT (W.alloc (.cells (pcs p) 30)) W.heap.size p from World.alloc_heap_new W _)
    have HKf := Lib.hid (An.keepsFrom_box w3.heap.size W (.cells (pcs p) 30))
    have HKs := Lib.hid (keeps_of (S := OfRow B pv) (box_below W (.cells (pcs p) 30)) (fun k hk => Nat.lt_of_lt_of_le (HLt.out k hk).2 hi.sz))
    clear hi
    obtain ⟨pa, pb, pc, pd, pe⟩ := p
    gi_wp2
    first | exact ⟨HKf.out, HKs.out, HC.out, HK.out⟩ | exact ⟨HKf.out, HKs.out, HC.out, W.heap.size, HK.out, by simp⟩
  case body =>
    rintro l pre p post a' W hx ⟨⟨v, hc⟩, K, hK, rfl⟩
    have hmem : p ∈ ps := by rw [hx]; simp
    have hlen : (locksOf mo pre).length < 1000 := by
      have := congrArg List.length hx
      have h2 := locks_len mo pre
      simp at this
      omega
    have HMo := Lib.hid (HM.out p hmem W hc.bel)
    have HC := Lib.hid hc
    have c0 := hc.b0.cell
    have c1 := hc.b1.cell
    have HK := Lib.hid hK
    have b0 := hK.cells.c0
    have b1 := hK.cells.c1
    have b2 := hK.cells.c2
    have b3 := hK.cells.c3
    have b4 := hK.cells.c4
    have HYes := Lib.hid (fun (h : mo p ≠ 0) => locks_snoc_yes pre h)
    have HNo := Lib.hid (fun (h : mo p = 0) => locks_snoc_no pre h)
    clear hx hmem hc hK
    generalize mo p = m at *
    generalize hls : locksOf mo pre = ls at *
    clear hls
    obtain ⟨pa, pb, pc, pd, pe⟩ := p
    simp only at b0 b1 b2 b3 b4
    by_cases hm : m = 0
    · have HN := Lib.hid (HNo.out hm)
      subst hm
      gi_wp2_with (refine ⟨trivial, ?_⟩; gi_at_call 64; refine (callsIn_round HMo.out).mono ?_; rintro e w5 ⟨rfl, hb5⟩)
      refine ⟨keepsFrom_below hb5 _, keeps_of hb5 (fun k hk => Nat.lt_of_lt_of_le (HLt.out k hk).2 HC.out.sz), ?_⟩
      show ∃ v, HI w w3.heap.size a tx (locksOf mo (pre ++ [⟨pa, pb, pc, pd, pe⟩])) v w5
      rw [HN.out]
      exact ⟨v, HC.out.below hb5⟩
    · have HY := Lib.hid (HYes.out hm)
      have hm' : (m == 0) = false := by simpa using hm
      have HRow := Lib.hid (fun k (hk : v.ownBlock = some k) => HC.out.rn.lt k hk)
      gi_wp2_with (first
        | (refine ⟨trivial, ?_⟩; gi_at_call 64; refine (callsIn_round HMo.out).mono ?_; rintro e w5 ⟨rfl, hb5⟩; have hc5 := HC.out.below hb5; have c2 := hc5.b2.cell; have f2 := hc5.b2.frozen; have hk5 : PbT w5 K ⟨pa, pb, pc, pd, pe⟩ := (hb5.block _ HK.out.lt).trans HK.out; have d0 := hk5.cells.c0; have d1 := hk5.cells.c1; have d2 := hk5.cells.c2; have d3 := hk5.cells.c3; have d4 := hk5.cells.c4; have hz5 := hc5.sz; simp only at d0 d1 d2 d3 d4)
        | (gi_at_builtin; refine wpListIn_append_own_at _ rfl (.tmp 17) (.tmp 21) 35 rfl w3.heap.size 39 i0 (.agg #[.int .i64 0, .int .i64 0, .int .i64 0, .int .i64 0, .int .i64 0, .int .i64 0]) 6 48 Tryz.underlying35 hi hz0 hz1 hz2 rfl (by decide) _ _ _ rfl (hc5.rn.alloc _) ⟨w5.heap.size, 0, none⟩ 1 1 (encLk (⟨pa, pb, pc, pd, pe⟩, m)) rfl rfl (new_lock w5 _ m) (one_lock _) (by unfold maxLen; omega) (by omega) (by simp; omega) ?_; intro v' w6 hown' hgrow _ hat; obtain ⟨g', cap', rfl⟩ := ownsRow_succ hown'; obtain ⟨hv1, hc6, hk6, ho6⟩ := hc5.step hD hown' hgrow; have hc1 := hv1.cell; have hf1 := hv1.frozen))
      refine ⟨(keepsFrom_below hb5 _).trans (hk6.from _), (keeps_of hb5 (fun k hk => Nat.lt_of_lt_of_le (HLt.out k hk).2 HC.out.sz)).trans (keeps_only ho6 (fun k hk => ⟨Nat.lt_of_lt_of_le (HLt.out k hk).2 hz5, ?_⟩)), ?_⟩
      · have h1 := HLt.out k hk
        rintro (q | q)
        · omega
        · have := HRow.out k q
          omega
      · show ∃ v, HI w w3.heap.size a tx (locksOf mo (pre ++ [⟨pa, pb, pc, pd, pe⟩])) v _
        rw [HY.out]
        exact ⟨_, hc6⟩
  case done =>
    rintro D X hDD ⟨v, hf⟩ hd
    have HDd := Lib.hid hd
    have HF1 := Lib.hid hf
    have c2 := hf.b2.cell
    clear hf hd
    dsimp only [Exit.inBlock, Exit.then]
    rename_i hK0
    refine hK0 _ _ ?_
    clear hK0
    go_wp2_with fail
    refine ⟨by simp, .inl ⟨_, _, rfl, run_takeDeferred HDd.out, ?_⟩⟩
    have ht := Turn.put (B := w.heap.size) (.deferred none) (by omega) HDd.out rfl
    exact ⟨_, results_tmp rfl _ _ _, v, rfl, row_base (An.row_turn HF1.out.rn ht) (by omega), ht.below HF1.out.bel (Nat.le_refl _) (Nat.le_refl _)⟩
  case stop =>
    rintro D c pre post W _ _ h _
    exact h.elim
end Go.Proofs.YtlhhopanegnliaaGreatDoor
namespace Go.Proofs.YtlhhopanegnliaaGreatDoor
open Go Go.RowKit Go.Shelf
set_option maxRecDepth 100000

end Go.Proofs.YtlhhopanegnliaaGreatDoor
namespace Go.Proofs.YtlhhopanegnliaaGreatDoor
open Go Go.RowKit Go.Shelf
attribute [local go_sem] Oper.semAt_some
set_option maxRecDepth 100000
def hitL (tx : Int) (L : List Ws.Wt) : Option Ws.Wt := L.find? fun x => x.1 == tx
def hitP (hit : Pa.Pt → Option Ws.Wt) : List Pa.Pt → Option (Pa.Pt × Ws.Wt)
  | [] => none
  | p :: ps => match hit p with
    | some x => some (p, x)
    | none => hitP hit ps
theorem hitP_none {hit : Pa.Pt → Option Ws.Wt} : ∀ {ps : List Pa.Pt}, (∀ p, p ∈ ps → hit p = none) → hitP hit ps = none
  | [], _ => rfl
  | p :: ps, h => by
    unfold hitP
    rw [h p (by simp)]
    exact hitP_none fun q hq => h q (by simp [hq])
theorem hitP_at {hit : Pa.Pt → Option Ws.Wt} {p : Pa.Pt} {x : Ws.Wt} {post : List Pa.Pt} : ∀ {pre : List Pa.Pt}, (∀ q, q ∈ pre → hit q = none) → hit p = some x → hitP hit (pre ++ p :: post) = some (p, x)
  | [], _, hx => by
    show hitP hit (p :: post) = _
    unfold hitP
    rw [hx]
  | q :: pre, h, hx => by
    show hitP hit (q :: (pre ++ p :: post)) = _
    unfold hitP
    rw [h q (by simp)]
    exact hitP_at (fun r hr => h r (by simp [hr])) hx
theorem hit_cases (tx : Int) (L : List Ws.Wt) : (Ws.fndI tx L = -1 ∧ hitL tx L = none) ∨ ∃ k : Nat, ∃ hk : k < L.length, Ws.fndI tx L = (k : Int) ∧ hitL tx L = some L[k] := by
  unfold Ws.fndI hitL
  rcases Ws.idx_cases (fun x => x.1 == tx) L with ⟨h1, h2⟩ | ⟨k, hk, h1, h3, h4⟩
  · refine .inl ⟨h1, ?_⟩
    rw [List.find?_eq_none]
    intro x hx
    have := h2 x hx
    simpa using this
  · refine .inr ⟨k, hk, h1, ?_⟩
    rw [List.find?_eq_some_iff_getElem]
    exact ⟨h3, k, hk, rfl, fun j hj => by simpa using h4 j hj⟩
structure Wcx (w : World) (K : Nat) (x : Ws.Wt) : Prop where
  c0 : w.cell? ⟨K, 0, none⟩ = some (.int .i64 x.1)
  c1 : w.cell? ⟨K, 1, none⟩ = some (.int .i64 x.2.1)
  c2 : w.cell? ⟨K, 2, none⟩ = some (.bool x.2.2.1)
  c3 : w.cell? ⟨K, 3, none⟩ = some (.bool x.2.2.2)
structure Res (R : Nat) (p : Pa.Pt) (x : Ws.Wt) (b : Bool) (w : World) : Prop where
  p : Pbx w R p
  x : Wcx w (R + 1) x
  b : w.cell? ⟨R + 1 + 1, 0, none⟩ = some (.bool b)
theorem Res.turn {B R : Nat} {p : Pa.Pt} {x : Ws.Wt} {b : Bool} {W W' : World} (h : Res R p x b W) (t : Turn B W W') : Res R p x b W' :=
  ⟨⟨t.cell h.p.c0, t.cell h.p.c1, t.cell h.p.c2, t.cell h.p.c3, t.cell h.p.c4⟩, ⟨t.cell h.x.c0, t.cell h.x.c1, t.cell h.x.c2, t.cell h.x.c3⟩, t.cell h.b⟩
theorem Res.lt {R : Nat} {p : Pa.Pt} {x : Ws.Wt} {b : Bool} {W : World} (h : Res R p x b W) : R + 1 + 1 < W.heap.size := cell_lt h.b
theorem Res.below {R : Nat} {p : Pa.Pt} {x : Ws.Wt} {b : Bool} {W W' : World} (h : Res R p x b W) (hb : Below W.heap.size W W') : Res R p x b W' := by
  have hl := h.lt
  have k : ∀ K o, K < W.heap.size → W'.cell? ⟨K, o, none⟩ = W.cell? ⟨K, o, none⟩ := fun K o hK => hb.cell (p := ⟨K, o, none⟩) hK
  exact ⟨⟨(k _ _ (by omega)).trans h.p.c0, (k _ _ (by omega)).trans h.p.c1, (k _ _ (by omega)).trans h.p.c2, (k _ _ (by omega)).trans h.p.c3, (k _ _ (by omega)).trans h.p.c4⟩,
    ⟨(k _ _ (by omega)).trans h.x.c0, (k _ _ (by omega)).trans h.x.c1, (k _ _ (by omega)).trans h.x.c2, (k _ _ (by omega)).trans h.x.c3⟩, (k _ _ (by omega)).trans h.b⟩
theorem results_wait {fn : Func} {q r s : Tmp} (h : fn.results = #[.cell q 30, .cell r 61, .cell s 4]) {tmps : Array Value} {w : World} {R : Nat} {p : Pa.Pt} {x : Ws.Wt} {b : Bool} (hq : tmps.getD q undef = .pointer (some ⟨R, 0, none⟩)) (hr : tmps.getD r undef = .pointer (some ⟨R + 1, 0, none⟩)) (hs : tmps.getD s undef = .pointer (some ⟨R + 1 + 1, 0, none⟩))
    (hR : Res R p x b w) : (results fn tmps).run Tryz.prog w = .ok (.tuple #[p.v, Ws.wv x, .bool b]) w := by
  have hq' : tmps[q]?.getD undef = .pointer (some ⟨R, 0, none⟩) := by simpa using hq
  have hr' : tmps[r]?.getD undef = .pointer (some ⟨R + 1, 0, none⟩) := by simpa using hr
  have hs' : tmps[s]?.getD undef = .pointer (some ⟨R + 1 + 1, 0, none⟩) := by simpa using hs
  simp [results, h, hq', hr', hs', go_sem, hR.p.c0, hR.p.c1, hR.p.c2, hR.p.c3, hR.p.c4, hR.x.c0, hR.x.c1, hR.x.c2, hR.x.c3, hR.b]
def zeroW : Ws.Wt := (0, 0, false, false)
def zeroP : Pa.Pt := ⟨0, 0, 0, 0, 0⟩
def waitV : Option (Pa.Pt × Ws.Wt) → Value
  | none => .tuple #[zeroP.v, Ws.wv zeroW, .bool false]
  | some (p, x) => .tuple #[p.v, Ws.wv x, .bool true]
structure WI (w : World) (D0 : Nat) (a : Option Addr) (tx : Int) (W : World) : Prop where
  b0 : Boxed W w.heap.size 24 (.pointer a)
  b1 : Boxed W (w.heap.size + 1) 3 (.int .i64 tx)
  r0 : PbT W (w.heap.size + 1 + 1) zeroP
  r1 : W.heap[w.heap.size + 1 + 1 + 1]? = some (.cells #[.int .i64 0, .int .i64 0, .bool false, .bool false] 61 (0, 0))
  r2 : Boxed W (w.heap.size + 1 + 1 + 1 + 1) 4 (.bool false)
  bel : Below w.heap.size w W
  sz : D0 ≤ W.heap.size
section
variable {w W W' w1 : World} {D0 : Nat} {a : Option Addr} {tx : Int}
theorem WI.turn (h : WI w D0 a tx W) (t : Turn D0 W W') (h1 : w.heap.size ≤ D0) : WI w D0 a tx W' :=
  ⟨Abides.boxed _ _ _ _ _ _ h.b0 t, Abides.boxed _ _ _ _ _ _ h.b1 t, t.cells _ _ h.r0 rfl, t.cells _ _ h.r1 rfl, Abides.boxed _ _ _ _ _ _ h.r2 t, t.below h.bel h1 (Nat.le_refl _), Nat.le_trans h.sz t.size⟩
theorem WI.below (h : WI w D0 a tx W) (hb : Below W.heap.size W W') : WI w D0 a tx W' :=
  ⟨(hb.block _ h.b0.lt).trans h.b0, (hb.block _ h.b1.lt).trans h.b1, (hb.block _ h.r0.lt).trans h.r0, (hb.block _ (lt_blk h.r1)).trans h.r1, (hb.block _ h.r2.lt).trans h.r2, h.bel.trans (hb.mono h.bel.size), Nat.le_trans h.sz hb.size⟩
theorem WI.res (h : WI w D0 a tx W) : Res (w.heap.size + 1 + 1) zeroP zeroW false W := by
  have e : ∀ k, W.cell? ⟨w.heap.size + 1 + 1 + 1, k, none⟩ = (#[.int .i64 0, .int .i64 0, .bool false, .bool false] : Array Value)[k]? := fun k => by unfold World.cell?; simp [h.r1]
  exact ⟨h.r0.cells, ⟨e 0, e 1, e 2, e 3⟩, h.r2.cell⟩
theorem WI.fz (h : WI w D0 a tx W) (k : Nat) : W.frozen? ⟨w.heap.size + 1 + 1, k, none⟩ = false ∧ W.frozen? ⟨w.heap.size + 1 + 1 + 1, k, none⟩ = false ∧ W.frozen? ⟨w.heap.size + 1 + 1 + 1 + 1, k, none⟩ = false :=
  ⟨by unfold World.frozen?; simp [show W.heap[w.heap.size + 1 + 1]? = _ from h.r0], by unfold World.frozen?; simp [h.r1], by unfold World.frozen?; simp [show W.heap[w.heap.size + 1 + 1 + 1 + 1]? = _ from h.r2]⟩
end
abbrev tenSet (W : World) (R : Nat) (p : Pa.Pt) (x : Ws.Wt) (b : Bool) : World :=
  (((((((((W.setCell ⟨R, 0, none⟩ (.int .i64 p.a)).setCell ⟨R, 1, none⟩ (.int .i64 p.b)).setCell ⟨R, 2, none⟩ (.int .i64 p.c)).setCell ⟨R, 3, none⟩ (.int .i64 p.d)).setCell ⟨R, 4, none⟩ (.int .i64 p.e)).setCell ⟨R + 1, 0, none⟩ (.int .i64 x.1)).setCell ⟨R + 1, 1, none⟩ (.int .i64 x.2.1)).setCell ⟨R + 1, 2, none⟩ (.bool x.2.2.1)).setCell ⟨R + 1, 3, none⟩ (.bool x.2.2.2)).setCell ⟨R + 1 + 1, 0, none⟩ (.bool b)
theorem ten_only (W : World) (R : Nat) (p : Pa.Pt) (x : Ws.Wt) (b : Bool) : OnlyS (fun k => k = R ∨ k = R + 1 ∨ k = R + 1 + 1) W (tenSet W R p x b) :=
  ((((((((((OnlyS.refl _ W).setIn R 0 _ (.inl (.inl rfl))).setIn R 1 _ (.inl (.inl rfl))).setIn R 2 _ (.inl (.inl rfl))).setIn R 3 _ (.inl (.inl rfl))).setIn R 4 _ (.inl (.inl rfl))).setIn (R + 1) 0 _ (.inl (.inr (.inl rfl)))).setIn (R + 1) 1 _ (.inl (.inr (.inl rfl)))).setIn (R + 1) 2 _ (.inl (.inr (.inl rfl)))).setIn (R + 1) 3 _ (.inl (.inr (.inl rfl)))).setIn (R + 1 + 1) 0 _ (.inl (.inr (.inr rfl)))
theorem ten_res {W : World} {R : Nat} {p0 : Pa.Pt} {x0 : Ws.Wt} {b0 : Bool} (h : Res R p0 x0 b0 W) (p : Pa.Pt) (x : Ws.Wt) (b : Bool) : Res R p x b (tenSet W R p x b) := by
  obtain ⟨⟨a0, a1, a2, a3, a4⟩, ⟨c0, c1, c2, c3⟩, d0⟩ := h
  refine ⟨⟨?_, ?_, ?_, ?_, ?_⟩, ⟨?_, ?_, ?_, ?_⟩, ?_⟩ <;> simp [go_sem, a0, a1, a2, a3, a4, c0, c1, c2, c3, d0]
theorem heap5 (w : World) (o0 o1 o2 o3 o4 : Obj) : let W := ((((w.alloc o0).alloc o1).alloc o2).alloc o3).alloc o4
    W.heap[w.heap.size]? = some o0 ∧ W.heap[w.heap.size + 1]? = some o1 ∧ W.heap[w.heap.size + 1 + 1]? = some o2 ∧ W.heap[w.heap.size + 1 + 1 + 1]? = some o3 ∧ W.heap[w.heap.size + 1 + 1 + 1 + 1]? = some o4 ∧ Below w.heap.size w W ∧ W.heap.size = w.heap.size + 1 + 1 + 1 + 1 + 1 := by
  intro W
  have s1 : (w.alloc o0).heap.size = w.heap.size + 1 := by simp
  have s2 : ((w.alloc o0).alloc o1).heap.size = w.heap.size + 1 + 1 := by simp
  have s3 : (((w.alloc o0).alloc o1).alloc o2).heap.size = w.heap.size + 1 + 1 + 1 := by simp
  have s4 : ((((w.alloc o0).alloc o1).alloc o2).alloc o3).heap.size = w.heap.size + 1 + 1 + 1 + 1 := by simp
  have h0 := World.alloc_heap_new w o0
  have h1 := World.alloc_heap_new (w.alloc o0) o1
  have h2 := World.alloc_heap_new ((w.alloc o0).alloc o1) o2
  have h3 := World.alloc_heap_new (((w.alloc o0).alloc o1).alloc o2) o3
  have h4 := World.alloc_heap_new ((((w.alloc o0).alloc o1).alloc o2).alloc o3) o4
  rw [s1] at h1
  rw [s2] at h2
  rw [s3] at h3
  rw [s4] at h4
  have b1 := box_below (w.alloc o0) o1
  have b2 := box_below ((w.alloc o0).alloc o1) o2
  have b3 := box_below (((w.alloc o0).alloc o1).alloc o2) o3
  have b4 := box_below ((((w.alloc o0).alloc o1).alloc o2).alloc o3) o4
  refine ⟨?_, ?_, ?_, ?_, h4, ?_, by simp [W]⟩
  · exact (b4.block _ (by omega)).trans ((b3.block _ (by omega)).trans ((b2.block _ (by omega)).trans ((b1.block _ (by omega)).trans h0)))
  · exact (b4.block _ (by omega)).trans ((b3.block _ (by omega)).trans ((b2.block _ (by omega)).trans h1))
  · exact (b4.block _ (by omega)).trans ((b3.block _ (by omega)).trans h2)
  · exact (b4.block _ (by omega)).trans h3
  · have b0 := box_below w o0
    exact b0.trans ((b1.mono (by omega)).trans ((b2.mono (by omega)).trans ((b3.mono (by omega)).trans (b4.mono (by omega)))))
end Go.Proofs.YtlhhopanegnliaaGreatDoor
namespace Go.Proofs.YtlhhopanegnliaaGreatDoor
open Go Go.RowKit Go.Shelf
attribute [local go_sem] Oper.semAt_some
set_option maxRecDepth 100000

theorem Ta.mode {W : World} {b : Nat} {T : Nat → Prop} {m : Nat} {mr : Int} {c : Nat} {C : Pa.Pt → Cx} {B0 : Lo0} {u t : Nat} (h : Ta W b T m mr c C B0 u t) (hc : c ≤ 400) (tx : Int) (p : Pa.Pt) : Calls Tryz.prog 64 #[tp b, .int .i64 tx, p.v] W fun e w' => e = .returned (.int .i64 (Hs.fst tx (C p).1)) ∧ Below W.heap.size W w' := by
  obtain ⟨ns, g1, g2, g3, g4, g5, g6⟩ := h.is
  have hx := box_below W (.cells (pcs p) 30)
  have HX := Lib.hid hx
  have HFi := Lib.hid ((g1.below hx).find p)
  have HB := Lib.hid (Pbx.new W p 30)
  have hsz := g1.size p
  have HCo := Lib.hid (fun (w : World) (Q : Nat) (hq : ∃ A1 c1 A2 c2, QAt w Q A1 c1 A2 c2 (C p).1 (C p).2) => (show Calls Tryz.prog 112 #[qp Q, .int .i64 tx] w fun e w' => e = .returned (.int .i64 (Hs.fst tx (C p).1)) ∧ Below w.heap.size w w' from by
    obtain ⟨A1, c1, A2, c2, hq⟩ := hq
    exact qmode_any hq.its (by omega) tx))
  clear h g1 g2 g3 g4 g5 g6 hx hsz
  generalize Hs.fst tx (C p).1 = z at *
  obtain ⟨pa, pb, pc, pd, pe⟩ := p
  have hB1 := HB.out
  have b0 := hB1.c0
  have b1 := hB1.c1
  have b2 := hB1.c2
  have b3 := hB1.c3
  have b4 := hB1.c4
  simp only at b0 b1 b2 b3 b4
  clear hB1
  go_enter Tryz.func64, Tryz.ntmps64
  go_wp2_with fail
  refine HFi.out.mono ?_
  rintro e w1 ⟨Q, is, rfl, hb1, hq, -⟩
  have HX1 := Lib.hid (HX.out.trans (hb1.mono HX.out.size))
  have HC1 := Lib.hid (HCo.out w1 Q hq)
  clear hb1 hq HFi HCo b0 b1 b2 b3 b4
  go_wp2_with fail
  refine HC1.out.mono ?_
  rintro e w2 ⟨rfl, hb2⟩
  have HX2 := Lib.hid (HX1.out.trans (hb2.mono HX1.out.size))
  clear hb2
  go_wp2_with fail
  go_ret
  exact ⟨rfl, HX2.out⟩
end Go.Proofs.YtlhhopanegnliaaGreatDoor
