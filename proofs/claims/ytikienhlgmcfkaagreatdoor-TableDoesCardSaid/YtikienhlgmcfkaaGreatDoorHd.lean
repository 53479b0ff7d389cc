/- A table: what one has, node by node. -/
import Derived.Test.YtikienhlgmcfkaaGreatDoorPp
namespace Go.Proofs.YtikienhlgmcfkaaGreatDoor
open Go Go.RowKit Go.Shelf
attribute [local go_sem] Oper.semAt_some
set_option maxRecDepth 100000

theorem callsIn_round {l n : Nat} {P : Program} {f : FuncId} {args : Array Value} {w : World} {R : Ending → World → Prop} (h : Calls P f args w R) : CallsIn (Fence.wide.inRound l) n P f args w R := (callsIn_wide (n := n)).2 h
theorem keepsFrom_below {W W' : World} (h : Below W.heap.size W W') (B : Nat) : KeepsFrom B W W' := ⟨h.size, fun k _ _ hk _ => (h.block k (Array.getElem?_eq_some_iff.1 hk).1).trans hk⟩
/-- a node in a box -/
def PbT (W : World) (B : Nat) (p : Pa.Pt) : Prop := W.heap[B]? = some (.cells (pcs p) 30 (0, 0))
theorem PbT.lt {W : World} {B : Nat} {p : Pa.Pt} (h : PbT W B p) : B < W.heap.size := (Array.getElem?_eq_some_iff.1 h).1
theorem PbT.cells {W : World} {B : Nat} {p : Pa.Pt} (h : PbT W B p) : Pbx W B p := by
  have e : ∀ k, W.cell? ⟨B, k, none⟩ = (pcs p)[k]? := fun k => by unfold World.cell?; simp [show W.heap[B]? = _ from h]
  exact ⟨e 0, e 1, e 2, e 3, e 4⟩
/-- a lock: where, which mode -/
abbrev Lk : Type := Pa.Pt × Int
def encLk (x : Lk) : List Value := [.int .i64 x.1.a, .int .i64 x.1.b, .int .i64 x.1.c, .int .i64 x.1.d, .int .i64 x.1.e, .int .i64 x.2]
abbrev lca (p : Pa.Pt) (m : Int) : Array Value := #[.int .i64 p.a, .int .i64 p.b, .int .i64 p.c, .int .i64 p.d, .int .i64 p.e, .int .i64 m]
def flatLk (ls : List Lk) : List Value := ls.flatMap encLk
theorem flatLk_snoc (ls : List Lk) (x : Lk) : flatLk (ls ++ [x]) = flatLk ls ++ encLk x := by simp [flatLk]
theorem new_lock (W : World) (p : Pa.Pt) (m : Int) : ∀ j u, (encLk (p, m))[j]? = some u → (W.alloc (.cells (lca p m) 100)).cell? ((⟨W.heap.size, 0, none⟩ : Addr).add j) = some u := by
  intro j u hj
  rw [add_at]
  match j, hj with
  | 0, hj => simp [encLk] at hj; subst hj; simp [go_sem]
  | 1, hj => simp [encLk] at hj; subst hj; simp [go_sem]
  | 2, hj => simp [encLk] at hj; subst hj; simp [go_sem]
  | 3, hj => simp [encLk] at hj; subst hj; simp [go_sem]
  | 4, hj => simp [encLk] at hj; subst hj; simp [go_sem]
  | 5, hj => simp [encLk] at hj; subst hj; simp [go_sem]
theorem one_lock (x : Lk) : ∀ u ∈ encLk x, u.oneCell' = true := by
  intro u hu
  simp [encLk] at hu
  rcases hu with rfl | rfl | rfl | rfl | rfl | rfl <;> rfl
theorem info_lock : (Tryz.prog.info? 100).map (fun i => (i.zero, i.size, i.bytes)) = some (some (.agg #[.int .i64 0, .int .i64 0, .int .i64 0, .int .i64 0, .int .i64 0, .int .i64 0]), 6, 48) := by kernel_rfl
/-- what one has at these nodes -/
def locksOf (mo : Pa.Pt → Int) (ps : List Pa.Pt) : List Lk := (ps.filter fun p => mo p != 0).map fun p => (p, mo p)
theorem locks_snoc_yes {mo : Pa.Pt → Int} (ps : List Pa.Pt) {p : Pa.Pt} (h : mo p ≠ 0) : locksOf mo (ps ++ [p]) = locksOf mo ps ++ [(p, mo p)] := by
  unfold locksOf
  rw [List.filter_append, List.filter_cons, if_pos (by simpa using h)]
  simp
theorem locks_snoc_no {mo : Pa.Pt → Int} (ps : List Pa.Pt) {p : Pa.Pt} (h : mo p = 0) : locksOf mo (ps ++ [p]) = locksOf mo ps := by
  unfold locksOf
  rw [List.filter_append, List.filter_cons, if_neg (by simp [h])]
  simp
theorem locks_len (mo : Pa.Pt → Int) (ps : List Pa.Pt) : (locksOf mo ps).length ≤ ps.length := by
  unfold locksOf
  rw [List.length_map]
  exact List.length_filter_le _ _
structure HI (w : World) (D0 : Nat) (a : Option Addr) (tx : Int) (ls : List Lk) (v : Value) (W : World) : Prop where
  b0 : Boxed W w.heap.size 24 (.pointer a)
  b1 : Boxed W (w.heap.size + 1) 3 (.int .i64 tx)
  b2 : Boxed W (w.heap.size + 1 + 1) 52 v
  rn : W.ownsRow D0 100 6 v ls.length (flatLk ls)
  bel : Below w.heap.size w W
  sz : D0 ≤ W.heap.size
section
variable {w W W' w1 : World} {D0 : Nat} {a : Option Addr} {tx : Int} {ls : List Lk} {v : Value}
theorem HI.turn (h : HI w D0 a tx ls v W) (t : Turn D0 W W') (h1 : w.heap.size ≤ D0) : HI w D0 a tx ls v W' :=
  ⟨Abides.boxed _ _ _ _ _ _ h.b0 t, Abides.boxed _ _ _ _ _ _ h.b1 t, Abides.boxed _ _ _ _ _ _ h.b2 t, An.row_turn h.rn t, t.below h.bel h1 (Nat.le_refl _), Nat.le_trans h.sz t.size⟩
theorem HI.below (h : HI w D0 a tx ls v W) (hb : Below W.heap.size W W') : HI w D0 a tx ls v W' :=
  ⟨(hb.block _ h.b0.lt).trans h.b0, (hb.block _ h.b1.lt).trans h.b1, (hb.block _ h.b2.lt).trans h.b2, row_below h.rn hb, h.bel.trans (hb.mono h.bel.size), Nat.le_trans h.sz hb.size⟩
theorem HI.step {x : Lk} {v' : Value} {tmp : Obj} (h : HI w D0 a tx ls v W) (h1 : w.heap.size + 1 + 1 < D0) (hown : w1.ownsRow D0 100 6 v' (ls.length + 1) (flatLk ls ++ encLk x)) (hgrow : (W.alloc tmp).grownBy w1 v.ownBlock) :
    Boxed w1 (w.heap.size + 1 + 1) 52 v ∧ HI w D0 a tx (ls ++ [x]) v' (w1.setCell ⟨w.heap.size + 1 + 1, 0, none⟩ v') ∧ KeepsOthers W (w1.setCell ⟨w.heap.size + 1 + 1, 0, none⟩ v') ∧ OnlyS (fun j => j = w.heap.size + 1 + 1 ∨ v.ownBlock = some j) W (w1.setCell ⟨w.heap.size + 1 + 1, 0, none⟩ v') := by
  have hsz := h.sz
  obtain ⟨a1, a2, a3, a4, a5⟩ := h.b2.appended (by decide) (row_base h.rn (Nat.le_of_lt h1)) (by omega) (Nat.le_refl _) (row_base hown (Nat.le_of_lt h1)) hgrow
  have ho := An.app_only (B := w.heap.size + 1 + 1) (v' := v') hgrow
  refine ⟨a1, ⟨?_, ?_, a2, ?_, h.bel.trans (a5.mono (by omega)), Nat.le_trans h.sz ho.size⟩, a4, ho⟩
  · refine (ho.block _ h.b0.lt ?_).trans h.b0
    rintro (q | q)
    · omega
    · have := (h.rn.lt _ q).1; omega
  · refine (ho.block _ h.b1.lt ?_).trans h.b1
    rintro (q | q)
    · omega
    · have := (h.rn.lt _ q).1; omega
  · rw [List.length_append, flatLk_snoc]
    exact ownsRow_setCell_below hown (a := ⟨w.heap.size + 1 + 1, 0, none⟩) h1 v'
end
/-- what is handed back: a list of locks of one's own -/
def HeldOf (w : World) (ls : List Lk) (e : Ending) (w' : World) : Prop := ∃ v, e = .returned v ∧ w'.ownsRow w.heap.size 100 6 v ls.length (flatLk ls) ∧ Below w.heap.size w w'
set_option maxHeartbeats 4000000 in
theorem held_any {a : Option Addr} {ps : List Pa.Pt} {mo : Pa.Pt → Int} {tx : Int} {w : World} (hP : ∀ W, Below w.heap.size w W → Calls Tryz.prog 21 #[.pointer a] W (PathsOf W ps))
    (hM : ∀ p, p ∈ ps → ∀ W, Below w.heap.size w W → Calls Tryz.prog 25 #[.pointer a, .int .i64 tx, p.v] W fun e w' => e = .returned (.int .i64 (mo p)) ∧ Below W.heap.size W w') (hl : ps.length ≤ 1000) :
    Calls Tryz.prog 19 #[.pointer a, .int .i64 tx] w (HeldOf w (locksOf mo ps)) := by
  refine (callsIn_wide (n := 9)).1 ?_
  refine callsIn_of_wp_marks Tryz.func19 rfl trivial ?_ rfl
  simp only [Tryz.ntmps19, List.size_toArray, List.length_cons, List.length_nil, Nat.reduceAdd, Nat.reduceSub, Array.replicate_succ, Array.replicate_zero, List.push_toArray, List.append_toArray, List.nil_append, List.cons_append]
  refine wpIn_wide.2 ?_
  have HM := Lib.hid hM
  have hx0 := box_below w (.cells #[.pointer a] 24)
  have hx1 := box_below (w.alloc (.cells #[.pointer a] 24)) (.cells #[.int .i64 tx] 3)
  have hx2 := box_below ((w.alloc (.cells #[.pointer a] 24)).alloc (.cells #[.int .i64 tx] 3)) (.cells #[.slice none 0 0] 52)
  have e0 : Boxed (w.alloc (.cells #[.pointer a] 24)) w.heap.size 24 (.pointer a) := Boxed.new _ _ _
  have e1 : Boxed ((w.alloc (.cells #[.pointer a] 24)).alloc (.cells #[.int .i64 tx] 3)) (w.heap.size + 1) 3 (.int .i64 tx) := by
    have := Boxed.new (w.alloc (.cells #[.pointer a] 24)) 3 (.int .i64 tx)
    rw [World.size_alloc] at this
    exact this
  have e2 : Boxed (((w.alloc (.cells #[.pointer a] 24)).alloc (.cells #[.int .i64 tx] 3)).alloc (.cells #[.slice none 0 0] 52)) (w.heap.size + 1 + 1) 52 (.slice none 0 0) := by
    have := Boxed.new ((w.alloc (.cells #[.pointer a] 24)).alloc (.cells #[.int .i64 tx] 3)) 52 (.slice none 0 0)
    rw [World.size_alloc, World.size_alloc] at this
    exact this
  have hbw := hx0.trans ((hx1.mono hx0.size).trans (hx2.mono (Nat.le_trans hx0.size hx1.size)))
  have hsz : (((w.alloc (.cells #[.pointer a] 24)).alloc (.cells #[.int .i64 tx] 3)).alloc (.cells #[.slice none 0 0] 52)).heap.size = w.heap.size + 1 + 1 + 1 := by simp
  have HP := Lib.hid (hP _ hbw)
  have H0 := Lib.hid (show HI w (w.heap.size + 1 + 1 + 1) a tx [] (.slice none 0 0) (((w.alloc (.cells #[.pointer a] 24)).alloc (.cells #[.int .i64 tx] 3)).alloc (.cells #[.slice none 0 0] 52)) from
    ⟨(hx2.block _ (by simp; omega)).trans ((hx1.block _ (by simp)).trans e0), (hx2.block _ (by simp)).trans e1, e2, World.ownsRow_nil _ _ _ _, hbw, by rw [hsz]; exact Nat.le_refl _⟩)
  clear hM hP hx0 hx1 hx2 e0 e1 e2 hbw
  go_wp2_with fail
  generalize (((w.alloc (.cells #[.pointer a] 24)).alloc (.cells #[.int .i64 tx] 3)).alloc (.cells #[.slice none 0 0] 52)) = w2 at *
  refine HP.out.mono ?_
  rintro e w3 ⟨B, pv, rfl, hbx, hrow, hb3, hB⟩
  have H3 := Lib.hid (H0.out.below hb3)
  have hz3 := hb3.size
  have HTl := Lib.hid (vals_tells hbx hrow (by omega))
  have HLt := Lib.hid (show ∀ k, OfRow B pv k → w.heap.size + 1 + 1 + 1 ≤ k ∧ k < w3.heap.size from fun k hk => by
    rcases hk with rfl | hk
    · exact ⟨by omega, hbx.lt⟩
    · have := hrow.lt k hk; exact ⟨by omega, this.2⟩)
  clear hbx hrow hb3 hB HP H0
  have hD : w.heap.size + 1 + 1 < w3.heap.size := by omega
  go_wp2_with fail
  refine (wpIn_wide (n := 9)).1 ?_
  obtain ⟨i0, hi, hz0, hz1, hz2⟩ := info_parts info_lock
  refine wp_range (α := Pa.Pt) (encs := encP) (xs := ps) (S := OfRow B pv) rfl (enters_of Tryz.func96 (by kernel_rfl) rfl) HTl.out (fun k hk => (HLt.out k hk).2) (fun _ => rfl)
    (fun pre W => ∃ v, HI w w3.heap.size a tx (locksOf mo pre) v W) (fun _ _ _ => False)
    (fun pre p a' W => (∃ v, HI w w3.heap.size a tx (locksOf mo pre) v W) ∧ ∃ K, PbT W K p ∧
      a' = { tmps := #[.pointer a, .int .i64 tx, tp w.heap.size, tp (w.heap.size + 1), .slice none 0 0, tp (w.heap.size + 1 + 1), tp K, undef, .pointer a, .func (.func 96) #[] #[tp B], p.v, undef, undef, undef, undef, undef, undef, undef, undef, undef, undef, undef, undef, undef], defers := [] })
    ?hI ?hIx ?hA ⟨_, ⟨H3.out.b0, H3.out.b1, H3.out.b2, World.ownsRow_nil _ _ _ _, H3.out.bel, Nat.le_refl _⟩⟩ ?assign ?body ?done ?stop
  case hI =>
    rintro s X Y ⟨v, h⟩ t
    exact ⟨v, h.turn t (by omega)⟩
  case hIx => exact fun _ _ _ _ h _ => h
  case hA =>
    rintro s x a' X Y ⟨⟨v, h⟩, K, hK, h6⟩ t
    exact ⟨⟨v, h.turn t (by omega)⟩, K, t.cells _ _ hK rfl, h6⟩
  case assign =>
    rintro l pre p W ⟨v, hi⟩
    have HC := Lib.hid (show ∃ v, HI w w3.heap.size a tx (locksOf mo pre) v (W.alloc (.cells (pcs p) 30)) from ⟨v, hi.below (box_below W _)⟩)
    have HK := Lib.hid (show PbT (W.alloc (.cells (pcs p) 30)) W.heap.size p from World.alloc_heap_new W _)
    have HKf := Lib.hid (An.keepsFrom_box w3.heap.size W (.cells (pcs p) 30))
    have HKs := Lib.hid (keeps_of (S := OfRow B pv) (box_below W (.cells (pcs p) 30)) (fun k hk => Nat.lt_of_lt_of_le (HLt.out k hk).2 hi.sz))
    clear hi
    obtain ⟨pa, pb, pc, pd, pe⟩ := p
    gi_wp2
    first | exact ⟨HKf.out, HKs.out, HC.out, HK.out⟩ | exact ⟨HKf.out, HKs.out, HC.out, W.heap.size, HK.out, by simp⟩
  case body =>
    rintro l pre p post a' W hx ⟨⟨v, hc⟩, K, hK, rfl⟩
    have hmem : p ∈ ps := by rw [hx]; simp
    have hlen : (locksOf mo pre).length < 1000 := by
      have := congrArg List.length hx
      have h2 := locks_len mo pre
      simp at this
      omega
    have HMo := Lib.hid (HM.out p hmem W hc.bel)
    have HC := Lib.hid hc
    have c0 := hc.b0.cell
    have c1 := hc.b1.cell
    have HK := Lib.hid hK
    have b0 := hK.cells.c0
    have b1 := hK.cells.c1
    have b2 := hK.cells.c2
    have b3 := hK.cells.c3
    have b4 := hK.cells.c4
    have HYes := Lib.hid (fun (h : mo p ≠ 0) => locks_snoc_yes pre h)
    have HNo := Lib.hid (fun (h : mo p = 0) => locks_snoc_no pre h)
    clear hx hmem hc hK
    generalize mo p = m at *
    generalize hls : locksOf mo pre = ls at *
    clear hls
    obtain ⟨pa, pb, pc, pd, pe⟩ := p
    simp only at b0 b1 b2 b3 b4
    by_cases hm : m = 0
    · have HN := Lib.hid (HNo.out hm)
      subst hm
      gi_wp2_with (refine ⟨trivial, ?_⟩; gi_at_call 25; refine (callsIn_round HMo.out).mono ?_; rintro e w5 ⟨rfl, hb5⟩)
      refine ⟨keepsFrom_below hb5 _, keeps_of hb5 (fun k hk => Nat.lt_of_lt_of_le (HLt.out k hk).2 HC.out.sz), ?_⟩
      show ∃ v, HI w w3.heap.size a tx (locksOf mo (pre ++ [⟨pa, pb, pc, pd, pe⟩])) v w5
      rw [HN.out]
      exact ⟨v, HC.out.below hb5⟩
    · have HY := Lib.hid (HYes.out hm)
      have hm' : (m == 0) = false := by simpa using hm
      have HRow := Lib.hid (fun k (hk : v.ownBlock = some k) => HC.out.rn.lt k hk)
      gi_wp2_with (first
        | (refine ⟨trivial, ?_⟩; gi_at_call 25; refine (callsIn_round HMo.out).mono ?_; rintro e w5 ⟨rfl, hb5⟩; have hc5 := HC.out.below hb5; have c2 := hc5.b2.cell; have f2 := hc5.b2.frozen; have hk5 : PbT w5 K ⟨pa, pb, pc, pd, pe⟩ := (hb5.block _ HK.out.lt).trans HK.out; have d0 := hk5.cells.c0; have d1 := hk5.cells.c1; have d2 := hk5.cells.c2; have d3 := hk5.cells.c3; have d4 := hk5.cells.c4; have hz5 := hc5.sz; simp only at d0 d1 d2 d3 d4)
        | (gi_at_builtin; refine wpListIn_append_own_at _ rfl (.tmp 17) (.tmp 21) 52 rfl w3.heap.size 100 i0 (.agg #[.int .i64 0, .int .i64 0, .int .i64 0, .int .i64 0, .int .i64 0, .int .i64 0]) 6 48 Tryz.underlying52 hi hz0 hz1 hz2 rfl (by decide) _ _ _ rfl (hc5.rn.alloc _) ⟨w5.heap.size, 0, none⟩ 1 1 (encLk (⟨pa, pb, pc, pd, pe⟩, m)) rfl rfl (new_lock w5 _ m) (one_lock _) (by unfold maxLen; omega) (by omega) (by simp; omega) ?_; intro v' w6 hown' hgrow _ hat; obtain ⟨g', cap', rfl⟩ := ownsRow_succ hown'; obtain ⟨hv1, hc6, hk6, ho6⟩ := hc5.step hD hown' hgrow; have hc1 := hv1.cell; have hf1 := hv1.frozen))
      refine ⟨(keepsFrom_below hb5 _).trans (hk6.from _), (keeps_of hb5 (fun k hk => Nat.lt_of_lt_of_le (HLt.out k hk).2 HC.out.sz)).trans (keeps_only ho6 (fun k hk => ⟨Nat.lt_of_lt_of_le (HLt.out k hk).2 hz5, ?_⟩)), ?_⟩
      · have h1 := HLt.out k hk
        rintro (q | q)
        · omega
        · have := HRow.out k q
          omega
      · show ∃ v, HI w w3.heap.size a tx (locksOf mo (pre ++ [⟨pa, pb, pc, pd, pe⟩])) v _
        rw [HY.out]
        exact ⟨_, hc6⟩
  case done =>
    rintro D X hDD ⟨v, hf⟩ hd
    have HDd := Lib.hid hd
    have HF1 := Lib.hid hf
    have c2 := hf.b2.cell
    clear hf hd
    dsimp only [Exit.inBlock, Exit.then]
    rename_i hK0
    refine hK0 _ _ ?_
    clear hK0
    go_wp2_with fail
    refine ⟨by simp, .inl ⟨_, _, rfl, run_takeDeferred HDd.out, ?_⟩⟩
    have ht := Turn.put (B := w.heap.size) (.deferred none) (by omega) HDd.out rfl
    exact ⟨_, results_tmp rfl _ _ _, v, rfl, row_base (An.row_turn HF1.out.rn ht) (by omega), ht.below HF1.out.bel (Nat.le_refl _) (Nat.le_refl _)⟩
  case stop =>
    rintro D c pre post W _ _ h _
    exact h.elim
end Go.Proofs.YtikienhlgmcfkaaGreatDoor
/- Calls of no table. -/
namespace Go.Proofs.YtikienhlgmcfkaaGreatDoor
open Go Go.RowKit Go.Shelf
set_option maxRecDepth 100000

theorem tpaths_none (W : World) : Calls Tryz.prog 21 #[.pointer none] W (PathsOf W []) := by
  have := paths_any (tpv := .pointer none) (pv := .pointer none) (x1 := .pointer none) (mv := 0) (rv := 0) (xs := []) (rs := []) (w := W) (fun W' _ => tits_none W') (fun W' _ => An.none_tells W') rfl (by simp)
  rw [show Pa.vals (Pa.srt []) = [] by simp [Pa.srt, Pa.vals]] at this
  exact this
theorem theld_none (tx : Int) (W : World) : Calls Tryz.prog 19 #[.pointer none, .int .i64 tx] W (HeldOf W []) :=
  held_any (ps := []) (mo := fun _ => 0) (fun W' _ => tpaths_none W') (fun _ h => by cases h) (by simp)
theorem tfind_none (p : Pa.Pt) (W : World) : Calls Tryz.prog 40 #[.pointer none, p.v] W fun e w' => ∃ B, e = .returned (.tuple #[qp B, .bool false]) ∧ QAt w' B none 0 none 0 [] [] ∧ Below W.heap.size W w' ∧ W.heap.size ≤ B := by
  have hx := box_below W (.cells (pcs p) 30)
  have gI : Gives (W.alloc (.cells (pcs p) 30)) 56 #[.pointer none] (tv (.pointer none) (.pointer none) (.int .i64 0) (.int .i64 0)) := fun w' hb => acc hb (tits_none w')
  have gK : Gives (W.alloc (.cells (pcs p) 30)) 76 #[p.v] (.int .u64 (Pa.keyP p)) := fun w' hb => acc hb (Pa.key_any p w')
  have gG : Gives (W.alloc (.cells (pcs p) 30)) 75 #[.pointer none, .int .u64 (Pa.keyP p)] (.tuple #[.int .i64 0, .bool false]) := fun w' hb => acc hb ((Bu.get_none w' (Pa.keyP p)).mono fun _ _ ⟨h1, h2⟩ => ⟨h1, h2 ▸ Below.refl _ _⟩)
  have hB := Pbx.new W p 30
  have b0 := hB.c0
  have b1 := hB.c1
  have b2 := hB.c2
  have b3 := hB.c3
  have b4 := hB.c4
  have hlt := box_lt W (.cells (pcs p) 30)
  have HX := Lib.hid hx
  clear hx hB
  obtain ⟨pa, pb, pc, pd, pe⟩ := p
  simp only at *
  generalize Pa.keyP ⟨pa, pb, pc, pd, pe⟩ = k at *
  go_enter Tryz.func40, Tryz.ntmps40
  go_wp2
  generalize W.alloc (.cells #[.int .i64 pa, .int .i64 pb, .int .i64 pc, .int .i64 pd, .int .i64 pe] 30) = W1 at *
  refine wp_region_later W1 (by kernel_rfl) (by kernel_rfl) (Below.refl _ _) ?_
  repeat (go_big_quiet_step (((first | go_at_call 56 | go_at_call 76 | go_at_call 75); exact Gives.later (by with_reducible assumption))))
  refine wpQuiet_nil ?_
  intro w2 hw2
  have HB2 := Lib.hid (HX.out.trans ((in_later hw2).mono HX.out.size))
  clear hw2 gI gK gG b0 b1 b2 b3 b4
  go_wp2_with fail
  go_ret2
  exact ⟨w2.heap.size, rfl, QAt.nils w2, HB2.out.alloc HB2.out.size _, HB2.out.size⟩
theorem tmode_none (tx : Int) (p : Pa.Pt) (W : World) : Calls Tryz.prog 25 #[.pointer none, .int .i64 tx, p.v] W fun e w' => e = .returned (.int .i64 0) ∧ Below W.heap.size W w' := by
  have hx := box_below W (.cells (pcs p) 30)
  have HF := Lib.hid (tfind_none p (W.alloc (.cells (pcs p) 30)))
  have HX := Lib.hid hx
  have hB := Pbx.new W p 30
  have b0 := hB.c0
  have b1 := hB.c1
  have b2 := hB.c2
  have b3 := hB.c3
  have b4 := hB.c4
  clear hx hB
  obtain ⟨pa, pb, pc, pd, pe⟩ := p
  simp only at b0 b1 b2 b3 b4
  go_enter Tryz.func25, Tryz.ntmps25
  go_wp2_with fail
  refine HF.out.mono ?_
  rintro e w1 ⟨B, rfl, hq, hb1, -⟩
  have HX1 := Lib.hid (HX.out.trans (hb1.mono HX.out.size))
  have HM := Lib.hid (qmode_any hq.its (by simp) tx)
  clear hq hb1 b0 b1 b2 b3 b4 HF
  go_wp2_with fail
  refine HM.out.mono ?_
  rintro e w2 ⟨rfl, hb2⟩
  have HX2 := Lib.hid (HX1.out.trans (hb2.mono HX1.out.size))
  clear hb2
  go_wp2_with fail
  go_ret
  exact ⟨rfl, HX2.out⟩
theorem tqueue_none (p : Pa.Pt) (W : World) : Calls Tryz.prog 26 #[.pointer none, p.v] W fun e w' => e = .returned (.pointer none) ∧ Below W.heap.size W w' := by
  have hx := box_below W (.cells (pcs p) 30)
  have HF := Lib.hid (tfind_none p (W.alloc (.cells (pcs p) 30)))
  have HX := Lib.hid hx
  have hB := Pbx.new W p 30
  have b0 := hB.c0
  have b1 := hB.c1
  have b2 := hB.c2
  have b3 := hB.c3
  have b4 := hB.c4
  clear hx hB
  obtain ⟨pa, pb, pc, pd, pe⟩ := p
  simp only at b0 b1 b2 b3 b4
  go_enter Tryz.func26, Tryz.ntmps26
  go_wp2_with fail
  refine HF.out.mono ?_
  rintro e w1 ⟨B, rfl, hq, hb1, -⟩
  have HX1 := Lib.hid (HX.out.trans (hb1.mono HX.out.size))
  clear hq hb1 b0 b1 b2 b3 b4 HF
  go_wp2_with fail
  go_ret
  exact ⟨rfl, HX1.out⟩
theorem theads_none (W : World) : Calls Tryz.prog 23 #[.pointer none] W fun e w' => e = .returned (.int .i64 0) ∧ Below W.heap.size W w' := by
  have HI := Lib.hid (tits_none W)
  go_enter Tryz.func23, Tryz.ntmps23
  go_wp2_with fail
  refine HI.out.mono ?_
  rintro e w1 ⟨rfl, hb1⟩
  have HB := Lib.hid hb1
  clear hb1
  go_wp2_with fail
  refine (An.len_none w1).mono ?_
  rintro e w2 ⟨rfl, rfl⟩
  go_wp2_with fail
  go_ret
  exact ⟨rfl, HB.out⟩
theorem treqs_none (W : World) : Calls Tryz.prog 24 #[.pointer none] W fun e w' => e = .returned (.int .i64 0) ∧ Below W.heap.size W w' := by
  have HI := Lib.hid (tits_none W)
  go_enter Tryz.func24, Tryz.ntmps24
  go_wp2_with fail
  refine HI.out.mono ?_
  rintro e w1 ⟨rfl, hb1⟩
  have HB := Lib.hid hb1
  clear hb1
  go_wp2_with fail
  go_ret
  exact ⟨rfl, HB.out⟩
theorem tfull_none (W : World) : Calls Tryz.prog 22 #[.pointer none] W fun e w' => e = .returned (.tuple #[.int .i64 0, .int .i64 0]) ∧ Below W.heap.size W w' := by
  have HI := Lib.hid (tits_none W)
  go_enter Tryz.func22, Tryz.ntmps22
  go_wp2_with fail
  refine HI.out.mono ?_
  rintro e w1 ⟨rfl, hb1⟩
  have HB1 := Lib.hid (hb1.trans ((box_below w1 (.cells #[.pointer none, .pointer none, .int .i64 0, .int .i64 0] 72)).mono hb1.size))
  clear hb1 HI
  go_wp2_with fail
  go_quiet (first | (go_at_call 61; exact Calls.quiet_of_same ((An.len_none _).mono fun _ _ ⟨a, b⟩ => ⟨a, b.symm⟩)) | (go_at_call 42; exact Calls.quiet_of_same ((An.left_none _).mono fun _ _ ⟨a, b⟩ => ⟨a, b.symm⟩)))
  go_wp2_with fail
  go_ret2
  exact ⟨rfl, HB1.out.trans ((drew_below _ _).mono HB1.out.size)⟩
theorem task_none (tx md fl : Int) (p : Pa.Pt) (W : World) : Calls Tryz.prog 13 #[.pointer none, .int .i64 tx, p.v, .int .i64 md, .int .i64 fl] W fun e w' => e = .returned (.tuple #[.int .i64 0, .int .i64 70]) ∧ Below W.heap.size W w' := by
  have hx := box_below W (.cells (pcs p) 30)
  have HR := Lib.hid (trefuses_none (W.alloc (.cells (pcs p) 30)) p)
  have HX := Lib.hid hx
  have hB := Pbx.new W p 30
  have b0 := hB.c0
  have b1 := hB.c1
  have b2 := hB.c2
  have b3 := hB.c3
  have b4 := hB.c4
  clear hx hB
  obtain ⟨pa, pb, pc, pd, pe⟩ := p
  simp only at b0 b1 b2 b3 b4
  go_enter Tryz.func13, Tryz.ntmps13
  go_wp2_with fail
  refine HR.out.mono ?_
  rintro e w1 ⟨rfl, hb1⟩
  have HX1 := Lib.hid (HX.out.trans (hb1.mono HX.out.size))
  clear hb1 b0 b1 b2 b3 b4 HR
  go_wp2_with fail
  go_ret2
  exact ⟨rfl, HX1.out⟩
theorem tleave_none (tx : Int) (p : Pa.Pt) (fv : Value) (W : World) : Calls Tryz.prog 32 #[.pointer none, .int .i64 tx, p.v, fv] W fun e w' => e = .returned (.tuple #[.slice none 0 0, .int .i64 70]) ∧ Below W.heap.size W w' := by
  have hx := box_below W (.cells (pcs p) 30)
  have HR := Lib.hid (trefuses_none (W.alloc (.cells (pcs p) 30)) p)
  have HX := Lib.hid hx
  have hB := Pbx.new W p 30
  have b0 := hB.c0
  have b1 := hB.c1
  have b2 := hB.c2
  have b3 := hB.c3
  have b4 := hB.c4
  clear hx hB
  obtain ⟨pa, pb, pc, pd, pe⟩ := p
  simp only at b0 b1 b2 b3 b4
  go_enter Tryz.func32, Tryz.ntmps32
  go_wp2_with fail
  refine HR.out.mono ?_
  rintro e w1 ⟨rfl, hb1⟩
  have HX1 := Lib.hid (HX.out.trans (hb1.mono HX.out.size))
  clear hb1 b0 b1 b2 b3 b4 HR
  go_wp2_with fail
  go_ret2
  exact ⟨rfl, HX1.out⟩
theorem trelease_none (tx : Int) (p : Pa.Pt) (W : World) : Calls Tryz.prog 8 #[.pointer none, .int .i64 tx, p.v] W fun e w' => e = .returned (.tuple #[.slice none 0 0, .int .i64 70]) ∧ Below W.heap.size W w' := by
  have hx := box_below W (.cells (pcs p) 30)
  have HR := Lib.hid (tleave_none tx p (.func (.func 27) #[] #[]) (W.alloc (.cells (pcs p) 30)))
  have HX := Lib.hid hx
  have hB := Pbx.new W p 30
  have b0 := hB.c0
  have b1 := hB.c1
  have b2 := hB.c2
  have b3 := hB.c3
  have b4 := hB.c4
  clear hx hB
  obtain ⟨pa, pb, pc, pd, pe⟩ := p
  simp only at b0 b1 b2 b3 b4
  go_enter Tryz.func8, Tryz.ntmps8
  go_wp2_with fail
  refine HR.out.mono ?_
  rintro e w1 ⟨rfl, hb1⟩
  have HX1 := Lib.hid (HX.out.trans (hb1.mono HX.out.size))
  clear hb1 b0 b1 b2 b3 b4 HR
  go_wp2_with fail
  go_ret2
  exact ⟨rfl, HX1.out⟩
theorem tcancel_none (tx : Int) (p : Pa.Pt) (W : World) : Calls Tryz.prog 11 #[.pointer none, .int .i64 tx, p.v] W fun e w' => e = .returned (.tuple #[.slice none 0 0, .int .i64 70]) ∧ Below W.heap.size W w' := by
  have hx := box_below W (.cells (pcs p) 30)
  have HR := Lib.hid (tleave_none tx p (.func (.func 37) #[] #[]) (W.alloc (.cells (pcs p) 30)))
  have HX := Lib.hid hx
  have hB := Pbx.new W p 30
  have b0 := hB.c0
  have b1 := hB.c1
  have b2 := hB.c2
  have b3 := hB.c3
  have b4 := hB.c4
  clear hx hB
  obtain ⟨pa, pb, pc, pd, pe⟩ := p
  simp only at b0 b1 b2 b3 b4
  go_enter Tryz.func11, Tryz.ntmps11
  go_wp2_with fail
  refine HR.out.mono ?_
  rintro e w1 ⟨rfl, hb1⟩
  have HX1 := Lib.hid (HX.out.trans (hb1.mono HX.out.size))
  clear hb1 b0 b1 b2 b3 b4 HR
  go_wp2_with fail
  go_ret2
  exact ⟨rfl, HX1.out⟩
end Go.Proofs.YtikienhlgmcfkaaGreatDoor
