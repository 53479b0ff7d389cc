/- The walk of the law that a table that nobody made has no locks, and that what is told of a node is a copy. -/
import Derived.Test.YtmolohncllcgbaaGreatDoorWa
namespace Go.Proofs.YtmolohncllcgbaaGreatDoor
open Go Go.RowKit Go.Shelf
attribute [local go_sem] Oper.semAt_some
set_option maxRecDepth 100000

set_option maxHeartbeats 4000000 in
theorem held_nil {a : Option Addr} {tx : Int} {w : World} (hP : ∀ W, Below w.heap.size w W → Calls Tryz.prog 21 #[.pointer a] W (PathsOf W [])) :
    Calls Tryz.prog 19 #[.pointer a, .int .i64 tx] w fun e w' => e = .returned (.slice none 0 0) ∧ Below w.heap.size w w' := by
  refine (callsIn_wide (n := 9)).1 ?_
  refine callsIn_of_wp_marks Tryz.func19 rfl trivial ?_ rfl
  simp only [Tryz.ntmps19, List.size_toArray, List.length_cons, List.length_nil, Nat.reduceAdd, Nat.reduceSub, Array.replicate_succ, Array.replicate_zero, List.push_toArray, List.append_toArray, List.nil_append, List.cons_append]
  refine wpIn_wide.2 ?_
  have hx0 := box_below w (.cells #[.pointer a] 24)
  have hx1 := box_below (w.alloc (.cells #[.pointer a] 24)) (.cells #[.int .i64 tx] 3)
  have hx2 := box_below ((w.alloc (.cells #[.pointer a] 24)).alloc (.cells #[.int .i64 tx] 3)) (.cells #[.slice none 0 0] 52)
  have e0 : Boxed (w.alloc (.cells #[.pointer a] 24)) w.heap.size 24 (.pointer a) := Boxed.new _ _ _
  have e1 : Boxed ((w.alloc (.cells #[.pointer a] 24)).alloc (.cells #[.int .i64 tx] 3)) (w.heap.size + 1) 3 (.int .i64 tx) := by
    have := Boxed.new (w.alloc (.cells #[.pointer a] 24)) 3 (.int .i64 tx)
    rw [World.size_alloc] at this
    exact this
  have e2 : Boxed (((w.alloc (.cells #[.pointer a] 24)).alloc (.cells #[.int .i64 tx] 3)).alloc (.cells #[.slice none 0 0] 52)) (w.heap.size + 1 + 1) 52 (.slice none 0 0) := by
    have := Boxed.new ((w.alloc (.cells #[.pointer a] 24)).alloc (.cells #[.int .i64 tx] 3)) 52 (.slice none 0 0)
    rw [World.size_alloc, World.size_alloc] at this
    exact this
  have hbw := hx0.trans ((hx1.mono hx0.size).trans (hx2.mono (Nat.le_trans hx0.size hx1.size)))
  have hsz : (((w.alloc (.cells #[.pointer a] 24)).alloc (.cells #[.int .i64 tx] 3)).alloc (.cells #[.slice none 0 0] 52)).heap.size = w.heap.size + 1 + 1 + 1 := by simp
  have HP := Lib.hid (hP _ hbw)
  have H0 := Lib.hid (show HI w (w.heap.size + 1 + 1 + 1) a tx [] (.slice none 0 0) (((w.alloc (.cells #[.pointer a] 24)).alloc (.cells #[.int .i64 tx] 3)).alloc (.cells #[.slice none 0 0] 52)) from
    ⟨(hx2.block _ (by simp; omega)).trans ((hx1.block _ (by simp)).trans e0), (hx2.block _ (by simp)).trans e1, e2, World.ownsRow_nil _ _ _ _, hbw, by rw [hsz]; exact Nat.le_refl _⟩)
  clear hP hx0 hx1 hx2 e0 e1 e2 hbw
  go_wp2_with fail
  generalize (((w.alloc (.cells #[.pointer a] 24)).alloc (.cells #[.int .i64 tx] 3)).alloc (.cells #[.slice none 0 0] 52)) = w2 at *
  refine HP.out.mono ?_
  rintro e w3 ⟨B, pv, rfl, hbx, hrow, hb3, hB⟩
  have H3 := Lib.hid (H0.out.below hb3)
  have hz3 := hb3.size
  have HTl := Lib.hid (vals_tells hbx hrow (by simp))
  have HLt := Lib.hid (show ∀ k, OfRow B pv k → w.heap.size + 1 + 1 + 1 ≤ k ∧ k < w3.heap.size from fun k hk => by
    rcases hk with rfl | hk
    · exact ⟨by omega, hbx.lt⟩
    · have := hrow.lt k hk; exact ⟨by omega, this.2⟩)
  clear hbx hrow hb3 hB HP H0
  have hD : w.heap.size + 1 + 1 < w3.heap.size := by omega
  go_wp2_with fail
  refine (wpIn_wide (n := 9)).1 ?_
  refine wp_range (α := Pa.Pt) (encs := encP) (xs := []) (S := OfRow B pv) rfl (enters_of Tryz.func96 (by kernel_rfl) rfl) HTl.out (fun k hk => (HLt.out k hk).2) (fun _ => rfl)
    (fun _ W => HI w w3.heap.size a tx [] (.slice none 0 0) W) (fun _ _ _ => False)
    (fun _ _ _ _ => True)
    ?hI ?hIx ?hA ⟨H3.out.b0, H3.out.b1, H3.out.b2, World.ownsRow_nil _ _ _ _, H3.out.bel, Nat.le_refl _⟩ ?assign ?body ?done ?stop
  case hI => exact fun s X Y h t => h.turn t (by omega)
  case hIx => exact fun _ _ _ _ h _ => h
  case hA => exact fun _ _ _ _ _ h _ => h
  case assign =>
    rintro l pre p W hi
    have HKf := Lib.hid (An.keepsFrom_box w3.heap.size W (.cells (pcs p) 30))
    have HKs := Lib.hid (keeps_of (S := OfRow B pv) (box_below W (.cells (pcs p) 30)) (fun k hk => Nat.lt_of_lt_of_le (HLt.out k hk).2 hi.sz))
    clear hi
    obtain ⟨pa, pb, pc, pd, pe⟩ := p
    gi_wp2
    first | exact ⟨HKf.out, HKs.out⟩ | exact ⟨HKf.out, HKs.out, trivial⟩
  case body =>
    rintro l pre p post a' W hx _
    simp at hx
  case done =>
    rintro D X hDD hf hd
    have HDd := Lib.hid hd
    have HF1 := Lib.hid hf
    have c2 := hf.b2.cell
    clear hf hd
    dsimp only [Exit.inBlock, Exit.then]
    rename_i hK0
    refine hK0 _ _ ?_
    clear hK0
    go_wp2_with fail
    refine ⟨by simp, .inl ⟨_, _, rfl, run_takeDeferred HDd.out, ?_⟩⟩
    have ht := Turn.put (B := w.heap.size) (.deferred none) (by omega) HDd.out rfl
    exact ⟨_, results_tmp rfl _ _ _, rfl, ht.below HF1.out.bel (Nat.le_refl _) (Nat.le_refl _)⟩
  case stop =>
    rintro D c pre post W _ _ h _
    exact h.elim

theorem gives_of {w0 : World} {f : Nat} {args : Array Value} {v : Value} (h : ∀ w, Calls Tryz.prog f args w fun e w' => e = .returned v ∧ Below w.heap.size w w') : Gives w0 f args v :=
  fun w' hb => acc hb (h w')
theorem Ta.mode {W : World} {b : Nat} {T : Nat → Prop} {m : Nat} {mr : Int} {c : Nat} {C : Pa.Pt → Cx} {B0 u t : Nat} (h : Ta W b T m mr c C B0 u t) (hc : c ≤ 400) (tx : Int) (p : Pa.Pt) : Calls Tryz.prog 25 #[tp b, .int .i64 tx, p.v] W fun e w' => e = .returned (.int .i64 (Hs.fst tx (C p).1)) ∧ Below W.heap.size W w' := by
  obtain ⟨ns, g1, g2, g3, g4, g5, g6⟩ := h.is
  have hx := box_below W (.cells (pcs p) 30)
  have HX := Lib.hid hx
  have HFi := Lib.hid ((g1.below hx).find p)
  have HB := Lib.hid (Pbx.new W p 30)
  have hsz := g1.size p
  have HCo := Lib.hid (fun (w : World) (Q : Nat) (hq : ∃ A1 c1 A2 c2, QAt w Q A1 c1 A2 c2 (C p).1 (C p).2) => (show Calls Tryz.prog 62 #[qp Q, .int .i64 tx] w fun e w' => e = .returned (.int .i64 (Hs.fst tx (C p).1)) ∧ Below w.heap.size w w' from by
    obtain ⟨A1, c1, A2, c2, hq⟩ := hq
    exact qmode_any hq.its (by omega) tx))
  clear h g1 g2 g3 g4 g5 g6 hx hsz
  generalize Hs.fst tx (C p).1 = z at *
  obtain ⟨pa, pb, pc, pd, pe⟩ := p
  have hB1 := HB.out
  have b0 := hB1.c0
  have b1 := hB1.c1
  have b2 := hB1.c2
  have b3 := hB1.c3
  have b4 := hB1.c4
  simp only at b0 b1 b2 b3 b4
  clear hB1
  go_enter Tryz.func25, Tryz.ntmps25
  go_wp2_with fail
  refine HFi.out.mono ?_
  rintro e w1 ⟨Q, is, rfl, hb1, hq, -⟩
  have HX1 := Lib.hid (HX.out.trans (hb1.mono HX.out.size))
  have HC1 := Lib.hid (HCo.out w1 Q hq)
  clear hb1 hq HFi HCo b0 b1 b2 b3 b4
  go_wp2_with fail
  refine HC1.out.mono ?_
  rintro e w2 ⟨rfl, hb2⟩
  have HX2 := Lib.hid (HX1.out.trans (hb2.mono HX1.out.size))
  clear hb2
  go_wp2_with fail
  go_ret
  exact ⟨rfl, HX2.out⟩
/-- what one that comes first to a node has there -/
theorem none_ask (tx md : Int) (p : Pa.Pt) : (askT 9 9 0 0 (fun _ => ([], [])) tx p md 0).2.2 = ([], []) ∨ ∃ k : Nat, 1 ≤ k ∧ (askT 9 9 0 0 (fun _ => ([], [])) tx p md 0).2.2 = ([(tx, (k : Int))], []) := by
  unfold askT
  simp only
  split
  · exact .inl rfl
  · by_cases hm : 1 ≤ md ∧ md ≤ 6
    · by_cases ht : 1 ≤ tx
      · have e := ask_alone (k := 0) ht hm.1 hm.2 (by omega)
        rw [show hold1 tx 0 = [] from rfl] at e
        rw [e]
        have hk : 1 ≤ supN 0 (kn md) := sup_pos 0 (by omega) _ (kn_le md) (by
          have : kn md ≠ 0 := fun e => (Hs.kn_zero md).1 e hm
          omega)
        have hh : hold1 tx (supN 0 (kn md)) = [(tx, ((supN 0 (kn md) : Nat) : Int))] := by unfold hold1; rw [if_neg (by omega)]
        rw [hh]
        right
        refine ⟨supN 0 (kn md), hk, ?_⟩
        simp [costV, szC]
      · have he : errR tx md 0 [] ≠ 0 := by
          rcases errR_cases tx md 0 [] with ⟨_, q⟩ | ⟨q, _⟩ | ⟨q, _⟩
          · rw [q]; decide
          · have := ok3.1 q; omega
          · have := ok3.1 q; omega
        rw [ask_err rfl he]
        left
        rw [if_pos he]
    · rw [ask_bad hm]
      exact .inl rfl
end Go.Proofs.YtmolohncllcgbaaGreatDoor
