import Derived.Test.YtlhhopanegnliaaGreatDoorZNLc
import Derived.WideKeyEntry
import Derived.Maps.RangeWalk
import Derived.Test.YtlhhopanegnliaaGreatDoorZMLd
import Derived.Test.YtlhhopanegnliaaGreatDoorZNSi
namespace Go.Proofs.YtlhhopanegnliaaGreatDoor.Lk
open Go Go.RowKit Go.Shelf Go.Maps Go.ChangeShapes Go.WideShapes Go.MapKept Go.ChangeMaps Go.WideElems Pa
set_option maxRecDepth 100000

theorem klaw25 : Go.WideMaps.KeyLaw Tryz.prog 30 := deep_law_laid laidOut (m := 4) (by omega) (of_decide_eq_true (by kernel_rfl)) (by kernel_rfl) (by rw [Tryz.underlying30])
def MapF (W : World) (b n : Nat) (h : Pt → Bool) (f : Pt → Int) : Prop :=
  ∃ D : DataW Unit, W.ownsMap Tryz.prog 30 (plainElem Tryz.prog 3) b n D ∧ ∀ p, FitP p → Maps.has D (klP p) = h p ∧ D.atKey (klP p) (.lit (.int .i64 0)) = .lit (.int .i64 (f p))
theorem MapF.made (W : World) : MapF (W.alloc (.map #[] 0)) W.heap.size 0 (fun _ => false) (fun _ => 0) := ⟨.map [], World.ownsMap_made W Tryz.prog 30 _, fun _ _ => ⟨rfl, rfl⟩⟩
section
variable {W W' : World} {b n : Nat} {h : Pt → Bool} {f : Pt → Int}
theorem MapF.keep (hM : MapF W b n h f) (hb : W'.heap[b]? = W.heap[b]?) : MapF W' b n h f := by
  obtain ⟨D, ⟨es, clock, h1, h2⟩, h3⟩ := hM
  exact ⟨D, ⟨es, clock, hb.trans h1, h2⟩, h3⟩
theorem MapF.lt (hM : MapF W b n h f) : b < W.heap.size := by
  obtain ⟨D, h1, _⟩ := hM
  exact h1.lt
theorem MapF.below (hM : MapF W b n h f) (hb : Below W.heap.size W W') : MapF W' b n h f := hM.keep (hb.block _ hM.lt)
theorem MapF.congr {h' : Pt → Bool} {f' : Pt → Int} (hM : MapF W b n h f) (e1 : ∀ p, FitP p → h p = h' p) (e2 : ∀ p, FitP p → f p = f' p) : MapF W b n h' f' := by
  obtain ⟨D, h1, h3⟩ := hM
  exact ⟨D, h1, fun p hp => ⟨(h3 p hp).1.trans (e1 p hp), by rw [(h3 p hp).2, e2 p hp]⟩⟩
theorem MapF.look (hM : MapF W b n h f) {p : Pt} (hp : FitP p) :
    (Instr.lookup 126 (.map (some b)) p.v false).run Tryz.prog W = .ok (.int .i64 (f p)) W := by
  obtain ⟨D, h1, h4⟩ := hM
  obtain ⟨c, hrun, hat, -⟩ := h1.lookup_int law25 Tryz.underlying126 Tryz.underlying3 (zero3 W) (key_of hp)
  rw [(h4 p hp).2] at hat
  simp at hat
  rw [hrun, ← hat]
theorem putF {D : DataW Unit} (hM : Maps.IsMap D) {p : Pt} (hp : FitP p) (v : Int) (h4 : ∀ p, FitP p → Maps.has D (klP p) = h p ∧ D.atKey (klP p) (.lit (.int .i64 0)) = .lit (.int .i64 (f p))) :
    ∀ q, FitP q → Maps.has (D.put (klP p) (.lit (.int .i64 v))) (klP q) = (eqP p q || h q) ∧ (D.put (klP p) (.lit (.int .i64 v))).atKey (klP q) (.lit (.int .i64 0)) = .lit (.int .i64 (if eqP p q then v else f q)) := by
  intro q hq
  by_cases e : p = q
  · subst e
    rw [Maps.has_put_same hM (law25.key (key_of hp)), Maps.atKey_put_same hM (law25.key (key_of hp)), eqP_self]
    simp
  · have e' : klP q ≠ klP p := fun h => e (kl_inj hp hq h.symm)
    rw [Maps.has_put_other e', Maps.atKey_put_other e', (h4 q hq).1, (h4 q hq).2, eqP_ne e]
    simp
theorem MapF.put (hM : MapF W b n h f) {p : Pt} (hp : FitP p) {v : Int} (hm : wf64 v) (hl : n ≤ 10000) :
    ∃ w', (Instr.mapUpdate 126 (.map (some b)) p.v (.int .i64 v)).run Tryz.prog W = .ok () w' ∧ MapF w' b (n + 1) (fun q => eqP p q || h q) (fun q => if eqP p q then v else f q) ∧ W.grownBy w' (some b) := by
  obtain ⟨D, h1, h4⟩ := hM
  obtain ⟨w', hrun, ho, hg⟩ := h1.update law25 Tryz.underlying126 (by unfold maxLen; omega) (key_of hp) (plainElem_int Tryz.underlying3 hm)
  exact ⟨w', hrun, ⟨_, ho, putF h1.isMap hp v h4⟩, hg⟩
theorem grown_block {es : Array MapEntry} {clock : Nat} (hb : W.heap[b]? = some (.map es clock)) (o' : Obj) : W.grownBy (setBlock W b o') (some b) :=
  ⟨rfl, rfl, rfl, by simp [setBlock], fun i _ hi => heap_setBlock_other hb _ (fun e => hi (by rw [e]))⟩
theorem MapF.bump (hM : MapF W b n h f) {p : Pt} (hp : FitP p) {v : Int} (hm : wf64 v) (hl : n ≤ 10000) :
    ∃ (v0 : Value) (st : Nat) (W2 : World), (Instr.mapEntry 126 (.map (some b)) p.v).run Tryz.prog W = .ok (.tuple #[v0, goInt st]) W2 ∧ W.grownBy W2 (some b) ∧
      (Instr.lookup 126 (.map (some b)) p.v false).run Tryz.prog W2 = .ok (.int .i64 (f p)) W2 ∧
      ∃ W3, (Instr.entryStore 126 (.map (some b)) (goInt st) (.int .i64 v)).run Tryz.prog W2 = .ok () W3 ∧ MapF W3 b (n + 1) (fun q => eqP p q || h q) (fun q => if eqP p q then v else f q) ∧ W.grownBy W3 (some b) := by
  obtain ⟨w', hrun, hput, hgr⟩ := MapF.put hM hp hm hl
  obtain ⟨D, ⟨es, clock, hb, F, hs, hD⟩, h4⟩ := hM
  have hown : W.ownsMap Tryz.prog 30 (plainElem Tryz.prog 3) b n D := ⟨es, clock, hb, F, hs, hD⟩
  obtain ⟨v0, st, es1, clock1, hE, -, hS⟩ := entry_then_store klaw25 Tryz.underlying126 (z := .int .i64 0) zero3 hb F (key_of hp)
  have hb2 : (setBlock W b (.map es1 clock1)).heap[b]? = some (.map es1 clock1) := heap_setBlock_same hb _
  obtain ⟨es', clock', hst, hup⟩ := hS _ (.int .i64 v) hb2
  have e3 : setBlock W b (.map es' clock') = w' := by
    rw [hrun] at hup
    injection hup with _ e
    exact e.symm
  have e4 : setBlock (setBlock W b (.map es1 clock1)) b (.map es' clock') = setBlock W b (.map es' clock') := by
    simp [setBlock]
  refine ⟨v0, st, _, hE, grown_block hb _, ?_, w', by rw [hst, e4, e3], hput, hgr⟩
  rcases klaw25.find W (key_of hp) es.toList F.keys with ⟨g1, g2⟩ | ⟨j, e0, g1, g2, g3⟩
  · have hmap : (Instr.mapEntry 126 (.map (some b)) p.v).run Tryz.prog W = .ok (.tuple #[.int .i64 0, goInt clock]) (setBlock W b (.map (es.push ⟨p.v, .int .i64 0, clock⟩) (clock + 1))) := by
      simp [Instr.mapEntry, run_underlying Tryz.underlying126, MapKept.run_getObj_map hb, klaw25.check W false (key_of hp), g1, MapKept.run_setObj_map _ hb, Result.andThen, setBlock]
    have hupd : (Instr.mapUpdate 126 (.map (some b)) p.v (.int .i64 0)).run Tryz.prog W = .ok () (setBlock W b (.map (es.push ⟨p.v, .int .i64 0, clock⟩) (clock + 1))) := by
      simp [Instr.mapUpdate, run_underlying Tryz.underlying126, MapKept.run_getObj_map hb, klaw25.check W false (key_of hp), g1, MapKept.run_setObj_map _ hb, Result.andThen, setBlock]
    have e5 : setBlock W b (.map es1 clock1) = setBlock W b (.map (es.push ⟨p.v, .int .i64 0, clock⟩) (clock + 1)) := by
      rw [hE] at hmap
      injection hmap
    obtain ⟨w2, hr2, hm2, -⟩ := MapF.put (h := h) (f := f) ⟨D, hown, h4⟩ hp (v := 0) (by decide) hl
    have e6 : setBlock W b (.map (es.push ⟨p.v, .int .i64 0, clock⟩) (clock + 1)) = w2 := by
      have e7 := hupd.symm.trans hr2
      injection e7
    rw [e5.trans e6]
    have hl2 := hm2.look hp
    rw [eqP_self, if_pos rfl] at hl2
    have h0 : f p = 0 := by
      have hat := (h4 p hp).2
      have hno : Maps.has D (klP p) = false := by
        cases hh : Maps.has D (klP p)
        · rfl
        · exfalso
          rw [hD] at hh
          obtain ⟨q, hq, hk⟩ := List.any_eq_true.1 hh
          obtain ⟨x, hx, rfl⟩ := List.mem_map.1 (mem_sorted.1 hq)
          obtain ⟨y, hy⟩ := F.reads x hx
          have e7 := WideAt.sameKey_eq hk
          rw [rg_of hy] at e7
          have e8 := rd_key hy
          rw [e7] at e8
          exact g2 x hx (law25.inj e8 (key_of hp))
      rw [Maps.atKey_of_not_has hno] at hat
      simpa using hat.symm
    rw [h0]
    exact hl2
  · have hj : es[j]? = some e0 := by simpa using g2
    have hsame : es.modify j (fun e => { e with key := p.v }) = es := by
      apply Array.ext'
      rw [Array.toList_modify, modify_eq_set _ _ _ _ g2]
      have : ({ e0 with key := p.v } : MapEntry) = e0 := by rw [← g3]
      rw [this]
      exact set_self _ _ _ g2
    have hmap : (Instr.mapEntry 126 (.map (some b)) p.v).run Tryz.prog W = .ok (.tuple #[e0.val, goInt e0.born]) (setBlock W b (.map es clock)) := by
      simp [Instr.mapEntry, run_underlying Tryz.underlying126, MapKept.run_getObj_map hb, klaw25.check W false (key_of hp), g1, hj, g3, klaw25.stays W (key_of hp), hsame, MapKept.run_setObj_map _ hb, Result.andThen, setBlock]
    have e5 : setBlock W b (.map es1 clock1) = setBlock W b (.map es clock) := by
      rw [hE] at hmap
      injection hmap
    rw [e5]
    refine MapF.look (h := h) (f := f) (MapF.keep (W := W) ⟨D, hown, h4⟩ ?_) hp
    rw [heap_setBlock_same hb, hb]
end
end Go.Proofs.YtlhhopanegnliaaGreatDoor.Lk
namespace Go.Proofs.YtlhhopanegnliaaGreatDoor.Lk
open Go Go.RowKit Go.Shelf Pa
set_option maxRecDepth 100000

theorem gdoes_any (m : Int) (w : World) :
    Calls Tryz.prog 100 #[.int .i64 m] w fun e w' => e = .returned (.int .i64 (reN (kn m) : Nat)) ∧ Below w.heap.size w w' := by
  have H := Lib.hid (at_is m w (kn m) (kn_le m) rfl)
  have hc := fun w => conv_is w (reN (kn m)) (reN_le _)
  go_enter Tryz.func100, Tryz.ntmps100
  go_wp2_with fail
  refine H.out.mono ?_
  rintro e w' ⟨rfl, hb⟩
  go_wp2_with fail
  go_ret
  exact ⟨rfl, hb⟩
theorem fconv_is (w : World) : ∀ x, x ≤ 3 → (convert 3 149 (.int .i64 (x : Nat))).run Tryz.prog w = .ok (.float .f64 (fb x)) w := by
  intro x hx
  have e : floatOfInt .f64 (x : Nat) = fb x := by
    have h1 : x = 0 ∨ x = 1 ∨ x = 2 ∨ x = 3 := by omega
    rcases h1 with rfl | rfl | rfl | rfl <;> decide +kernel
  rw [← e]
  simp [convert, run_underlying Tryz.underlying3, run_underlying Tryz.underlying149, Conv.intToFloat, floatOfInt]
def doN (x : Nat) : Nat := ofN x 0
theorem doing_any (x : Nat) (hx : x ≤ 3) (w : World) :
    Calls Tryz.prog 101 #[.int .i64 (x : Nat)] w fun e w' => e = .returned (.int .i64 (doN x : Nat)) ∧ Below w.heap.size w w' := by
  have H := Lib.hid (fun w => Go.Proofs.YtlhhopanegnliaaGreatDoor.of_any x 0 w hx (by omega))
  have hc := fun w => fconv_is w x hx
  go_enter Tryz.func101, Tryz.ntmps101
  go_wp2_with fail
  refine (H.out _).mono ?_
  rintro e w' ⟨rfl, hb⟩
  go_wp2_with fail
  go_ret
  exact ⟨rfl, hb⟩
set_option maxHeartbeats 2000000 in
theorem within_any (p q : Pt) (w : World) :
    Calls Tryz.prog 149 #[p.v, q.v] w fun e w' => e = .returned (.bool (wiB p q)) ∧ Below w.heap.size w w' := by
  obtain ⟨a, b, c, d, e⟩ := p
  obtain ⟨a', b', c', d', e'⟩ := q
  cases hr : rightB ⟨a, b, c, d, e⟩
  · have gp := may_g (w := (boxed (boxed w a b c d e) a' b' c' d' e')) hr
    have HV := Lib.hid (show wiB ⟨a, b, c, d, e⟩ ⟨a', b', c', d', e'⟩ = false by simp [wiB, hr])
    clear hr
    go_enter Tryz.func149, Tryz.ntmps149
    go_wp2
    refine Pa.wp_region_later (boxed (boxed w a b c d e) a' b' c' d' e') (by kernel_rfl) (by kernel_rfl) (Below.refl _ _) ?_
    repeat (go_big_quiet_step (((first | go_at_call 70 | go_at_call 109); exact Pa.Gives.later (by with_reducible assumption))))
    refine wpQuiet_nil ?_
    rintro _ ⟨⟨w1, hb1⟩, rfl⟩
    go_wp2
    go_ret
    exact ⟨Pa.ret_bool HV.out.symm, below_past hb1⟩
  · have gp := may_g (w := (boxed (boxed w a b c d e) a' b' c' d' e')) hr
    have hd := right_depth hr
    simp only at hd
    obtain ⟨hd1, hd4⟩ := hd
    cases hq : rightB ⟨a', b', c', d', e'⟩
    · have gq := may_g (w := (boxed (boxed w a b c d e) a' b' c' d' e')) hq
      have HV := Lib.hid (show wiB ⟨a, b, c, d, e⟩ ⟨a', b', c', d', e'⟩ = false by simp [wiB, hq])
      clear hr hq
      go_enter Tryz.func149, Tryz.ntmps149
      go_wp2
      refine Pa.wp_region_later (boxed (boxed w a b c d e) a' b' c' d' e') (by kernel_rfl) (by kernel_rfl) (Below.refl _ _) ?_
      repeat (go_big_quiet_step (((first | go_at_call 70 | go_at_call 109); exact Pa.Gives.later (by with_reducible assumption))))
      refine wpQuiet_nil ?_
      rintro _ ⟨⟨w1, hb1⟩, rfl⟩
      go_wp2
      go_ret
      exact ⟨Pa.ret_bool HV.out.symm, below_past hb1⟩
    · have gq := may_g (w := (boxed (boxed w a b c d e) a' b' c' d' e')) hq
      have hd' := right_depth hq
      simp only at hd'
      obtain ⟨hd1', hd4'⟩ := hd'
      by_cases hle : e' ≤ e
      · have gt := top_g (w := (boxed (boxed w a b c d e) a' b' c' d' e')) (p := ⟨a, b, c, d, e⟩) hd1' hd4'
        have HV := Lib.hid (show wiB ⟨a, b, c, d, e⟩ ⟨a', b', c', d', e'⟩ = eqP (cutP ⟨a, b, c, d, e⟩ e') ⟨a', b', c', d', e'⟩ by simp [wiB, hr, hq, hle])
        have hdec : decide (e' ≤ e) = true := by simp [hle]
        clear hr hq
        generalize cutP ⟨a, b, c, d, e⟩ e' = t at *
        obtain ⟨x, y, z, u, v⟩ := t
        go_enter Tryz.func149, Tryz.ntmps149
        go_wp2
        refine Pa.wp_region_later (boxed (boxed w a b c d e) a' b' c' d' e') (by kernel_rfl) (by kernel_rfl) (Below.refl _ _) ?_
        repeat (go_big_quiet_step (((first | go_at_call 70 | go_at_call 109); exact Pa.Gives.later (by with_reducible assumption))))
        refine wpQuiet_nil ?_
        rintro _ ⟨⟨w1, hb1⟩, rfl⟩
        go_wp2
        go_ret
        exact ⟨Pa.ret_bool HV.out.symm, below_past hb1⟩
      · have HV := Lib.hid (show wiB ⟨a, b, c, d, e⟩ ⟨a', b', c', d', e'⟩ = false by simp [wiB, hle])
        have hdec : decide (e' ≤ e) = false := by simp [hle]
        clear hr hq
        go_enter Tryz.func149, Tryz.ntmps149
        go_wp2
        refine Pa.wp_region_later (boxed (boxed w a b c d e) a' b' c' d' e') (by kernel_rfl) (by kernel_rfl) (Below.refl _ _) ?_
        repeat (go_big_quiet_step (((first | go_at_call 70 | go_at_call 109); exact Pa.Gives.later (by with_reducible assumption))))
        refine wpQuiet_nil ?_
        rintro _ ⟨⟨w1, hb1⟩, rfl⟩
        go_wp2
        go_ret
        exact ⟨Pa.ret_bool HV.out.symm, below_past hb1⟩
def kidB (q p : Pt) : Bool := rightB q && !(q.e == 1) && eqP (cutP q (q.e - 1)) p
def belB (q p : Pt) : Bool := !(eqP q p) && wiB q p
end Go.Proofs.YtlhhopanegnliaaGreatDoor.Lk
namespace Go.Proofs.YtlhhopanegnliaaGreatDoor.Lk
open Go Go.RowKit Go.Shelf Pa
set_option maxRecDepth 100000

set_option maxHeartbeats 2000000 in
theorem below_any (p q : Pt) (w : World) :
    Calls Tryz.prog 108 #[p.v, q.v] w fun e w' => e = .returned (.bool (belB p q)) ∧ Below w.heap.size w w' := by
  have HW := Lib.hid (fun w => within_any p q w)
  obtain ⟨r, hr⟩ : ∃ r, wiB p q = r := ⟨_, rfl⟩
  rw [hr] at HW
  obtain ⟨a, b, c, d, e⟩ := p
  obtain ⟨a', b', c', d', e'⟩ := q
  have hx := Pa.below_2 w (.cells #[.int .i64 a, .int .i64 b, .int .i64 c, .int .i64 d, .int .i64 e] 30) (.cells #[.int .i64 a', .int .i64 b', .int .i64 c', .int .i64 d', .int .i64 e'] 30)
  have HX := Lib.hid hx
  clear hx
  cases heq : eqP ⟨a, b, c, d, e⟩ ⟨a', b', c', d', e'⟩
  · have HV := Lib.hid (show belB ⟨a, b, c, d, e⟩ ⟨a', b', c', d', e'⟩ = r by simp [belB, heq, hr])
    clear hr
    go_enter Tryz.func108, Tryz.ntmps108
    go_wp2_with fail
    refine (HW.out _).mono ?_
    rintro e1 w1 ⟨rfl, hb1⟩
    have HB := Lib.hid (thenCall HX.out hb1)
    clear hb1
    go_wp2_with fail
    go_ret
    exact ⟨by rw [HV.out]; rfl, HB.out⟩
  · have HV := Lib.hid (show belB ⟨a, b, c, d, e⟩ ⟨a', b', c', d', e'⟩ = false by simp [belB, heq])
    clear hr
    go_enter Tryz.func108, Tryz.ntmps108
    go_wp2_with fail
    go_ret
    exact ⟨by rw [HV.out]; rfl, HX.out⟩
def PrdP (T : Nat → Prop) (W : World) (gf : Nat) (cs : Array Value) (p : Pt → Bool) : Prop :=
  (∀ args w, (callFunc gf args).run Tryz.prog w = .ok (.enter gf args) w) ∧
  ∀ (W' : World) (x : Pt), OnlyS T W W' → Calls Tryz.prog gf (#[x.v] ++ cs) W' fun e w' => e = .returned (.bool (p x)) ∧ Below W'.heap.size W' w'
set_option maxHeartbeats 2000000 in
theorem bel_at {T : Nat → Prop} {W : World} {B : Nat} {p : Pt} (hc : PtAt W B p) (hT : ¬ T B) : PrdP T W 107 #[.pointer (some ⟨B, 0, none⟩)] (fun x => belB x p) := by
  refine ⟨enters_of Tryz.func107 (by kernel_rfl) rfl, fun W' x ho => ?_⟩
  have HC := Lib.hid (fun w => below_any x p w)
  obtain ⟨r, hr⟩ : ∃ r, belB x p = r := ⟨_, rfl⟩
  simp only [hr] at HC ⊢
  obtain ⟨xa, xb, xc, xd, xe⟩ := x
  obtain ⟨pa, pb, pc, pd, pe⟩ := p
  obtain ⟨c0, c1, c2, c3, c4, hl⟩ := hc
  simp only at c0 c1 c2 c3 c4
  have d0 := ho.cell c0 hT
  have d1 := ho.cell c1 hT
  have d2 := ho.cell c2 hT
  have d3 := ho.cell c3 hT
  have d4 := ho.cell c4 hT
  have hlt := cell_lt d0
  simp only at hlt
  have hne : ¬ B = W'.heap.size := Nat.ne_of_lt hlt
  have HX := Lib.hid (Go.Proofs.YtlhhopanegnliaaGreatDoor.box_below W' (.cells #[.int .i64 xa, .int .i64 xb, .int .i64 xc, .int .i64 xd, .int .i64 xe] 30))
  clear ho c0 c1 c2 c3 c4 hT hr
  go_enter Tryz.func107, Tryz.ntmps107
  go_wp2_with fail
  refine (HC.out _).mono ?_
  rintro e1 w1 ⟨rfl, hb1⟩
  have HB := Lib.hid (thenCall HX.out hb1)
  clear hb1 d0 d1 d2 d3 d4
  go_wp2_with fail
  go_ret
  exact ⟨rfl, HB.out⟩
def fitL (f : Pt → Bool) (xs : List Hd) : List Hd := xs.filter fun x => f x.1
theorem fit_snoc (f : Pt → Bool) (xs : List Hd) (x : Hd) : fitL f (xs ++ [x]) = fitL f xs ++ if f x.1 then [x] else [] := by
  unfold fitL
  rw [List.filter_append, List.filter_cons]
  rfl
theorem fit_len (f : Pt → Bool) (xs : List Hd) : (fitL f xs).length ≤ xs.length := List.length_filter_le _ _
theorem kid_right {q p : Pt} (h : kidB q p = true) : rightB q = true := by
  unfold kidB at h
  cases h1 : rightB q
  · rw [h1] at h; cases h
  · rfl
theorem bel_right {q p : Pt} (h : belB q p = true) : rightB q = true := by
  unfold belB wiB at h
  cases h1 : rightB q
  · rw [h1] at h; simp at h
  · rfl
end Go.Proofs.YtlhhopanegnliaaGreatDoor.Lk
namespace Go.Proofs.YtlhhopanegnliaaGreatDoor.Lk
open Go Go.RowKit Go.Shelf Pa
set_option maxRecDepth 100000

section
variable {W W' : World} {A : Option Addr} {c : Nat} {xs : List Hd}
set_option maxHeartbeats 4000000 in
theorem gback_any {gf : Nat} {cs : Array Value} {f : Pt → Bool} (hp : PrdP (fun _ => False) W gf cs f) (hf : ∀ p, f p = true → rightB p = true) (hr : Ls W A c xs) (hl : xs.length ≤ 400) :
    Calls Tryz.prog 106 #[.slice A xs.length c, .func (.func gf) #[] cs] W fun e w' => ∃ ys, Bk (fitL f xs) ys ∧ Lists W ys e w' := by
  obtain ⟨eg, hp⟩ := hp
  have HP := Lib.hid hp
  have HR := Lib.hid hr
  obtain ⟨n, hn⟩ : ∃ n, xs.length = n := ⟨_, rfl⟩
  have HN := Lib.hid hn
  rw [hn] at hl ⊢
  have HF := Lib.hid hf
  clear hr hn hp hf
  go_enter Tryz.func106, Tryz.ntmps106
  go_wp2_with fail
  go_loopw [5, 10] (fun l i wr => ∃ k : Nat, k ≤ n ∧ i = .int .i64 (k : Nat) ∧ Row wr W.heap.size l (fitL f (xs.take k)) ∧ Below W.heap.size W wr) (fun _ i _ => n - (intOf i).toNat)
  case atStart => exact ⟨0, by omega, rfl, World.ownsRow_nil _ _ _ _, Below.refl _ _⟩
  case round =>
    obtain ⟨k, hk, rfl, hrow, hb⟩ := hrel
    have HRow := Lib.hid hrow
    have HB := Lib.hid hb
    clear hrow hb
    by_cases hlt : k < n
    · have i1 : (0 : Int) ≤ (k : Int) := by omega
      have i2 : (k : Int) < (n : Int) := by omega
      have hkl : k < xs.length := by rw [HN.out]; exact hlt
      obtain ⟨a, rfl, hh⟩ := (HR.out.below HB.out).here hkl
      obtain ⟨x, hx⟩ : ∃ x, xs[k] = x := ⟨_, rfl⟩
      rw [hx] at hh
      have HT : Hid (fitL f (xs.take (k + 1)) = fitL f (xs.take k) ++ if f x.1 then [x] else []) := by unfold Hid; rw [List.take_succ_eq_append_getElem hkl, hx, fit_snoc]
      clear hx
      obtain ⟨c0, c1, c2, c3, c4, c5⟩ := hh
      have HBx := Lib.hid (Go.Proofs.YtlhhopanegnliaaGreatDoor.box_below wr (.cells #[.int .i64 x.1.a, .int .i64 x.1.b, .int .i64 x.1.c, .int .i64 x.1.d, .int .i64 x.1.e, .int .i64 x.2] 39))
      have HXx := Lib.hid (LkAt.new wr x)
      have HC := Lib.hid (HP.out _ x.1 (OnlyS.of_below (thenCall HB.out HBx.out)))
      obtain ⟨r, hr⟩ : ∃ r, f x.1 = r := ⟨_, rfl⟩
      rw [hr] at HT HC
      clear hr
      obtain ⟨⟨xa, xb, xc, xd, xe⟩, xm⟩ := x
      simp only at c0 c1 c2 c3 c4 c5 HBx HXx HC
      have hlen := fit_len f (xs.take k)
      rw [List.length_take] at hlen
      go_wp2_with fail
      refine HC.out.mono ?_
      rintro e1 w1 ⟨rfl, hb1⟩
      have HB1 := Lib.hid (thenCall (thenCall HB.out HBx.out) hb1)
      obtain ⟨d0, d1, d2, d3, d4, d5, hltx⟩ := HXx.out.later hb1
      have HRow1 := Lib.hid (row_below (row_below HRow.out HBx.out) hb1)
      simp only at d0 d1 d2 d3 d4 d5 hltx
      clear hb1 c0 c1 c2 c3 c4 c5 HRow HBx HXx HC
      cases r
      · go_wp2_with fail
        go_roundw
        case rel => exact ⟨k + 1, by omega, by go_num, by rw [HT.out]; simpa using HRow1.out, HB1.out⟩
        case measure => simp [intOf]; omega
      · have hb3 := Go.Proofs.YtlhhopanegnliaaGreatDoor.box_below w1 (.cells #[.int .i64 xa, .int .i64 xb, .int .i64 xc, .int .i64 xd, .int .i64 xe, .int .i64 xm] 39)
        have hrow3 := row_below HRow1.out hb3
        have hle3 : W.heap.size ≤ (w1.alloc (.cells #[.int .i64 xa, .int .i64 xb, .int .i64 xc, .int .i64 xd, .int .i64 xe, .int .i64 xm] 39)).heap.size := Nat.le_trans HB1.out.size hb3.size
        obtain ⟨v', w9, hrun, hrow9, hg9, -⟩ := Row.app hrow3 (box_ls w1 (⟨xa, xb, xc, xd, xe⟩, xm)) (by simp; omega) hle3 35
        have HB9 := Lib.hid ((thenCall HB1.out hb3).trans (Row.app_below hrow3 hg9 hle3))
        have HRow9 := Lib.hid hrow9
        clear hrow3 hrow9 hg9 hle3 hb3
        go_wp2_with (at_builtin; refine Lib.wpList_append_run _ rfl _ _ _ _ rfl _ _ rfl rfl _ _ hrun ?_)
        go_roundw
        case rel => exact ⟨k + 1, by omega, by go_num, by rw [HT.out]; exact HRow9.out, HB9.out⟩
        case measure => simp [intOf]; omega
    · obtain rfl : k = n := by omega
      have HTk : Hid (xs.take k = xs) := List.take_of_length_le (Nat.le_of_eq HN.out)
      obtain ⟨A', c', rfl, hls⟩ := HRow.out.ls
      rw [HTk.out] at hls ⊢
      have HBa := Lib.hid (back_any hls (Nat.le_trans (fit_len f xs) (by rw [HN.out]; exact hl)) (fun x hx => HF.out _ (List.mem_filter.1 hx).2))
      clear hls HRow
      go_wp2_with fail
      refine HBa.out.mono ?_
      rintro e2 w2 ⟨ys, hbk, A2, c2, rfl, hls2, hb2, hf2⟩
      have HE : Hid (Bk (fitL f xs) ys ∧ Ls w2 A2 c2 ys ∧ Below W.heap.size W w2 ∧ ∀ a, A2 = some a → W.heap.size ≤ a.block) := ⟨hbk, hls2, thenCall HB.out hb2, fun a ha => Nat.le_trans HB.out.size (hf2 a ha)⟩
      clear hbk hls2 hb2 hf2
      go_wp2_with fail
      go_ret
      exact ⟨ys, HE.out.1, A2, c2, rfl, HE.out.2.1, HE.out.2.2⟩
def Picks (W : World) (f : Pt → Bool) (xs : List Hd) (e : Ending) (w' : World) : Prop := ∃ ys, Bk (fitL f xs) ys ∧ Lists W ys e w'
theorem gbelow_any (hr : Ls W A c xs) (hl : xs.length ≤ 400) (q : Pt) : Calls Tryz.prog 60 #[.slice A xs.length c, q.v] W (Picks W (fun x => belB x q) xs) := by
  have hx := Go.Proofs.YtlhhopanegnliaaGreatDoor.box_below W (.cells #[.int .i64 q.a, .int .i64 q.b, .int .i64 q.c, .int .i64 q.d, .int .i64 q.e] 30)
  have HG := Lib.hid (gback_any (bel_at (PtAt.new W q.a q.b q.c q.d q.e) (fun h => h)) (fun _ h => bel_right h) (hr.below hx) hl)
  have HX := Lib.hid hx
  obtain ⟨n, hn⟩ : ∃ n, xs.length = n := ⟨_, rfl⟩
  rw [hn] at HG ⊢
  clear hr hx hl hn
  obtain ⟨qa, qb, qc, qd, qe⟩ := q
  simp only at HG HX
  go_enter Tryz.func60, Tryz.ntmps60
  go_wp2_with fail
  refine HG.out.mono ?_
  rintro e2 w2 ⟨ys, hbk, A2, c2, rfl, hls2, hb2, hf2⟩
  have HE : Hid (Picks W (fun x => belB x ⟨qa, qb, qc, qd, qe⟩) xs (.returned (.slice A2 ys.length c2)) w2) := ⟨ys, hbk, A2, c2, rfl, hls2, thenCall HX.out hb2, fun a ha => Nat.le_trans HX.out.size (hf2 a ha)⟩
  clear hbk hls2 hb2 hf2
  go_wp2_with fail
  go_ret
  exact HE.out
end
end Go.Proofs.YtlhhopanegnliaaGreatDoor.Lk
namespace Go.Proofs.YtlhhopanegnliaaGreatDoor.Lk
open Go Go.RowKit Go.Shelf Go.Maps Go.ChangeShapes Go.WideShapes Pa
set_option maxRecDepth 100000

theorem int_inv {d : Nat} {cs : List Value} {ls : List Lit} (h : Tryz.prog.keyLits (d + 1) 3 cs = some ls) : ∃ n, cs = [.int .i64 n] ∧ wf64 n := by
  unfold Program.keyLits at h
  simp only [Tryz.underlying3] at h
  split at h
  · rename_i heq; cases heq
  · rename_i q q' n heq
    injection heq with heq
    injection heq with heq
    subst heq
    split at h
    · rename_i hw
      obtain ⟨rfl, hw⟩ := hw
      exact ⟨n, rfl, hw⟩
    · cases h
  · rename_i heq; cases heq
  · rename_i heq; cases heq
  · rename_i heq; cases heq
  · cases h
theorem arr_inv {d : Nat} {v0 v1 v2 v3 : Value} {ls : List Lit} (h : Tryz.prog.keyLits (d + 2) 28 [v0, v1, v2, v3] = some ls) :
    ∃ a b c e, v0 = .int .i64 a ∧ v1 = .int .i64 b ∧ v2 = .int .i64 c ∧ v3 = .int .i64 e ∧ wf64 a ∧ wf64 b ∧ wf64 c ∧ wf64 e := by
  unfold Program.keyLits at h
  simp only [Tryz.underlying28, cells23, cells3] at h
  rw [if_pos (by rfl), show List.range 4 = [0, 1, 2, 3] from rfl] at h
  simp only [List.mapM_cons, List.mapM_nil, Option.map_eq_some_iff, bind, Option.bind_eq_some_iff, pure] at h
  obtain ⟨_, ⟨x0, h0, _, ⟨x1, h1, _, ⟨x2, h2, _, ⟨x3, h3, -⟩, -⟩, -⟩, -⟩, -⟩ := h
  obtain ⟨a, e0, wa⟩ := int_inv h0
  obtain ⟨b, e1, wb⟩ := int_inv h1
  obtain ⟨c, e2, wc⟩ := int_inv h2
  obtain ⟨e, e3, we⟩ := int_inv h3
  simp at e0 e1 e2 e3
  exact ⟨a, b, c, e, e0, e1, e2, e3, wa, wb, wc, we⟩
theorem path_inv {d : Nat} {v0 v1 v2 v3 v4 : Value} {ls : List Lit} (h : Tryz.prog.keyLits (d + 3) 30 [v0, v1, v2, v3, v4] = some ls) :
    ∃ p : Pt, [v0, v1, v2, v3, v4] = [.int .i64 p.a, .int .i64 p.b, .int .i64 p.c, .int .i64 p.d, .int .i64 p.e] ∧ FitP p := by
  unfold Program.keyLits at h
  simp only [Tryz.underlying30, cells25] at h
  rw [if_pos ⟨by rfl, by simp⟩] at h
  simp only [List.mapM_cons, List.mapM_nil, Option.map_eq_some_iff, bind, Option.bind_eq_some_iff, pure, cells23, cells3] at h
  obtain ⟨_, ⟨x0, h0, _, ⟨x1, h1, -⟩, -⟩, -⟩ := h
  obtain ⟨a, b, c, e, e0, e1, e2, e3, wa, wb, wc, we⟩ := arr_inv h0
  obtain ⟨n, e4, wn⟩ := int_inv h1
  simp at e4
  exact ⟨⟨a, b, c, e, n⟩, by simp [e0, e1, e2, e3, e4], wa, wb, wc, we, wn⟩
theorem key_inv {v : Value} {kl : Lit} (h : keyOf Tryz.prog 30 v = some kl) : ∃ p : Pt, v = p.v ∧ FitP p ∧ kl = klP p := by
  have h' := h
  unfold keyOf at h
  rw [Tryz.underlying30] at h
  simp only at h
  split at h
  · rename_i hc
    rw [Bool.and_eq_true] at hc
    obtain ⟨d, hd⟩ := types_size
    rw [hd] at h
    cases v with
    | agg cs =>
      have hsz : cs.size = 5 := by
        have := hc.2
        simp [Value.formed, Tryz.underlying30, cells25] at this
        exact this
      obtain ⟨l⟩ := cs
      match l, hsz with
      | [v0, v1, v2, v3, v4], _ =>
        obtain ⟨ls, hls, -⟩ := Option.map_eq_some_iff.1 h
        obtain ⟨p, hp, hf⟩ := path_inv hls
        have e : (Value.agg ⟨[v0, v1, v2, v3, v4]⟩) = p.v := by rw [hp]
        rw [e] at h'
        rw [key_of hf] at h'
        exact ⟨p, e, hf, by injection h' with e; exact e.symm⟩
    | _ => simp [Value.formed, Tryz.underlying30] at hc
  · cases h
end Go.Proofs.YtlhhopanegnliaaGreatDoor.Lk
