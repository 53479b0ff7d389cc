/- A map from nodes to numbers, told by a function: made, looked up, stored, counted up. -/
import Derived.Test.YthjlapcccmbhbaaRi
import Derived.WideKeyEntry
import Derived.Maps.RangeWalk
namespace Go.Proofs.Ythjlapcccmbhbaa.Lk
open Go Go.RowKit Go.Shelf Go.Maps Go.ChangeShapes Go.WideShapes Go.MapKept Go.ChangeMaps Go.WideElems Pa
set_option maxRecDepth 100000

theorem klaw25 : Go.WideMaps.KeyLaw Try.prog 25 := deep_law_laid laidOut (m := 4) (by omega) (of_decide_eq_true (by kernel_rfl)) (by kernel_rfl) (by rw [Try.underlying25])
/-- a map that has the nodes of which h holds, with the numbers that f tells; 0 for the others -/
def MapF (W : World) (b n : Nat) (h : Pt → Bool) (f : Pt → Int) : Prop :=
  ∃ D : DataW Unit, W.ownsMap Try.prog 25 (plainElem Try.prog 3) b n D ∧ ∀ p, FitP p → Maps.has D (klP p) = h p ∧ D.atKey (klP p) (.lit (.int .i64 0)) = .lit (.int .i64 (f p))
theorem MapF.made (W : World) : MapF (W.alloc (.map #[] 0)) W.heap.size 0 (fun _ => false) (fun _ => 0) := ⟨.map [], World.ownsMap_made W Try.prog 25 _, fun _ _ => ⟨rfl, rfl⟩⟩
section
variable {W W' : World} {b n : Nat} {h : Pt → Bool} {f : Pt → Int}
theorem MapF.keep (hM : MapF W b n h f) (hb : W'.heap[b]? = W.heap[b]?) : MapF W' b n h f := by
  obtain ⟨D, ⟨es, clock, h1, h2⟩, h3⟩ := hM
  exact ⟨D, ⟨es, clock, hb.trans h1, h2⟩, h3⟩
theorem MapF.lt (hM : MapF W b n h f) : b < W.heap.size := by
  obtain ⟨D, h1, _⟩ := hM
  exact h1.lt
theorem MapF.below (hM : MapF W b n h f) (hb : Below W.heap.size W W') : MapF W' b n h f := hM.keep (hb.block _ hM.lt)
theorem MapF.congr {h' : Pt → Bool} {f' : Pt → Int} (hM : MapF W b n h f) (e1 : ∀ p, FitP p → h p = h' p) (e2 : ∀ p, FitP p → f p = f' p) : MapF W b n h' f' := by
  obtain ⟨D, h1, h3⟩ := hM
  exact ⟨D, h1, fun p hp => ⟨(h3 p hp).1.trans (e1 p hp), by rw [(h3 p hp).2, e2 p hp]⟩⟩
theorem MapF.look (hM : MapF W b n h f) {p : Pt} (hp : FitP p) :
    (Instr.lookup 44 (.map (some b)) p.v false).run Try.prog W = .ok (.int .i64 (f p)) W := by
  obtain ⟨D, h1, h4⟩ := hM
  obtain ⟨c, hrun, hat, -⟩ := h1.lookup_int law25 Try.underlying44 Try.underlying3 (zero3 W) (key_of hp)
  rw [(h4 p hp).2] at hat
  simp at hat
  rw [hrun, ← hat]
theorem putF {D : DataW Unit} (hM : Maps.IsMap D) {p : Pt} (hp : FitP p) (v : Int) (h4 : ∀ p, FitP p → Maps.has D (klP p) = h p ∧ D.atKey (klP p) (.lit (.int .i64 0)) = .lit (.int .i64 (f p))) :
    ∀ q, FitP q → Maps.has (D.put (klP p) (.lit (.int .i64 v))) (klP q) = (eqP p q || h q) ∧ (D.put (klP p) (.lit (.int .i64 v))).atKey (klP q) (.lit (.int .i64 0)) = .lit (.int .i64 (if eqP p q then v else f q)) := by
  intro q hq
  by_cases e : p = q
  · subst e
    rw [Maps.has_put_same hM (law25.key (key_of hp)), Maps.atKey_put_same hM (law25.key (key_of hp)), eqP_self]
    simp
  · have e' : klP q ≠ klP p := fun h => e (kl_inj hp hq h.symm)
    rw [Maps.has_put_other e', Maps.atKey_put_other e', (h4 q hq).1, (h4 q hq).2, eqP_ne e]
    simp
theorem MapF.put (hM : MapF W b n h f) {p : Pt} (hp : FitP p) {v : Int} (hm : wf64 v) (hl : n ≤ 10000) :
    ∃ w', (Instr.mapUpdate 44 (.map (some b)) p.v (.int .i64 v)).run Try.prog W = .ok () w' ∧ MapF w' b (n + 1) (fun q => eqP p q || h q) (fun q => if eqP p q then v else f q) ∧ W.grownBy w' (some b) := by
  obtain ⟨D, h1, h4⟩ := hM
  obtain ⟨w', hrun, ho, hg⟩ := h1.update law25 Try.underlying44 (by unfold maxLen; omega) (key_of hp) (plainElem_int Try.underlying3 hm)
  exact ⟨w', hrun, ⟨_, ho, putF h1.isMap hp v h4⟩, hg⟩
theorem grown_block {es : Array MapEntry} {clock : Nat} (hb : W.heap[b]? = some (.map es clock)) (o' : Obj) : W.grownBy (setBlock W b o') (some b) :=
  ⟨rfl, rfl, rfl, by simp [setBlock], fun i _ hi => heap_setBlock_other hb _ (fun e => hi (by rw [e]))⟩
/-- a number of a map, counted up: the entry, then the store -/
theorem MapF.bump (hM : MapF W b n h f) {p : Pt} (hp : FitP p) {v : Int} (hm : wf64 v) (hl : n ≤ 10000) :
    ∃ (v0 : Value) (st : Nat) (W2 : World), (Instr.mapEntry 44 (.map (some b)) p.v).run Try.prog W = .ok (.tuple #[v0, goInt st]) W2 ∧ W.grownBy W2 (some b) ∧
      (Instr.lookup 44 (.map (some b)) p.v false).run Try.prog W2 = .ok (.int .i64 (f p)) W2 ∧
      ∃ W3, (Instr.entryStore 44 (.map (some b)) (goInt st) (.int .i64 v)).run Try.prog W2 = .ok () W3 ∧ MapF W3 b (n + 1) (fun q => eqP p q || h q) (fun q => if eqP p q then v else f q) ∧ W.grownBy W3 (some b) := by
  obtain ⟨w', hrun, hput, hgr⟩ := MapF.put hM hp hm hl
  obtain ⟨D, ⟨es, clock, hb, F, hs, hD⟩, h4⟩ := hM
  have hown : W.ownsMap Try.prog 25 (plainElem Try.prog 3) b n D := ⟨es, clock, hb, F, hs, hD⟩
  obtain ⟨v0, st, es1, clock1, hE, -, hS⟩ := entry_then_store klaw25 Try.underlying44 (z := .int .i64 0) zero3 hb F (key_of hp)
  have hb2 : (setBlock W b (.map es1 clock1)).heap[b]? = some (.map es1 clock1) := heap_setBlock_same hb _
  obtain ⟨es', clock', hst, hup⟩ := hS _ (.int .i64 v) hb2
  have e3 : setBlock W b (.map es' clock') = w' := by
    rw [hrun] at hup
    injection hup with _ e
    exact e.symm
  have e4 : setBlock (setBlock W b (.map es1 clock1)) b (.map es' clock') = setBlock W b (.map es' clock') := by
    simp [setBlock]
  refine ⟨v0, st, _, hE, grown_block hb _, ?_, w', by rw [hst, e4, e3], hput, hgr⟩
  rcases klaw25.find W (key_of hp) es.toList F.keys with ⟨g1, g2⟩ | ⟨j, e0, g1, g2, g3⟩
  · have hmap : (Instr.mapEntry 44 (.map (some b)) p.v).run Try.prog W = .ok (.tuple #[.int .i64 0, goInt clock]) (setBlock W b (.map (es.push ⟨p.v, .int .i64 0, clock⟩) (clock + 1))) := by
      simp [Instr.mapEntry, run_underlying Try.underlying44, MapKept.run_getObj_map hb, klaw25.check W false (key_of hp), g1, MapKept.run_setObj_map _ hb, Result.andThen, setBlock]
    have hupd : (Instr.mapUpdate 44 (.map (some b)) p.v (.int .i64 0)).run Try.prog W = .ok () (setBlock W b (.map (es.push ⟨p.v, .int .i64 0, clock⟩) (clock + 1))) := by
      simp [Instr.mapUpdate, run_underlying Try.underlying44, MapKept.run_getObj_map hb, klaw25.check W false (key_of hp), g1, MapKept.run_setObj_map _ hb, Result.andThen, setBlock]
    have e5 : setBlock W b (.map es1 clock1) = setBlock W b (.map (es.push ⟨p.v, .int .i64 0, clock⟩) (clock + 1)) := by
      rw [hE] at hmap
      injection hmap
    obtain ⟨w2, hr2, hm2, -⟩ := MapF.put (h := h) (f := f) ⟨D, hown, h4⟩ hp (v := 0) (by decide) hl
    have e6 : setBlock W b (.map (es.push ⟨p.v, .int .i64 0, clock⟩) (clock + 1)) = w2 := by
      have e7 := hupd.symm.trans hr2
      injection e7
    rw [e5.trans e6]
    have hl2 := hm2.look hp
    rw [eqP_self, if_pos rfl] at hl2
    have h0 : f p = 0 := by
      have hat := (h4 p hp).2
      have hno : Maps.has D (klP p) = false := by
        cases hh : Maps.has D (klP p)
        · rfl
        · exfalso
          rw [hD] at hh
          obtain ⟨q, hq, hk⟩ := List.any_eq_true.1 hh
          obtain ⟨x, hx, rfl⟩ := List.mem_map.1 (mem_sorted.1 hq)
          obtain ⟨y, hy⟩ := F.reads x hx
          have e7 := WideAt.sameKey_eq hk
          rw [rg_of hy] at e7
          have e8 := rd_key hy
          rw [e7] at e8
          exact g2 x hx (law25.inj e8 (key_of hp))
      rw [Maps.atKey_of_not_has hno] at hat
      simpa using hat.symm
    rw [h0]
    exact hl2
  · have hj : es[j]? = some e0 := by simpa using g2
    have hsame : es.modify j (fun e => { e with key := p.v }) = es := by
      apply Array.ext'
      rw [Array.toList_modify, modify_eq_set _ _ _ _ g2]
      have : ({ e0 with key := p.v } : MapEntry) = e0 := by rw [← g3]
      rw [this]
      exact set_self _ _ _ g2
    have hmap : (Instr.mapEntry 44 (.map (some b)) p.v).run Try.prog W = .ok (.tuple #[e0.val, goInt e0.born]) (setBlock W b (.map es clock)) := by
      simp [Instr.mapEntry, run_underlying Try.underlying44, MapKept.run_getObj_map hb, klaw25.check W false (key_of hp), g1, hj, g3, klaw25.stays W (key_of hp), hsame, MapKept.run_setObj_map _ hb, Result.andThen, setBlock]
    have e5 : setBlock W b (.map es1 clock1) = setBlock W b (.map es clock) := by
      rw [hE] at hmap
      injection hmap
    rw [e5]
    refine MapF.look (h := h) (f := f) (MapF.keep (W := W) ⟨D, hown, h4⟩ ?_) hp
    rw [heap_setBlock_same hb, hb]
end
end Go.Proofs.Ythjlapcccmbhbaa.Lk
