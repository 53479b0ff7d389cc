/- The order in which who may stand is told, least first: the program's answer. -/
import Derived.Test.YtgefponjlliaaaaHm
import Derived.Test.YtgefponjlliaaaaPH
import Derived.Test.YtgefponjlliaaaaHk
namespace Go.Proofs.Ytgefponjlliaaaa
open Go Go.RowKit Go.Shelf
set_option maxRecDepth 100000

/-- in memory: how many each one waits for, the heap, the row that is told -/
structure Om (B : World) (n gm br K : Nat) (f : Nat → Nat) (H : List Nat) (xs : List Int) (vo v : Value) (w : World) : Prop where
  bel : Below B.heap.size B w
  arr : Arr w gm n fun i => (f i : Int)
  hq : Hq w K br v H
  ord : Is.Row w K vo xs
  ap : ∀ k, vo.ownBlock = some k → v.ownBlock ≠ some k
  ge : B.heap.size ≤ gm ∧ B.heap.size ≤ br ∧ gm < K ∧ gm ≠ br
  hp : Cy.Hp H
section
variable {B w w' : World} {n gm br K : Nat} {f : Nat → Nat} {H H' : List Nat} {xs : List Int} {vo v v' : Value}
theorem Om.hs (h : Om B n gm br K f H xs vo v w) (hs : Hs w K br v H' v' w') (hp : Cy.Hp H') : Om B n gm br K f H' xs vo v' w' := by
  have hge := h.ge
  have hK := h.hq.KW
  have hbK := h.hq.bK
  have hvK : ∀ k, v.ownBlock = some k → K ≤ k := fun k hk => (h.hq.row.lt k hk).1
  refine ⟨h.bel.trans (hs.only.below (fun k hk => ?_) h.bel.size), h.arr.only hs.only ?_, hs.hq, row_keep h.ord fun k hk => hs.only.block k (h.ord.lt k hk).2 ?_, fun k hk hk' => ?_, hge, hp⟩
  · rcases hk with rfl | hk
    · exact hge.2.1
    · have := hvK k hk; omega
  · rintro (q | q)
    · exact hge.2.2.2 q
    · have := hvK gm q; omega
  · rintro (q | q)
    · have := (h.ord.lt k hk).1; omega
    · exact h.ap k hk q
  · rcases hs.own with q | q
    · exact h.ap k hk (q ▸ hk')
    · have := q k hk'; have := (h.ord.lt k hk).2; omega
theorem Om.put (h : Om B n gm br K f H xs vo v w) (i x : Nat) : Om B n gm br K (Cy.upd f i x) H xs vo v (w.setCell ⟨gm, i, none⟩ (.int .i64 (x : Int))) := by
  have hge := h.ge
  have hK := h.hq.KW
  have hvK : ∀ k, v.ownBlock = some k → K ≤ k := fun k hk => (h.hq.row.lt k hk).1
  have ho := OnlyS.set gm i w (.int .i64 (x : Int))
  have harr := h.arr.set i (x : Int)
  refine ⟨h.bel.setCell hge.1 _, harr.congr fun j _ => ?_, h.hq.only ho (fun q => hge.2.2.2 q.symm) (row_keep h.hq.row fun k hk => ho.block k (h.hq.row.lt k hk).2 ?_), row_keep h.ord fun k hk => ho.block k (h.ord.lt k hk).2 ?_, h.ap, hge, h.hp⟩
  · unfold Cy.upd; split <;> rfl
  · have := hvK k hk; omega
  · have := (h.ord.lt k hk).1; omega
theorem Om.tell (h : Om B n gm br K f H xs vo v w) (hl : xs.length ≤ 100000) (x : Int) : ∃ A q c A' c' w2, vo = .slice A q c ∧ q = xs.length ∧ (Builtin.append_ #[24, 24] 24 #[.slice A q c, .slice (some ⟨w.heap.size, 0, none⟩) 1 1]).run Try.prog (w.alloc (.cells #[.int .i64 x] 3)) = .ok (.slice A' (q + 1) c') w2 ∧
    Om B n gm br K f H (xs ++ [x]) (.slice A' (q + 1) c') v w2 := by
  have hge := h.ge
  have hK := h.hq.KW
  have hbK := h.hq.bK
  have hbx := box_below w (.cells #[.int .i64 x] 3)
  obtain ⟨A, c, hv, -⟩ := h.ord.ls
  subst hv
  obtain ⟨v2, w2, hrun, hrow, hgr, hown⟩ := Is.Row.app2 (row_below h.ord hbx) (ys := [x]) (Is.box_ls w x) (by simp; omega) (by simp; omega) 24
  obtain ⟨A', c', rfl, -⟩ := hrow.ls
  have hlen : (xs ++ [x]).length = xs.length + 1 := by simp
  rw [hlen] at hrun hrow hown
  have hoK : ∀ k, (Value.slice A xs.length c).ownBlock = some k → K ≤ k := fun k hk => (h.ord.lt k hk).1
  have ho : OnlyS (fun k => (Value.slice A xs.length c).ownBlock = some k) w w2 := (OnlyS.of_below hbx).grown hgr fun k hk => .inl hk
  refine ⟨A, _, c, A', c', w2, rfl, rfl, hrun, ⟨h.bel.trans (ho.below (fun k hk => ?_) h.bel.size), h.arr.only ho ?_, h.hq.only ho ?_ (row_keep h.hq.row fun k hk => ho.block k (h.hq.row.lt k hk).2 ?_), hrow, fun k hk hk' => ?_, hge, h.hp⟩⟩
  · have := hoK k hk; omega
  · intro q; have := hoK gm q; omega
  · intro q; have := hoK br q; omega
  · exact fun q => h.ap k q hk
  · rcases hown with q | q
    · rw [q] at hk; exact h.ap k hk hk'
    · rw [q] at hk
      have h1 := (h.hq.row.lt k hk').2
      injection hk with hk
      simp at hk
      omega
theorem Om.drewN (h : Om B n gm br K f H xs vo v w) (q : Nat) : Om B n gm br K f H xs vo v (w.drewN q) :=
  ⟨h.bel.trans (drew_below _ _ |>.mono h.bel.size), h.arr.only (OnlyS.drewN (OnlyS.refl (fun _ => False) w) q) (fun h => h), h.hq.only (OnlyS.drewN (OnlyS.refl (fun _ => False) w) q) (fun h => h) (row_keep h.hq.row fun _ _ => rfl), row_keep h.ord fun _ _ => rfl, h.ap, h.ge, h.hp⟩
end
theorem om_start (B : World) (n : Nat) : Om B n B.heap.size (B.heap.size + 1) (B.heap.size + 1 + 1) (fun _ => 0) [] [] (.slice none 0 0) (.slice none 0 0) ((B.alloc (.cells (madeCells #[.int .i64 0] n) 3)).alloc (.cells #[.slice none 0 0] 42)) := by
  have h1 := box_below B (.cells (madeCells #[.int .i64 0] n) 3)
  have h2 := box_below (B.alloc (.cells (madeCells #[.int .i64 0] n) 3)) (.cells #[.slice none 0 0] 42)
  have hb := heap_new' (B.alloc (.cells (madeCells #[.int .i64 0] n) 3)) (.cells #[.slice none 0 0] 42)
  rw [show (B.alloc (.cells (madeCells #[.int .i64 0] n) 3)).heap.size = B.heap.size + 1 by simp] at hb
  refine ⟨h1.trans (h2.mono h1.size), (Arr.made B n).below h2, ⟨?_, ?_, World.ownsRow_nil _ _ _ _, by omega, by simp⟩, World.ownsRow_nil _ _ _ _, fun k hk => (by cases hk), ⟨Nat.le_refl _, by omega, by omega, by omega⟩, Cy.Hp.nil⟩
  · rw [cell_of_row _ _ _ _ _ _ hb]
    rfl
  · exact frozen_of_row _ _ _ _ _ hb
/-- what is read: the ways, the ways turned, who stands in the whole -/
structure Ow (B : World) (l : List Es.Ed) (nums : List Int) (to bt : Cy.Tos) (full : List Int) (n b4 b5 : Nat) : Prop where
  mem : ∃ A1 c1 A2 c2 gb, B.cell? ⟨b4, 0, none⟩ = some (.slice A1 n c1) ∧ B.cell? ⟨b4, 1, none⟩ = some (.slice A2 n c2) ∧ Is.Ls B A1 c1 nums ∧ Tl B A2 c2 to ∧ B.cell? ⟨b5, 1, none⟩ = some (.slice (some ⟨gb, 0, none⟩) n n) ∧ Tl B (some ⟨gb, 0, none⟩) n bt
  n1 : n = nums.length
  n2 : n = to.length
  wy : Cy.Wy l nums to
  ok : Okw to
  okb : Okr bt
  tr : Cy.Trn to bt
  topo : Cy.Topo l full
/-- the order on its way -/
structure Og (B : World) (to : Cy.Tos) (nums full : List Int) (n gm br K N : Nat) (O H : List Nat) (f : Nat → Nat) (vo v : Value) (w : World) : Prop where
  om : Om B n gm br K f H (Cy.numl nums O) vo v w
  oi : Cy.Oi to O H f []
  beg : Cy.Beg full nums O
  cnt : N + O.length = n
def Oj (B : World) (to : Cy.Tos) (nums full : List Int) (n gm br K : Nat) (V0 : Value) (b4 b5 : Nat) (N : Nat) (a' : Act) (w' : World) : Prop :=
  ∃ (O H : List Nat) (f : Nat → Nat) (vo v : Value) (u1 u8 u9 u11 u12 u13 u14 u15 u16 u17 u18 u19 u20 u21 u22 u23 u24 u25 u26 u27 u28 u29 u30 u31 u32 u33 u34 u35 u36 u37 u38 u39 u40 u41 u42 u43 u44 u45 u46 u47 u48 u49 u50 u51 u52 u53 u54 u55 u56 u57 u58 u59 u60 u61 u62 u63 u64 u65 u66 u67 u68 u69 u70 u71 u72 u73 u74 u75 u76 u77 u78 u79 u80 u81 u82 u83 u84 : Value), a' = { tmps := #[V0, u1, .slice none 0 0, .bool false, .pointer (some ⟨b4, 0, none⟩), .pointer (some ⟨b5, 0, none⟩), .slice (some ⟨gm, 0, none⟩) n n, .pointer (some ⟨br, 0, none⟩), u8, u9, vo, u11, u12, u13, u14, u15, u16, u17, u18, u19, u20, u21, u22, u23, u24, u25, u26, u27, u28, u29, u30, u31, u32, u33, u34, u35, u36, u37, u38, u39, u40, u41, u42, u43, u44, u45, u46, u47, u48, u49, u50, u51, u52, u53, u54, u55, u56, u57, u58, u59, u60, u61, u62, u63, u64, u65, u66, u67, u68, u69, u70, u71, u72, u73, u74, u75, u76, u77, u78, u79, u80, u81, u82, u83, u84], defers := [] } ∧ Og B to nums full n gm br K N O H f vo v w'
theorem Oj.mk' {B : World} {to : Cy.Tos} {nums full : List Int} {n gm br K : Nat} {V0 : Value} {b4 b5 : Nat} {O H : List Nat} {f : Nat → Nat} {vo v : Value} {u1 u8 u9 u11 u12 u13 u14 u15 u16 u17 u18 u19 u20 u21 u22 u23 u24 u25 u26 u27 u28 u29 u30 u31 u32 u33 u34 u35 u36 u37 u38 u39 u40 u41 u42 u43 u44 u45 u46 u47 u48 u49 u50 u51 u52 u53 u54 u55 u56 u57 u58 u59 u60 u61 u62 u63 u64 u65 u66 u67 u68 u69 u70 u71 u72 u73 u74 u75 u76 u77 u78 u79 u80 u81 u82 u83 u84 : Value} {N : Nat} {w' : World} (h : Og B to nums full n gm br K N O H f vo v w') :
    Oj B to nums full n gm br K V0 b4 b5 N { tmps := #[V0, u1, .slice none 0 0, .bool false, .pointer (some ⟨b4, 0, none⟩), .pointer (some ⟨b5, 0, none⟩), .slice (some ⟨gm, 0, none⟩) n n, .pointer (some ⟨br, 0, none⟩), u8, u9, vo, u11, u12, u13, u14, u15, u16, u17, u18, u19, u20, u21, u22, u23, u24, u25, u26, u27, u28, u29, u30, u31, u32, u33, u34, u35, u36, u37, u38, u39, u40, u41, u42, u43, u44, u45, u46, u47, u48, u49, u50, u51, u52, u53, u54, u55, u56, u57, u58, u59, u60, u61, u62, u63, u64, u65, u66, u67, u68, u69, u70, u71, u72, u73, u74, u75, u76, u77, u78, u79, u80, u81, u82, u83, u84], defers := [] } w' := ⟨O, H, f, vo, v, u1, u8, u9, u11, u12, u13, u14, u15, u16, u17, u18, u19, u20, u21, u22, u23, u24, u25, u26, u27, u28, u29, u30, u31, u32, u33, u34, u35, u36, u37, u38, u39, u40, u41, u42, u43, u44, u45, u46, u47, u48, u49, u50, u51, u52, u53, u54, u55, u56, u57, u58, u59, u60, u61, u62, u63, u64, u65, u66, u67, u68, u69, u70, u71, u72, u73, u74, u75, u76, u77, u78, u79, u80, u81, u82, u83, u84, rfl, h⟩

theorem Cy.Oi.few {to : Cy.Tos} {O H R : List Nat} {f : Nat → Nat} (h : Cy.Oi to O H f R) : H.length ≤ to.length := Cy.nodup_lt h.nd fun i hi => ((h.mem i).1 hi).1
theorem Cy.Oi.fewO {to : Cy.Tos} {O H R : List Nat} {f : Nat → Nat} (h : Cy.Oi to O H f R) : O.length ≤ to.length := Cy.nodup_lt h.ndO h.lt
/-- the first loop: who has so many, who has none is put on the heap -/
structure Of (to : Cy.Tos) (k : Nat) (H : List Nat) (f : Nat → Nat) : Prop where
  nd : H.Nodup
  mem : ∀ i, i ∈ H ↔ i < k ∧ Cy.nx to i = []
  is : ∀ i, i < k → f i = (Cy.nx to i).length
theorem Of.few {to : Cy.Tos} {k : Nat} {H : List Nat} {f : Nat → Nat} (h : Of to k H f) : H.length ≤ k := Cy.nodup_lt h.nd fun i hi => ((h.mem i).1 hi).1
theorem Of.some {to : Cy.Tos} {k : Nat} {H : List Nat} {f : Nat → Nat} (h : Of to k H f) (h0 : Cy.nx to k ≠ []) : Of to (k + 1) H (Cy.upd f k (Cy.nx to k).length) := by
  refine ⟨h.nd, fun i => ?_, fun i hi => ?_⟩
  · rw [h.mem]
    constructor
    · rintro ⟨a, b⟩; exact ⟨by omega, b⟩
    · rintro ⟨a, b⟩
      refine ⟨?_, b⟩
      by_cases e : i = k
      · subst e; exact absurd b h0
      · omega
  · unfold Cy.upd
    split
    · rename_i e; rw [e]
    · exact h.is i (by omega)
theorem Of.none {to : Cy.Tos} {k : Nat} {H H' : List Nat} {f : Nat → Nat} (h : Of to k H f) (h0 : Cy.nx to k = []) (hp : H'.Perm (k :: H)) : Of to (k + 1) H' (Cy.upd f k 0) := by
  have hk : k ∉ H := fun q => by have := ((h.mem k).1 q).1; omega
  refine ⟨hp.nodup_iff.2 (List.nodup_cons.2 ⟨hk, h.nd⟩), fun i => ?_, fun i hi => ?_⟩
  · rw [hp.mem_iff, List.mem_cons, h.mem]
    constructor
    · rintro (rfl | ⟨a, b⟩)
      · exact ⟨by omega, h0⟩
      · exact ⟨by omega, b⟩
    · rintro ⟨a, b⟩
      by_cases e : i = k
      · exact .inl e
      · exact .inr ⟨by omega, b⟩
  · unfold Cy.upd
    split
    · rename_i e; rw [e, h0]; rfl
    · exact h.is i (by omega)
/-- the order and that there is one, or nothing and that there is none -/
def Orders (l : List Es.Ed) (W : World) (e : Ending) (w' : World) : Prop :=
  Below W.heap.size W w' ∧ ∃ full, Cy.Topo l full ∧ ((full.length < (Cy.nodesC l).length ∧ e = .returned (.tuple #[.slice none 0 0, .bool false])) ∨
    (full.length = (Cy.nodesC l).length ∧ ∃ v, e = .returned (.tuple #[v, .bool true]) ∧ Is.Row w' W.heap.size v full))
end Go.Proofs.Ytgefponjlliaaaa
