/- One number repeated by the library; how far places are from one, in memory. -/
import Derived.Test.YtgefponjlliaaaaHi
import Derived.Laws.Bits64b
import Derived.Laws.CopyOwn
import Derived.Deep.RegionLaw
namespace Go.Proofs.Ytgefponjlliaaaa
open Go Go.RowKit Go.Shelf
set_option maxRecDepth 100000

theorem and_one : bits .and .u64 1 4294967295 = 1 := by
  have := bits_and_u64_nat 1 4294967295 (by omega) (by omega)
  exact this
theorem and_zero : bits .and .u64 0 4294967295 = 0 := by
  have := bits_and_u64_nat 0 4294967295 (by omega) (by omega)
  exact this
theorem and_nat {N : Nat} (h : N ≤ 65536) : bits .and .u64 (N : Int) 4294967295 = (N : Int) := by
  have := bits_and_u64_nat N 4294967295 (by omega) (by omega)
  rw [show N &&& 4294967295 = N by
    have e : (4294967295 : Nat) = 2 ^ 32 - 1 := rfl
    rw [e, Nat.and_two_pow_sub_one_eq_mod]
    exact Nat.mod_eq_of_lt (by omega)] at this
  exact this
theorem mul64_one {N : Nat} (h : N ≤ 65536) (W : World) : Calls Try.prog 64 #[.int .u64 1, .int .u64 (N : Int)] W fun e w' => e = .returned (.tuple #[.int .u64 0, .int .u64 (N : Int)]) ∧ W = w' := by
  have a1 := and_one
  have a0 := and_zero
  have aN := and_nat h
  have d1 : (N : Int) / 4294967296 = 0 := by omega
  go_enter Try.func64, Try.ntmps64
  go_wp2
  go_ret2
  exact ⟨rfl, rfl⟩
theorem mul_one' {N : Nat} (h : N ≤ 65536) (W : World) : Calls Try.prog 55 #[.int .u64 1, .int .u64 (N : Int)] W fun e w' => e = .returned (.tuple #[.int .u64 0, .int .u64 (N : Int)]) ∧ W = w' := by
  go_enter Try.func55, Try.ntmps55
  go_wp2_with (go_at_call 64; ((with_reducible refine (mul64_one h W).mono ?_); rintro e w' ⟨rfl, rfl⟩))
  go_ret2
  exact ⟨rfl, rfl⟩
/-- a row of which the first k are -1 -/
structure Ones (z : Int) (W : World) (g N k : Nat) (cur : List Value) : Prop where
  blk : W.heap[g]? = some (.cells cur.toArray 3 (0, 0))
  len : cur.length = N
  one : ∀ i, i < k → cur[i]? = some (.int .i64 z)
theorem Ones.arr {z : Int} {W : World} {g N : Nat} {cur : List Value} (h : Ones z W g N N cur) : Arr W g N (fun _ => z) := by
  refine ⟨fun i hi => ?_, fun o => frozen_of_row _ _ _ _ _ h.blk, (Array.getElem?_eq_some_iff.1 h.blk).1⟩
  rw [cell_of_row _ _ _ _ _ _ h.blk]
  simpa using h.one i hi
theorem ones_one {z : Int} {cur : List Value} {k : Nat} (h : ∀ i, i < k → cur[i]? = some (.int .i64 z)) (m : Nat) (hm : m ≤ k) : ∀ v ∈ cur.take m, v = .int .i64 z := by
  intro v hv
  obtain ⟨i, hi, rfl⟩ := List.mem_iff_getElem.1 hv
  have hl : i < m := by simp at hi; omega
  have := h i (by omega)
  rw [List.getElem_take]
  have hc : i < cur.length := by simp at hi; omega
  rw [List.getElem?_eq_getElem hc] at this
  exact Option.some.inj this
/-- k are copied behind the first k -/
theorem ones_splice {z : Int} {W' : World} {g N k m : Nat} {cur : List Value} (hl : cur.length = N) (h1 : ∀ i, i < k → cur[i]? = some (.int .i64 z)) (hm : m ≤ k) (hk : k + m ≤ N) (hb : W'.heap[g]? = some (.cells (splice cur k (cur.take m)).toArray 3 (0, 0))) : Ones z W' g N (k + m) (splice cur k (cur.take m)) := by
  refine ⟨hb, ?_, fun i hi => ?_⟩
  · simp [splice]; omega
  · unfold splice
    by_cases e : i < k
    · rw [List.getElem?_append_left (by simp; omega), List.getElem?_take_of_lt e]
      exact h1 i e
    · rw [List.getElem?_append_right (by simp; omega), show (cur.take k).length = k by simp; omega, List.getElem?_append_left (by simp; omega), List.getElem?_take_of_lt (by omega)]
      exact h1 (i - k) (by omega)
theorem size3 : (Try.prog.info? 3).map (·.size) = some 1 := by kernel_rfl
theorem made_block (W : World) (N : Nat) : (W.alloc (.cells (madeCells #[.int .i64 0] N) 3)).heap[W.heap.size]? = some (.cells (List.replicate N (.int .i64 0)).toArray 3 (0, 0)) := by
  rw [heap_new']
  congr 2
  apply Array.ext'
  apply List.ext_getElem?
  intro i
  by_cases hi : i < N <;> simp [madeCells, hi, Nat.mod_one]
def Repeats (z : Int) (W : World) (N : Nat) (e : Ending) (w' : World) : Prop := ∃ g, e = .returned (.slice (some ⟨g, 0, none⟩) N N) ∧ Arr w' g N (fun _ => z) ∧ Below W.heap.size W w' ∧ W.heap.size ≤ g
/-- what a copy leaves -/
theorem copy_run {z : Int} {w w0 : World} {g off dLen dCap sLen sCap B : Nat} {cur cs : List Value} {ad : Addr} (hg : w.heap[g]? = some (.cells cur.toArray 3 (0, 0))) (hn : cs.length = Nat.min sLen dLen) (hs : ∀ j v, cs[j]? = some v → w.cell? (ad.add j) = some v)
    (hf : off + cs.length ≤ cur.length) (h1 : ∀ v ∈ cs, v = .int .i64 z) (hb : Below B w0 w) (hB : B ≤ g) :
    ∃ w', (Builtin.copy_ #[24, 24] 3 #[.slice (some ⟨g, off, none⟩) dLen dCap, .slice (some ad) sLen sCap]).run Try.prog w = .ok (.int .i64 (cs.length : Int)) w' ∧ w'.heap[g]? = some (.cells (splice cur off cs).toArray 3 (0, 0)) ∧ Below B w0 w' := by
  have hrun := run_copy_row (P := Try.prog) w 24 24 3 3 g off dLen dCap ad sLen sCap cur.toArray 3 cs Try.underlying24 size3 hg hn hs (by simpa using hf) (fun v hv => by rw [h1 v hv]; rfl)
  exact ⟨_, hrun, by simpa [splice] using setRow_heap w g _ _ 3 _ hg, below_setRow hb hB _⟩
set_option maxHeartbeats 2000000 in
theorem repeat_any {z : Int} {W : World} {b N : Nat} (hc : W.cell? ⟨b, 0, none⟩ = some (.int .i64 z)) (h1 : 1 ≤ N) (hN : N ≤ 65536) : Calls Try.prog 41 #[.slice (some ⟨b, 0, none⟩) 1 1, .int .i64 (N : Int)] W (Repeats z W N) := by
  have hmk := mk_ints W N hN
  have hu : IntKind.u64.wrap (N : Int) = (N : Int) := by rw [IntKind.wrap_u64]; omega
  have HM := Lib.hid (mul_one' hN W)
  have B0 := box_below W (.cells (madeCells #[.int .i64 0] N) 3)
  obtain ⟨w2, hr2, hg2, hb2⟩ := copy_run (z := z) (dLen := N) (dCap := N) (sLen := 1) (sCap := 1) (off := 0) (cs := [.int .i64 z]) (ad := ⟨b, 0, none⟩) (made_block W N) (by show 1 = Nat.min 1 N; exact (Nat.min_eq_left h1).symm)
    (by
      intro j v hj
      match j, hj with
      | 0, hj =>
        simp at hj
        subst hj
        rw [add_at]
        exact (B0.cell (p := ⟨b, 0, none⟩) (cell_lt hc)).trans hc) (by simp; omega) (by simp) B0 (Nat.le_refl _)
  have H2 := Lib.hid (show Ones z w2 W.heap.size N 1 (splice (List.replicate N (.int .i64 0)) 0 [.int .i64 z]) from ⟨hg2, by simp [splice]; omega, fun i hi => by
    obtain rfl : i = 0 := by omega
    simp [splice]⟩)
  generalize splice (List.replicate N (Value.int .i64 0)) 0 [Value.int .i64 z] = cur0 at H2
  have HB2 := Lib.hid hb2
  have hr2' : (Builtin.copy_ #[24, 24] 3 #[.slice (some ⟨W.heap.size, 0, none⟩) N N, .slice (some ⟨b, 0, none⟩) 1 1]).run Try.prog (W.alloc (.cells (madeCells #[.int .i64 0] N) 3)) = .ok (.int .i64 1) w2 := hr2
  have hn0 : ¬ (N : Int) < 0 := by omega
  clear hc hg2 hb2 hr2 B0
  go_enter Try.func41, Try.ntmps41
  go_wp2_with (go_at_call 55; ((with_reducible refine HM.out.mono ?_); rintro e w' ⟨rfl, rfl⟩))
  clear HM hmk hr2'
  obtain ⟨g, hg⟩ : ∃ g, W.heap.size = g := ⟨_, rfl⟩
  have HGG := Lib.hid hg
  rw [hg] at H2
  rw [hg]
  clear hg
  go_loopw [8] (fun t wr => ∃ (k : Nat) (cur : List Value), 1 ≤ k ∧ k ≤ N ∧ t = .int .i64 k ∧ Ones z wr g N k cur ∧ Below W.heap.size W wr) (fun t _ => N - (intOf t).toNat)
  case atStart => exact ⟨1, cur0, by omega, h1, rfl, H2.out, HB2.out⟩
  case round =>
    obtain ⟨k, cur, hk1, hk, rfl, ho, hb⟩ := hrel
    clear H2 HB2
    by_cases hlt : k < N
    · have hgl : W.heap.size ≤ g := by rw [HGG.out]; exact Nat.le_refl _
      obtain ⟨m, hm⟩ : ∃ m, Nat.min k (N - k) = m := ⟨_, rfl⟩
      have hm1 : m ≤ k := by rw [← hm]; exact Nat.min_le_left _ _
      have hm2 : k + m ≤ N := by have : m ≤ N - k := (by rw [← hm]; exact Nat.min_le_right _ _); omega
      have hm3 : 1 ≤ m := by rw [← hm]; exact Nat.le_min.2 ⟨hk1, by omega⟩
      have hlen : (cur.take m).length = m := by simp [ho.len]; omega
      obtain ⟨w3, hr3, hg3, hb3⟩ := copy_run (z := z) (w := wr.drew) (w0 := W) (B := W.heap.size) (off := k) (dLen := N - k) (dCap := N - k) (sLen := k) (sCap := N) (cs := cur.take m) (ad := ⟨g, 0, none⟩) (g := g) (cur := cur) ho.blk (by rw [hlen, hm])
        (by
          intro j v hj
          have hjm : j < m := by have := (List.getElem?_eq_some_iff.1 hj).1; omega
          rw [add_at]
          rw [List.getElem?_take_of_lt hjm] at hj
          rw [← hj]
          have := cell_of_row wr g j _ _ _ ho.blk
          rw [show wr.drew.cell? ⟨g, j, none⟩ = wr.cell? ⟨g, j, none⟩ from rfl, this]
          simp) (by rw [hlen, ho.len]; exact hm2) (ones_one ho.one m hm1) hb.drew hgl
      rw [hlen] at hr3
      have HO := Lib.hid (ones_splice ho.len ho.one hm1 hm2 hg3)
      have HB := Lib.hid hb3
      generalize splice cur k (cur.take m) = cur' at HO
      clear ho hb hgl hg3 hb3 hlen hm
      go_wp2_with fail
      go_region
      all_goals
        go_wp2
        go_roundw
        case rel => exact ⟨k + m, cur', by omega, by omega, by go_num, HO.out, HB.out⟩
        case measure => simp [intOf]; omega
    · obtain rfl : k = N := by omega
      go_wp2_with fail
      go_ret
      exact ⟨g, rfl, ho.arr, hb, by rw [HGG.out]; exact Nat.le_refl _⟩
/-- distances on their way, in memory -/
structure Fg (W3 : World) (to : Cy.Tos) (s g n N : Nat) (f : Nat → Nat) (row : List Nat) (gone : Nat) (v : Value) (w : World) : Prop where
  arr : Arr w g n fun i => (f i : Int)
  rr : Is.Row w W3.heap.size v (ints row)
  only : OnlyS (· = g) W3 w
  fr : Cy.Fr to s f row gone
  le : n - gone ≤ N
  gl : g < W3.heap.size
structure Fm (W3 : World) (to : Cy.Tos) (s g n a k : Nat) (f : Nat → Nat) (row : List Nat) (gone : Nat) (v : Value) (w : World) : Prop where
  arr : Arr w g n fun i => (f i : Int)
  rr : Is.Row w W3.heap.size v (ints row)
  only : OnlyS (· = g) W3 w
  fr : Cy.Frm to s a k f row gone
  gl : g < W3.heap.size
section
variable {W3 w : World} {to : Cy.Tos} {s g n N a k gone : Nat} {f : Nat → Nat} {row : List Nat} {v : Value}
theorem Fm.put (h : Fm W3 to s g n a k f row gone v w) (hi : Cy.Inn to) (hn : to.length = n) (hnl : n ≤ 800) (hk : k < (Cy.nx to a).length) {b : Nat} (hb : (Cy.nx to a)[k] = b) (hf : f b = n) :
    ∃ A q c A' c' w2, v = .slice A q c ∧ q ≤ 800 ∧ (Builtin.append_ #[24, 24] 24 #[.slice A q c, .slice (some ⟨w.heap.size, 0, none⟩) 1 1]).run Try.prog ((w.setCell ⟨g, b, none⟩ (.int .i64 ((f a : Int) + 1))).alloc (.cells #[.int .i64 (b : Int)] 3)) = .ok (.slice A' (q + 1) c') w2 ∧
      Fm W3 to s g n a (k + 1) (Cy.upd f b (f a + 1)) (row ++ [b]) gone (.slice A' (q + 1) c') w2 := by
  obtain ⟨A, c, hv, -⟩ := h.rr.ls
  rw [ints_length] at hv
  subst hv
  have hgl := h.gl
  have hrl := Cy.nodup_lt h.fr.nd h.fr.lt
  have h1 : Is.Row (w.setCell ⟨g, b, none⟩ (.int .i64 ((f a : Int) + 1))) W3.heap.size (.slice A row.length c) (ints row) := row_keep h.rr fun j hj => Below.heap_setCell w ⟨g, b, none⟩ _ j (by have := (h.rr.lt j hj).1; show j ≠ g; omega)
  have hs : (w.setCell ⟨g, b, none⟩ (.int .i64 ((f a : Int) + 1))).heap.size = w.heap.size := by simp [World.setCell]
  have hbx := box_below (w.setCell ⟨g, b, none⟩ (.int .i64 ((f a : Int) + 1))) (.cells #[.int .i64 (b : Int)] 3)
  obtain ⟨v', w2, hrun, hrow, hgr, -⟩ := Is.Row.app2 (row_below h1 hbx) (ys := [(b : Int)]) (Is.box_ls _ b) (by rw [ints_length]; simp; omega) (by have := h.only.size; simp; omega) 24
  obtain ⟨A', c', rfl, -⟩ := hrow.ls
  have hlen : (ints row ++ [(b : Int)]).length = row.length + 1 := by simp [ints_length]
  rw [hlen] at hrun hrow
  rw [hs] at hrun
  have ho : OnlyS (· = g) W3 w2 := by
    refine (h.only.setIn g b _ (.inl rfl)).alloc (.cells #[.int .i64 (b : Int)] 3) |>.grown hgr fun j hj => .inr ?_
    have := (h.rr.lt j hj).1
    omega
  refine ⟨A, row.length, c, A', c', w2, rfl, by omega, hrun, ?_, ?_, ho, ?_, hgl⟩
  · have h2 := (h.arr.set b ((f a : Int) + 1)).below hbx
    have h3 := h2.only (T := fun j => (Value.slice A row.length c).ownBlock = some j) ((OnlyS.refl _ _).grown hgr fun j hj => .inl hj) fun hj => by
      have := (h.rr.lt g hj).1
      omega
    refine h3.congr fun i _ => ?_
    unfold Cy.upd
    split <;> simp
  · rw [ints_append]; exact hrow
  · have := h.fr.put hi hk (by rw [hb, hf, hn])
    rw [hb] at this
    exact this
end
def Fj (W3 : World) (R : Nat) (to : Cy.Tos) (s g n : Nat) (A1 : Option Addr) (n1 c1 : Nat) (A2 : Option Addr) (c2 : Nat) (N : Nat) (a' : Act) (w' : World) : Prop :=
  ∃ (f : Nat → Nat) (row : List Nat) (gone : Nat) (v : Value) (u3 u9 u10 u11 u12 u13 u14 u15 u16 u17 u18 u19 u20 u21 u22 u23 u24 u25 u26 u27 u28 u29 u30 u31 u32 u33 u34 u35 u36 u37 u38 u39 u40 u41 u42 u43 u44 u45 u46 u47 u48 u49 u50 u51 u52 u53 u54 u55 u56 u57 u58 u59 u60 u61 u62 u63 : Value), a' = { tmps := #[wayV A1 n1 c1 A2 n c2, .int .i64 s, .pointer (some ⟨R, 0, none⟩), u3, .slice none 0 0, .int .i64 n, .slice (some ⟨g, 0, none⟩) n n, v, .int .i64 gone, u9, u10, u11, u12, u13, u14, u15, u16, u17, u18, u19, u20, u21, u22, u23, u24, u25, u26, u27, u28, u29, u30, u31, u32, u33, u34, u35, u36, u37, u38, u39, u40, u41, u42, u43, u44, u45, u46, u47, u48, u49, u50, u51, u52, u53, u54, u55, u56, u57, u58, u59, u60, u61, u62, u63], defers := [] } ∧ Fg W3 to s g n N f row gone v w'
theorem Fj.mk' {W3 : World} {R : Nat} {to : Cy.Tos} {s g n : Nat} {A1 : Option Addr} {n1 c1 : Nat} {A2 : Option Addr} {c2 : Nat} {f : Nat → Nat} {row : List Nat} {gone : Nat} {v : Value} {u3 u9 u10 u11 u12 u13 u14 u15 u16 u17 u18 u19 u20 u21 u22 u23 u24 u25 u26 u27 u28 u29 u30 u31 u32 u33 u34 u35 u36 u37 u38 u39 u40 u41 u42 u43 u44 u45 u46 u47 u48 u49 u50 u51 u52 u53 u54 u55 u56 u57 u58 u59 u60 u61 u62 u63 : Value} {N : Nat} {w' : World} (h : Fg W3 to s g n N f row gone v w') :
    Fj W3 R to s g n A1 n1 c1 A2 c2 N { tmps := #[wayV A1 n1 c1 A2 n c2, .int .i64 s, .pointer (some ⟨R, 0, none⟩), u3, .slice none 0 0, .int .i64 n, .slice (some ⟨g, 0, none⟩) n n, v, .int .i64 gone, u9, u10, u11, u12, u13, u14, u15, u16, u17, u18, u19, u20, u21, u22, u23, u24, u25, u26, u27, u28, u29, u30, u31, u32, u33, u34, u35, u36, u37, u38, u39, u40, u41, u42, u43, u44, u45, u46, u47, u48, u49, u50, u51, u52, u53, u54, u55, u56, u57, u58, u59, u60, u61, u62, u63], defers := [] } w' := ⟨f, row, gone, v, u3, u9, u10, u11, u12, u13, u14, u15, u16, u17, u18, u19, u20, u21, u22, u23, u24, u25, u26, u27, u28, u29, u30, u31, u32, u33, u34, u35, u36, u37, u38, u39, u40, u41, u42, u43, u44, u45, u46, u47, u48, u49, u50, u51, u52, u53, u54, u55, u56, u57, u58, u59, u60, u61, u62, u63, rfl, h⟩
/-- distances, in a row of one's own -/
def Fars (to : Cy.Tos) (s n : Nat) (W : World) (e : Ending) (w' : World) : Prop := ∃ g f, e = .returned (.slice (some ⟨g, 0, none⟩) n n) ∧ Arr w' g n (fun i => (f i : Int)) ∧ Cy.Far to s f ∧ (∀ x, f x ≤ n) ∧ Below W.heap.size W w' ∧ W.heap.size ≤ g
/-- the world in which the distances have been made -/
structure Fb (W1 : World) (R : Nat) (W3 : World) (g : Nat) : Prop where
  bel : Below W1.heap.size W1 W3
  ge : W1.heap.size ≤ g
  lt : g < W3.heap.size
  box : R < W1.heap.size
set_option maxHeartbeats 8000000 in
theorem far_any {W : World} {A1 A2 : Option Addr} {n1 c1 c2 n s : Nat} {to : Cy.Tos} (ht : Tl W A2 c2 to) (ho : Okr to) (hn : to.length = n) (hs : s < n) :
    Calls Try.prog 27 #[wayV A1 n1 c1 A2 n c2, .int .i64 s] W (Fars to s n W) := by
  have HT := Lib.hid ht
  have HO := Lib.hid ho
  have HN := Lib.hid hn
  have hnl : n ≤ 800 := hn ▸ ho.len
  have hX := box_below W (.cells #[.slice A1 n1 c1, .slice A2 n c2] 37)
  have x1 : (W.alloc (.cells #[.slice A1 n1 c1, .slice A2 n c2] 37)).cell? ⟨W.heap.size, 1, none⟩ = some (.slice A2 n c2) := by simp [go_sem]
  have HX := Lib.hid hX
  have HR := Lib.hid (show W.heap.size < (W.alloc (.cells #[.slice A1 n1 c1, .slice A2 n c2] 37)).heap.size by simp)
  clear ht ho hn hX
  go_enter Try.func27, Try.ntmps27
  go_wp2_with fail
  generalize W.alloc (.cells #[.slice A1 n1 c1, .slice A2 n c2] 37) = W1 at *
  have HX1 := Lib.hid x1
  refine scope_ranked 0 (fun N a' w' => ∃ W3 g, Fb W1 W.heap.size W3 g ∧ Fj W3 W.heap.size to s g n A1 n1 c1 A2 c2 N a' w') rfl ?_ ?_
  · intro hpass
    have HQ := Lib.hid hpass
    clear hpass
    have hbx := box_below W1 (.cells #[.int .i64 (n : Int)] 3)
    have HRp := Lib.hid (repeat_any (z := (n : Int)) (W := W1.alloc (.cells #[.int .i64 (n : Int)] 3)) (b := W1.heap.size) (N := n) (by simp [go_sem]) (by omega) (by omega))
    have HBx := Lib.hid hbx
    clear hbx
    go_wp2_with fail
    refine HRp.out.mono ?_
    rintro e w2 ⟨g, rfl, har, hb2, hg⟩
    have hb3 := HBx.out.trans (hb2.mono HBx.out.size)
    have z1 := (hb3.cell (p := ⟨W.heap.size, 1, none⟩) HR.out).trans HX1.out
    have c0 := har.at' s hs
    have f0 := har.fz s
    have hgl := har.lt
    have hset := har.set s 0
    have hsz : (w2.setCell ⟨g, s, none⟩ (.int .i64 0)).heap.size = w2.heap.size := by simp [World.setCell]
    have hg1 : W1.heap.size < g := by simp at hg; omega
    have HBb := Lib.hid (show Below W1.heap.size W1 (w2.setCell ⟨g, s, none⟩ (.int .i64 0)) from hb3.setCell (show W1.heap.size ≤ g by omega) _)
    have HFb := Lib.hid (show Fb W1 W.heap.size (w2.setCell ⟨g, s, none⟩ (.int .i64 0)) g from ⟨HBb.out, by omega, by omega, HR.out⟩)
    have HFg := Lib.hid (show Fg (w2.setCell ⟨g, s, none⟩ (.int .i64 0)) to s g n n (Cy.upd (fun _ => n) s 0) [s] 0 (.slice (some ⟨w2.heap.size, 0, none⟩) 1 1) ((w2.setCell ⟨g, s, none⟩ (.int .i64 0)).alloc (.cells #[.int .i64 (s : Int)] 3)) from by
      have h1 := Is.lit_row (w2.setCell ⟨g, s, none⟩ (.int .i64 0)) s
      have h2 := Cy.Fr.start (to := to) (s := s) (by rw [HN.out]; exact hs)
      rw [HN.out] at h2
      rw [hsz] at h1
      refine ⟨(hset.below (box_below _ _)).congr fun i _ => ?_, ?_, (OnlyS.refl _ _).alloc _, h2, by omega, by omega⟩
      · unfold Cy.upd
        split <;> rfl
      · rw [hsz]; exact h1)
    clear har hb2 hb3 hset hsz hg HRp hg1
    go_wp2
    rename_i hK
    refine wp_label ?_
    refine hK _ _ ?_
    exact HQ.out _ _ _ ⟨_, g, HFb.out, Fj.mk' HFg.out⟩
  · rintro N a' wr ⟨W3, g, hfb, f, row, gone, v, u3, u9, u10, u11, u12, u13, u14, u15, u16, u17, u18, u19, u20, u21, u22, u23, u24, u25, u26, u27, u28, u29, u30, u31, u32, u33, u34, u35, u36, u37, u38, u39, u40, u41, u42, u43, u44, u45, u46, u47, u48, u49, u50, u51, u52, u53, u54, u55, u56, u57, u58, u59, u60, u61, u62, u63, rfl, hg⟩
    have HFb := Lib.hid hfb
    have HFg := Lib.hid hg
    obtain ⟨A8, c8, hv, hls8⟩ := hg.rr.ls
    rw [ints_length] at hv
    subst hv
    have hgle := hg.fr.gle
    have hrl := Cy.nodup_lt hg.fr.nd hg.fr.lt
    rw [HN.out] at hrl
    have HLs8 := Lib.hid hls8
    have hbw : Below W1.heap.size W1 wr := hfb.bel.trans (hg.only.below (by intro k hk; have := hfb.ge; omega) hfb.bel.size)
    have HBw := Lib.hid hbw
    have z1 := (hbw.cell (p := ⟨W.heap.size, 1, none⟩) HR.out).trans HX1.out
    obtain ⟨q, hq⟩ : ∃ q, row.length = q := ⟨_, rfl⟩
    have HQ := Lib.hid hq
    rw [hq] at hgle hrl ⊢
    clear hfb hg hls8 hbw hq x1
    by_cases hgo : gone = q
    · subst hgo
      have HF := Lib.hid (show Fars to s n W (.returned (.slice (some ⟨g, 0, none⟩) n n)) wr from ⟨g, f, rfl, HFg.out.arr, by
        have h1 := HFg.out.fr
        rw [← HQ.out] at h1
        exact h1.end HO.out.inn, fun x => by rw [← HN.out]; exact HFg.out.fr.most x, HX.out.trans (HBw.out.mono HX.out.size), by have := HFb.out.ge; have := HX.out.size; omega⟩)
      have hgq : ((gone : Int) == (gone : Int)) = true := by simp
      go_wp2_with fail
      simp only [Exit.jump]
      go_ret
      exact HF.out
    · have hgr : gone < row.length := by rw [HQ.out]; omega
      have hgq : ((gone : Int) == (q : Int)) = false := by simp; omega
      obtain ⟨ad, had, z2⟩ := HLs8.out.here (i := gone) (by rw [ints_length]; exact hgr)
      subst had
      rw [ints_get] at z2
      have HFm0 := HFg.out.fr.go hgr
      obtain ⟨a, ha⟩ : ∃ a, row[gone] = a := ⟨_, rfl⟩
      rw [ha] at z2 HFm0
      have HFm := Lib.hid (show Fm W3 to s g n a 0 f row gone (.slice (some ad) q c8) wr from ⟨HFg.out.arr, by have h1 := HFg.out.rr; rw [HQ.out] at h1; exact h1, HFg.out.only, HFm0, HFg.out.gl⟩)
      have han : a < n := by rw [← HN.out]; exact HFg.out.fr.lt a (ha ▸ List.getElem_mem hgr)
      have hle := HFg.out.le
      obtain ⟨a2, A3, c3, ha2, y0, hls⟩ := HT.out.row (i := a) (by rw [HN.out]; exact han)
      subst ha2
      have y1 := ((HX.out.trans (HBw.out.mono HX.out.size)).cell (p := a2.add a) (cell_lt y0)).trans y0
      obtain ⟨L, hL⟩ : ∃ L, Cy.nx to a = L := ⟨_, rfl⟩
      have HL := Lib.hid hL
      have hl4 : L.length ≤ 400000 := by rw [← hL]; exact HO.out.deg a
      rw [hL] at y1 hls
      obtain ⟨p, hp⟩ : ∃ p, L.length = p := ⟨_, rfl⟩
      have HP := Lib.hid hp
      have HLs := Lib.hid hls
      rw [hp] at y1 hl4
      have hgn : gone < n := by omega
      have hgq2 : gone < q := by omega
      clear hgo HFm0 ha hgr hL hp hls y0 HFg
      go_wp2_with fail
      go_loopw [41, 7] (fun t v wr => ∃ (k : Nat) (f : Nat → Nat) (row : List Nat), k ≤ p ∧ t = .int .i64 k ∧ Fm W3 to s g n a k f row gone v wr) (fun t _ _ => p - (intOf t).toNat)
      case atStart => exact ⟨0, f, row, Nat.zero_le _, rfl, HFm.out⟩
      case round =>
        obtain ⟨k, f, row, hk, rfl, hfm⟩ := hrel
        have HFk := Lib.hid hfm
        clear hfm HFm z1 z2 y1
        by_cases hkp : k < p
        · have hkl : k < L.length := by rw [HP.out]; exact hkp
          have hB1 : Below W.heap.size W wr := HX.out.trans ((HFb.out.bel.trans (HFk.out.only.below (by intro k hk; have := HFb.out.ge; omega) HFb.out.bel.size)).mono HX.out.size)
          obtain ⟨a3, ha3, z2⟩ := (HLs.out.below hB1).here (i := k) (by rw [ints_length]; exact hkl)
          subst ha3
          rw [ints_get] at z2
          obtain ⟨b2, hb2⟩ : ∃ b2, L[k] = b2 := ⟨_, rfl⟩
          rw [hb2] at z2
          have hkn : k < (Cy.nx to a).length := by rw [HL.out]; exact hkl
          have hbn : (Cy.nx to a)[k] = b2 := by simp only [HL.out]; exact hb2
          have hb2n : b2 < n := by
            rw [← HN.out, ← hbn]
            exact HO.out.inn a _ (List.getElem_mem _)
          have zf := HFk.out.arr.at' b2 hb2n
          have zz := HFk.out.arr.fz b2
          have za := HFk.out.arr.at' a han
          have hgw := HFk.out.arr.lt
          have hfa := HFk.out.fr.most a
          rw [HN.out] at hfa
          by_cases hf0 : f b2 = n
          · obtain ⟨A9, q9, c9, A', c', w8, rfl, hq9, hrun, hfm2⟩ := HFk.out.put HO.out.inn HN.out hnl hkn hbn hf0
            have HFm2 := Lib.hid (show ∃ f row, Fm W3 to s g n a (k + 1) f row gone (.slice A' (q9 + 1) c') w8 from ⟨_, _, hfm2⟩)
            rw [hf0] at zf
            have hnn : ((n : Int) == (n : Int)) = true := by simp
            generalize f a = fa at *
            clear hkl hB1 hb2 hkn hbn HFk hfm2 hf0
            go_wp2_with (at_builtin; refine Lib.wpList_append_run _ rfl _ _ _ _ rfl _ _ rfl rfl _ _ hrun ?_)
            go_roundw
            case rel =>
              obtain ⟨f, row, h⟩ := HFm2.out
              exact ⟨k + 1, f, row, by omega, by go_num, h⟩
            case measure => simp [intOf]; omega
          · have HFm2 := Lib.hid (show Fm W3 to s g n a (k + 1) f row gone _ wr from ⟨HFk.out.arr, HFk.out.rr, HFk.out.only, HFk.out.fr.skip hkn (by rw [hbn, HN.out]; exact hf0), HFk.out.gl⟩)
            have hy : ((f b2 : Int) == (n : Int)) = false := by simp; omega
            generalize f b2 = y at zf hf0 hy
            clear hkl hB1 hb2 hkn hbn HFk hf0 za
            go_wp2_with fail
            go_roundw
            case rel => exact ⟨k + 1, f, row, by omega, by go_num, HFm2.out⟩
            case measure => simp [intOf]; omega
        · obtain rfl : k = p := by omega
          have HFg := Lib.hid (show Fg W3 to s g n (N - 1) f row (gone + 1) _ wr from ⟨HFk.out.arr, HFk.out.rr, HFk.out.only, (show Cy.Frm to s a (Cy.nx to a).length f row gone by rw [HL.out, HP.out]; exact HFk.out.fr).done, by omega, HFk.out.gl⟩)
          go_wp2_with fail
          refine wp_goto ?_
          exact ⟨rfl, N - 1, by omega, W3, g, HFb.out, Fj.mk' HFg.out⟩
end Go.Proofs.Ytgefponjlliaaaa
