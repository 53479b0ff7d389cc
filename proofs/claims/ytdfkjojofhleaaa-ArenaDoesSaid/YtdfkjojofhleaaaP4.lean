/- The document's arena is made. -/
import Derived.Test.YtdfkjojofhleaaaP3
import Derived.Deep.Cut
namespace Go.Proofs.Ytdfkjojofhleaaa
open Go Go.RowKit

theorem info4 : (Try.prog.info? 4).map (fun i => (i.zero, i.size, i.bytes)) = some (some (.bool false), 1, 1) := by kernel_rfl
theorem ref_x {W w5 : World} {bx c g cap n : Nat} {xv uv : Value} {A : Option Addr} {X : List Int} {U : List Bool} {fr : List Nat} {x : Int} {o : Obj} (h : RefAt W bx xv uv A c X U fr) (hn : X.length = n)
    (hown : w5.ownsRow (bx + 1) 3 1 (.slice (some ⟨g, 0, none⟩) (n + 1) cap) (n + 1) (intsL X ++ [.int .i64 x])) (hg : (W.alloc o).grownBy w5 xv.ownBlock) (hgo : xv.ownBlock = some g ∨ g = W.heap.size + 1) :
    (w5.cell? ⟨bx, 0, none⟩ = some xv ∧ w5.frozen? ⟨bx, 0, none⟩ = false) ∧ RefAt (w5.setCell ⟨bx, 0, none⟩ (.slice (some ⟨g, 0, none⟩) (n + 1) cap)) bx (.slice (some ⟨g, 0, none⟩) (n + 1) cap) uv A c (X ++ [x]) U fr ∧ OnlyS (OfRef bx xv uv A) W (w5.setCell ⟨bx, 0, none⟩ (.slice (some ⟨g, 0, none⟩) (n + 1) cap)) ∧ (∀ o, w5.cell? ⟨bx, o, none⟩ = W.cell? ⟨bx, o, none⟩) ∧ ∀ o, w5.frozen? ⟨bx, o, none⟩ = W.frozen? ⟨bx, o, none⟩ := by
  subst hn
  have hX := box_below W o
  have hlt : bx < W.heap.size := cell_lt h.c0
  have hk : ∀ j, j < W.heap.size → xv.ownBlock ≠ some j → w5.heap[j]? = W.heap[j]? := fun j hj hne => (hg.block j (Nat.lt_of_lt_of_le hj hX.size) (fun e => hne e.symm)).trans (hX.block j hj)
  have hb5 : w5.heap[bx]? = W.heap[bx]? := hk bx hlt (fun e => by have := (h.rx.lt bx e).1; omega)
  have q0 : ∀ o, w5.cell? ⟨bx, o, none⟩ = W.cell? ⟨bx, o, none⟩ := fun o => World.cell?_of_block (w := W) (a := ⟨bx, o, none⟩) hb5
  have q1 : ∀ o, w5.frozen? ⟨bx, o, none⟩ = W.frozen? ⟨bx, o, none⟩ := fun o => World.frozen?_of_block (w := W) (a := ⟨bx, o, none⟩) hb5
  have q2 : ∀ o, o ≠ 0 → (w5.setCell ⟨bx, 0, none⟩ (.slice (some ⟨g, 0, none⟩) (X.length + 1) cap)).cell? ⟨bx, o, none⟩ = W.cell? ⟨bx, o, none⟩ := fun o ho => by
    rw [World.cell?_setCell_other (h := fun e => ho (by injection e with e1 e2; exact e2.symm))]
    exact q0 o
  have q3 : ∀ j, j ≠ bx → (w5.setCell ⟨bx, 0, none⟩ (.slice (some ⟨g, 0, none⟩) (X.length + 1) cap)).heap[j]? = w5.heap[j]? := fun j hj => Below.heap_setCell w5 ⟨bx, 0, none⟩ _ j hj
  have hgn : ∀ j, j < W.heap.size → j ≠ bx → xv.ownBlock ≠ some j → (w5.setCell ⟨bx, 0, none⟩ (.slice (some ⟨g, 0, none⟩) (X.length + 1) cap)).heap[j]? = W.heap[j]? := fun j h1 h2 h3 => (q3 j h2).trans (hk j h1 h3)
  refine ⟨⟨(q0 0).trans h.c0, (q1 0).trans h.f0⟩, ⟨?_, ?_, ?_, ?_, ?_, ?_, ?_, ?_, ?_, ?_, ?_, ?_⟩, ?_, q0, q1⟩
  · exact World.cell?_setCell_same' _ _ _ (by rw [q0, h.c0]; rfl)
  · exact (q2 1 (by omega)).trans h.c1
  · exact (q2 2 (by omega)).trans h.c2
  · rw [World.frozen?_setCell]; exact (q1 0).trans h.f0
  · rw [World.frozen?_setCell]; exact (q1 1).trans h.f1
  · rw [World.frozen?_setCell]; exact (q1 2).trans h.f2
  · rw [ints_snoc, List.length_append]
    exact ownsRow_setCell_below hown (Nat.lt_succ_self bx) _
  · refine row_keep h.ru fun j hj => ?_
    have hj2 := h.ru.lt j hj
    refine hgn j hj2.2 (by omega) ?_
    intro e
    exact h.xu j e hj
  · refine h.qf.keep fun j hj => ?_
    have hj2 := h.qf.lt hj
    exact hgn j hj2.2 (by omega) (fun e => h.xf j e hj)
  · intro j hj e
    obtain rfl : g = j := by simpa [Value.ownBlock] using hj
    rcases hgo with q | q
    · exact h.xu g q e
    · have := (h.ru.lt g e).2; omega
  · intro j hj e
    obtain rfl : g = j := by simpa [Value.ownBlock] using hj
    rcases hgo with q | q
    · exact h.xf g q e
    · have := (h.qf.lt e).2; omega
  · exact h.uf
  · refine (OnlyS.grown (w1 := W.alloc o) (OnlyS.of_below hX) hg (fun j hj => .inl (.inr (.inl hj)))).setIn bx 0 _ (.inl (.inl rfl))
theorem ref_u {W w5 : World} {bx c g cap n : Nat} {xv uv : Value} {A : Option Addr} {X : List Int} {U : List Bool} {fr : List Nat} {x : Bool} {o : Obj} (h : RefAt W bx xv uv A c X U fr) (hn : U.length = n)
    (hown : w5.ownsRow (bx + 1) 4 1 (.slice (some ⟨g, 0, none⟩) (n + 1) cap) (n + 1) (boolsL U ++ [.bool x])) (hg : (W.alloc o).grownBy w5 uv.ownBlock) (hgo : uv.ownBlock = some g ∨ g = W.heap.size + 1) :
    (w5.cell? ⟨bx, 1, none⟩ = some uv ∧ w5.frozen? ⟨bx, 1, none⟩ = false) ∧ RefAt (w5.setCell ⟨bx, 1, none⟩ (.slice (some ⟨g, 0, none⟩) (n + 1) cap)) bx xv (.slice (some ⟨g, 0, none⟩) (n + 1) cap) A c X (U ++ [x]) fr ∧ OnlyS (OfRef bx xv uv A) W (w5.setCell ⟨bx, 1, none⟩ (.slice (some ⟨g, 0, none⟩) (n + 1) cap)) ∧ (∀ o, w5.cell? ⟨bx, o, none⟩ = W.cell? ⟨bx, o, none⟩) ∧ ∀ o, w5.frozen? ⟨bx, o, none⟩ = W.frozen? ⟨bx, o, none⟩ := by
  subst hn
  have hX := box_below W o
  have hlt : bx < W.heap.size := cell_lt h.c0
  have hk : ∀ j, j < W.heap.size → uv.ownBlock ≠ some j → w5.heap[j]? = W.heap[j]? := fun j hj hne => (hg.block j (Nat.lt_of_lt_of_le hj hX.size) (fun e => hne e.symm)).trans (hX.block j hj)
  have hb5 : w5.heap[bx]? = W.heap[bx]? := hk bx hlt (fun e => by have := (h.ru.lt bx e).1; omega)
  have q0 : ∀ o, w5.cell? ⟨bx, o, none⟩ = W.cell? ⟨bx, o, none⟩ := fun o => World.cell?_of_block (w := W) (a := ⟨bx, o, none⟩) hb5
  have q1 : ∀ o, w5.frozen? ⟨bx, o, none⟩ = W.frozen? ⟨bx, o, none⟩ := fun o => World.frozen?_of_block (w := W) (a := ⟨bx, o, none⟩) hb5
  have q2 : ∀ o, o ≠ 1 → (w5.setCell ⟨bx, 1, none⟩ (.slice (some ⟨g, 0, none⟩) (U.length + 1) cap)).cell? ⟨bx, o, none⟩ = W.cell? ⟨bx, o, none⟩ := fun o ho => by
    rw [World.cell?_setCell_other (h := fun e => ho (by injection e with e1 e2; exact e2.symm))]
    exact q0 o
  have q3 : ∀ j, j ≠ bx → (w5.setCell ⟨bx, 1, none⟩ (.slice (some ⟨g, 0, none⟩) (U.length + 1) cap)).heap[j]? = w5.heap[j]? := fun j hj => Below.heap_setCell w5 ⟨bx, 1, none⟩ _ j hj
  have hgn : ∀ j, j < W.heap.size → j ≠ bx → uv.ownBlock ≠ some j → (w5.setCell ⟨bx, 1, none⟩ (.slice (some ⟨g, 0, none⟩) (U.length + 1) cap)).heap[j]? = W.heap[j]? := fun j h1 h2 h3 => (q3 j h2).trans (hk j h1 h3)
  refine ⟨⟨(q0 1).trans h.c1, (q1 1).trans h.f1⟩, ⟨?_, ?_, ?_, ?_, ?_, ?_, ?_, ?_, ?_, ?_, ?_, ?_⟩, ?_, q0, q1⟩
  · exact (q2 0 (by omega)).trans h.c0
  · exact World.cell?_setCell_same' _ _ _ (by rw [q0, h.c1]; rfl)
  · exact (q2 2 (by omega)).trans h.c2
  · rw [World.frozen?_setCell]; exact (q1 0).trans h.f0
  · rw [World.frozen?_setCell]; exact (q1 1).trans h.f1
  · rw [World.frozen?_setCell]; exact (q1 2).trans h.f2
  · refine row_keep h.rx fun j hj => ?_
    have hj2 := h.rx.lt j hj
    refine hgn j hj2.2 (by omega) ?_
    intro e
    exact h.xu j hj e
  · rw [bools_snoc, List.length_append]
    exact ownsRow_setCell_below hown (Nat.lt_succ_self bx) _
  · refine h.qf.keep fun j hj => ?_
    have hj2 := h.qf.lt hj
    exact hgn j hj2.2 (by omega) (fun e => h.uf j e hj)
  · intro j hj e
    obtain rfl : g = j := by simpa [Value.ownBlock] using e
    rcases hgo with q | q
    · exact h.xu g hj q
    · have := (h.rx.lt g hj).2; omega
  · exact h.xf
  · intro j hj e
    obtain rfl : g = j := by simpa [Value.ownBlock] using hj
    rcases hgo with q | q
    · exact h.uf g q e
    · have := (h.qf.lt e).2; omega
  · refine (OnlyS.grown (w1 := W.alloc o) (OnlyS.of_below hX) hg (fun j hj => .inl (.inr (.inr (.inl hj))))).setIn bx 1 _ (.inl (.inl rfl))
theorem new_bool (W : World) (k : Bool) : ∀ j u, ([.bool k] : List Value)[j]? = some u → (W.alloc (.cells #[.bool k] 4)).cell? ((⟨W.heap.size, 0, none⟩ : Addr).add j) = some u := by
  intro j u hj
  rw [add_at]
  match j, hj with
  | 0, hj => simp at hj; subst hj; simp [go_sem]
theorem one_bool (k : Bool) : ∀ u ∈ ([.bool k] : List Value), u.oneCell' = true := by
  intro u hu
  simp at hu
  subst hu
  rfl
/-- a new one, of so many places -/
def Fresh (W : World) (bx k : Nat) (W' : World) : Prop := ∃ xv uv A c, RefAt W' bx xv uv A c (List.replicate k 0) (List.replicate k false) (List.range k) ∧ Below W.heap.size W W' ∧ W.heap.size ≤ bx
def RNew (W : World) (k : Nat) (e : Ending) (w' : World) : Prop := e = .returned (wp W.heap.size) ∧ Fresh W W.heap.size k w'
theorem fresh_start (W : World) : Fresh W W.heap.size 0 (W.alloc (.cells #[.slice none 0 0, .slice none 0 0, .slice none 0 0] 37)) := by
  refine ⟨.slice none 0 0, .slice none 0 0, none, 0, ⟨?_, ?_, ?_, ?_, ?_, ?_, World.ownsRow_nil _ _ _ _, World.ownsRow_nil _ _ _ _, Qu.nilq _ _, by simp [Value.ownBlock], by simp [Value.ownBlock], by simp [Value.ownBlock]⟩, box_below _ _, Nat.le_refl _⟩ <;> simp [go_sem]
set_option maxHeartbeats 4000000 in
theorem rnew_any {n : Int} (W : World) (hn : n ≤ 100) : Calls Try.prog 8 #[.int .i64 n] W (RNew W (cl n)) := by
  obtain ⟨N, hN⟩ : ∃ N, cl n = N := ⟨_, rfl⟩
  have hN1 : (N : Int) ≤ 100 ∧ n ≤ (N : Int) ∧ (0 ≤ n → n = (N : Int)) ∧ (n < 0 → N = 0) := by
    subst hN
    unfold cl
    split
    · omega
    · rw [if_neg (by omega)]; omega
  rw [hN]
  clear hN
  obtain ⟨hN1, hN2, hN3, hN4⟩ := hN1
  have HN3 := Lib.hid hN3
  have HN4 := Lib.hid hN4
  clear hN3 hN4
  have HS := Lib.hid (fresh_start W)
  go_enter Try.func8, Try.ntmps8
  go_wp2_with fail
  generalize W.alloc (.cells #[.slice none 0 0, .slice none 0 0, .slice none 0 0] 37) = w1 at HS ⊢
  go_loopw [4] (fun t wr => ∃ k : Nat, k ≤ N ∧ t = .int .i64 k ∧ Fresh W W.heap.size k wr) (fun t _ => N - (intOf t).toNat)
  case atStart => exact ⟨0, by omega, rfl, HS.out⟩
  case round =>
    obtain ⟨k, hk, rfl, hf⟩ := hrel
    have HF := Lib.hid hf
    clear hf HS
    by_cases hlt : k < N
    · have hkn : (k : Int) < n := by
        have := HN3.out
        by_cases h0 : 0 ≤ n
        · have := this h0; omega
        · have := HN4.out (by omega); omega
      have d1 : decide ((k : Int) < n) = true := by simpa using hkn
      have d2 : decide ((k : Int) < 4096) = true := by simp; omega
      obtain ⟨xv, uv, A, c, hr, hb, hbx⟩ := HF.out
      have hblt : W.heap.size < wr.heap.size := cell_lt hr.c0
      have k0 := hr.c0
      have k1 := hr.c1
      have k2 := hr.c2
      have j0 := hr.f0
      have j1 := hr.f1
      have j2 := hr.f2
      obtain ⟨i3, hi, hz0, hz1, hz2⟩ := info_parts info3
      obtain ⟨i4, hi4, hy0, hy1, hy2⟩ := info_parts info4
      have hlx : (List.replicate k (0 : Int)).length = k := by simp
      have hlu : (List.replicate k false).length = k := by simp
      have hlf : (List.range k).length = k := by simp
      have hrx := hr.rx
      have hru := hr.ru
      rw [hlx] at hrx
      rw [hlu] at hru
      rw [hlf] at k2
      have HLx := Lib.hid hlx
      have HLu := Lib.hid hlu
      have HLf := Lib.hid hlf
      have HR := Lib.hid hr
      have HRx := Lib.hid hrx
      have HB := Lib.hid hb
      clear hlx hlu hlf hr hrx hru hb HF
      go_upto_region 6 with (at_builtin; refine wpList_append_lies _ rfl (.tmp 20) (.tmp 21) 34 rfl (W.heap.size + 1) 3 i3 (.int .i64 0) 1 8 Try.underlying34 hi hz0 hz1 hz2 rfl (by decide) xv k (intsL (List.replicate k 0)) rfl (HRx.out.alloc _) ⟨wr.heap.size, 0, none⟩ 1 1 [.int .i64 0] rfl rfl (new_int wr 0) (one_nat _) (by decide) (by unfold maxLen; omega) (by omega) (by simp; omega) (wr.heap.size + 1) (by simp) ?_; intro g5 cap5 w5 hown5 hgrow5 hgo5 hglt5; obtain ⟨⟨r1, r2⟩, hR2, hO2, _⟩ := ref_x (x := 0) HR.out HLx.out hown5 hgrow5 hgo5; have HR2 := Lib.hid hR2; have HO2 := Lib.hid hO2; clear hR2 hO2 hown5 hgrow5 hgo5)
      generalize wr.heap.size + 1 = H0 at *
      clear r1 r2 k0 k1 k2 j0 j1 j2 HRx hblt
      generalize w5.setCell ⟨W.heap.size, 0, none⟩ (.slice (some ⟨g5, 0, none⟩) (k + 1) cap5) = W2 at HR2 HO2 ⊢
      have hblt2 : W.heap.size < W2.heap.size := cell_lt HR2.out.c0
      have k1 := HR2.out.c1
      have j1 := HR2.out.f1
      have hru := HR2.out.ru
      rw [HLu.out] at hru
      have HRu := Lib.hid hru
      clear hru
      go_upto_region 7 with (at_builtin; refine wpList_append_lies _ rfl (.tmp 29) (.tmp 30) 35 rfl (W.heap.size + 1) 4 i4 (.bool false) 1 1 Try.underlying35 hi4 hy0 hy1 hy2 rfl (by decide) uv k (boolsL (List.replicate k false)) rfl (HRu.out.alloc _) ⟨W2.heap.size, 0, none⟩ 1 1 [.bool false] rfl rfl (new_bool W2 false) (one_bool _) (by decide) (by unfold maxLen; omega) (by omega) (by simp; omega) (W2.heap.size + 1) (by simp) ?_; intro g6 cap6 w6 hown6 hgrow6 hgo6 hglt6; obtain ⟨⟨r1, r2⟩, hR3, hO3, _⟩ := ref_u (x := false) HR2.out HLu.out hown6 hgrow6 hgo6; have HR3 := Lib.hid hR3; have HO3 := Lib.hid hO3; clear hR3 hO3 hown6 hgrow6 hgo6)
      clear r1 r2 k1 j1 HRu
      generalize w6.setCell ⟨W.heap.size, 1, none⟩ (.slice (some ⟨g6, 0, none⟩) (k + 1) cap6) = W3 at HR3 HO3 ⊢
      have hblt3 : W.heap.size < W3.heap.size := cell_lt HR3.out.c0
      have k2 := HR3.out.c2
      have j2 := HR3.out.f2
      obtain ⟨A', c', w7, hrun, hqa⟩ := HR3.out.qf.append (by omega) k (by rw [HLf.out]; omega) 34
      obtain ⟨hR4, hO4, r1, r2⟩ := ref_free (fr' := List.range k ++ [k]) HR3.out hqa.only hqa.qu hqa.lies rfl
      have hB2 : Below W.heap.size W W2 := HB.out.trans (HO2.out.below (fun j hj => (HR.out.lt hj).1) (Nat.le_of_lt (cell_lt HR.out.c0)))
      have hB3 : Below W.heap.size W W3 := hB2.trans (HO3.out.below (fun j hj => (HR2.out.lt hj).1) (Nat.le_of_lt hblt2))
      have hB4 := hB3.trans (hO4.below (fun j hj => by
        rcases hj with rfl | hj
        · exact Nat.le_refl _
        · exact Nat.le_of_lt (HR3.out.qf.lt hj).1) (Nat.le_of_lt hblt3))
      rw [show List.replicate k (0 : Int) ++ [0] = List.replicate (k + 1) 0 from (List.replicate_succ' ..).symm, show List.replicate k false ++ [false] = List.replicate (k + 1) false from (List.replicate_succ' ..).symm, show List.range k ++ [k] = List.range (k + 1) from (List.range_succ ..).symm] at hR4
      have hle : (List.range k ++ [k]).length = k + 1 := by simp
      have hle2 : (List.range (k + 1)).length = k + 1 := by simp
      rw [hle2] at hR4
      rw [hle] at hB4
      have hF : Fresh W W.heap.size (k + 1) (w7.setCell ⟨W.heap.size, 2, none⟩ (.slice A' (k + 1) c')) := ⟨_, _, _, _, hR4, hB4, Nat.le_refl _⟩
      rw [HLf.out] at k2 hrun r1
      have HF := Lib.hid hF
      have HRun := Lib.hid hrun
      clear hle hle2 hF hrun hR4 hO4 hB2 hB3 hB4 hqa
      go_wp2_with (at_builtin; refine Lib.wpList_append_run _ rfl _ _ 34 34 rfl _ _ rfl rfl _ _ HRun.out ?_)
      go_roundw
      case rel => exact ⟨k + 1, by omega, by go_num, HF.out⟩
      case measure => simp [intOf]; omega
    · obtain rfl : k = N := by omega
      have d1 : decide ((k : Int) < n) = false := by simp; omega
      go_wp2_with fail
      go_ret
      exact ⟨rfl, HF.out⟩
end Go.Proofs.Ytdfkjojofhleaaa
