/- The contract of the document's answer on the node of some numbers. -/
import Derived.Test.YtmlljgijbffepaaDoorD3
namespace Go.Proofs.YtmlljgijbffepaaDoor
open Go Go.RowKit

theorem deep_cell {w : World} {ad : Addr} {zs : List Int} (h : Cells w ad zs) (i : Nat) (hi : i < zs.length) (o o' : Obj) : ((w.alloc o).alloc o').cell? (ad.add i) = some (.int .i64 zs[i]) :=
  ((h.later (below_pair w o o')) i hi).2

set_option maxHeartbeats 2000000 in
theorem rmake_0  (A : Option Addr) (c : Nat) (w : World) :
    Calls Tryd.prog 9 #[.slice A 0 c] w fun e w' => e = .returned (makeV []) ∧ Below w.heap.size w w' := by
  cases hp : rightB ⟨0, 0, 0, 0, 0⟩
  · have HV := Lib.hid (show makeV [] = .tuple #[Pt.v ⟨0, 0, 0, 0, 0⟩, .int .i64 1] by unfold makeV makeP; simp [hp])
    go_enter Tryd.func9, Tryd.ntmps9
    go_wp2_with fail
    refine wp_loop_rounds 1 ?_
    rw [rounds_succ]
    go_wp2_with fail
    refine (rright_is hp _).mono ?_
    rintro e1 w1 ⟨rfl, hb1⟩
    obtain ⟨hc1, hf1⟩ := kept hb1
    obtain ⟨e0, e1', e2, e3, e4, _⟩ := ((PtAt.new w 0 0 0 0 0).alloc _).later hb1
    go_wp2_with fail
    exact bodyPost_ret (v := .tuple #[Pt.v ⟨0, 0, 0, 0, 0⟩, .int .i64 1]) (by simp [results, Tryd.results9, go_sem, e0, e1', e2, e3, e4]) rfl ⟨by rw [HV.out], below_set5 (below_past hb1) (by omega) _ _ _ _ _⟩
  · have HV := Lib.hid (show makeV [] = .tuple #[Pt.v ⟨0, 0, 0, 0, 0⟩, .int .i64 0] by unfold makeV makeP; simp [hp])
    go_enter Tryd.func9, Tryd.ntmps9
    go_wp2_with fail
    refine wp_loop_rounds 1 ?_
    rw [rounds_succ]
    go_wp2_with fail
    refine (rright_is hp _).mono ?_
    rintro e1 w1 ⟨rfl, hb1⟩
    obtain ⟨hc1, hf1⟩ := kept hb1
    obtain ⟨e0, e1', e2, e3, e4, _⟩ := ((PtAt.new w 0 0 0 0 0).alloc _).later hb1
    go_wp2_with fail
    exact bodyPost_ret (v := .tuple #[Pt.v ⟨0, 0, 0, 0, 0⟩, .int .i64 0]) (by simp [results, Tryd.results9, go_sem, e0, e1', e2, e3, e4]) rfl ⟨by rw [HV.out], below_set5 (below_past hb1) (by omega) _ _ _ _ _⟩

set_option maxHeartbeats 2000000 in
theorem rmake_1 (x0 : Int) (A : Option Addr) (c : Nat) (w : World) (hz : ∀ ad, A = some ad → Cells w ad [x0]) (hA : A ≠ none) :
    Calls Tryd.prog 9 #[.slice A 1 c] w fun e w' => e = .returned (makeV [x0]) ∧ Below w.heap.size w w' := by
  obtain ⟨ad, rfl⟩ : ∃ ad, A = some ad := by cases A with | none => exact absurd rfl hA | some ad => exact ⟨ad, rfl⟩
  have hz := hz ad rfl
  have q0 : ∀ o o' : Obj, ((w.alloc o).alloc o').cell? (ad.add 0) = some (.int .i64 x0) := fun o o' => deep_cell hz 0 (by simp) o o'
  have q0' : ∀ o o' : Obj, ((w.alloc o).alloc o').cell? ad = some (.int .i64 x0) := fun o o' => by have := q0 o o'; simpa [Addr.add] using this
  clear hz
  cases hp : rightB ⟨x0, 0, 0, 0, 1⟩
  · have HV := Lib.hid (show makeV [x0] = .tuple #[Pt.v ⟨0, 0, 0, 0, 0⟩, .int .i64 1] by unfold makeV makeP; simp [hp])
    go_enter Tryd.func9, Tryd.ntmps9
    go_wp2_with fail
    refine wp_loop_rounds 2 ?_
    rw [rounds_succ]
    go_wp2_with fail
    rw [rounds_succ]
    go_wp2_with fail
    refine (rright_is hp _).mono ?_
    rintro e1 w1 ⟨rfl, hb1⟩
    obtain ⟨hc1, hf1⟩ := kept hb1
    obtain ⟨e0, e1', e2, e3, e4, _⟩ := ((PtAt.new w 0 0 0 0 0).alloc _).later hb1
    go_wp2_with fail
    exact bodyPost_ret (v := .tuple #[Pt.v ⟨0, 0, 0, 0, 0⟩, .int .i64 1]) (by simp [results, Tryd.results9, go_sem, e0, e1', e2, e3, e4]) rfl ⟨by rw [HV.out], below_set5 (below_past hb1) (by omega) _ _ _ _ _⟩
  · have HV := Lib.hid (show makeV [x0] = .tuple #[Pt.v ⟨x0, 0, 0, 0, 1⟩, .int .i64 0] by unfold makeV makeP; simp [hp])
    go_enter Tryd.func9, Tryd.ntmps9
    go_wp2_with fail
    refine wp_loop_rounds 2 ?_
    rw [rounds_succ]
    go_wp2_with fail
    rw [rounds_succ]
    go_wp2_with fail
    refine (rright_is hp _).mono ?_
    rintro e1 w1 ⟨rfl, hb1⟩
    obtain ⟨hc1, hf1⟩ := kept hb1
    obtain ⟨e0, e1', e2, e3, e4, _⟩ := ((PtAt.new w 0 0 0 0 0).alloc _).later hb1
    go_wp2_with fail
    exact bodyPost_ret (v := .tuple #[Pt.v ⟨x0, 0, 0, 0, 1⟩, .int .i64 0]) (by simp [results, Tryd.results9, go_sem, e0, e1', e2, e3, e4]) rfl ⟨by rw [HV.out], below_set5 (below_past hb1) (by omega) _ _ _ _ _⟩

set_option maxHeartbeats 2000000 in
theorem rmake_2 (x0 x1 : Int) (A : Option Addr) (c : Nat) (w : World) (hz : ∀ ad, A = some ad → Cells w ad [x0, x1]) (hA : A ≠ none) :
    Calls Tryd.prog 9 #[.slice A 2 c] w fun e w' => e = .returned (makeV [x0, x1]) ∧ Below w.heap.size w w' := by
  obtain ⟨ad, rfl⟩ : ∃ ad, A = some ad := by cases A with | none => exact absurd rfl hA | some ad => exact ⟨ad, rfl⟩
  have hz := hz ad rfl
  have q0 : ∀ o o' : Obj, ((w.alloc o).alloc o').cell? (ad.add 0) = some (.int .i64 x0) := fun o o' => deep_cell hz 0 (by simp) o o'
  have q0' : ∀ o o' : Obj, ((w.alloc o).alloc o').cell? ad = some (.int .i64 x0) := fun o o' => by have := q0 o o'; simpa [Addr.add] using this
  have q1 : ∀ o o' : Obj, ((w.alloc o).alloc o').cell? ⟨ad.block, ad.off + 1, none⟩ = some (.int .i64 x1) := fun o o' => deep_cell hz 1 (by simp) o o'
  clear hz
  cases hp : rightB ⟨x0, x1, 0, 0, 2⟩
  · have HV := Lib.hid (show makeV [x0, x1] = .tuple #[Pt.v ⟨0, 0, 0, 0, 0⟩, .int .i64 1] by unfold makeV makeP; simp [hp])
    go_enter Tryd.func9, Tryd.ntmps9
    go_wp2_with fail
    refine wp_loop_rounds 3 ?_
    rw [rounds_succ]
    go_wp2_with fail
    rw [rounds_succ]
    go_wp2_with fail
    rw [rounds_succ]
    go_wp2_with fail
    refine (rright_is hp _).mono ?_
    rintro e1 w1 ⟨rfl, hb1⟩
    obtain ⟨hc1, hf1⟩ := kept hb1
    obtain ⟨e0, e1', e2, e3, e4, _⟩ := ((PtAt.new w 0 0 0 0 0).alloc _).later hb1
    go_wp2_with fail
    exact bodyPost_ret (v := .tuple #[Pt.v ⟨0, 0, 0, 0, 0⟩, .int .i64 1]) (by simp [results, Tryd.results9, go_sem, e0, e1', e2, e3, e4]) rfl ⟨by rw [HV.out], below_set5 (below_past hb1) (by omega) _ _ _ _ _⟩
  · have HV := Lib.hid (show makeV [x0, x1] = .tuple #[Pt.v ⟨x0, x1, 0, 0, 2⟩, .int .i64 0] by unfold makeV makeP; simp [hp])
    go_enter Tryd.func9, Tryd.ntmps9
    go_wp2_with fail
    refine wp_loop_rounds 3 ?_
    rw [rounds_succ]
    go_wp2_with fail
    rw [rounds_succ]
    go_wp2_with fail
    rw [rounds_succ]
    go_wp2_with fail
    refine (rright_is hp _).mono ?_
    rintro e1 w1 ⟨rfl, hb1⟩
    obtain ⟨hc1, hf1⟩ := kept hb1
    obtain ⟨e0, e1', e2, e3, e4, _⟩ := ((PtAt.new w 0 0 0 0 0).alloc _).later hb1
    go_wp2_with fail
    exact bodyPost_ret (v := .tuple #[Pt.v ⟨x0, x1, 0, 0, 2⟩, .int .i64 0]) (by simp [results, Tryd.results9, go_sem, e0, e1', e2, e3, e4]) rfl ⟨by rw [HV.out], below_set5 (below_past hb1) (by omega) _ _ _ _ _⟩

set_option maxHeartbeats 2000000 in
theorem rmake_3 (x0 x1 x2 : Int) (A : Option Addr) (c : Nat) (w : World) (hz : ∀ ad, A = some ad → Cells w ad [x0, x1, x2]) (hA : A ≠ none) :
    Calls Tryd.prog 9 #[.slice A 3 c] w fun e w' => e = .returned (makeV [x0, x1, x2]) ∧ Below w.heap.size w w' := by
  obtain ⟨ad, rfl⟩ : ∃ ad, A = some ad := by cases A with | none => exact absurd rfl hA | some ad => exact ⟨ad, rfl⟩
  have hz := hz ad rfl
  have q0 : ∀ o o' : Obj, ((w.alloc o).alloc o').cell? (ad.add 0) = some (.int .i64 x0) := fun o o' => deep_cell hz 0 (by simp) o o'
  have q0' : ∀ o o' : Obj, ((w.alloc o).alloc o').cell? ad = some (.int .i64 x0) := fun o o' => by have := q0 o o'; simpa [Addr.add] using this
  have q1 : ∀ o o' : Obj, ((w.alloc o).alloc o').cell? ⟨ad.block, ad.off + 1, none⟩ = some (.int .i64 x1) := fun o o' => deep_cell hz 1 (by simp) o o'
  have q2 : ∀ o o' : Obj, ((w.alloc o).alloc o').cell? ⟨ad.block, ad.off + 2, none⟩ = some (.int .i64 x2) := fun o o' => deep_cell hz 2 (by simp) o o'
  clear hz
  cases hp : rightB ⟨x0, x1, x2, 0, 3⟩
  · have HV := Lib.hid (show makeV [x0, x1, x2] = .tuple #[Pt.v ⟨0, 0, 0, 0, 0⟩, .int .i64 1] by unfold makeV makeP; simp [hp])
    go_enter Tryd.func9, Tryd.ntmps9
    go_wp2_with fail
    refine wp_loop_rounds 4 ?_
    rw [rounds_succ]
    go_wp2_with fail
    rw [rounds_succ]
    go_wp2_with fail
    rw [rounds_succ]
    go_wp2_with fail
    rw [rounds_succ]
    go_wp2_with fail
    refine (rright_is hp _).mono ?_
    rintro e1 w1 ⟨rfl, hb1⟩
    obtain ⟨hc1, hf1⟩ := kept hb1
    obtain ⟨e0, e1', e2, e3, e4, _⟩ := ((PtAt.new w 0 0 0 0 0).alloc _).later hb1
    go_wp2_with fail
    exact bodyPost_ret (v := .tuple #[Pt.v ⟨0, 0, 0, 0, 0⟩, .int .i64 1]) (by simp [results, Tryd.results9, go_sem, e0, e1', e2, e3, e4]) rfl ⟨by rw [HV.out], below_set5 (below_past hb1) (by omega) _ _ _ _ _⟩
  · have HV := Lib.hid (show makeV [x0, x1, x2] = .tuple #[Pt.v ⟨x0, x1, x2, 0, 3⟩, .int .i64 0] by unfold makeV makeP; simp [hp])
    go_enter Tryd.func9, Tryd.ntmps9
    go_wp2_with fail
    refine wp_loop_rounds 4 ?_
    rw [rounds_succ]
    go_wp2_with fail
    rw [rounds_succ]
    go_wp2_with fail
    rw [rounds_succ]
    go_wp2_with fail
    rw [rounds_succ]
    go_wp2_with fail
    refine (rright_is hp _).mono ?_
    rintro e1 w1 ⟨rfl, hb1⟩
    obtain ⟨hc1, hf1⟩ := kept hb1
    obtain ⟨e0, e1', e2, e3, e4, _⟩ := ((PtAt.new w 0 0 0 0 0).alloc _).later hb1
    go_wp2_with fail
    exact bodyPost_ret (v := .tuple #[Pt.v ⟨x0, x1, x2, 0, 3⟩, .int .i64 0]) (by simp [results, Tryd.results9, go_sem, e0, e1', e2, e3, e4]) rfl ⟨by rw [HV.out], below_set5 (below_past hb1) (by omega) _ _ _ _ _⟩

set_option maxHeartbeats 2000000 in
theorem rmake_4 (x0 x1 x2 x3 : Int) (A : Option Addr) (c : Nat) (w : World) (hz : ∀ ad, A = some ad → Cells w ad [x0, x1, x2, x3]) (hA : A ≠ none) :
    Calls Tryd.prog 9 #[.slice A 4 c] w fun e w' => e = .returned (makeV [x0, x1, x2, x3]) ∧ Below w.heap.size w w' := by
  obtain ⟨ad, rfl⟩ : ∃ ad, A = some ad := by cases A with | none => exact absurd rfl hA | some ad => exact ⟨ad, rfl⟩
  have hz := hz ad rfl
  have q0 : ∀ o o' : Obj, ((w.alloc o).alloc o').cell? (ad.add 0) = some (.int .i64 x0) := fun o o' => deep_cell hz 0 (by simp) o o'
  have q0' : ∀ o o' : Obj, ((w.alloc o).alloc o').cell? ad = some (.int .i64 x0) := fun o o' => by have := q0 o o'; simpa [Addr.add] using this
  have q1 : ∀ o o' : Obj, ((w.alloc o).alloc o').cell? ⟨ad.block, ad.off + 1, none⟩ = some (.int .i64 x1) := fun o o' => deep_cell hz 1 (by simp) o o'
  have q2 : ∀ o o' : Obj, ((w.alloc o).alloc o').cell? ⟨ad.block, ad.off + 2, none⟩ = some (.int .i64 x2) := fun o o' => deep_cell hz 2 (by simp) o o'
  have q3 : ∀ o o' : Obj, ((w.alloc o).alloc o').cell? ⟨ad.block, ad.off + 3, none⟩ = some (.int .i64 x3) := fun o o' => deep_cell hz 3 (by simp) o o'
  clear hz
  cases hp : rightB ⟨x0, x1, x2, x3, 4⟩
  · have HV := Lib.hid (show makeV [x0, x1, x2, x3] = .tuple #[Pt.v ⟨0, 0, 0, 0, 0⟩, .int .i64 1] by unfold makeV makeP; simp [hp])
    go_enter Tryd.func9, Tryd.ntmps9
    go_wp2_with fail
    refine wp_loop_rounds 5 ?_
    rw [rounds_succ]
    go_wp2_with fail
    rw [rounds_succ]
    go_wp2_with fail
    rw [rounds_succ]
    go_wp2_with fail
    rw [rounds_succ]
    go_wp2_with fail
    rw [rounds_succ]
    go_wp2_with fail
    refine (rright_is hp _).mono ?_
    rintro e1 w1 ⟨rfl, hb1⟩
    obtain ⟨hc1, hf1⟩ := kept hb1
    obtain ⟨e0, e1', e2, e3, e4, _⟩ := ((PtAt.new w 0 0 0 0 0).alloc _).later hb1
    go_wp2_with fail
    exact bodyPost_ret (v := .tuple #[Pt.v ⟨0, 0, 0, 0, 0⟩, .int .i64 1]) (by simp [results, Tryd.results9, go_sem, e0, e1', e2, e3, e4]) rfl ⟨by rw [HV.out], below_set5 (below_past hb1) (by omega) _ _ _ _ _⟩
  · have HV := Lib.hid (show makeV [x0, x1, x2, x3] = .tuple #[Pt.v ⟨x0, x1, x2, x3, 4⟩, .int .i64 0] by unfold makeV makeP; simp [hp])
    go_enter Tryd.func9, Tryd.ntmps9
    go_wp2_with fail
    refine wp_loop_rounds 5 ?_
    rw [rounds_succ]
    go_wp2_with fail
    rw [rounds_succ]
    go_wp2_with fail
    rw [rounds_succ]
    go_wp2_with fail
    rw [rounds_succ]
    go_wp2_with fail
    rw [rounds_succ]
    go_wp2_with fail
    refine (rright_is hp _).mono ?_
    rintro e1 w1 ⟨rfl, hb1⟩
    obtain ⟨hc1, hf1⟩ := kept hb1
    obtain ⟨e0, e1', e2, e3, e4, _⟩ := ((PtAt.new w 0 0 0 0 0).alloc _).later hb1
    go_wp2_with fail
    exact bodyPost_ret (v := .tuple #[Pt.v ⟨x0, x1, x2, x3, 4⟩, .int .i64 0]) (by simp [results, Tryd.results9, go_sem, e0, e1', e2, e3, e4]) rfl ⟨by rw [HV.out], below_set5 (below_past hb1) (by omega) _ _ _ _ _⟩

set_option maxHeartbeats 2000000 in
theorem rmake_5 (l : List Int) (n : Nat) (hn : l.length = n) (h5 : 5 ≤ n) (hm : n ≤ 20) (ad : Addr) (c : Nat) (w : World) (hz : Cells w ad l) :
    Calls Tryd.prog 9 #[.slice (some ad) n c] w fun e w' => e = .returned (makeV l) ∧ Below w.heap.size w w' := by
  have HV := Lib.hid (makeV_long l (by omega))
  obtain ⟨x0, x1, x2, x3, q0, q1, q2, q3⟩ : ∃ x0 x1 x2 x3 : Int, (∀ o o' : Obj, ((w.alloc o).alloc o').cell? (ad.add 0) = some (.int .i64 x0)) ∧ (∀ o o' : Obj, ((w.alloc o).alloc o').cell? ⟨ad.block, ad.off + 1, none⟩ = some (.int .i64 x1)) ∧ (∀ o o' : Obj, ((w.alloc o).alloc o').cell? ⟨ad.block, ad.off + 2, none⟩ = some (.int .i64 x2)) ∧ (∀ o o' : Obj, ((w.alloc o).alloc o').cell? ⟨ad.block, ad.off + 3, none⟩ = some (.int .i64 x3)) :=
    ⟨l[0]'(by omega), l[1]'(by omega), l[2]'(by omega), l[3]'(by omega), deep_cell hz 0 (by omega), deep_cell hz 1 (by omega), deep_cell hz 2 (by omega), deep_cell hz 3 (by omega)⟩
  have q0' : ∀ o o' : Obj, ((w.alloc o).alloc o').cell? ad = some (.int .i64 x0) := fun o o' => by have := q0 o o'; simpa [Addr.add] using this
  have hp : rightB ⟨x0, x1, x2, x3, (n : Nat)⟩ = false := rightB_out (by simp only; omega)
  have j0 : (0 : Int) < (n : Int) := by omega
  have j1 : (1 : Int) < (n : Int) := by omega
  have j2 : (2 : Int) < (n : Int) := by omega
  have j3 : (3 : Int) < (n : Int) := by omega
  have j4 : (4 : Int) < (n : Int) := by omega
  clear hz hn
  go_enter Tryd.func9, Tryd.ntmps9
  go_wp2_with fail
  refine wp_loop_rounds 5 ?_
  rw [rounds_succ]
  go_wp2_with fail
  rw [rounds_succ]
  go_wp2_with fail
  rw [rounds_succ]
  go_wp2_with fail
  rw [rounds_succ]
  go_wp2_with fail
  rw [rounds_succ]
  go_wp2_with fail
  refine (rright_is hp _).mono ?_
  rintro e1 w1 ⟨rfl, hb1⟩
  obtain ⟨hc1, hf1⟩ := kept hb1
  obtain ⟨e0, e1', e2, e3, e4, _⟩ := ((PtAt.new w 0 0 0 0 0).alloc _).later hb1
  go_wp2_with fail
  exact bodyPost_ret (v := .tuple #[Pt.v ⟨0, 0, 0, 0, 0⟩, .int .i64 1]) (by simp [results, Tryd.results9, go_sem, e0, e1', e2, e3, e4]) rfl ⟨by rw [HV.out], below_set5 (below_past hb1) (by omega) _ _ _ _ _⟩
theorem rmake_any (A : Option Addr) (n c : Nat) (zs : List Int) (w : World) (h : Inp w A n c zs) (hn : n ≤ 20) :
    Calls Tryd.prog 9 #[.slice A n c] w fun e w' => e = .returned (makeV zs) ∧ Below w.heap.size w w' := by
  obtain ⟨hl, hA⟩ := h
  have hz : ∀ ad, A = some ad → Cells w ad zs := fun ad he => by
    rcases hA with ⟨h, _, _⟩ | ⟨ad', h, hz⟩
    · rw [h] at he; cases he
    · rw [h] at he; cases he; exact hz
  have hN : zs ≠ [] → A ≠ none := fun hne => by
    rcases hA with ⟨_, h, _⟩ | ⟨ad', h, _⟩
    · exact absurd (List.length_eq_zero_iff.1 (hl.trans h)) hne
    · rw [h]; exact fun k => by cases k
  match zs, hl, hz, hN with
  | [], rfl, _, _ => exact rmake_0 A c w
  | [x0], rfl, hz, hN => exact rmake_1 x0 A c w hz (hN (by simp))
  | [x0, x1], rfl, hz, hN => exact rmake_2 x0 x1 A c w hz (hN (by simp))
  | [x0, x1, x2], rfl, hz, hN => exact rmake_3 x0 x1 x2 A c w hz (hN (by simp))
  | [x0, x1, x2, x3], rfl, hz, hN => exact rmake_4 x0 x1 x2 x3 A c w hz (hN (by simp))
  | x0 :: x1 :: x2 :: x3 :: x4 :: r, hl, hz, hN =>
    cases A with
    | none => exact absurd rfl (hN (by simp))
    | some ad => exact rmake_5 _ n hl (by rw [← hl]; simp) hn ad c w (hz ad rfl)
end Go.Proofs.YtmlljgijbffepaaDoor
