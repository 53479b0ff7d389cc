/- A place is laid ahead of a node, and cut out. -/
import Derived.Test.YthgcedhplbhiiaaA1
import Derived.StillTailTactics
import Derived.Deep.Cut
namespace Go.Proofs.Ythgcedhplbhiiaa
open Go Go.RowKit
section
variable {W W' : World} {b g N c : Nat} {rw : Nat → Int} {pv nx : Nat → Nat}
theorem drew1_below (w : World) : Below w.heap.size w w.drew := ⟨rfl, rfl, rfl, Nat.le_refl _, fun _ _ => rfl⟩

set_option maxHeartbeats 1000000 in
theorem Lnk.lay (h : Lnk W b g N c rw pv nx) {t i : Nat} (ht : t < 2 * N) (hi : i < 2 * N) (hp : pv t < 2 * N) : Calls Try.prog 25 #[wp b, .int .i64 (t : Int), .int .i64 (i : Int)] W fun e w' => e = .returned (.tuple #[]) ∧
    Lnk w' b g N c (upd rw i (rw t)) (upd (upd pv i (pv t)) t i) (upd (upd nx i t) (pv t) i) ∧ OnlyS (· = g) W w' := by
  have hnb := h.nb
  have hbg := h.ne
  have q0 := h.c0
  have q1 := h.r1 t ht
  have q2 := h.r0 t ht
  have q3 := h.r0 i hi
  have q4 := h.r1 i hi
  have q5 := h.r2 i hi
  have f0 := h.fz (i * 3)
  have f1 := h.fz (i * 3 + 1)
  have f2 := h.fz (i * 3 + 2)
  have h1 := (((h.set0 i (rw t)).set1 i (pv t)).set2 i t).below (drew1_below _)
  have o1 : OnlyS (· = g) W (((W.setCell ⟨g, i * 3, none⟩ (.int .i64 (rw t))).setCell ⟨g, i * 3 + 1, none⟩ (.int .i64 (pv t : Int))).setCell ⟨g, i * 3 + 2, none⟩ (.int .i64 (t : Int))).drew :=
    ((((OnlyS.refl (· = g) W).setIn g _ _ (.inl rfl)).setIn g _ _ (.inl rfl)).setIn g _ _ (.inl rfl)).drew
  have H1 := Lib.hid h1
  have O1 := Lib.hid o1
  clear h h1 o1
  have hM : 2 * N ≤ 8192 := by omega
  obtain ⟨M, hMN⟩ : ∃ M, 2 * N = M := ⟨_, rfl⟩
  have HM := Lib.hid hMN
  rw [hMN] at ht hi hp q0 hM
  clear hMN
  generalize rw t = x at *
  generalize pv t = y at *
  go_enter Try.func25, Try.ntmps25
  go_wp2
  go_region
  all_goals
    clear q0 q1 q2 q3 q4 q5 f0 f1 f2
    generalize (((W.setCell ⟨g, i * 3, none⟩ (.int .i64 x)).setCell ⟨g, i * 3 + 1, none⟩ (.int .i64 (y : Int))).setCell ⟨g, i * 3 + 2, none⟩ (.int .i64 (t : Int))).drew = W1 at H1 O1 ⊢
    have q0 := H1.out.c0
    rw [HM.out] at q0
    have hy := hp
    have ht2 := ht
    rw [← HM.out] at hp ht
    have q1 := H1.out.r2 y hp
    have q2 := H1.out.r1 t ht
    have f1 := H1.out.fz (y * 3 + 2)
    have f2 := H1.out.fz (t * 3 + 1)
    have HE := Lib.hid ((H1.out.set2 y i).set1 t i)
    have HO := Lib.hid (((O1.out.setIn g (y * 3 + 2) (.int .i64 (i : Int)) (.inl rfl))).setIn g (t * 3 + 1) (.int .i64 (i : Int)) (.inl rfl))
    have hn : y * 3 + 2 ≠ t * 3 + 1 := by omega
    have hgb : g ≠ b := Ne.symm hbg
    clear hp ht H1 O1
    go_wp2
    go_end0
    exact ⟨rfl, HE.out, HO.out⟩
end
end Go.Proofs.Ythgcedhplbhiiaa
