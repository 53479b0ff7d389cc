/- The contract of the function that makes a node of the first numbers of another. -/
import Derived.Test.YtmlljgijbffepaaA1
import Derived.StillTailTactics
import Derived.Laws.IdiomCopy
import Derived.Deep.RegionLaw
namespace Go.Proofs.Ytmlljgijbffepaa
open Go Go.RowKit

def cutP (p : Pt) (k : Int) : Pt := ⟨p.a, if 1 < k then p.b else 0, if 2 < k then p.c else 0, if 3 < k then p.d else 0, k⟩

abbrev boxed (w : World) (a b c d e : Int) : World := w.alloc (.cells #[.int .i64 a, .int .i64 b, .int .i64 c, .int .i64 d, .int .i64 e] 24)

theorem copy_run (W : World) (g s k : Nat) (cs : List Value) (hk : k = cs.length) (h4 : k ≤ 4)
    (hsrc : ∀ j v, cs[j]? = some v → W.cell? ⟨s, j, none⟩ = some v) (hc : ∀ j, j < k → (W.cell? ⟨g, j, none⟩).isSome = true) (hf : ∀ j, j < k → W.frozen? ⟨g, j, none⟩ = false) (h1 : ∀ v ∈ cs, v.oneCell' = true) :
    (Builtin.copy_ #[46, 46] 3 #[.slice (some ⟨g, 0, none⟩) k 4, .slice (some ⟨s, 0, none⟩) 4 4]).run Try.prog W = .ok (.int .i64 (k : Nat)) (W.setCells g 0 cs) := by
  subst hk
  have h := run_copy_cells (P := Try.prog) W 46 46 3 3 g 0 cs.length 4 ⟨s, 0, none⟩ 4 4 cs Try.underlying46 (by kernel_rfl) (by simp [Nat.min_def]; omega)
    (fun j v hj => by have := hsrc j v hj; cases j <;> simpa [Addr.add] using this) (fun j hj => by simpa using hc j hj) (fun j hj => by simpa using hf j hj) h1
  exact h

set_option maxHeartbeats 1000000 in
theorem top_1 (a b c d e : Int) (w : World) :
    Calls Try.prog 24 #[Pt.v ⟨a, b, c, d, e⟩, .int .i64 1] w fun r w' => r = .returned (Pt.v ⟨a, 0, 0, 0, 1⟩) ∧ Below w.heap.size w w' := by
  have hr := copy_run (boxed (boxed (boxed w a b c d e) 0 0 0 0 0) 0 0 0 0 1).drew (w.heap.size + 1 + 1) w.heap.size 1 [.int .i64 a] rfl (by omega)
    (fun j v hj => by
      match j, hj with
      | 0, hj => simp at hj; subst hj; simp [go_sem]
      | j + 1, hj => simp at hj)
    (fun j hj => by
       obtain rfl : j = 0 := by omega
       simp [go_sem])
    (fun j hj => by
       obtain rfl : j = 0 := by omega
       simp [go_sem])
    (fun v hv => by simp at hv; subst hv; rfl)
  simp only [World.setCells, boxed] at hr
  go_enter Try.func24, Try.ntmps24
  go_wp2
  go_region
  go_wp2
  refine bodyPost_ret (v := Pt.v ⟨a, 0, 0, 0, 1⟩) (by simp [results, Try.results24, go_sem]) rfl ⟨rfl, ?_⟩
  exact ((((Below.refl _ _).alloc (Nat.le_refl _) _).alloc (by simp) _).alloc (by simp; omega) _).drew
set_option maxHeartbeats 1000000 in
theorem top_2 (a b c d e : Int) (w : World) :
    Calls Try.prog 24 #[Pt.v ⟨a, b, c, d, e⟩, .int .i64 2] w fun r w' => r = .returned (Pt.v ⟨a, b, 0, 0, 2⟩) ∧ Below w.heap.size w w' := by
  have hr := copy_run (boxed (boxed (boxed w a b c d e) 0 0 0 0 0) 0 0 0 0 2).drew (w.heap.size + 1 + 1) w.heap.size 2 [.int .i64 a, .int .i64 b] rfl (by omega)
    (fun j v hj => by
      match j, hj with
      | 0, hj => simp at hj; subst hj; simp [go_sem]
      | 1, hj => simp at hj; subst hj; simp [go_sem]
      | j + 2, hj => simp at hj)
    (fun j hj => by
       rcases (by omega : j = 0 ∨ j = 1) with rfl | rfl <;> simp [go_sem])
    (fun j hj => by
       rcases (by omega : j = 0 ∨ j = 1) with rfl | rfl <;> simp [go_sem])
    (fun v hv => by simp at hv; rcases hv with rfl | rfl <;> rfl)
  simp only [World.setCells, boxed] at hr
  go_enter Try.func24, Try.ntmps24
  go_wp2
  go_region
  go_wp2
  refine bodyPost_ret (v := Pt.v ⟨a, b, 0, 0, 2⟩) (by simp [results, Try.results24, go_sem]) rfl ⟨rfl, ?_⟩
  exact ((((Below.refl _ _).alloc (Nat.le_refl _) _).alloc (by simp) _).alloc (by simp; omega) _).drew
set_option maxHeartbeats 1000000 in
theorem top_3 (a b c d e : Int) (w : World) :
    Calls Try.prog 24 #[Pt.v ⟨a, b, c, d, e⟩, .int .i64 3] w fun r w' => r = .returned (Pt.v ⟨a, b, c, 0, 3⟩) ∧ Below w.heap.size w w' := by
  have hr := copy_run (boxed (boxed (boxed w a b c d e) 0 0 0 0 0) 0 0 0 0 3).drew (w.heap.size + 1 + 1) w.heap.size 3 [.int .i64 a, .int .i64 b, .int .i64 c] rfl (by omega)
    (fun j v hj => by
      match j, hj with
      | 0, hj => simp at hj; subst hj; simp [go_sem]
      | 1, hj => simp at hj; subst hj; simp [go_sem]
      | 2, hj => simp at hj; subst hj; simp [go_sem]
      | j + 3, hj => simp at hj)
    (fun j hj => by
       rcases (by omega : j = 0 ∨ j = 1 ∨ j = 2) with rfl | rfl | rfl <;> simp [go_sem])
    (fun j hj => by
       rcases (by omega : j = 0 ∨ j = 1 ∨ j = 2) with rfl | rfl | rfl <;> simp [go_sem])
    (fun v hv => by simp at hv; rcases hv with rfl | rfl | rfl <;> rfl)
  simp only [World.setCells, boxed] at hr
  go_enter Try.func24, Try.ntmps24
  go_wp2
  go_region
  go_wp2
  refine bodyPost_ret (v := Pt.v ⟨a, b, c, 0, 3⟩) (by simp [results, Try.results24, go_sem]) rfl ⟨rfl, ?_⟩
  exact ((((Below.refl _ _).alloc (Nat.le_refl _) _).alloc (by simp) _).alloc (by simp; omega) _).drew
set_option maxHeartbeats 1000000 in
theorem top_4 (a b c d e : Int) (w : World) :
    Calls Try.prog 24 #[Pt.v ⟨a, b, c, d, e⟩, .int .i64 4] w fun r w' => r = .returned (Pt.v ⟨a, b, c, d, 4⟩) ∧ Below w.heap.size w w' := by
  have hr := copy_run (boxed (boxed (boxed w a b c d e) 0 0 0 0 0) 0 0 0 0 4).drew (w.heap.size + 1 + 1) w.heap.size 4 [.int .i64 a, .int .i64 b, .int .i64 c, .int .i64 d] rfl (by omega)
    (fun j v hj => by
      match j, hj with
      | 0, hj => simp at hj; subst hj; simp [go_sem]
      | 1, hj => simp at hj; subst hj; simp [go_sem]
      | 2, hj => simp at hj; subst hj; simp [go_sem]
      | 3, hj => simp at hj; subst hj; simp [go_sem]
      | j + 4, hj => simp at hj)
    (fun j hj => by
       rcases (by omega : j = 0 ∨ j = 1 ∨ j = 2 ∨ j = 3) with rfl | rfl | rfl | rfl <;> simp [go_sem])
    (fun j hj => by
       rcases (by omega : j = 0 ∨ j = 1 ∨ j = 2 ∨ j = 3) with rfl | rfl | rfl | rfl <;> simp [go_sem])
    (fun v hv => by simp at hv; rcases hv with rfl | rfl | rfl | rfl <;> rfl)
  simp only [World.setCells, boxed] at hr
  go_enter Try.func24, Try.ntmps24
  go_wp2
  go_region
  go_wp2
  refine bodyPost_ret (v := Pt.v ⟨a, b, c, d, 4⟩) (by simp [results, Try.results24, go_sem]) rfl ⟨rfl, ?_⟩
  exact ((((Below.refl _ _).alloc (Nat.le_refl _) _).alloc (by simp) _).alloc (by simp; omega) _).drew
theorem top_any (p : Pt) (k : Int) (w : World) (h1 : 1 ≤ k) (h4 : k ≤ 4) :
    Calls Try.prog 24 #[p.v, .int .i64 k] w fun r w' => r = .returned (cutP p k).v ∧ Below w.heap.size w w' := by
  obtain ⟨a, b, c, d, e⟩ := p
  rcases (by omega : k = 1 ∨ k = 2 ∨ k = 3 ∨ k = 4) with rfl | rfl | rfl | rfl
  · exact top_1 a b c d e w
  · exact top_2 a b c d e w
  · exact top_3 a b c d e w
  · exact top_4 a b c d e w
end Go.Proofs.Ytmlljgijbffepaa
