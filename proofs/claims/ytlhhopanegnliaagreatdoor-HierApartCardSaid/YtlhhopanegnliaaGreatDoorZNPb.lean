import Derived.Test.YtlhhopanegnliaaGreatDoorProg
import Derived.WalkKit
import Derived.WalkLawsBesides
import Derived.Deep.QuietTactic
import Derived.BigQuiet
import Derived.WalkSmall
import Derived.KernelRfl
import Derived.Lib.Hide
import Derived.StillTailTactics
import Derived.Laws.IdiomCopy
import Derived.Deep.RegionLaw
import Derived.Deep.RegionHeld3
import Derived.Laws.AppendOwn
import Derived.Test.YtlhhopanegnliaaGreatDoorPa
import Derived.Test.YtlhhopanegnliaaGreatDoorZRp
namespace Go.Proofs.YtlhhopanegnliaaGreatDoor.Pa
open Go Go.RowKit


end Go.Proofs.YtlhhopanegnliaaGreatDoor.Pa
namespace Go.Proofs.YtlhhopanegnliaaGreatDoor.Pa
open Go Go.RowKit

set_option maxHeartbeats 1000000 in
theorem top_1 (a b c d e : Int) (w : World) :
    Calls Tryz.prog 109 #[Pt.v ⟨a, b, c, d, e⟩, .int .i64 1] w fun r w' => r = .returned (Pt.v ⟨a, 0, 0, 0, 1⟩) ∧ Below w.heap.size w w' := by
  have hr := copy_run (boxed (boxed (boxed w a b c d e) 0 0 0 0 0) 0 0 0 0 1).drew (w.heap.size + 1 + 1) w.heap.size 1 [.int .i64 a] rfl (by omega)
    (fun j v hj => by
      match j, hj with
      | 0, hj => simp at hj; subst hj; simp [go_sem]
      | j + 1, hj => simp at hj)
    (fun j hj => by
       obtain rfl : j = 0 := by omega
       simp [go_sem])
    (fun j hj => by
       obtain rfl : j = 0 := by omega
       simp [go_sem])
    (fun v hv => by simp at hv; subst hv; rfl)
  simp only [World.setCells, boxed] at hr
  go_enter Tryz.func109, Tryz.ntmps109
  go_wp2
  go_region
  go_wp2
  refine bodyPost_ret (v := Pt.v ⟨a, 0, 0, 0, 1⟩) (by simp [results, Tryz.results109, go_sem]) rfl ⟨rfl, ?_⟩
  exact ((((Below.refl _ _).alloc (Nat.le_refl _) _).alloc (by simp) _).alloc (by simp; omega) _).drew
set_option maxHeartbeats 1000000 in
theorem top_2 (a b c d e : Int) (w : World) :
    Calls Tryz.prog 109 #[Pt.v ⟨a, b, c, d, e⟩, .int .i64 2] w fun r w' => r = .returned (Pt.v ⟨a, b, 0, 0, 2⟩) ∧ Below w.heap.size w w' := by
  have hr := copy_run (boxed (boxed (boxed w a b c d e) 0 0 0 0 0) 0 0 0 0 2).drew (w.heap.size + 1 + 1) w.heap.size 2 [.int .i64 a, .int .i64 b] rfl (by omega)
    (fun j v hj => by
      match j, hj with
      | 0, hj => simp at hj; subst hj; simp [go_sem]
      | 1, hj => simp at hj; subst hj; simp [go_sem]
      | j + 2, hj => simp at hj)
    (fun j hj => by
       rcases (by omega : j = 0 ∨ j = 1) with rfl | rfl <;> simp [go_sem])
    (fun j hj => by
       rcases (by omega : j = 0 ∨ j = 1) with rfl | rfl <;> simp [go_sem])
    (fun v hv => by simp at hv; rcases hv with rfl | rfl <;> rfl)
  simp only [World.setCells, boxed] at hr
  go_enter Tryz.func109, Tryz.ntmps109
  go_wp2
  go_region
  go_wp2
  refine bodyPost_ret (v := Pt.v ⟨a, b, 0, 0, 2⟩) (by simp [results, Tryz.results109, go_sem]) rfl ⟨rfl, ?_⟩
  exact ((((Below.refl _ _).alloc (Nat.le_refl _) _).alloc (by simp) _).alloc (by simp; omega) _).drew
set_option maxHeartbeats 1000000 in
theorem top_3 (a b c d e : Int) (w : World) :
    Calls Tryz.prog 109 #[Pt.v ⟨a, b, c, d, e⟩, .int .i64 3] w fun r w' => r = .returned (Pt.v ⟨a, b, c, 0, 3⟩) ∧ Below w.heap.size w w' := by
  have hr := copy_run (boxed (boxed (boxed w a b c d e) 0 0 0 0 0) 0 0 0 0 3).drew (w.heap.size + 1 + 1) w.heap.size 3 [.int .i64 a, .int .i64 b, .int .i64 c] rfl (by omega)
    (fun j v hj => by
      match j, hj with
      | 0, hj => simp at hj; subst hj; simp [go_sem]
      | 1, hj => simp at hj; subst hj; simp [go_sem]
      | 2, hj => simp at hj; subst hj; simp [go_sem]
      | j + 3, hj => simp at hj)
    (fun j hj => by
       rcases (by omega : j = 0 ∨ j = 1 ∨ j = 2) with rfl | rfl | rfl <;> simp [go_sem])
    (fun j hj => by
       rcases (by omega : j = 0 ∨ j = 1 ∨ j = 2) with rfl | rfl | rfl <;> simp [go_sem])
    (fun v hv => by simp at hv; rcases hv with rfl | rfl | rfl <;> rfl)
  simp only [World.setCells, boxed] at hr
  go_enter Tryz.func109, Tryz.ntmps109
  go_wp2
  go_region
  go_wp2
  refine bodyPost_ret (v := Pt.v ⟨a, b, c, 0, 3⟩) (by simp [results, Tryz.results109, go_sem]) rfl ⟨rfl, ?_⟩
  exact ((((Below.refl _ _).alloc (Nat.le_refl _) _).alloc (by simp) _).alloc (by simp; omega) _).drew
set_option maxHeartbeats 1000000 in
theorem top_4 (a b c d e : Int) (w : World) :
    Calls Tryz.prog 109 #[Pt.v ⟨a, b, c, d, e⟩, .int .i64 4] w fun r w' => r = .returned (Pt.v ⟨a, b, c, d, 4⟩) ∧ Below w.heap.size w w' := by
  have hr := copy_run (boxed (boxed (boxed w a b c d e) 0 0 0 0 0) 0 0 0 0 4).drew (w.heap.size + 1 + 1) w.heap.size 4 [.int .i64 a, .int .i64 b, .int .i64 c, .int .i64 d] rfl (by omega)
    (fun j v hj => by
      match j, hj with
      | 0, hj => simp at hj; subst hj; simp [go_sem]
      | 1, hj => simp at hj; subst hj; simp [go_sem]
      | 2, hj => simp at hj; subst hj; simp [go_sem]
      | 3, hj => simp at hj; subst hj; simp [go_sem]
      | j + 4, hj => simp at hj)
    (fun j hj => by
       rcases (by omega : j = 0 ∨ j = 1 ∨ j = 2 ∨ j = 3) with rfl | rfl | rfl | rfl <;> simp [go_sem])
    (fun j hj => by
       rcases (by omega : j = 0 ∨ j = 1 ∨ j = 2 ∨ j = 3) with rfl | rfl | rfl | rfl <;> simp [go_sem])
    (fun v hv => by simp at hv; rcases hv with rfl | rfl | rfl | rfl <;> rfl)
  simp only [World.setCells, boxed] at hr
  go_enter Tryz.func109, Tryz.ntmps109
  go_wp2
  go_region
  go_wp2
  refine bodyPost_ret (v := Pt.v ⟨a, b, c, d, 4⟩) (by simp [results, Tryz.results109, go_sem]) rfl ⟨rfl, ?_⟩
  exact ((((Below.refl _ _).alloc (Nat.le_refl _) _).alloc (by simp) _).alloc (by simp; omega) _).drew
theorem top_any (p : Pt) (k : Int) (w : World) (h1 : 1 ≤ k) (h4 : k ≤ 4) :
    Calls Tryz.prog 109 #[p.v, .int .i64 k] w fun r w' => r = .returned (cutP p k).v ∧ Below w.heap.size w w' := by
  obtain ⟨a, b, c, d, e⟩ := p
  rcases (by omega : k = 1 ∨ k = 2 ∨ k = 3 ∨ k = 4) with rfl | rfl | rfl | rfl
  · exact top_1 a b c d e w
  · exact top_2 a b c d e w
  · exact top_3 a b c d e w
  · exact top_4 a b c d e w
end Go.Proofs.YtlhhopanegnliaaGreatDoor.Pa
namespace Go.Proofs.YtlhhopanegnliaaGreatDoor.Pa
open Go Go.RowKit

set_option maxHeartbeats 1000000 in
theorem up_any (p : Pt) (w : World) :
    Calls Tryz.prog 77 #[p.v] w fun e w' => e = .returned (upV p) ∧ Below w.heap.size w w' := by
  obtain ⟨a, b, c, d, e⟩ := p
  cases hr : rightB ⟨a, b, c, d, e⟩
  · have HV := Lib.hid (show upV ⟨a, b, c, d, e⟩ = .tuple #[Pt.v ⟨0, 0, 0, 0, 0⟩, .bool false] by simp [upV, hr])
    go_enter Tryz.func77, Tryz.ntmps77
    go_wp2_with (go_at_call 70; ((with_reducible refine (may_any ⟨a, b, c, d, e⟩ _).mono ?_); rintro e1 w1 ⟨rfl, hb1⟩; rw [hr]; obtain ⟨hc1, hf1⟩ := kept hb1))
    exact bodyPost_ret (v := .tuple #[Pt.v ⟨0, 0, 0, 0, 0⟩, .bool false]) (by simp [results, Tryz.results77, go_sem, hc1]) rfl ⟨by rw [HV.out], below_set5 (below_past hb1) (by omega) _ _ _ _ _⟩
  · have hd := right_depth hr
    simp only at hd
    by_cases h1 : e = 1
    · have HV := Lib.hid (show upV ⟨a, b, c, d, e⟩ = .tuple #[Pt.v ⟨0, 0, 0, 0, 0⟩, .bool false] by simp [upV, h1])
      have h1' : (e == 1) = true := by simp [h1]
      clear h1
      go_enter Tryz.func77, Tryz.ntmps77
      go_wp2_with (go_at_call 70; ((with_reducible refine (may_any ⟨a, b, c, d, e⟩ _).mono ?_); rintro e1 w1 ⟨rfl, hb1⟩; rw [hr]; obtain ⟨hc1, hf1⟩ := kept hb1))
      exact bodyPost_ret (v := .tuple #[Pt.v ⟨0, 0, 0, 0, 0⟩, .bool false]) (by simp [results, Tryz.results77, go_sem, hc1]) rfl ⟨by rw [HV.out], below_set5 (below_past hb1) (by omega) _ _ _ _ _⟩
    · have HV := Lib.hid (show upV ⟨a, b, c, d, e⟩ = .tuple #[(cutP ⟨a, b, c, d, e⟩ (e - 1)).v, .bool true] by simp [upV, h1, hr])
      have h1' : (e == 1) = false := by simp [h1]
      have h2 : 2 ≤ e := by omega
      have h4 : e ≤ 4 := hd.2
      clear h1 hd
      go_enter Tryz.func77, Tryz.ntmps77
      go_wp2_with (first | (go_at_call 70; ((with_reducible refine (may_any ⟨a, b, c, d, e⟩ _).mono ?_); rintro e1 w1 ⟨rfl, hb1⟩; rw [hr]; obtain ⟨hc1, hf1⟩ := kept hb1; have hz1 : w.heap.size + 1 < w1.heap.size := lt_two hb1)) | (go_at_call 109; ((with_reducible refine (top_any ⟨a, b, c, d, e⟩ (e - 1) _ (by omega) (by omega)).mono ?_); rintro e2 w2 ⟨rfl, hb2⟩; obtain ⟨hc2, hf2⟩ := kept hb2)))
      exact bodyPost_ret (v := .tuple #[(cutP ⟨a, b, c, d, e⟩ (e - 1)).v, .bool true]) (by simp [results, Tryz.results77, go_sem, hc2, hc1, hz1]) rfl ⟨by rw [HV.out], below_set5 ((below_past hb1).trans (hb2.mono (by omega))) (by omega) _ _ _ _ _⟩

end Go.Proofs.YtlhhopanegnliaaGreatDoor.Pa
namespace Go.Proofs.YtlhhopanegnliaaGreatDoor.Pa
open Go Go.RowKit

instance {W : World} : Inhabited (Later W) := ⟨⟨W, Below.refl _ _⟩⟩
end Go.Proofs.YtlhhopanegnliaaGreatDoor.Pa
namespace Go.Proofs.YtlhhopanegnliaaGreatDoor.Pa
open Go Go.RowKit

end Go.Proofs.YtlhhopanegnliaaGreatDoor.Pa
namespace Go.Proofs.YtlhhopanegnliaaGreatDoor.Pa
open Go Go.RowKit
end Go.Proofs.YtlhhopanegnliaaGreatDoor.Pa
namespace Go.Proofs.YtlhhopanegnliaaGreatDoor.Pa
open Go Go.RowKit
set_option maxRecDepth 100000

def wiB (p q : Pt) : Bool := rightB p && rightB q && decide (q.e ≤ p.e) && eqP (cutP p q.e) q

theorem top_g {w : World} {p : Pt} {k : Int} (h1 : 1 ≤ k) (h4 : k ≤ 4) : Gives w 109 #[p.v, .int .i64 k] (cutP p k).v := Gives.of fun w => top_any p k w h1 h4

end Go.Proofs.YtlhhopanegnliaaGreatDoor.Pa
namespace Go.Proofs.YtlhhopanegnliaaGreatDoor.Pa
open Go

end Go.Proofs.YtlhhopanegnliaaGreatDoor.Pa
namespace Go.Proofs.YtlhhopanegnliaaGreatDoor.Pa
open Go

theorem cmpL_neg : ∀ l q : List Int, cmpL q l = - cmpL l q
  | [], [] => rfl
  | [], _ :: _ => rfl
  | _ :: _, [] => rfl
  | x :: r, y :: q => by
    rw [cmpL, cmpL]
    by_cases h1 : x < y
    · rw [if_neg (by omega), if_pos h1, if_pos h1]; rfl
    · by_cases h2 : y < x
      · rw [if_pos h2, if_neg h1, if_pos h2]
      · rw [if_neg h2, if_neg h1, if_neg h1, if_neg h2]; exact cmpL_neg r q
theorem cmpL_trans : ∀ l q r : List Int, cmpL l q < 0 → cmpL q r < 0 → cmpL l r < 0
  | [], [], _, h, _ => by simp [cmpL] at h
  | [], _ :: _, [], _, h => by simp [cmpL] at h
  | [], _ :: _, _ :: _, _, _ => by simp [cmpL]
  | _ :: _, [], _, h, _ => by simp [cmpL] at h
  | _ :: _, _ :: _, [], _, h => by simp [cmpL] at h
  | x :: l, y :: q, z :: r, h1, h2 => by
    rw [cmpL] at h1 h2 ⊢
    by_cases a1 : x < y
    · by_cases a2 : y < z
      · rw [if_pos (by omega)]; omega
      · rw [if_neg a2] at h2
        by_cases a3 : z < y
        · rw [if_pos a3] at h2; omega
        · rw [if_pos (by omega)]; omega
    · rw [if_neg a1] at h1
      by_cases a2 : y < x
      · rw [if_pos a2] at h1; omega
      · rw [if_neg a2] at h1
        by_cases a3 : y < z
        · rw [if_pos (by omega)]; omega
        · rw [if_neg a3] at h2
          by_cases a4 : z < y
          · rw [if_pos a4] at h2; omega
          · rw [if_neg a4] at h2
            rw [if_neg (by omega), if_neg (by omega)]
            exact cmpL_trans l q r h1 h2
theorem wi_iff {p q : Pt} (hp : rightB p = true) (hq : rightB q = true) : wiB p q = true ↔ numsP q <+: numsP p := by
  unfold wiB
  rw [hp, hq]
  rcases node_shape hp with ⟨a, rfl⟩ | ⟨a, b, rfl⟩ | ⟨a, b, c, rfl⟩ | ⟨a, b, c, d, rfl⟩ <;>
    rcases node_shape hq with ⟨a', rfl⟩ | ⟨a', b', rfl⟩ | ⟨a', b', c', rfl⟩ | ⟨a', b', c', d', rfl⟩ <;>
    (simp [numsP, cutP, eqP, List.cons_prefix_cons]; try (constructor <;> intro h <;> simp_all))
theorem less_iff {p q : Pt} (hp : rightB p = true) (hq : rightB q = true) : lessB p q = true ↔ cmpL (numsP p) (numsP q) < 0 := by
  unfold lessB; rw [hp, hq]; simp
theorem tree_total {p q : Pt} (hp : rightB p = true) (hq : rightB q = true) : p = q ∨ lessB p q = !lessB q p := by
  have n := cmpL_neg (numsP p) (numsP q)
  by_cases z : cmpL (numsP p) (numsP q) = 0
  · exact .inl (nums_inj hp hq (cmpL_zero _ _ z))
  · refine .inr ?_
    cases h1 : lessB q p
    · have : ¬ cmpL (numsP q) (numsP p) < 0 := fun k => by rw [(less_iff hq hp).2 k] at h1; cases h1
      exact (less_iff hp hq).2 (by omega)
    · have := (less_iff hq hp).1 h1
      cases h2 : lessB p q
      · rfl
      · have := (less_iff hp hq).1 h2; omega
theorem tree_less {p q r : Pt} (hp : rightB p = true) (hq : rightB q = true) (hr : rightB r = true) (h1 : lessB p q = true) (h2 : lessB q r = true) : lessB p r = true :=
  (less_iff hp hr).2 (cmpL_trans _ _ _ ((less_iff hp hq).1 h1) ((less_iff hq hr).1 h2))
theorem tree_self {p : Pt} (hp : rightB p = true) : wiB p p = true ∧ lessB p p = false := by
  refine ⟨(wi_iff hp hp).2 (List.prefix_refl _), ?_⟩
  cases h : lessB p p
  · rfl
  · have := (less_iff hp hp).1 h
    rw [cmpL_self] at this
    omega
end Go.Proofs.YtlhhopanegnliaaGreatDoor.Pa
namespace Go.Proofs.YtlhhopanegnliaaGreatDoor.Pa
open Go Go.RowKit
set_option maxRecDepth 100000

end Go.Proofs.YtlhhopanegnliaaGreatDoor.Pa
namespace Go.Proofs.YtlhhopanegnliaaGreatDoor.Pa
open Go Go.RowKit
set_option maxRecDepth 100000

end Go.Proofs.YtlhhopanegnliaaGreatDoor.Pa
namespace Go.Proofs.YtlhhopanegnliaaGreatDoor.Pa
open Go Go.RowKit
set_option maxRecDepth 100000

structure PtAt (w : World) (B : Nat) (p : Pt) : Prop where
  c0 : w.cell? ⟨B, 0, none⟩ = some (.int .i64 p.a)
  c1 : w.cell? ⟨B, 1, none⟩ = some (.int .i64 p.b)
  c2 : w.cell? ⟨B, 2, none⟩ = some (.int .i64 p.c)
  c3 : w.cell? ⟨B, 3, none⟩ = some (.int .i64 p.d)
  c4 : w.cell? ⟨B, 4, none⟩ = some (.int .i64 p.e)
  lt : B < w.heap.size
theorem PtAt.later {W w' : World} {B : Nat} {p : Pt} (h : PtAt W B p) (hb : Below W.heap.size W w') : PtAt w' B p := by
  obtain ⟨k, _⟩ := kept hb
  exact ⟨(k _ _ h.lt).trans h.c0, (k _ _ h.lt).trans h.c1, (k _ _ h.lt).trans h.c2, (k _ _ h.lt).trans h.c3, (k _ _ h.lt).trans h.c4, Nat.lt_of_lt_of_le h.lt hb.size⟩
theorem PtAt.alloc {w : World} {B : Nat} {p : Pt} (h : PtAt w B p) (o : Obj) : PtAt (w.alloc o) B p := h.later (box_below w o)
theorem PtAt.new (w : World) (a b c d e : Int) : PtAt (boxed w a b c d e) w.heap.size ⟨a, b, c, d, e⟩ := by
  refine ⟨?_, ?_, ?_, ?_, ?_, by simp⟩ <;> simp [go_sem]

theorem thenCall {w w1 w2 : World} (h1 : Below w.heap.size w w1) (h2 : Below w1.heap.size w1 w2) : Below w.heap.size w w2 := h1.trans (h2.mono h1.size)

end Go.Proofs.YtlhhopanegnliaaGreatDoor.Pa
namespace Go.Proofs.YtlhhopanegnliaaGreatDoor.Pa
open Go Go.RowKit
set_option maxRecDepth 100000

def cellsP (p : Pt) : List Value := [.int .i64 p.a, .int .i64 p.b, .int .i64 p.c, .int .i64 p.d, .int .i64 p.e]
def cellsL (ps : List Pt) : List Value := ps.flatMap cellsP
theorem info24 : ∃ i z, Tryz.prog.info? 30 = some i ∧ i.zero = some z ∧ i.size = 5 ∧ i.bytes = 40 ∧ z.cells.size = 5 :=
  ⟨_, .agg #[.int .i64 0, .int .i64 0, .int .i64 0, .int .i64 0, .int .i64 0], rfl, by kernel_rfl, by kernel_rfl, by kernel_rfl, by kernel_rfl⟩
def waysL (p : Pt) : Nat → List Pt
  | 0 => []
  | k + 1 => waysL p k ++ [cutP p ((k : Nat) + 1)]
def waysP (p : Pt) : List Pt := if rightB p = true then waysL p p.e.toNat else []

theorem own_or (v : Value) : v.ownBlock = none ∨ v.ownBlock ≠ none := by cases v.ownBlock <;> simp
theorem below_grown {w w' : World} (h : Below w.heap.size w w') : w.grownBy w' none := ⟨h.os, h.tape, h.output, h.size, fun j hj _ => h.block j hj⟩
structure RowAt (w : World) (v : Value) (ps : List Pt) : Prop where
  row : (v = .slice none 0 0 ∧ ps = []) ∨ ∃ g cap, v = .slice (some ⟨g, 0, none⟩) ps.length cap ∧ g < w.heap.size ∧ ∀ i (h : i < ps.length), w.cell? ⟨g, i * 5, none⟩ = some (.int .i64 ps[i].a) ∧ w.cell? ⟨g, i * 5 + 1, none⟩ = some (.int .i64 ps[i].b) ∧ w.cell? ⟨g, i * 5 + 2, none⟩ = some (.int .i64 ps[i].c) ∧ w.cell? ⟨g, i * 5 + 3, none⟩ = some (.int .i64 ps[i].d) ∧ w.cell? ⟨g, i * 5 + 4, none⟩ = some (.int .i64 ps[i].e)
theorem cellsL_at : ∀ (ps : List Pt) (i j : Nat) (h : i < ps.length), j < 5 → (cellsL ps)[i * 5 + j]? = (cellsP ps[i])[j]?
  | p :: ps, 0, j, h, hj => by
    simp only [cellsL, List.flatMap_cons, Nat.zero_mul, Nat.zero_add, List.getElem_cons_zero]
    rw [List.getElem?_append_left (by simp [cellsP]; exact hj)]
  | p :: ps, i + 1, j, h, hj => by
    simp only [cellsL, List.flatMap_cons, List.getElem_cons_succ]
    rw [List.getElem?_append_right (by simp [cellsP]; omega)]
    have e : (i + 1) * 5 + j - (cellsP p).length = i * 5 + j := by simp [cellsP]; omega
    rw [e]
    exact cellsL_at ps i j (by simpa using h) hj
theorem row_of_own {w : World} {B : Nat} {v : Value} {ps : List Pt} (h : w.ownsRow B 30 5 v ps.length (cellsL ps)) : RowAt w v ps := by
  refine ⟨?_⟩
  rcases h.2 with ⟨rfl, h0⟩ | ⟨g, cap, cur, rfl, hb, hg, hn, hc, hcs, ht⟩
  · exact .inl ⟨rfl, List.length_eq_zero_iff.1 h0⟩
  · refine .inr ⟨g, cap, rfl, (Array.getElem?_eq_some_iff.1 hg).1, fun i hi => ?_⟩
    have key : ∀ j, j < 5 → w.cell? ⟨g, i * 5 + j, none⟩ = (cellsP ps[i])[j]? := fun j hj => by
      have e1 := cellsL_at ps i j hi hj
      rw [← e1, ← ht, List.getElem?_take, if_pos (by omega)]
      simp [World.cell?, hg]
    exact ⟨(key 0 (by omega)).trans rfl, (key 1 (by omega)).trans rfl, (key 2 (by omega)).trans rfl, (key 3 (by omega)).trans rfl, (key 4 (by omega)).trans rfl⟩
theorem RowAt.later {W w' : World} {v : Value} {ps : List Pt} (h : RowAt W v ps) (hb : Below W.heap.size W w') : RowAt w' v ps := by
  refine ⟨?_⟩
  rcases h.row with h | ⟨g, cap, rfl, hg, hc⟩
  · exact .inl h
  · obtain ⟨k, _⟩ := kept hb
    exact .inr ⟨g, cap, rfl, Nat.lt_of_lt_of_le hg hb.size, fun i hi => by rw [k _ _ hg, k _ _ hg, k _ _ hg, k _ _ hg, k _ _ hg]; exact hc i hi⟩
theorem waysL_len (p : Pt) : ∀ k, (waysL p k).length = k
  | 0 => rfl
  | k + 1 => by rw [waysL, List.length_append, waysL_len p k]; rfl
theorem cellsL_snoc (ps : List Pt) (p : Pt) : cellsL (ps ++ [p]) = cellsL ps ++ cellsP p := by simp [cellsL]
def WRel (p : Pt) (k B : Nat) (l i : Value) (wr : World) : Prop := ∃ j : Nat, j ≤ k ∧ i = .int .i64 ((j : Nat) + 1) ∧ wr.ownsRow B 30 5 l j (cellsL (waysL p j))
theorem one_cells (p : Pt) : ∀ u ∈ cellsP p, u.oneCell' = true := by
  intro u hu
  simp only [cellsP, List.mem_cons, List.not_mem_nil, or_false] at hu
  rcases hu with rfl | rfl | rfl | rfl | rfl <;> rfl

theorem new_cells (w : World) (x0 x1 x2 x3 x4 : Int) : ∀ (q : Nat) (u : Value), (cellsP ⟨x0, x1, x2, x3, x4⟩)[q]? = some u → (boxed w x0 x1 x2 x3 x4).cell? ((⟨w.heap.size, 0, none⟩ : Addr).add q) = some u
  | 0, u, h => by simp [cellsP] at h; subst h; simp [Addr.add, go_sem]
  | 1, u, h => by simp [cellsP] at h; subst h; simp [Addr.add, go_sem]
  | 2, u, h => by simp [cellsP] at h; subst h; simp [Addr.add, go_sem]
  | 3, u, h => by simp [cellsP] at h; subst h; simp [Addr.add, go_sem]
  | 4, u, h => by simp [cellsP] at h; subst h; simp [Addr.add, go_sem]
  | q + 5, u, h => by simp [cellsP] at h

set_option maxHeartbeats 2000000 in
theorem ways_yes (a b c d : Int) (k : Nat) (w : World) (hr : rightB ⟨a, b, c, d, k⟩ = true) (k1 : 1 ≤ k) (k4 : k ≤ 4) :
    Calls Tryz.prog 61 #[Pt.v ⟨a, b, c, d, k⟩] w fun e w' => ∃ v, e = .returned v ∧ RowAt w' v (waysL ⟨a, b, c, d, k⟩ k) ∧ Below w.heap.size w w' := by
  obtain ⟨i0, z0, hi, hz, hs, hby, hzs⟩ := info24
  go_enter Tryz.func61, Tryz.ntmps61
  go_wp2_with fail
  refine (may_any ⟨a, b, c, d, k⟩ _).mono ?_
  rintro e1 w1 ⟨rfl, hb1⟩
  rw [hr]
  have hp1 := (PtAt.new w a b c d k).later hb1
  have hbe := below_box hb1
  clear hb1 hr
  go_wp2_with fail
  go_loopw [3, 4] (fun l i wr => WRel ⟨a, b, c, d, k⟩ k w1.heap.size l i wr ∧ Below w1.heap.size w1 wr) (fun _ i _ => (k + 1 - (intOf i).toNat))
  case atStart => exact ⟨⟨0, by omega, rfl, World.ownsRow_nil _ _ _ _⟩, Below.refl _ _⟩
  case round =>
    obtain ⟨⟨j, hj, rfl, hown⟩, hb⟩ := hrel
    obtain ⟨c0, c1, c2, c3, c4, hl⟩ := hp1.later hb
    by_cases hlt : j < k
    · have h1 : ((j : Int) + 1) ≤ (k : Int) := by omega
      go_wp2_with fail
      refine (top_any ⟨a, b, c, d, k⟩ _ _ (by omega) (by omega)).mono ?_
      rintro e2 w2 ⟨rfl, hb2⟩
      have hown2 := hown.kept (below_grown hb2) (own_or _)
      obtain ⟨⟨x0, x1, x2, x3, x4⟩, ht⟩ : ∃ t, cutP ⟨a, b, c, d, k⟩ ((j : Int) + 1) = t := ⟨_, rfl⟩
      rw [ht]
      have HS : Hid (cellsL (waysL ⟨a, b, c, d, k⟩ (j + 1)) = cellsL (waysL ⟨a, b, c, d, k⟩ j) ++ cellsP ⟨x0, x1, x2, x3, x4⟩) := Lib.hid (by rw [waysL, cellsL_snoc, ← ht])
      clear ht c0 c1 c2 c3 c4
      have hsz := hb.size
      have hsz2 := hb2.size
      go_wp2_with (at_builtin; refine wpList_append_own _ rfl _ _ 89 rfl w1.heap.size 30 i0 z0 5 40 Tryz.underlying89 hi hz hs hby hzs (by decide) _ _ _ rfl (hown2.alloc _) ⟨w2.heap.size, 0, none⟩ 1 1 (cellsP ⟨x0, x1, x2, x3, x4⟩) rfl rfl ?a1 (one_cells _) (by unfold maxLen; omega) (by omega) (by simp; omega) ?_)
      case a1 => exact new_cells w2 x0 x1 x2 x3 x4
      intro v' w3 hown3 hg _
      go_wp2_with fail
      go_roundw
      case rel =>
        refine ⟨⟨j + 1, by omega, by go_num, by rw [HS.out]; exact hown3⟩, ?_⟩
        exact (((hb.trans (hb2.mono hsz)).alloc (by omega) _).grown hg (by simp; omega) (fun q hq => (hown.lt q hq).1))
      case measure => simp [intOf]; omega
    · obtain rfl : j = k := by omega
      have h1 : ¬ ((j : Int) + 1) ≤ (j : Int) := by omega
      go_wp2_with fail
      go_ret
      exact ⟨_, rfl, row_of_own (by rw [waysL_len]; exact hown), thenCall hbe hb⟩

theorem ways_no (p : Pt) (w : World) (hr : rightB p = false) :
    Calls Tryz.prog 61 #[p.v] w fun e w' => e = .returned (.slice none 0 0) ∧ Below w.heap.size w w' := by
  obtain ⟨a, b, c, d, e⟩ := p
  go_enter Tryz.func61, Tryz.ntmps61
  go_wp2_with fail
  refine (may_any ⟨a, b, c, d, e⟩ _).mono ?_
  rintro e1 w1 ⟨rfl, hb1⟩
  rw [hr]
  go_wp2_with fail
  go_ret
  exact ⟨rfl, below_box hb1⟩
theorem row_nil (w : World) : RowAt w (.slice none 0 0) [] := ⟨.inl ⟨rfl, rfl⟩⟩
theorem ways_any (p : Pt) (w : World) : Calls Tryz.prog 61 #[p.v] w fun e w' => ∃ v, e = .returned v ∧ RowAt w' v (waysP p) ∧ Below w.heap.size w w' := by
  cases hr : rightB p
  · rw [show waysP p = [] by simp [waysP, hr]]
    exact (ways_no p w hr).mono fun _ w' ⟨he, hb⟩ => ⟨_, he, row_nil w', hb⟩
  · have hd := right_depth hr
    rw [show waysP p = waysL p p.e.toNat by simp [waysP, hr]]
    obtain ⟨a, b, c, d, e⟩ := p
    simp only at hd
    obtain ⟨k, rfl⟩ : ∃ k : Nat, e = k := ⟨e.toNat, by omega⟩
    exact ways_yes a b c d k w hr (by omega) (by omega)
end Go.Proofs.YtlhhopanegnliaaGreatDoor.Pa
namespace Go.Proofs.YtlhhopanegnliaaGreatDoor.Pa
open Go Go.RowKit
set_option maxRecDepth 100000

theorem waysP_len (p : Pt) : (waysP p).length ≤ 4 := by
  unfold waysP
  split
  · rename_i h
    have := right_depth h
    rw [waysL_len]; omega
  · simp
def RowCells (w : World) (g : Nat) (ps : List Pt) : Prop := ∀ i (h : i < ps.length), w.cell? ⟨g, i * 5, none⟩ = some (.int .i64 ps[i].a) ∧ w.cell? ⟨g, i * 5 + 1, none⟩ = some (.int .i64 ps[i].b) ∧ w.cell? ⟨g, i * 5 + 2, none⟩ = some (.int .i64 ps[i].c) ∧ w.cell? ⟨g, i * 5 + 3, none⟩ = some (.int .i64 ps[i].d) ∧ w.cell? ⟨g, i * 5 + 4, none⟩ = some (.int .i64 ps[i].e)
def anyL (q : Pt) (ps : List Pt) : Bool := ps.any fun t => eqP t q
def Missed (q : Pt) (ps : List Pt) (k : Nat) : Prop := ∀ j (h : j < ps.length), j < k → eqP ps[j] q = false

end Go.Proofs.YtlhhopanegnliaaGreatDoor.Pa
namespace Go.Proofs.YtlhhopanegnliaaGreatDoor.Pa
open Go

theorem cut_right {p : Pt} {j : Int} (h : rightB p = true) (h1 : 1 ≤ j) (h2 : j ≤ p.e) : rightB (cutP p j) = true := by
  obtain ⟨a, b, c, d, e⟩ := p
  simp only at h2
  have hf := (right_iff a b c d e).1 h
  have := hf.e4; have := hf.a0; have := hf.a9; have := hf.b0; have := hf.b9; have := hf.c0; have := hf.c9; have := hf.d0; have := hf.d9
  unfold cutP
  refine (right_iff _ _ _ _ _).2 ⟨?_, ?_, ?_, ?_, ?_, ?_, ?_, ?_, ?_, ?_, ?_, ?_, ?_⟩ <;> (try simp only) <;> (first | omega | (split <;> omega) | (intro k; rw [if_neg (by omega)]))
end Go.Proofs.YtlhhopanegnliaaGreatDoor.Pa
