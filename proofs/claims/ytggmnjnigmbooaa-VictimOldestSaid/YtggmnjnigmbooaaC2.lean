/- PROVED: for every stamps, edges, policy, place and locks the law VictimOldest returns true, and its arguments read as before. Conditions: none. -/
import Derived.Test.YtggmnjnigmbooaaRows
import Derived.Test.YtggmnjnigmbooaaT2
import Derived.Test.YtggmnjnigmbooaaVh
namespace Go.Proofs.Ytggmnjnigmbooaa.OldestLaw
open Go Go.ChangeShapes Go.WideShapes Go.ChangeAt Go.RowKit

set_option maxRecDepth 100000 in
theorem lifted (os : Os) (started : os.Started) (H : Type) (enc : TypeId × Value → H) :
    ReturnsInHanded {} Try.checked os 4 .any (Rows.victimOldestSpec.pre6 enc Try.prog Try.f4 Rows.victimOldestRow.domain false) (Rows.victimOldestSpec.post enc Try.prog Try.f4 false true false false) := by
  refine returnsInHanded_of_change (C := Try.checked) own started (by kernel_rfl) Try.func4
    (ChangeSpec.witness6 (enc := enc) (C := Try.checked) false ⟨#[], #[.slice none 0 0, .slice none 0 0, .int .i64 0, .int .i64 0, .slice none 0 0], []⟩ 8 (by kernel_rfl) (by kernel_rfl) (by kernel_rfl) (by kernel_rfl)) ?_
  intro W base args ds gs before hval0 hW hcnd _
  have hval : ∀ (j : Nat) t v, Try.f4.params[j]? = some t → args[j]? = some v → Value.okWide Try.prog W .any base t v := hval0
  have hW' := hW
  have hlt := hW.lt
  obtain ⟨p, q, hA0, hV, rfl, hfz, hnd⟩ := hW
  have hA : DataW.TrodAll enc Try.prog W 0 (fun _ => true) true Try.f4.params.toList args.toList ds p := hA0
  rw [Try.params4] at hA hval
  obtain ⟨v0, vs0, d0, ds0, p0, q0, hargs, rfl, rfl, h0, r0⟩ := trodAll_cons hA
  obtain ⟨v1, vs1, d1, ds1, p1, q1, rfl, rfl, rfl, h1, r1⟩ := trodAll_cons r0
  obtain ⟨v2, vs2, d2, ds2, p2, q2, rfl, rfl, rfl, h2, r2⟩ := trodAll_cons r1
  obtain ⟨v3, vs3, d3, ds3, p3, q3, rfl, rfl, rfl, h3, r3⟩ := trodAll_cons r2
  obtain ⟨v4, vs4, d4, ds4, p4, q4, rfl, rfl, rfl, h4, r4⟩ := trodAll_cons r3
  obtain ⟨rfl, rfl, rfl⟩ := trodAll_nil r4
  obtain rfl : args = #[v0, v1, v2, v3, v4] := by cases args; simp_all
  obtain ⟨rfl, rfl⟩ := trodVars_none hV
  obtain ⟨A0, n0, c0, x0, e0, y0, z0, u0⟩ := stamps_of_trod (hval 0 22 v0 rfl rfl) h0
  obtain ⟨A1, n1, c1, x1, e1, y1, z1, u1, t1⟩ := edgesw_of_trod (hval 1 24 v1 rfl rfl) h1
  obtain ⟨a2, rfl, rfl, rfl, w2⟩ := open_int Try.underlying3 (hval 2 3 v2 rfl rfl) h2
  obtain ⟨a3, rfl, rfl, rfl, w3⟩ := open_int Try.underlying3 (hval 3 3 v3 rfl rfl) h3
  obtain ⟨A4, n4, c4, x4, e4, y4, z4, u4⟩ := nums_of_trod (hval 4 23 v4 rfl rfl) h4
  clear hA0 hval0
  have hwalk := oldest_walk A0 n0 c0 x0 A1 n1 c1 x1 a2 a3 A4 n4 c4 x4 W y0 z0 u0 y1 z1 u1 t1 y4 z4 u4
  rw [← e0, ← e1, ← e4] at hwalk
  refine hwalk.mono fun e W' ⟨he, hg⟩ => ?_
  subst he
  have l0 : ∀ x ∈ p0, x.block < W.heap.size := fun x hx => hlt x (by simp [hx])
  have l1 : ∀ x ∈ p1, x.block < W.heap.size := fun x hx => hlt x (by simp [hx])
  have l4 : ∀ x ∈ p4, x.block < W.heap.size := fun x hx => hlt x (by simp [hx])
  have again : DataW.TrodAll enc Try.prog W' 0 (fun b => decide (b < W.heap.size)) true [22, 24, 3, 3, 23] [v0, v1, .int .i64 a2, .int .i64 a3, v4] [d0, d1, .lit (.int .i64 a2), .lit (.int .i64 a3), d4] (p0 ++ (p1 ++ ([] ++ ([] ++ (p4 ++ []))))) :=
    trodAll_cons_mk (Below.trod laidOut readable22 small22 h0 hg l0) (trodAll_cons_mk (Below.trod laidOut readable24 small24 h1 hg l1) (trodAll_cons_mk (shut_int Try.underlying3 w2) (trodAll_cons_mk (shut_int Try.underlying3 w3) (trodAll_cons_mk (Below.trod laidOut readable23 small23 h4 hg l4) trodAll_mk0))))
  simp only [List.append_nil, List.nil_append] at again hW'
  exact ⟨_, rfl, law_post hW' (fun _ _ _ => trodAll_cons_mk (shut_bool Try.underlying4 _) trodAll_mk0) again rfl hg⟩
end Go.Proofs.Ytggmnjnigmbooaa.OldestLaw
namespace Go.Proofs.Ytggmnjnigmbooaa
open Go

theorem oldest_holds : Rows.VictimOldestSaid :=
  OpenClaim.holds_of_wide 4 Try.f4 rfl rfl rfl rfl rfl rfl rfl ⟨rfl, rfl, rfl, rfl, rfl⟩ rfl rfl rfl rfl rfl (by kernel_rfl) Try.func4 (by kernel_rfl)
    (of_decide_eq_true (by kernel_rfl)) (by unfold Func.isWrapper; first | (rw [if_pos (by decide +kernel)]; kernel_rfl) | (rw [if_neg (by decide +kernel)]; exact ⟨rfl, rfl⟩))
    (fun os started H enc _ => OldestLaw.lifted os started H enc)
#print axioms oldest_holds
end Go.Proofs.Ytggmnjnigmbooaa
