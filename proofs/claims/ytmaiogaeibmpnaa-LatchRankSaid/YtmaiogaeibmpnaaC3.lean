/- PROVED: for every number of latches, every list of deeds and every list of wants the law LatchRank returns true, and its arguments read as before. Conditions: none. -/
import Derived.Test.YtmaiogaeibmpnaaRows
import Derived.Test.YtmaiogaeibmpnaaT1
import Derived.Test.YtmaiogaeibmpnaaB4
namespace Go.Proofs.Ytmaiogaeibmpnaa.RankLaw
open Go Go.ChangeShapes Go.WideShapes Go.ChangeAt Go.RowKit

set_option maxRecDepth 100000 in
theorem lifted (os : Os) (started : os.Started) (H : Type) (enc : TypeId × Value → H) :
    ReturnsInHanded {} Try.checked os 4 .any (Rows.latchRankSpec.pre6 enc Try.prog Try.f4 Rows.latchRankRow.domain false) (Rows.latchRankSpec.post enc Try.prog Try.f4 false true false false) := by
  refine returnsInHanded_of_change (C := Try.checked) own started (by kernel_rfl) Try.func4
    (ChangeSpec.witness6 (enc := enc) (C := Try.checked) false ⟨#[], #[.int .i64 0, .slice none 0 0, .slice none 0 0], []⟩ 8 (by kernel_rfl) (by kernel_rfl) (by kernel_rfl) (by kernel_rfl)) ?_
  intro W base args ds gs before hval0 hW hcnd _
  have hval : ∀ (j : Nat) t v, Try.f4.params[j]? = some t → args[j]? = some v → Value.okWide Try.prog W .any base t v := hval0
  have hW' := hW
  have hlt := hW.lt
  obtain ⟨p, q, hA0, hV, rfl, hfz, hnd⟩ := hW
  have hA : DataW.TrodAll enc Try.prog W 0 (fun _ => true) true Try.f4.params.toList args.toList ds p := hA0
  rw [Try.params4] at hA hval
  obtain ⟨v0, vs0, d0, ds0, p0, q0, hargs, rfl, rfl, h0, r0⟩ := trodAll_cons hA
  obtain ⟨v1, vs1, d1, ds1, p1, q1, rfl, rfl, rfl, h1, r1⟩ := trodAll_cons r0
  obtain ⟨v2, vs2, d2, ds2, p2, q2, rfl, rfl, rfl, h2, r2⟩ := trodAll_cons r1
  obtain ⟨rfl, rfl, rfl⟩ := trodAll_nil r2
  obtain rfl : args = #[v0, v1, v2] := by cases args; simp_all
  obtain ⟨rfl, rfl⟩ := trodVars_none hV
  obtain ⟨a0, rfl, rfl, rfl, w0⟩ := open_int Try.underlying3 (hval 0 3 v0 rfl rfl) h0
  obtain ⟨A1, n1, c1, e1, m1, i1⟩ := deeds_of_trod (hval 1 22 v1 rfl rfl) h1
  obtain ⟨A2, n2, c2, e2, m2, i2⟩ := ints_of_trod (hval 2 33 v2 rfl rfl) h2
  clear hA0 hval0
  have hwalk := rank_walk a0 A1 n1 c1 A2 n2 c2 W m1 m2 i1 i2
  rw [← e1, ← e2] at hwalk
  refine hwalk.mono fun e W' ⟨he, hg⟩ => ?_
  subst he
  have l1 : ∀ x ∈ p1, x.block < W.heap.size := fun x hx => hlt x (by simp [hx])
  have l2 : ∀ x ∈ p2, x.block < W.heap.size := fun x hx => hlt x (by simp [hx])
  have again : DataW.TrodAll enc Try.prog W' 0 (fun b => decide (b < W.heap.size)) true [3, 22, 33] [.int .i64 a0, v1, v2] [.lit (.int .i64 a0), d1, d2] ([] ++ (p1 ++ (p2 ++ []))) :=
    trodAll_cons_mk (shut_int Try.underlying3 w0) (trodAll_cons_mk (Below.trod laidOut readable22 small22 h1 hg l1) (trodAll_cons_mk (Below.trod laidOut readable33 small33 h2 hg l2) trodAll_mk0))
  simp only [List.append_nil, List.nil_append] at again hW'
  exact ⟨_, rfl, law_post hW' (fun _ _ _ => trodAll_cons_mk (shut_bool Try.underlying4 _) trodAll_mk0) again rfl hg⟩
end Go.Proofs.Ytmaiogaeibmpnaa.RankLaw
namespace Go.Proofs.Ytmaiogaeibmpnaa
open Go

theorem rank_holds : Rows.LatchRankSaid :=
  OpenClaim.holds_of_wide 4 Try.f4 rfl rfl rfl rfl rfl rfl rfl ⟨rfl, rfl, rfl, rfl, rfl⟩ rfl rfl rfl rfl rfl (by kernel_rfl) Try.func4 (by kernel_rfl)
    (of_decide_eq_true (by kernel_rfl)) (by unfold Func.isWrapper; first | (rw [if_pos (by decide +kernel)]; kernel_rfl) | (rw [if_neg (by decide +kernel)]; exact ⟨rfl, rfl⟩))
    (fun os started H enc _ => RankLaw.lifted os started H enc)
#print axioms rank_holds
end Go.Proofs.Ytmaiogaeibmpnaa
