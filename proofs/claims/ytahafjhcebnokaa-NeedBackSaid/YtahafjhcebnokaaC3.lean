/- PROVED: for every list of locks the law NeedBack returns true, and its arguments read as before. Conditions: none. -/
import Derived.Test.YtahafjhcebnokaaRows
import Derived.Test.YtahafjhcebnokaaT1
import Derived.Test.YtahafjhcebnokaaNb
namespace Go.Proofs.Ytahafjhcebnokaa.NeedBackLaw
open Go Go.ChangeShapes Go.WideShapes Go.ChangeAt Go.RowKit

set_option maxRecDepth 100000 in
theorem lifted (os : Os) (started : os.Started) (H : Type) (enc : TypeId × Value → H) :
    ReturnsInHanded {} Try.checked os 4 .any (Rows.needBackSpec.pre6 enc Try.prog Try.f4 Rows.needBackRow.domain false) (Rows.needBackSpec.post enc Try.prog Try.f4 false true false false) := by
  refine returnsInHanded_of_change (C := Try.checked) own started (by kernel_rfl) Try.func4
    (ChangeSpec.witness6 (enc := enc) (C := Try.checked) false ⟨#[], #[.slice none 0 0], []⟩ 8 (by kernel_rfl) (by kernel_rfl) (by kernel_rfl) (by kernel_rfl)) ?_
  intro W base args ds gs before hval0 hW hcnd _
  have hval : ∀ (j : Nat) t v, Try.f4.params[j]? = some t → args[j]? = some v → Value.okWide Try.prog W .any base t v := hval0
  have hW' := hW
  have hlt := hW.lt
  obtain ⟨p, q, hA0, hV, rfl, hfz, hnd⟩ := hW
  have hA : DataW.TrodAll enc Try.prog W 0 (fun _ => true) true Try.f4.params.toList args.toList ds p := hA0
  rw [Try.params4] at hA hval
  obtain ⟨v0, vs0, d0, ds0, p0, q0, hargs, rfl, rfl, h0, r0⟩ := trodAll_cons hA
  obtain ⟨rfl, rfl, rfl⟩ := trodAll_nil r0
  obtain rfl : args = #[v0] := by cases args; simp_all
  obtain ⟨rfl, rfl⟩ := trodVars_none hV
  obtain ⟨A0, n0, c0, x0, e0, -, z0, u0, t0⟩ := locks_of_trod (hval 0 22 v0 rfl rfl) h0
  clear hA0 hval0
  have hwalk := Lk.back_walk A0 n0 c0 x0 W z0 u0 t0
  rw [← e0] at hwalk
  refine hwalk.mono fun e W' ⟨he, hg⟩ => ?_
  subst he
  have l0 : ∀ x ∈ p0, x.block < W.heap.size := fun x hx => hlt x (by simp [hx])
  have again : DataW.TrodAll enc Try.prog W' 0 (fun b => decide (b < W.heap.size)) true [22] [v0] [d0] (p0 ++ []) :=
    trodAll_cons_mk (Below.trod laidOut readable22 small22 h0 hg l0) trodAll_mk0
  simp only [List.append_nil] at again hW'
  exact ⟨_, rfl, law_post hW' (fun _ _ _ => trodAll_cons_mk (shut_bool Try.underlying4 _) trodAll_mk0) again rfl hg⟩
end Go.Proofs.Ytahafjhcebnokaa.NeedBackLaw
namespace Go.Proofs.Ytahafjhcebnokaa
open Go

theorem back_holds : Rows.NeedBackSaid :=
  OpenClaim.holds_of_wide 4 Try.f4 rfl rfl rfl rfl rfl rfl rfl ⟨rfl, rfl, rfl, rfl, rfl⟩ rfl rfl rfl rfl rfl (by kernel_rfl) Try.func4 (by kernel_rfl)
    (of_decide_eq_true (by kernel_rfl)) (by unfold Func.isWrapper; first | (rw [if_pos (by decide +kernel)]; kernel_rfl) | (rw [if_neg (by decide +kernel)]; exact ⟨rfl, rfl⟩))
    (fun os started H enc _ => NeedBackLaw.lifted os started H enc)
#print axioms back_holds
end Go.Proofs.Ytahafjhcebnokaa
