/- Two lists that are alike. -/
import Derived.Test.YtmaiogaeibmpnaaA4
import Derived.BigQuiet
namespace Go.Proofs.Ytmaiogaeibmpnaa
open Go Go.RowKit

set_option maxHeartbeats 1000000 in
theorem same_ints {W : World} {K1 K2 c1 c2 : Nat} {A1 A2 : Option Addr} {l : List Nat} (h1 : Rd W K1 A1 c1 l) (h2 : Rd W K2 A2 c2 l) (hl : l.length ≤ 5000) : Calls Try.prog 22 #[.slice A1 l.length c1, .slice A2 l.length c2] W fun e w' => e = .returned (.bool true) ∧ ∃ k, w' = W.drewN k := by
  have H1 := Lib.hid h1
  have H2 := Lib.hid h2
  clear h1 h2
  obtain ⟨n, hn⟩ : ∃ n, l.length = n := ⟨_, rfl⟩
  rw [hn] at hl ⊢
  have HN := Lib.hid hn
  clear hn
  go_enter Try.func22, Try.ntmps22
  go_wp2
  go_loopw [13] (fun t wr => ∃ k : Nat, k ≤ n ∧ t = .int .i64 k ∧ ∃ j, wr = W.drewN j) (fun t _ => n - (intOf t).toNat)
  case atStart => exact ⟨0, by omega, rfl, 0, rfl⟩
  case round =>
    obtain ⟨k, hk, rfl, j, rfl⟩ := hrel
    by_cases hlt : k < n
    · have hlt' : k < l.length := by rw [HN.out]; exact hlt
      obtain ⟨g1, rfl, e1⟩ := H1.out.cell hlt'
      obtain ⟨g2, rfl, e2⟩ := H2.out.cell hlt'
      have e1' : (W.drewN j).cell? ⟨g1, k, none⟩ = some (.int .i64 (l[k] : Int)) := e1
      have e2' : (W.drewN j).cell? ⟨g2, k, none⟩ = some (.int .i64 (l[k] : Int)) := e2
      clear e1 e2
      generalize (l[k] : Int) = x at e1' e2'
      generalize hX : W.drewN j = X at e1' e2' ⊢
      have HX := Lib.hid hX
      clear hX hlt'
      go_wp2
      go_quiet (fail)
      have HE := Lib.hid (show X.drewN nq = W.drewN (j + nq) by rw [← HX.out]; simp [World.drewN]; omega)
      generalize X.drewN nq = Y at HE ⊢
      clear e1' e2'
      go_wp2
      go_roundw
      case rel => exact ⟨k + 1, by omega, by go_num, j + nq, HE.out⟩
      case measure => simp [intOf]; omega
    · obtain rfl : k = n := by omega
      go_wp2
      go_ret
      exact ⟨rfl, j, rfl⟩
theorem same_list {W : World} {K1 K2 c1 c2 : Nat} {A1 A2 : Option Addr} {l : List Nat} (h1 : Rd W K1 A1 c1 l) (h2 : Rd W K2 A2 c2 l) (hl : l.length ≤ 5000) : Calls Try.prog 14 #[.slice A1 l.length c1, .slice A2 l.length c2] W fun e w' => e = .returned (.bool true) ∧ Below W.heap.size W w' := by
  have H := Lib.hid (same_ints h1 h2 hl)
  clear h1 h2 hl
  generalize l.length = n at *
  go_enter Try.func14, Try.ntmps14
  go_wp2_with (go_at_call 22; ((with_reducible refine H.out.mono ?_); rintro e w' ⟨rfl, k, rfl⟩))
  go_ret
  exact ⟨rfl, drew_below W k⟩
end Go.Proofs.Ytmaiogaeibmpnaa
