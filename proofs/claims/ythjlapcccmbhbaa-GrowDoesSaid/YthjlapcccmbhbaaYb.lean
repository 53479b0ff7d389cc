/- The document's mode that covers two: its answer. -/
import Derived.Test.YthjlapcccmbhbaaMo
namespace Go.Proofs.Ythjlapcccmbhbaa
open Go Go.RowKit
set_option maxRecDepth 100000

set_option maxHeartbeats 4000000 in
theorem rsup_any (m n : Int) (w0 w : World) (hb : Below w0.heap.size w0 w) :
    Calls Try.prog 35 #[.int .i64 m, .int .i64 n] w fun e w' => e = .returned (.int .i64 (supN (kn m) (kn n) : Nat)) ∧ Below w0.heap.size w0 w' := by
  have km := kn_le m
  have kk := kn_le n
  obtain ⟨S, hS⟩ : ∃ S : Nat, supN (kn m) (kn n) = S := ⟨_, rfl⟩
  have kS : S ≤ 6 := hS ▸ supN_le _ _
  have HL : Hid (partB S (kn m) (kn n) 7 = true) := by rw [← hS]; exact sup_least _ km _ kk
  have HF : Hid (∀ k, k < S → partB k (kn m) (kn n) 7 = false) := fun k hk => sup_first _ km _ kk k (by omega) (by omega)
  rw [hS]
  clear hS
  go_enter Try.func35, Try.ntmps35
  go_wp2
  go_loopw [5] (fun x wr => ∃ k : Nat, k ≤ S ∧ x = .int .i64 k ∧ Below w0.heap.size w0 wr) (fun x _ => 7 - (intOf x).toNat)
  case atStart => exact ⟨0, by omega, rfl, hb⟩
  case round =>
    obtain ⟨k, hk, rfl, hbr⟩ := hrel
    have hk6 : k ≤ 6 := by omega
    have nk : kn (k : Int) = k := kn_nat hk6
    have c1 : ∀ b, covB k (kn m) = b → Gives w0 23 #[.int .i64 (k : Nat), .int .i64 m] (.bool b) := fun b h => rcov_g w0 (by rw [nk, h])
    have c2 : ∀ b, covB k (kn n) = b → Gives w0 23 #[.int .i64 (k : Nat), .int .i64 n] (.bool b) := fun b h => rcov_g w0 (by rw [nk, h])
    have NK := Lib.hid nk
    clear nk
    obtain ⟨b1, h1⟩ : ∃ b, covB k (kn m) = b := ⟨_, rfl⟩
    obtain ⟨b2, h2⟩ : ∃ b, covB k (kn n) = b := ⟨_, rfl⟩
    have H0 : Hid (partB k (kn m) (kn n) 0 = (b1 && b2)) := by unfold partB; simp [h1, h2, Hid]
    replace c1 := c1 _ h1
    replace c2 := c2 _ h2
    clear h1 h2
    cases b1 <;> cases b2
    all_goals
      go_wp2_with (go_at_call 23; refine Gives.use (w0 := w0) (by with_reducible assumption) (by assumption) ?_; intro w1 hb1)
      go_loopw [6, 7] (fun x y wr => ∃ t : Nat, t ≤ 7 ∧ y = .int .i64 t ∧ x = .bool (partB k (kn m) (kn n) t) ∧ Below w0.heap.size w0 wr) (fun _ y _ => 7 - (intOf y).toNat)
      case atStart => exact ⟨0, by omega, rfl, by rw [H0.out]; rfl, by assumption⟩
      case round =>
        obtain ⟨t, ht, rfl, rfl, hbt⟩ := hrel
        by_cases ht6 : t ≤ 6
        · have nt : kn (t : Int) = t := kn_nat ht6
          have d1 : ∀ b, covB t (kn m) = b → Gives w0 23 #[.int .i64 (t : Nat), .int .i64 m] (.bool b) := fun b h => rcov_g w0 (by rw [nt, h])
          have d2 : ∀ b, covB t (kn n) = b → Gives w0 23 #[.int .i64 (t : Nat), .int .i64 n] (.bool b) := fun b h => rcov_g w0 (by rw [nt, h])
          have d3 : ∀ b, covB t k = b → Gives w0 23 #[.int .i64 (t : Nat), .int .i64 (k : Nat)] (.bool b) := fun b h => rcov_g w0 (by rw [nt, NK.out, h])
          clear nt
          obtain ⟨p, hp⟩ : ∃ p, partB k (kn m) (kn n) t = p := ⟨_, rfl⟩
          obtain ⟨e1, g1⟩ : ∃ b, covB t (kn m) = b := ⟨_, rfl⟩
          obtain ⟨e2, g2⟩ : ∃ b, covB t (kn n) = b := ⟨_, rfl⟩
          obtain ⟨e3, g3⟩ : ∃ b, covB t k = b := ⟨_, rfl⟩
          have HS : Hid (partB k (kn m) (kn n) (t + 1) = (p && (!e1 || !e2 || e3))) := by unfold Hid; rw [partB_succ, hp]; unfold okB; rw [g1, g2, g3]
          rw [hp]
          replace d1 := d1 _ g1
          replace d2 := d2 _ g2
          replace d3 := d3 _ g3
          clear hp g1 g2 g3
          rcases p with _ | _
          · go_wp2
            go_roundw
            case rel => exact ⟨t + 1, by omega, by go_num, by rw [HS.out]; rfl, by assumption⟩
            case measure => simp [intOf]; omega
          · rcases e1 with _ | _ <;> rcases e2 with _ | _
            all_goals
              go_wp2_with (go_at_call 23; refine Gives.use (w0 := w0) (by with_reducible assumption) (by assumption) ?_; intro w1 hb1)
              go_roundw
              case rel => exact ⟨t + 1, by omega, by go_num, by rw [HS.out]; simp, by assumption⟩
              case measure => simp [intOf]; omega
        · obtain rfl : t = 7 := by omega
          by_cases he : k = S
          · have hq := HL.out
            subst he
            rw [hq]
            clear hq
            go_wp2
            go_ret
            exact ⟨rfl, by assumption⟩
          · have hq := HF.out k (by omega)
            rw [hq]
            clear hq
            go_wp2
            go_roundw
            case rel => exact ⟨k + 1, by omega, by go_num, by assumption⟩
            case measure => simp [intOf]; omega
end Go.Proofs.Ythjlapcccmbhbaa
