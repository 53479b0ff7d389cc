/- The walk of the law that so many places are taken, and no more. -/
import Derived.Test.YtdfkjojofhleaaaB1
import Derived.Carry
namespace Go.Proofs.Ytdfkjojofhleaaa
open Go Go.RowKit

/-- the places that the law takes -/
def fullP (k : Nat) : List Pl := (List.range k).map fun (j : Nat) => ((j : Int) * 2, true)
theorem full_length (k : Nat) : (fullP k).length = k := by simp [fullP]
theorem full_succ (k : Nat) : fullP k ++ [((k : Int) * 2, true)] = fullP (k + 1) := by simp [fullP, List.range_succ]
theorem full_used {k i : Nat} (h : i < (fullP k).length) : (fullP k)[i].2 = true := by simp [fullP]
theorem cl_nat {k : Nat} (h : k ≤ 4096) : cl (k : Int) = k := by
  unfold cl
  rw [if_neg (by omega), if_neg (by omega), Int.toNat_natCast]
theorem full_out {n : Int} (w : World) (i : Int) (h : n < 0 ∨ 60 < n) : Calls Try.prog 5 #[.int .i64 n, .int .i64 i] w fun e w' => e = .returned (.bool true) ∧ Below w.heap.size w w' := by
  by_cases h0 : n < 0
  · have d0 : decide (n < 0) = true := by simpa using h0
    clear h
    go_enter Try.func5, Try.ntmps5
    go_wp2_with fail
    refine (awake_any _).mono ?_
    rintro e w1 ⟨rfl, hb1⟩
    go_wp2_with fail
    go_ret
    exact ⟨rfl, hb1⟩
  · have h1 : 60 < n := by omega
    have d0 : decide (n < 0) = false := by simpa using h0
    have d1 : decide (60 < n) = true := by simpa using h1
    clear h
    go_enter Try.func5, Try.ntmps5
    go_wp2_with fail
    refine (awake_any _).mono ?_
    rintro e w1 ⟨rfl, hb1⟩
    go_wp2_with fail
    go_ret
    exact ⟨rfl, hb1⟩
set_option maxHeartbeats 4000000 in
set_option maxRecDepth 100000 in
theorem full_in {n : Nat} (w : World) (i : Int) (hn : n ≤ 60) : Calls Try.prog 5 #[.int .i64 (n : Int), .int .i64 i] w fun e w' => e = .returned (.bool true) ∧ Below w.heap.size w w' := by
  have d0 : decide ((n : Int) < 0) = false := by simp
  have d1 : decide (60 < (n : Int)) = false := by simp; omega
  go_enter Try.func5, Try.ntmps5
  go_wp2_with fail
  refine (awake_any _).mono ?_
  rintro e w1 ⟨rfl, hb1⟩
  go_wp2_with fail
  refine (one_new _ w w1 hb1).mono ?_
  rintro e w2 ⟨rfl, hf, _⟩
  rw [cl_nat (by omega)] at hf
  have H1 := Lib.hid hf
  generalize w1.heap.size = b at H1 ⊢
  clear hf hb1
  go_wp2_with fail
  go_loopw [26] (fun t wr => ∃ k : Nat, k ≤ n ∧ t = .int .i64 k ∧ One w wr b (fun _ => False) n (fullP k) []) (fun t _ => n - (intOf t).toNat)
  case atStart => exact ⟨0, by omega, rfl, H1.out⟩
  case round =>
    obtain ⟨k, hk, rfl, hone⟩ := hrel
    have H := Lib.hid hone
    clear hone H1
    by_cases hlt : k < n
    · have HC := Lib.hid (one_does H.out fun S h => take_new h ((k : Int) * 2) (by rw [full_length]; exact hlt))
      rw [full_length, full_succ] at HC
      go_wp2_with fail
      refine HC.out.mono ?_
      rintro e w3 ⟨rfl, hf, _⟩
      have H3 := Lib.hid hf
      clear hf HC H
      go_wp2_with fail
      go_roundw
      case rel => exact ⟨k + 1, by omega, by go_num, H3.out⟩
      case measure => simp [intOf]; omega
    · obtain rfl : k = n := by omega
      have HC := Lib.hid (one_does H.out fun S h => take_full h 1 (by rw [full_length]; simp))
      go_wp2_with fail
      refine HC.out.mono ?_
      rintro e w3 ⟨rfl, hf, _⟩
      have HL := Lib.hid (one_left hf)
      rw [full_length] at HL
      have e0 : ((k : Int) - ((k : Int) - (([] : List Nat).length : Int))) = 0 := by simp
      rw [e0] at HL
      have H3 := Lib.hid hf
      clear hf HC H e0
      go_wp2_with fail
      refine HL.out.mono ?_
      rintro e w4 ⟨rfl, j, rfl⟩
      have H4 := Lib.hid (H3.out.below (drew_below w3 j))
      generalize w3.drewN j = w4 at H4 ⊢
      clear HL H3
      cases hu : usedB (fullP k) i
      · have HC := Lib.hid (one_does H4.out fun S h => free_no h hu)
        have hi : i < 0 ∨ (k : Int) ≤ i := by
          rcases used_no hu with q | ⟨j, rfl, q | ⟨hj, q⟩⟩
          · exact .inl q
          · rw [full_length] at q; right; omega
          · rw [full_used hj] at q; cases q
        clear hu
        go_wp2_with fail
        refine HC.out.mono ?_
        rintro e w5 ⟨rfl, hf, _⟩
        have H5 := Lib.hid hf
        clear hf HC H4
        by_cases hi0 : i < 0
        · have d2 : decide (i < 0) = true := by simpa using hi0
          clear hi
          go_wp2_with fail
          go_ret
          exact ⟨rfl, H5.out.bel⟩
        · have d2 : decide (i < 0) = false := by simpa using hi0
          have hi1 : (k : Int) ≤ i := by omega
          have d3 : decide ((k : Int) ≤ i) = true := by simpa using hi1
          clear hi
          go_wp2_with fail
          go_ret
          exact ⟨rfl, H5.out.bel⟩
      · obtain ⟨q, hq, rfl, hv⟩ := used_yes hu
        have hq2 : q < k := by rw [full_length] at hq; exact hq
        have HC := Lib.hid (one_does H4.out fun S h => free_yes h hq hv (by rw [full_length]; simp; omega))
        clear hu hv
        go_wp2_with fail
        refine HC.out.mono ?_
        rintro e w5 ⟨rfl, hf, _⟩
        have HC2 := Lib.hid (one_does hf fun S h => take_old (gs := []) (i := q) h 99 (by rw [List.length_set]; exact hq))
        rw [List.set_set] at HC2
        clear hf HC H4
        go_wp2_with fail
        refine HC2.out.mono ?_
        rintro e w6 ⟨rfl, hf, _⟩
        have HG := Lib.hid (one_get hf (q : Int))
        have hlq : q < ((fullP k).set q (99, true)).length := by rw [List.length_set]; exact hq
        rw [has_at hlq (by simp), used_at hlq] at HG
        simp only [List.getElem_set_self] at HG
        have HL := Lib.hid (one_len hf)
        rw [List.length_set, full_length] at HL
        have e0 : ((k : Int) - (([] : List Nat).length : Int)) = (k : Int) := by simp
        rw [e0] at HL
        have H6 := Lib.hid hf.bel
        clear hf HC2 e0 hlq hq
        go_wp2_with fail
        refine HG.out.mono ?_
        rintro e w7 ⟨rfl, rfl⟩
        go_wp2_with fail
        refine HL.out.mono ?_
        rintro e w7 ⟨rfl, j, rfl⟩
        go_wp2_with fail
        go_ret
        exact ⟨rfl, H6.out.trans (OnlyS.below (OnlyS.of_below (S := fun _ => False) (drew_below _ _)) (fun _ h => h.elim) H6.out.size)⟩
theorem full_walk (n i : Int) (w : World) : Calls Try.prog 5 #[.int .i64 n, .int .i64 i] w fun e w' => e = .returned (.bool true) ∧ Below w.heap.size w w' := by
  by_cases h : n < 0 ∨ 60 < n
  · exact full_out w i h
  · obtain ⟨k, rfl⟩ : ∃ k : Nat, n = k := ⟨n.toNat, by omega⟩
    exact full_in w i (by omega)
end Go.Proofs.Ytdfkjojofhleaaa
