/- The contracts of the program's functions on modes, the fifth part: a mode's name, and the mode of a name. -/
import Derived.Test.YtagbfonmeolnjaaDoorA4
namespace Go.Proofs.YtagbfonmeolnjaaDoor
open Go Go.RowKit

def nameN : Nat → ByteArray
  | 0 => { data := #[110, 111, 110, 101] }
  | 1 => { data := #[73, 83] }
  | 2 => { data := #[73, 88] }
  | 3 => { data := #[83] }
  | 4 => { data := #[83, 73, 88] }
  | 5 => { data := #[85] }
  | _ => { data := #[88] }
abbrev namesA : Array Value := #[.string (nameN 0), .string (nameN 1), .string (nameN 2), .string (nameN 3), .string (nameN 4), .string (nameN 5), .string (nameN 6)]
def TabN (w : World) : Prop := ∃ t fr, w.heap[0]? = some (.cells namesA t fr)
theorem TabN.size {w : World} (h : TabN w) : 0 < w.heap.size := by
  obtain ⟨t, fr, h⟩ := h
  rcases Nat.lt_or_ge 0 w.heap.size with k | k
  · exact k
  · rw [Array.getElem?_eq_none k] at h; cases h
theorem TabN.later {w0 w : World} (h : TabN w0) (hb : Below w0.heap.size w0 w) : TabN w := by
  have hs := h.size
  obtain ⟨t, fr, h⟩ := h
  exact ⟨t, fr, by rw [hb.block 0 hs]; exact h⟩
theorem TabN.cell {w : World} (h : TabN w) (j : Nat) (hj : j ≤ 6) : w.cell? ⟨0, j, none⟩ = some (.string (nameN j)) := by
  obtain ⟨t, fr, h⟩ := h
  rw [cell_of_row w 0 j namesA t fr h]
  have hc : j = 0 ∨ j = 1 ∨ j = 2 ∨ j = 3 ∨ j = 4 ∨ j = 5 ∨ j = 6 := by omega
  rcases hc with rfl | rfl | rfl | rfl | rfl | rfl | rfl <;> rfl

theorem name_any (m : Int) (w : World) (ht : TabN w) :
    Calls Tryd.prog 22 #[.int .i64 m] w fun e w' => e = .returned (.string (nameN (kn m))) ∧ w = w' := by
  have hc := ht.cell (kn m) (kn_le m)
  have i1 : ((kn m : Nat) : Int) < 7 := by have := kn_le m; omega
  have j1 : kn m < 7 := by omega
  go_enter Tryd.func22, Tryd.ntmps22
  go_wp2_with (go_at_call 29; refine (known_any _ _).mono ?_; rintro e w' ⟨rfl, rfl⟩)
  go_ret
  exact ⟨rfl, rfl⟩
theorem name_g {m : Int} {s : ByteArray} {w : World} (ht : TabN w) (h : nameN (kn m) = s) : Gives w 22 #[.int .i64 m] (.string s) := fun w' hb => by
  rw [← h]; exact acc_same hb (name_any m w' (ht.later hb))

def eqN (k : Nat) (s : ByteArray) : Bool := (nameN k).toList == s.toList
theorem parse_hit (s : ByteArray) (k : Nat) (w : World) (ht : TabN w) (hk : k ≤ 6) (hno : ∀ j, j < k → eqN j s = false) (hy : eqN k s = true) :
    Calls Tryd.prog 9 #[.string s] w fun e w' => e = .returned (.tuple #[.int .i64 (k : Nat), .bool true]) ∧ w = w' := by
  obtain ⟨t, fr, hrow⟩ := ht
  have HNO := Lib.hid hno
  have HY := Lib.hid hy
  clear hno hy
  have x0 : ∀ w : World, (Instr.index 38 (.agg namesA) (.int .i64 0)).run Tryd.prog w = .ok (.string (nameN 0)) w := fun _ => by kernel_rfl
  have x1 : ∀ w : World, (Instr.index 38 (.agg namesA) (.int .i64 1)).run Tryd.prog w = .ok (.string (nameN 1)) w := fun _ => by kernel_rfl
  have x2 : ∀ w : World, (Instr.index 38 (.agg namesA) (.int .i64 2)).run Tryd.prog w = .ok (.string (nameN 2)) w := fun _ => by kernel_rfl
  have x3 : ∀ w : World, (Instr.index 38 (.agg namesA) (.int .i64 3)).run Tryd.prog w = .ok (.string (nameN 3)) w := fun _ => by kernel_rfl
  have x4 : ∀ w : World, (Instr.index 38 (.agg namesA) (.int .i64 4)).run Tryd.prog w = .ok (.string (nameN 4)) w := fun _ => by kernel_rfl
  have x5 : ∀ w : World, (Instr.index 38 (.agg namesA) (.int .i64 5)).run Tryd.prog w = .ok (.string (nameN 5)) w := fun _ => by kernel_rfl
  have x6 : ∀ w : World, (Instr.index 38 (.agg namesA) (.int .i64 6)).run Tryd.prog w = .ok (.string (nameN 6)) w := fun _ => by kernel_rfl
  go_enter Tryd.func9, Tryd.ntmps9
  go_wp2_with (refine wpList_load_row rfl 38 _ rfl 0 rfl t _ fr _ hrow Tryd.underlying38 rfl (by kernel_rfl) ?_)
  go_loop [7] (fun i => ∃ j : Nat, j ≤ k ∧ i = .int .i64 j) (fun i => 7 - (intOf i).toNat)
  case atStart => exact ⟨0, by omega, rfl⟩
  case round =>
    obtain ⟨j, hj, rfl⟩ := hrel
    have hc : j = 0 ∨ j = 1 ∨ j = 2 ∨ j = 3 ∨ j = 4 ∨ j = 5 ∨ j = 6 := by omega
    by_cases he : j = k
    · have hy := HY.out
      unfold eqN at hy
      subst he
      rcases hc with rfl | rfl | rfl | rfl | rfl | rfl | rfl
      all_goals
        go_wp2
        go_ret2
        exact ⟨rfl, rfl⟩
    · have hn := HNO.out j (by omega)
      unfold eqN at hn
      have hd : j = 0 ∨ j = 1 ∨ j = 2 ∨ j = 3 ∨ j = 4 ∨ j = 5 := by omega
      clear hc
      rcases hd with rfl | rfl | rfl | rfl | rfl | rfl
      all_goals
        go_wp2
        go_round
        case rel => first | exact ⟨1, by omega, rfl⟩ | exact ⟨2, by omega, rfl⟩ | exact ⟨3, by omega, rfl⟩ | exact ⟨4, by omega, rfl⟩ | exact ⟨5, by omega, rfl⟩ | exact ⟨6, by omega, rfl⟩
        case measure => simp [intOf]
theorem parse_miss (s : ByteArray) (w : World) (ht : TabN w) (hno : ∀ j, j < 7 → eqN j s = false) :
    Calls Tryd.prog 9 #[.string s] w fun e w' => e = .returned (.tuple #[.int .i64 (0 : Nat), .bool false]) ∧ w = w' := by
  obtain ⟨t, fr, hrow⟩ := ht
  have HNO := Lib.hid hno
  clear hno
  have x0 : ∀ w : World, (Instr.index 38 (.agg namesA) (.int .i64 0)).run Tryd.prog w = .ok (.string (nameN 0)) w := fun _ => by kernel_rfl
  have x1 : ∀ w : World, (Instr.index 38 (.agg namesA) (.int .i64 1)).run Tryd.prog w = .ok (.string (nameN 1)) w := fun _ => by kernel_rfl
  have x2 : ∀ w : World, (Instr.index 38 (.agg namesA) (.int .i64 2)).run Tryd.prog w = .ok (.string (nameN 2)) w := fun _ => by kernel_rfl
  have x3 : ∀ w : World, (Instr.index 38 (.agg namesA) (.int .i64 3)).run Tryd.prog w = .ok (.string (nameN 3)) w := fun _ => by kernel_rfl
  have x4 : ∀ w : World, (Instr.index 38 (.agg namesA) (.int .i64 4)).run Tryd.prog w = .ok (.string (nameN 4)) w := fun _ => by kernel_rfl
  have x5 : ∀ w : World, (Instr.index 38 (.agg namesA) (.int .i64 5)).run Tryd.prog w = .ok (.string (nameN 5)) w := fun _ => by kernel_rfl
  have x6 : ∀ w : World, (Instr.index 38 (.agg namesA) (.int .i64 6)).run Tryd.prog w = .ok (.string (nameN 6)) w := fun _ => by kernel_rfl
  go_enter Tryd.func9, Tryd.ntmps9
  go_wp2_with (refine wpList_load_row rfl 38 _ rfl 0 rfl t _ fr _ hrow Tryd.underlying38 rfl (by kernel_rfl) ?_)
  go_loop [7] (fun i => ∃ j : Nat, j ≤ 7 ∧ i = .int .i64 j) (fun i => 7 - (intOf i).toNat)
  case atStart => exact ⟨0, by omega, rfl⟩
  case round =>
    obtain ⟨j, hj, rfl⟩ := hrel
    have hc : j = 0 ∨ j = 1 ∨ j = 2 ∨ j = 3 ∨ j = 4 ∨ j = 5 ∨ j = 6 ∨ j = 7 := by omega
    by_cases he : j = 7
    · subst he
      clear hc
      go_wp2
      go_ret2
      exact ⟨rfl, rfl⟩
    · have hn := HNO.out j (by omega)
      unfold eqN at hn
      have hd : j = 0 ∨ j = 1 ∨ j = 2 ∨ j = 3 ∨ j = 4 ∨ j = 5 ∨ j = 6 := by omega
      clear hc
      rcases hd with rfl | rfl | rfl | rfl | rfl | rfl | rfl
      all_goals
        go_wp2
        go_round
        case rel => first | exact ⟨1, by omega, rfl⟩ | exact ⟨2, by omega, rfl⟩ | exact ⟨3, by omega, rfl⟩ | exact ⟨4, by omega, rfl⟩ | exact ⟨5, by omega, rfl⟩ | exact ⟨6, by omega, rfl⟩ | exact ⟨7, by omega, rfl⟩
        case measure => simp [intOf]
end Go.Proofs.YtagbfonmeolnjaaDoor
