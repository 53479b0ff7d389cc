/- Two lists of alarms, held one against the other. -/
import Derived.Test.YthoicmbpjcgdpaaG1
import Derived.Laws.StructEq
namespace Go.Proofs.Ythoicmbpjcgdpaa
open Go Go.RowKit Go.Shelf

/-- a slice reads as these alarms -/
def Reads (W : World) (v : Value) (ys : List Al) : Prop :=
  ∃ A c, v = .slice A ys.length c ∧ ∀ i (h : i < ys.length), ∃ g off, A = some ⟨g, off, none⟩ ∧ W.cell? ⟨g, off + i * 2, none⟩ = some (.int .i64 ys[i].1) ∧ W.cell? ⟨g, off + i * 2 + 1, none⟩ = some (.int .i64 ys[i].2)
theorem Row.reads {W : World} {base : Nat} {v : Value} {ys : List Al} (h : Row W base v ys) : Reads W v ys := by
  obtain ⟨A, c, rfl⟩ := row_slice h
  refine ⟨A, c, rfl, fun i hi => ?_⟩
  obtain ⟨g, rfl⟩ := row_addr h (by omega)
  obtain ⟨h1, h2⟩ := row_cells h hi
  exact ⟨g, 0, rfl, by rw [Nat.zero_add]; exact h1, by rw [Nat.zero_add]; exact h2⟩
set_option maxRecDepth 100000 in
theorem eq31 (n : Nat) (w : World) (a b : Int) : (Op.equalIn (n + 3) 31 (.agg #[.int .i64 a, .int .i64 b]) (.agg #[.int .i64 a, .int .i64 b])).run Try.prog w = .ok true w := by
  rw [run_equalIn_struct w (n + 2) 31 _ _ (by kernel_rfl) (by kernel_rfl)]
  simp [go_sem, run_equalIn_int (h := Try.underlying3), run_equalIn_int (h := Try.underlying2)]
theorem run_eq31 (x : Al) (w : World) : (Op.equal 31 (alv x) (alv x)).run Try.prog w = .ok true w := eq31 9997 w x.1 x.2
theorem run_neq31 (x : Al) (w : World) : (binOp .neq 31 (alv x) (alv x)).run Try.prog w = .ok (.bool false) w := by
  simp only [binOp]
  simp [run_eq31 x w]
set_option maxRecDepth 100000 in
set_option maxHeartbeats 2000000 in
theorem same_any {W : World} {v1 v2 : Value} {ys : List Al} (h1 : Reads W v1 ys) (h2 : Reads W v2 ys) (hl : ys.length ≤ 1000) :
    Calls Try.prog 13 #[v1, v2] W fun e w' => e = .returned (.bool true) ∧ ∃ k, w' = W.drewN k := by
  obtain ⟨A1, c1, rfl, h1⟩ := h1
  obtain ⟨A2, c2, rfl, h2⟩ := h2
  have H1 := Lib.hid h1
  have H2 := Lib.hid h2
  obtain ⟨n, hn⟩ : ∃ n, ys.length = n := ⟨_, rfl⟩
  have HN := Lib.hid hn
  rw [hn] at hl ⊢
  clear h1 h2 hn
  go_enter Try.func13, Try.ntmps13
  go_wp2
  go_loopw [13] (fun t wr => ∃ (j k : Nat), j ≤ n ∧ t = .int .i64 j ∧ wr = W.drewN k) (fun t _ => n - (intOf t).toNat)
  case atStart => exact ⟨0, 0, by omega, rfl, rfl⟩
  case round =>
    obtain ⟨j, k, hj, rfl, rfl⟩ := hrel
    by_cases hjn : j < n
    · have hjl : j < ys.length := by rw [HN.out]; exact hjn
      obtain ⟨g1, o1, rfl, p1, p2⟩ := H1.out j hjl
      obtain ⟨g2, o2, rfl, q1, q2⟩ := H2.out j hjl
      obtain ⟨x, hx⟩ : ∃ x, ys[j] = x := ⟨_, rfl⟩
      rw [hx] at p1 p2 q1 q2
      have hne := run_neq31 x
      clear hx
      go_wp2
      go_quiet (fail)
      go_wp2
      go_roundw
      case rel => exact ⟨j + 1, _, by omega, by go_num, rfl⟩
      case measure => simp [intOf]; omega
    · obtain rfl : j = n := by omega
      go_wp2
      go_ret
      exact ⟨rfl, k, rfl⟩
end Go.Proofs.Ythoicmbpjcgdpaa
