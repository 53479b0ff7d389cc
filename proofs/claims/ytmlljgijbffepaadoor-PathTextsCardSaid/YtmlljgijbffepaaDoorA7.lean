/- The contract of the function that gives a node's key. -/
import Derived.Test.YtmlljgijbffepaaDoorK1
namespace Go.Proofs.YtmlljgijbffepaaDoor
open Go Go.RowKit

def keyP (p : Pt) : Int :=
  if rightB p = true then (if p.e = 1 then p.a + 1 else if p.e = 2 then (p.a + 1) * 1001 + p.b + 1 else if p.e = 3 then ((p.a + 1) * 1001 + p.b + 1) * 1001 + p.c + 1 else (((p.a + 1) * 1001 + p.b + 1) * 1001 + p.c + 1) * 1001 + p.d + 1) else 0

theorem kept_one {w w1 : World} {a b c d e : Int} (hb : Below (boxed w a b c d e).heap.size (boxed w a b c d e) w1) :
    w1.cell? ⟨w.heap.size, 0, none⟩ = some (.int .i64 a) ∧ w1.cell? ⟨w.heap.size, 1, none⟩ = some (.int .i64 b) ∧ w1.cell? ⟨w.heap.size, 2, none⟩ = some (.int .i64 c) ∧ w1.cell? ⟨w.heap.size, 3, none⟩ = some (.int .i64 d) ∧ w1.cell? ⟨w.heap.size, 4, none⟩ = some (.int .i64 e) := by
  obtain ⟨h1, _⟩ := kept hb
  refine ⟨?_, ?_, ?_, ?_, ?_⟩
  all_goals rw [h1 _ _ (by simp)]
  all_goals simp [go_sem]
theorem num_bd {n k e : Int} (h : atB n k e = true) : 0 ≤ n ∧ n ≤ 999 := by
  unfold atB numB at h
  simp only [Bool.and_eq_true, decide_eq_true_eq] at h
  exact h.1
theorem right_bd {p : Pt} (h : rightB p = true) : (0 ≤ p.a ∧ p.a ≤ 999) ∧ (0 ≤ p.b ∧ p.b ≤ 999) ∧ (0 ≤ p.c ∧ p.c ≤ 999) ∧ (0 ≤ p.d ∧ p.d ≤ 999) := by
  unfold rightB at h
  simp only [Bool.and_eq_true] at h
  exact ⟨num_bd h.1.1.1.2, num_bd h.1.1.2, num_bd h.1.2, num_bd h.2⟩

set_option maxHeartbeats 1000000 in
theorem key_any (p : Pt) (w : World) :
    Calls Tryd.prog 14 #[p.v] w fun e w' => e = .returned (.int .u64 (keyP p)) ∧ Below w.heap.size w w' := by
  obtain ⟨a, b, c, d, e⟩ := p
  cases hr : rightB ⟨a, b, c, d, e⟩
  · have HV := Lib.hid (show keyP ⟨a, b, c, d, e⟩ = 0 by simp [keyP, hr])
    go_enter Tryd.func14, Tryd.ntmps14
    go_wp2_with (go_at_call 10; ((with_reducible refine (may_any ⟨a, b, c, d, e⟩ _).mono ?_); rintro e1 w1 ⟨rfl, hb1⟩; rw [hr]; obtain ⟨c0, c1, c2, c3, c4⟩ := kept_one hb1))
    go_ret
    exact ⟨ret_int HV.out.symm, below_box hb1⟩
  · have hd := right_depth hr
    have hbd := right_bd hr
    simp only at hd hbd
    obtain ⟨⟨a0, a9⟩, ⟨b0, b9⟩, ⟨g0, g9⟩, ⟨d0, d9⟩⟩ := hbd
    rcases (by omega : e = 1 ∨ e = 2 ∨ e = 3 ∨ e = 4) with rfl | rfl | rfl | rfl
    · have HV := Lib.hid (show keyP ⟨a, b, c, d, 1⟩ = a + 1 by simp [keyP, hr])
      clear hd
      go_enter Tryd.func14, Tryd.ntmps14
      go_wp2_with (go_at_call 10; ((with_reducible refine (may_any ⟨a, b, c, d, _⟩ _).mono ?_); rintro e1 w1 ⟨rfl, hb1⟩; rw [hr]; obtain ⟨c0, c1, c2, c3, c4⟩ := kept_one hb1))
      go_loop [3, 14] (fun key i => (i = .int .i64 0 ∧ key = .int .u64 (0)) ∨ (i = .int .i64 1 ∧ key = .int .u64 (a + 1))) (fun _ i => (1 - intOf i).toNat)
      case atStart => exact .inl ⟨rfl, rfl⟩
      case round =>
        rcases hrel with ⟨rfl, rfl⟩ | ⟨rfl, rfl⟩
        · go_wp2
          go_round
          case rel => exact .inr (⟨by go_num, by go_num⟩)
          case measure => simp [intOf]
        · go_wp2
          go_ret
          exact ⟨ret_int HV.out.symm, below_box hb1⟩
    · have HV := Lib.hid (show keyP ⟨a, b, c, d, 2⟩ = (a + 1) * 1001 + b + 1 by simp [keyP, hr])
      clear hd
      go_enter Tryd.func14, Tryd.ntmps14
      go_wp2_with (go_at_call 10; ((with_reducible refine (may_any ⟨a, b, c, d, _⟩ _).mono ?_); rintro e1 w1 ⟨rfl, hb1⟩; rw [hr]; obtain ⟨c0, c1, c2, c3, c4⟩ := kept_one hb1))
      go_loop [3, 14] (fun key i => (i = .int .i64 0 ∧ key = .int .u64 (0)) ∨ (i = .int .i64 1 ∧ key = .int .u64 (a + 1)) ∨ (i = .int .i64 2 ∧ key = .int .u64 ((a + 1) * 1001 + b + 1))) (fun _ i => (2 - intOf i).toNat)
      case atStart => exact .inl ⟨rfl, rfl⟩
      case round =>
        rcases hrel with ⟨rfl, rfl⟩ | ⟨rfl, rfl⟩ | ⟨rfl, rfl⟩
        · go_wp2
          go_round
          case rel => exact .inr (.inl ⟨by go_num, by go_num⟩)
          case measure => simp [intOf]
        · go_wp2
          go_round
          case rel => exact .inr (.inr (⟨by go_num, by go_num⟩))
          case measure => simp [intOf]
        · go_wp2
          go_ret
          exact ⟨ret_int HV.out.symm, below_box hb1⟩
    · have HV := Lib.hid (show keyP ⟨a, b, c, d, 3⟩ = ((a + 1) * 1001 + b + 1) * 1001 + c + 1 by simp [keyP, hr])
      clear hd
      go_enter Tryd.func14, Tryd.ntmps14
      go_wp2_with (go_at_call 10; ((with_reducible refine (may_any ⟨a, b, c, d, _⟩ _).mono ?_); rintro e1 w1 ⟨rfl, hb1⟩; rw [hr]; obtain ⟨c0, c1, c2, c3, c4⟩ := kept_one hb1))
      go_loop [3, 14] (fun key i => (i = .int .i64 0 ∧ key = .int .u64 (0)) ∨ (i = .int .i64 1 ∧ key = .int .u64 (a + 1)) ∨ (i = .int .i64 2 ∧ key = .int .u64 ((a + 1) * 1001 + b + 1)) ∨ (i = .int .i64 3 ∧ key = .int .u64 (((a + 1) * 1001 + b + 1) * 1001 + c + 1))) (fun _ i => (3 - intOf i).toNat)
      case atStart => exact .inl ⟨rfl, rfl⟩
      case round =>
        rcases hrel with ⟨rfl, rfl⟩ | ⟨rfl, rfl⟩ | ⟨rfl, rfl⟩ | ⟨rfl, rfl⟩
        · go_wp2
          go_round
          case rel => exact .inr (.inl ⟨by go_num, by go_num⟩)
          case measure => simp [intOf]
        · go_wp2
          go_round
          case rel => exact .inr (.inr (.inl ⟨by go_num, by go_num⟩))
          case measure => simp [intOf]
        · go_wp2
          go_round
          case rel => exact .inr (.inr (.inr (⟨by go_num, by go_num⟩)))
          case measure => simp [intOf]
        · go_wp2
          go_ret
          exact ⟨ret_int HV.out.symm, below_box hb1⟩
    · have HV := Lib.hid (show keyP ⟨a, b, c, d, 4⟩ = (((a + 1) * 1001 + b + 1) * 1001 + c + 1) * 1001 + d + 1 by simp [keyP, hr])
      clear hd
      go_enter Tryd.func14, Tryd.ntmps14
      go_wp2_with (go_at_call 10; ((with_reducible refine (may_any ⟨a, b, c, d, _⟩ _).mono ?_); rintro e1 w1 ⟨rfl, hb1⟩; rw [hr]; obtain ⟨c0, c1, c2, c3, c4⟩ := kept_one hb1))
      go_loop [3, 14] (fun key i => (i = .int .i64 0 ∧ key = .int .u64 (0)) ∨ (i = .int .i64 1 ∧ key = .int .u64 (a + 1)) ∨ (i = .int .i64 2 ∧ key = .int .u64 ((a + 1) * 1001 + b + 1)) ∨ (i = .int .i64 3 ∧ key = .int .u64 (((a + 1) * 1001 + b + 1) * 1001 + c + 1)) ∨ (i = .int .i64 4 ∧ key = .int .u64 ((((a + 1) * 1001 + b + 1) * 1001 + c + 1) * 1001 + d + 1))) (fun _ i => (4 - intOf i).toNat)
      case atStart => exact .inl ⟨rfl, rfl⟩
      case round =>
        rcases hrel with ⟨rfl, rfl⟩ | ⟨rfl, rfl⟩ | ⟨rfl, rfl⟩ | ⟨rfl, rfl⟩ | ⟨rfl, rfl⟩
        · go_wp2
          go_round
          case rel => exact .inr (.inl ⟨by go_num, by go_num⟩)
          case measure => simp [intOf]
        · go_wp2
          go_round
          case rel => exact .inr (.inr (.inl ⟨by go_num, by go_num⟩))
          case measure => simp [intOf]
        · go_wp2
          go_round
          case rel => exact .inr (.inr (.inr (.inl ⟨by go_num, by go_num⟩)))
          case measure => simp [intOf]
        · go_wp2
          go_round
          case rel => exact .inr (.inr (.inr (.inr (⟨by go_num, by go_num⟩))))
          case measure => simp [intOf]
        · go_wp2
          go_ret
          exact ⟨ret_int HV.out.symm, below_box hb1⟩
end Go.Proofs.YtmlljgijbffepaaDoor
