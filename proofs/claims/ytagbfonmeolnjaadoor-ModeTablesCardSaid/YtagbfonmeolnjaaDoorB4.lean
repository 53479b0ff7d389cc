/- The walk of the law on the tables: whatever the two numbers and the text are, it returns true and changes nothing that was there. -/
import Derived.Test.YtagbfonmeolnjaaDoorR2
import Derived.Test.YtagbfonmeolnjaaDoorB3
namespace Go.Proofs.YtagbfonmeolnjaaDoor
open Go Go.RowKit

/-- what the loop over the names has found so far -/
def WantR (k t : Nat) (a b : Value) : Prop := (t ≤ k ∧ a = .int .i64 0 ∧ b = .bool false) ∨ (k < t ∧ a = .int .i64 (k : Nat) ∧ b = .bool true)

theorem eqN_other {k j : Nat} {s : ByteArray} (hk : k ≤ 6) (hj : j ≤ 6) (h : eqN k s = true) (hne : j ≠ k) : eqN j s = false := by
  have e : (nameN k).toList = s.toList := by unfold eqN at h; simpa using h
  have := eqN_at k hk j hj
  unfold eqN at this ⊢
  rw [← e, this]
  simpa using hne

theorem tables_long (m n : Int) (s : ByteArray) (w : World) (ht : TabG w) (hs : 20 < s.size) :
    Calls Tryd.prog 3 #[.int .i64 m, .int .i64 n, .string s] w fun e w' => e = .returned (.bool true) ∧ Below w.heap.size w w' := by
  have hb0 : Below w.heap.size w w := Below.refl _ _
  have qa := awake_g ht
  have hs' : (20 : Int) < (s.size : Int) := by omega
  go_enter Tryd.func3, Tryd.ntmps3
  go_wp2_with (go_at_call 8; refine Gives.use (w0 := w) (by with_reducible assumption) (by assumption) ?_; intro w1 hb1)
  go_ret
  exact ⟨rfl, by assumption⟩

/-- what the law's last line asks, all of it given -/
structure Asked (w : World) (m n : Int) (a : Nat) (mb cb sb rb wb : Bool) (p : Nat) (t : ByteArray) : Prop where
  y1 : Gives w 11 #[.int .i64 m] (.bool mb)
  y2 : Gives w 12 #[.int .i64 m] (.bool mb)
  y3 : Gives w 13 #[.int .i64 m, .int .i64 n] (.bool cb)
  y4 : Gives w 14 #[.int .i64 m, .int .i64 n] (.bool cb)
  y5 : Gives w 15 #[.int .i64 m, .int .i64 n] (.bool sb)
  y6 : Gives w 16 #[.int .i64 m, .int .i64 n] (.bool sb)
  y7 : Gives w 17 #[.int .i64 m] (.int .i64 (p : Nat))
  y8 : Gives w 18 #[.int .i64 m] (.int .i64 (p : Nat))
  y9 : Gives w 19 #[.int .i64 m] (.bool rb)
  z0 : Gives w 20 #[.int .i64 m] (.int .i64 (a : Nat))
  z1 : Gives w 21 #[.int .i64 m] (.bool wb)
  z2 : Gives w 22 #[.int .i64 m] (.string t)
  z3 : Gives w 10 #[.int .i64 m] (.string t)
theorem asked (m n : Int) (w : World) (ht : TabG w) (hn : TabN w) : ∃ a mb cb sb rb wb p t, a ≤ 3 ∧ rb = decide (1 ≤ a) ∧ wb = decide (3 ≤ a) ∧ Asked w m n a mb cb sb rb wb p t := by
  refine ⟨reN (kn m), decide (0 ≤ m ∧ m ≤ 6), _, _, _, _, _, _, reN_le _, rfl, rfl, ?_, ?_, com_g ht rfl, rcom_g w rfl, sym_g ht rfl, rsym_g w rfl, par_g w rfl, rpar_g w rfl, reads_g w rfl, rre_g w rfl, writes_g w rfl, name_g hn rfl, rname_g w rfl⟩
  · by_cases h : 0 ≤ m ∧ m ≤ 6
    · rw [decide_eq_true h]; exact fun w' hb => acc_same hb (may_yes m w' h.1 h.2)
    · rw [decide_eq_false h]; exact fun w' hb => acc_same hb (may_no m w' h)
  · by_cases h : 0 ≤ m ∧ m ≤ 6
    · rw [decide_eq_true h]; exact fun w' hb => acc_same hb (rmay_yes m w' h.1 h.2)
    · rw [decide_eq_false h]; exact fun w' hb => acc_same hb (rmay_no m w' h)

set_option maxRecDepth 100000 in
theorem tables_hit (m n : Int) (s : ByteArray) (k : Nat) (w : World) (ht : TabG w) (hn : TabN w) (hs : ¬ 20 < s.size) (hk : k ≤ 6) (hy : eqN k s = true) :
    Calls Tryd.prog 3 #[.int .i64 m, .int .i64 n, .string s] w fun e w' => e = .returned (.bool true) ∧ Below w.heap.size w w' := by
  have hb0 : Below w.heap.size w w := Below.refl _ _
  have qa := awake_g ht
  have hs' : ¬ (20 : Int) < (s.size : Int) := by omega
  have qp : Gives w 9 #[.string s] (.tuple #[.int .i64 (k : Nat), .bool true]) := fun w' hb =>
    acc_same hb (parse_hit s k w' (hn.later hb) hk (fun j hj => eqN_other hk (by omega) hy (by omega)) hy)
  obtain ⟨a, mb, cb, sb, rb, wb, p, t, ha, hrb, hwb, H⟩ := asked m n w ht hn
  have HY := Lib.hid hy
  clear hy
  go_enter Tryd.func3, Tryd.ntmps3
  go_wp2_with ((first | go_at_call 8 | go_at_call 9); refine Gives.use (w0 := w) (by with_reducible assumption) (by assumption) ?_; intro w1 hb1)
  go_loop [9, 10, 11] (fun x y i => ∃ j : Nat, j ≤ 7 ∧ i = .int .i64 j ∧ WantR k j x y) (fun _ _ i => 7 - (intOf i).toNat)
  case atStart => exact ⟨0, by omega, rfl, Or.inl ⟨by omega, rfl, rfl⟩⟩
  case round =>
    obtain ⟨j, hj, rfl, hw⟩ := hrel
    by_cases hlt : j ≤ 6
    · have hz : kn (j : Int) = j := kn_nat hlt
      have qn : ∀ w, Calls Tryd.prog 10 #[.int .i64 (j : Nat)] w fun e w' => e = .returned (.string (nameN j)) ∧ w = w' := fun w => by
        have := rname_any (j : Int) w
        rw [hz] at this
        exact this
      have HW := Lib.hid hw
      clear hw hz
      by_cases he : j = k
      · have hq := HY.out
        unfold eqN at hq
        subst he
        go_wp2_with (go_at_call 10; (with_reducible refine (qn _).mono ?_); rintro e w' ⟨rfl, rfl⟩)
        go_round
        case rel => exact ⟨j + 1, by omega, by go_num, Or.inr ⟨by omega, rfl, rfl⟩⟩
        case measure => simp [intOf]; omega
      · have hq := eqN_other hk hlt HY.out he
        unfold eqN at hq
        go_wp2_with (go_at_call 10; (with_reducible refine (qn _).mono ?_); rintro e w' ⟨rfl, rfl⟩)
        go_round
        case rel => exact ⟨j + 1, by omega, by go_num, by rcases HW.out with ⟨h1, h2, h3⟩ | ⟨h1, h2, h3⟩; exact Or.inl ⟨by omega, h2, h3⟩; exact Or.inr ⟨by omega, h2, h3⟩⟩
        case measure => simp [intOf]; omega
    · obtain rfl : j = 7 := by omega
      obtain ⟨_, rfl, rfl⟩ : k < 7 ∧ _ ∧ _ := by
        rcases hw with ⟨h1, h2, h3⟩ | ⟨h1, h2, h3⟩
        · omega
        · exact ⟨h1, h2, h3⟩
      obtain ⟨y1, y2, y3, y4, y5, y6, y7, y8, y9, z0, z1, z2, z3⟩ := H
      have hc : a = 0 ∨ a = 1 ∨ a = 2 ∨ a = 3 := by omega
      clear hw HY qp hs hs' hk
      rcases hc with rfl | rfl | rfl | rfl
      all_goals
        simp at hrb hwb
        subst hrb
        subst hwb
        go_wp2_with ((first | go_at_call 11 | go_at_call 12 | go_at_call 13 | go_at_call 14 | go_at_call 15 | go_at_call 16 | go_at_call 17 | go_at_call 18 | go_at_call 19 | go_at_call 20 | go_at_call 21 | go_at_call 22 | go_at_call 10); refine Gives.use (w0 := w) (by with_reducible assumption) (by assumption) ?_; intro w1 hb1)
        go_ret
        exact ⟨rfl, by assumption⟩
set_option maxRecDepth 100000 in
theorem tables_miss (m n : Int) (s : ByteArray) (w : World) (ht : TabG w) (hn : TabN w) (hs : ¬ 20 < s.size) (hy : ∀ j, j < 7 → eqN j s = false) :
    Calls Tryd.prog 3 #[.int .i64 m, .int .i64 n, .string s] w fun e w' => e = .returned (.bool true) ∧ Below w.heap.size w w' := by
  have hb0 : Below w.heap.size w w := Below.refl _ _
  have qa := awake_g ht
  have hs' : ¬ (20 : Int) < (s.size : Int) := by omega
  have qp : Gives w 9 #[.string s] (.tuple #[.int .i64 0, .bool false]) := fun w' hb => acc_same hb (parse_miss s w' (hn.later hb) hy)
  obtain ⟨a, mb, cb, sb, rb, wb, p, t, ha, hrb, hwb, H⟩ := asked m n w ht hn
  have HY := Lib.hid hy
  clear hy
  go_enter Tryd.func3, Tryd.ntmps3
  go_wp2_with ((first | go_at_call 8 | go_at_call 9); refine Gives.use (w0 := w) (by with_reducible assumption) (by assumption) ?_; intro w1 hb1)
  go_loop [9, 10, 11] (fun x y i => ∃ j : Nat, j ≤ 7 ∧ i = .int .i64 j ∧ x = .int .i64 0 ∧ y = .bool false) (fun _ _ i => 7 - (intOf i).toNat)
  case atStart => exact ⟨0, by omega, rfl, rfl, rfl⟩
  case round =>
    obtain ⟨j, hj, rfl, rfl, rfl⟩ := hrel
    by_cases hlt : j ≤ 6
    · have hz : kn (j : Int) = j := kn_nat hlt
      have qn : ∀ w, Calls Tryd.prog 10 #[.int .i64 (j : Nat)] w fun e w' => e = .returned (.string (nameN j)) ∧ w = w' := fun w => by
        have := rname_any (j : Int) w
        rw [hz] at this
        exact this
      have hq := HY.out j (by omega)
      unfold eqN at hq
      clear hz
      go_wp2_with (go_at_call 10; (with_reducible refine (qn _).mono ?_); rintro e w' ⟨rfl, rfl⟩)
      go_round
      case rel => exact ⟨j + 1, by omega, by go_num, rfl, rfl⟩
      case measure => simp [intOf]; omega
    · obtain rfl : j = 7 := by omega
      obtain ⟨y1, y2, y3, y4, y5, y6, y7, y8, y9, z0, z1, z2, z3⟩ := H
      have hc : a = 0 ∨ a = 1 ∨ a = 2 ∨ a = 3 := by omega
      clear HY qp hs hs'
      rcases hc with rfl | rfl | rfl | rfl
      all_goals
        simp at hrb hwb
        subst hrb
        subst hwb
        go_wp2_with ((first | go_at_call 11 | go_at_call 12 | go_at_call 13 | go_at_call 14 | go_at_call 15 | go_at_call 16 | go_at_call 17 | go_at_call 18 | go_at_call 19 | go_at_call 20 | go_at_call 21 | go_at_call 22 | go_at_call 10); refine Gives.use (w0 := w) (by with_reducible assumption) (by assumption) ?_; intro w1 hb1)
        go_ret
        exact ⟨rfl, by assumption⟩

theorem tables_walk (m n : Int) (s : ByteArray) (w : World) (ht : TabG w) (hn : TabN w) :
    Calls Tryd.prog 3 #[.int .i64 m, .int .i64 n, .string s] w fun e w' => e = .returned (.bool true) ∧ Below w.heap.size w w' := by
  by_cases hs : 20 < s.size
  · exact tables_long m n s w ht hs
  · by_cases h : ∃ k, k ≤ 6 ∧ eqN k s = true
    · obtain ⟨k, hk, hy⟩ := h
      exact tables_hit m n s k w ht hn hs hk hy
    · exact tables_miss m n s w ht hn hs fun j hj => by
        cases hq : eqN j s
        · rfl
        · exact absurd ⟨j, by omega, hq⟩ h
end Go.Proofs.YtagbfonmeolnjaaDoor
