/- The document's own answers on modes, and what a call gives from whatever later world. -/
import Derived.Test.YteaibamkfccplaaDoorMB
namespace Go.Proofs.YteaibamkfccplaaDoor
open Go Go.RowKit

/-- a call gives a value, from whatever later world, and changes nothing that was there at first -/
def Gives (w0 : World) (f : Nat) (args : Array Value) (v : Value) : Prop :=
  ∀ w', Below w0.heap.size w0 w' → Calls Tryd.prog f args w' fun e w'' => e = .returned v ∧ Below w0.heap.size w0 w''
theorem Gives.use {w0 w' : World} {f : Nat} {args : Array Value} {v : Value} {Q : Ending → World → Prop} (h : Gives w0 f args v) (hb : Below w0.heap.size w0 w')
    (hq : ∀ w'', Below w0.heap.size w0 w'' → Q (.returned v) w'') : Calls Tryd.prog f args w' Q :=
  (h w' hb).mono fun _ w'' ⟨he, hb'⟩ => he ▸ hq w'' hb'
theorem rmay_yes (m : Int) (w : World) (h0 : 0 ≤ m) (h6 : m ≤ 6) :
    Calls Tryd.prog 91 #[.int .i64 m] w fun e w' => e = .returned (.bool true) ∧ w = w' := by
  go_enter Tryd.func91, Tryd.ntmps91
  go_wp2
  go_ret
  exact ⟨rfl, rfl⟩
theorem rmay_no (m : Int) (w : World) (h : ¬ (0 ≤ m ∧ m ≤ 6)) :
    Calls Tryd.prog 91 #[.int .i64 m] w fun e w' => e = .returned (.bool false) ∧ w = w' := by
  by_cases h0 : 0 ≤ m
  · have h6 : ¬ m ≤ 6 := fun q => h ⟨h0, q⟩
    clear h
    go_enter Tryd.func91, Tryd.ntmps91
    go_wp2
    go_ret
    exact ⟨rfl, rfl⟩
  · clear h
    go_enter Tryd.func91, Tryd.ntmps91
    go_wp2
    go_ret
    exact ⟨rfl, rfl⟩
theorem in_cases {m : Int} (h : 0 ≤ m ∧ m ≤ 6) : m = 0 ∨ m = 1 ∨ m = 2 ∨ m = 3 ∨ m = 4 ∨ m = 5 ∨ m = 6 := by omega

theorem rre_any (m : Int) (w : World) :
    Calls Tryd.prog 85 #[.int .i64 m] w fun e w' => e = .returned (.int .i64 (reN (kn m) : Nat)) ∧ Below w.heap.size w w' := by
  by_cases h : 0 ≤ m ∧ m ≤ 6
  · rcases in_cases h with rfl | rfl | rfl | rfl | rfl | rfl | rfl
    all_goals
      clear h
      go_enter Tryd.func85, Tryd.ntmps85
      go_wp2_with (go_at_call 91; refine (rmay_yes _ _ (by omega) (by omega)).mono ?_; rintro e w' ⟨rfl, rfl⟩)
      go_ret
      exact ⟨rfl, (Below.refl _ _).alloc (Nat.le_refl _) _⟩
  · rw [kn_out h]
    go_enter Tryd.func85, Tryd.ntmps85
    go_wp2_with (go_at_call 91; refine (rmay_no _ _ h).mono ?_; rintro e w' ⟨rfl, rfl⟩)
    go_ret
    exact ⟨rfl, (Below.refl _ _).alloc (Nat.le_refl _) _⟩
theorem rim_any (m : Int) (w : World) :
    Calls Tryd.prog 86 #[.int .i64 m] w fun e w' => e = .returned (.int .i64 (imN (kn m) : Nat)) ∧ Below w.heap.size w w' := by
  by_cases h : 0 ≤ m ∧ m ≤ 6
  · rcases in_cases h with rfl | rfl | rfl | rfl | rfl | rfl | rfl
    all_goals
      clear h
      go_enter Tryd.func86, Tryd.ntmps86
      go_wp2_with (go_at_call 91; refine (rmay_yes _ _ (by omega) (by omega)).mono ?_; rintro e w' ⟨rfl, rfl⟩)
      go_ret
      exact ⟨rfl, (Below.refl _ _).alloc (Nat.le_refl _) _⟩
  · rw [kn_out h]
    go_enter Tryd.func86, Tryd.ntmps86
    go_wp2_with (go_at_call 91; refine (rmay_no _ _ h).mono ?_; rintro e w' ⟨rfl, rfl⟩)
    go_ret
    exact ⟨rfl, (Below.refl _ _).alloc (Nat.le_refl _) _⟩
theorem rre_g {m : Int} {v : Nat} (w : World) (h : reN (kn m) = v) : Gives w 85 #[.int .i64 m] (.int .i64 (v : Nat)) := fun w' hb => by rw [← h]; exact acc hb (rre_any m w')
theorem rim_g {m : Int} {v : Nat} (w : World) (h : imN (kn m) = v) : Gives w 86 #[.int .i64 m] (.int .i64 (v : Nat)) := fun w' hb => by rw [← h]; exact acc hb (rim_any m w')
theorem rcov_any (m n : Int) (w0 w : World) (hb : Below w0.heap.size w0 w) :
    Calls Tryd.prog 64 #[.int .i64 m, .int .i64 n] w fun e w' => e = .returned (.bool (covB (kn m) (kn n))) ∧ Below w0.heap.size w0 w' := by
  unfold covB
  obtain ⟨a, ha⟩ : ∃ a, reN (kn m) = a := ⟨_, rfl⟩
  obtain ⟨b, hb'⟩ : ∃ b, imN (kn m) = b := ⟨_, rfl⟩
  obtain ⟨c, hc⟩ : ∃ c, reN (kn n) = c := ⟨_, rfl⟩
  obtain ⟨d, hd⟩ : ∃ d, imN (kn n) = d := ⟨_, rfl⟩
  have q1 : Gives w0 85 #[.int .i64 m] (.int .i64 (a : Nat)) := rre_g w0 ha
  have q2 : Gives w0 86 #[.int .i64 m] (.int .i64 (b : Nat)) := rim_g w0 hb'
  have q3 : Gives w0 85 #[.int .i64 n] (.int .i64 (c : Nat)) := rre_g w0 hc
  have q4 : Gives w0 86 #[.int .i64 n] (.int .i64 (d : Nat)) := rim_g w0 hd
  rw [ha, hb', hc, hd]
  clear ha hb' hc hd
  by_cases h1 : c ≤ a
  · have e1 : decide (c ≤ a) = true := by simpa using h1
    rw [e1, Bool.true_and]
    go_enter Tryd.func64, Tryd.ntmps64
    go_wp2_with ((first | go_at_call 85 | go_at_call 86); refine Gives.use (w0 := w0) (by with_reducible assumption) (by assumption) ?_; intro w1 hb1)
    go_ret
    exact ⟨rfl, by assumption⟩
  · have e1 : decide (c ≤ a) = false := by simpa using h1
    rw [e1, Bool.false_and]
    go_enter Tryd.func64, Tryd.ntmps64
    go_wp2_with ((first | go_at_call 85 | go_at_call 86); refine Gives.use (w0 := w0) (by with_reducible assumption) (by assumption) ?_; intro w1 hb1)
    go_ret
    exact ⟨rfl, by assumption⟩
theorem rcov_g {m n : Int} {b : Bool} (w : World) (h : covB (kn m) (kn n) = b) : Gives w 64 #[.int .i64 m, .int .i64 n] (.bool b) := fun w' hb => by rw [← h]; exact rcov_any m n w w' hb
def okB (t i j k : Nat) : Bool := !covB t i || !covB t j || covB t k
def partB (k i j t : Nat) : Bool := covB k i && covB k j && (List.range t).all (fun u => okB u i j k)
theorem partB_succ (k i j t : Nat) : partB k i j (t + 1) = (partB k i j t && okB t i j k) := by
  unfold partB
  rw [List.range_succ, List.all_append]
  simp [Bool.and_assoc]
theorem sup_least : ∀ i, i ≤ 6 → ∀ j, j ≤ 6 → partB (supN i j) i j 7 = true := by decide +kernel
theorem sup_first : ∀ i, i ≤ 6 → ∀ j, j ≤ 6 → ∀ k, k ≤ 6 → k < supN i j → partB k i j 7 = false := by decide +kernel

set_option maxRecDepth 100000 in
theorem rsup_any (m n : Int) (w0 w : World) (hb : Below w0.heap.size w0 w) :
    Calls Tryd.prog 30 #[.int .i64 m, .int .i64 n] w fun e w' => e = .returned (.int .i64 (supN (kn m) (kn n) : Nat)) ∧ Below w0.heap.size w0 w' := by
  have km := kn_le m
  have kk := kn_le n
  obtain ⟨S, hS⟩ : ∃ S : Nat, supN (kn m) (kn n) = S := ⟨_, rfl⟩
  have kS : S ≤ 6 := hS ▸ supN_le _ _
  have HL : Hid (partB S (kn m) (kn n) 7 = true) := by rw [← hS]; exact sup_least _ km _ kk
  have HF : Hid (∀ k, k < S → partB k (kn m) (kn n) 7 = false) := fun k hk => sup_first _ km _ kk k (by omega) (by omega)
  rw [hS]
  clear hS
  go_enter Tryd.func30, Tryd.ntmps30
  go_wp2
  go_loopw [5] (fun x wr => ∃ k : Nat, k ≤ S ∧ x = .int .i64 k ∧ Below w0.heap.size w0 wr) (fun x _ => 7 - (intOf x).toNat)
  case atStart => exact ⟨0, by omega, rfl, hb⟩
  case round =>
    obtain ⟨k, hk, rfl, hbr⟩ := hrel
    have hk6 : k ≤ 6 := by omega
    have nk : kn (k : Int) = k := kn_nat hk6
    have c1 : ∀ b, covB k (kn m) = b → Gives w0 64 #[.int .i64 (k : Nat), .int .i64 m] (.bool b) := fun b h => rcov_g w0 (by rw [nk, h])
    have c2 : ∀ b, covB k (kn n) = b → Gives w0 64 #[.int .i64 (k : Nat), .int .i64 n] (.bool b) := fun b h => rcov_g w0 (by rw [nk, h])
    have NK := Lib.hid nk
    clear nk
    obtain ⟨b1, h1⟩ : ∃ b, covB k (kn m) = b := ⟨_, rfl⟩
    obtain ⟨b2, h2⟩ : ∃ b, covB k (kn n) = b := ⟨_, rfl⟩
    have H0 : Hid (partB k (kn m) (kn n) 0 = (b1 && b2)) := by unfold partB; simp [h1, h2, Hid]
    replace c1 := c1 _ h1
    replace c2 := c2 _ h2
    clear h1 h2
    cases b1 <;> cases b2
    all_goals
      go_wp2_with (go_at_call 64; refine Gives.use (w0 := w0) (by with_reducible assumption) (by assumption) ?_; intro w1 hb1)
      go_loopw [6, 7] (fun x y wr => ∃ t : Nat, t ≤ 7 ∧ y = .int .i64 t ∧ x = .bool (partB k (kn m) (kn n) t) ∧ Below w0.heap.size w0 wr) (fun _ y _ => 7 - (intOf y).toNat)
      case atStart => exact ⟨0, by omega, rfl, by rw [H0.out]; rfl, by assumption⟩
      case round =>
        obtain ⟨t, ht, rfl, rfl, hbt⟩ := hrel
        by_cases ht6 : t ≤ 6
        · have nt : kn (t : Int) = t := kn_nat ht6
          have d1 : ∀ b, covB t (kn m) = b → Gives w0 64 #[.int .i64 (t : Nat), .int .i64 m] (.bool b) := fun b h => rcov_g w0 (by rw [nt, h])
          have d2 : ∀ b, covB t (kn n) = b → Gives w0 64 #[.int .i64 (t : Nat), .int .i64 n] (.bool b) := fun b h => rcov_g w0 (by rw [nt, h])
          have d3 : ∀ b, covB t k = b → Gives w0 64 #[.int .i64 (t : Nat), .int .i64 (k : Nat)] (.bool b) := fun b h => rcov_g w0 (by rw [nt, NK.out, h])
          clear nt
          obtain ⟨p, hp⟩ : ∃ p, partB k (kn m) (kn n) t = p := ⟨_, rfl⟩
          obtain ⟨e1, g1⟩ : ∃ b, covB t (kn m) = b := ⟨_, rfl⟩
          obtain ⟨e2, g2⟩ : ∃ b, covB t (kn n) = b := ⟨_, rfl⟩
          obtain ⟨e3, g3⟩ : ∃ b, covB t k = b := ⟨_, rfl⟩
          have HS : Hid (partB k (kn m) (kn n) (t + 1) = (p && (!e1 || !e2 || e3))) := by unfold Hid; rw [partB_succ, hp]; unfold okB; rw [g1, g2, g3]
          rw [hp]
          replace d1 := d1 _ g1
          replace d2 := d2 _ g2
          replace d3 := d3 _ g3
          clear hp g1 g2 g3
          rcases p with _ | _
          · go_wp2
            go_roundw
            case rel => exact ⟨t + 1, by omega, by go_num, by rw [HS.out]; rfl, by assumption⟩
            case measure => simp [intOf]; omega
          · rcases e1 with _ | _ <;> rcases e2 with _ | _
            all_goals
              go_wp2_with (go_at_call 64; refine Gives.use (w0 := w0) (by with_reducible assumption) (by assumption) ?_; intro w1 hb1)
              go_roundw
              case rel => exact ⟨t + 1, by omega, by go_num, by rw [HS.out]; simp, by assumption⟩
              case measure => simp [intOf]; omega
        · obtain rfl : t = 7 := by omega
          by_cases he : k = S
          · have hq := HL.out
            subst he
            rw [hq]
            clear hq
            go_wp2
            go_ret
            exact ⟨rfl, by assumption⟩
          · have hq := HF.out k (by omega)
            rw [hq]
            clear hq
            go_wp2
            go_roundw
            case rel => exact ⟨k + 1, by omega, by go_num, by assumption⟩
            case measure => simp [intOf]; omega
end Go.Proofs.YteaibamkfccplaaDoor
