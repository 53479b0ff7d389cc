/- The contracts of the program's functions on modes, the second part: which point reaches which, the mode of a point, what covers two. -/
import Derived.Test.YteaibamkfccplaaDoorMA
import Derived.Lib.Hide
namespace Go.Proofs.YteaibamkfccplaaDoor
open Go Go.RowKit

def geB (x y : Nat) : Bool := FloatKind.f64.format.order (fb x) (fb y) == some .gt || FloatKind.f64.format.order (fb x) (fb y) == some .eq
theorem geB_eq : ∀ x, x ≤ 3 → ∀ y, y ≤ 3 → geB x y = decide (y ≤ x) := by
  intro x hx y hy
  have h1 : x = 0 ∨ x = 1 ∨ x = 2 ∨ x = 3 := by omega
  have h2 : y = 0 ∨ y = 1 ∨ y = 2 ∨ y = 3 := by omega
  rcases h1 with rfl | rfl | rfl | rfl <;> rcases h2 with rfl | rfl | rfl | rfl <;> decide +kernel
theorem ge_yes {x y : Nat} (hx : x ≤ 3) (h : y ≤ x) : (FloatKind.f64.format.order (fb x) (fb y) == some .gt || FloatKind.f64.format.order (fb x) (fb y) == some .eq) = true := by
  have := geB_eq x hx y (by omega)
  unfold geB at this
  rw [this]; simpa using h
theorem ge_no {x y : Nat} (hx : x ≤ 3) (hy : y ≤ 3) (h : ¬ y ≤ x) : (FloatKind.f64.format.order (fb x) (fb y) == some .gt || FloatKind.f64.format.order (fb x) (fb y) == some .eq) = false := by
  have := geB_eq x hx y hy
  unfold geB at this
  rw [this]; simpa using h
theorem reN_le (j : Nat) : reN j ≤ 3 := by unfold reN; split <;> omega
theorem imN_le (j : Nat) : imN j ≤ 2 := by unfold imN; split <;> omega

theorem reaches_yes (x y a b : Nat) (w : World) (hx : x ≤ 3) (hy : y ≤ 3) (h1 : a ≤ x) (h2 : b ≤ y) :
    Calls Tryd.prog 96 #[.complex .f64 (fb x) (fb y), .complex .f64 (fb a) (fb b)] w fun e w' => e = .returned (.bool true) ∧ w = w' := by
  have g1 := ge_yes hx h1
  have g2 := ge_yes hy h2
  go_enter Tryd.func96, Tryd.ntmps96
  go_wp2
  go_ret
  exact ⟨rfl, rfl⟩
theorem reaches_no (x y a b : Nat) (w : World) (hx : x ≤ 3) (hy : y ≤ 3) (ha : a ≤ 3) (hb : b ≤ 3) (h : ¬ (a ≤ x ∧ b ≤ y)) :
    Calls Tryd.prog 96 #[.complex .f64 (fb x) (fb y), .complex .f64 (fb a) (fb b)] w fun e w' => e = .returned (.bool false) ∧ w = w' := by
  by_cases h1 : a ≤ x
  · have g1 := ge_yes hx h1
    have g2 := ge_no hy hb (fun q => h ⟨h1, q⟩)
    clear h
    go_enter Tryd.func96, Tryd.ntmps96
    go_wp2
    go_ret
    exact ⟨rfl, rfl⟩
  · have g1 := ge_no hx ha h1
    clear h
    go_enter Tryd.func96, Tryd.ntmps96
    go_wp2
    go_ret
    exact ⟨rfl, rfl⟩

def reachB (j a b : Nat) : Bool := decide (a ≤ reN j) && decide (b ≤ imN j)
def ofN (a b : Nat) : Nat :=
  if reachB 0 a b then 0 else if reachB 1 a b then 1 else if reachB 2 a b then 2 else if reachB 3 a b then 3 else if reachB 4 a b then 4 else if reachB 5 a b then 5 else 6
theorem ofN_hit {k a b : Nat} (hk : k < 6) (h : ∀ j, j < k → reachB j a b = false) (hb : reachB k a b = true) : ofN a b = k := by
  have h0 := h 0
  have h1 := h 1
  have h2 := h 2
  have h3 := h 3
  have h4 := h 4
  have hc : k = 0 ∨ k = 1 ∨ k = 2 ∨ k = 3 ∨ k = 4 ∨ k = 5 := by omega
  unfold ofN
  rcases hc with rfl | rfl | rfl | rfl | rfl | rfl <;> simp_all
theorem ofN_miss {a b : Nat} (h : ∀ j, j < 6 → reachB j a b = false) : ofN a b = 6 := by
  unfold ofN
  simp [h 0 (by omega), h 1 (by omega), h 2 (by omega), h 3 (by omega), h 4 (by omega), h 5 (by omega)]
theorem kn_nat {k : Nat} (h : k ≤ 6) : kn (k : Int) = k := by unfold kn; rw [if_pos ⟨by omega, by omega⟩]; omega
def NotYet (k a b : Nat) : Prop := ∀ j, j < k → reachB j a b = false

theorem of_any (a b : Nat) (w : World) (ha : a ≤ 3) (hb : b ≤ 3) :
    Calls Tryd.prog 95 #[.complex .f64 (fb a) (fb b)] w fun e w' => e = .returned (.int .i64 (ofN a b : Nat)) ∧ Below w.heap.size w w' := by
  go_enter Tryd.func95, Tryd.ntmps95
  go_wp2
  go_loopw [3] (fun i wr => ∃ k : Nat, k ≤ 6 ∧ i = .int .i64 k ∧ NotYet k a b ∧ Below w.heap.size w wr) (fun i _ => 6 - (intOf i).toNat)
  case atStart => exact ⟨0, by omega, rfl, fun j hj => absurd hj (by omega), Below.refl _ _⟩
  case round =>
    obtain ⟨k, hk, rfl, hn, hbl⟩ := hrel
    have hx := reN_le k
    have hy := imN_le k
    have hz := hbl.size
    by_cases hlt : k < 6
    · by_cases hr : reachB k a b = true
      · have h1 : a ≤ reN k := by have := hr; unfold reachB at this; simp at this; exact this.1
        have h2 : b ≤ imN k := by have := hr; unfold reachB at this; simp at this; exact this.2
        have HV := Lib.hid (ofN_hit hlt hn hr)
        clear hr
        go_wp2_with (first | (go_at_call 94; refine (at_is _ _ k (by omega) (kn_nat hk)).mono ?_; rintro e w1 ⟨rfl, hb1⟩) | (go_at_call 96; refine (reaches_yes _ _ _ _ _ hx (by omega) h1 h2).mono ?_; rintro e w2 ⟨rfl, rfl⟩))
        go_ret
        exact ⟨ret_int (by rw [HV.out]), hbl.trans (hb1.mono hz)⟩
      · have hr' : ¬ (a ≤ reN k ∧ b ≤ imN k) := fun h => hr (by unfold reachB; simp [h.1, h.2])
        have hf : reachB k a b = false := by simpa using hr
        have HN : Hid (NotYet (k + 1) a b) := fun j hj => by
          rcases Nat.lt_or_ge j k with h | h
          · exact hn j h
          · obtain rfl : k = j := by omega
            exact hf
        clear hr hf
        go_wp2_with (first | (go_at_call 94; refine (at_is _ _ k (by omega) (kn_nat hk)).mono ?_; rintro e w1 ⟨rfl, hb1⟩) | (go_at_call 96; refine (reaches_no _ _ _ _ _ hx (by omega) ha hb hr').mono ?_; rintro e w2 ⟨rfl, rfl⟩))
        go_roundw
        case rel => exact ⟨k + 1, by omega, by go_num, HN.out, hbl.trans (hb1.mono hz)⟩
        case measure => simp [intOf]; omega
    · obtain rfl : k = 6 := by omega
      have HV := Lib.hid (ofN_miss hn)
      go_wp2
      go_ret
      exact ⟨ret_int (by rw [HV.out]; rfl), hbl⟩


/-- what a call leaves, told from an earlier world on -/
theorem acc {P : Program} {f : Nat} {args : Array Value} {w w0 : World} {E : Ending} (hb : Below w0.heap.size w0 w)
    (h : Calls P f args w fun e w' => e = E ∧ Below w.heap.size w w') : Calls P f args w fun e w' => e = E ∧ Below w0.heap.size w0 w' :=
  h.mono fun _ _ ⟨he, h'⟩ => ⟨he, hb.trans (h'.mono hb.size)⟩
theorem acc_same {P : Program} {f : Nat} {args : Array Value} {w w0 : World} {E : Ending} (hb : Below w0.heap.size w0 w)
    (h : Calls P f args w fun e w' => e = E ∧ w = w') : Calls P f args w fun e w' => e = E ∧ Below w0.heap.size w0 w' :=
  h.mono fun _ _ ⟨he, h'⟩ => ⟨he, h' ▸ hb⟩

def covB (i j : Nat) : Bool := decide (reN j ≤ reN i) && decide (imN j ≤ imN i)
theorem covers_yes (m n : Int) (w0 w : World) (hb : Below w0.heap.size w0 w) (h : covB (kn m) (kn n) = true) :
    Calls Tryd.prog 88 #[.int .i64 m, .int .i64 n] w fun e w' => e = .returned (.bool true) ∧ Below w0.heap.size w0 w' := by
  have h1 : reN (kn n) ≤ reN (kn m) := by have := h; unfold covB at this; simp at this; exact this.1
  have h2 : imN (kn n) ≤ imN (kn m) := by have := h; unfold covB at this; simp at this; exact this.2
  clear h
  have hx := reN_le (kn m)
  have hy := imN_le (kn m)
  go_enter Tryd.func88, Tryd.ntmps88
  go_wp2_with (first | (go_at_call 94; refine (acc (w0 := w0) (by assumption) (at_is _ _ _ (kn_le _) rfl)).mono ?_; rintro e w1 ⟨rfl, hb1⟩) | (go_at_call 96; refine (reaches_yes _ _ _ _ _ hx (by omega) h1 h2).mono ?_; rintro e w2 ⟨rfl, rfl⟩))
  go_ret
  exact ⟨rfl, by assumption⟩
theorem covers_no (m n : Int) (w0 w : World) (hb : Below w0.heap.size w0 w) (h : covB (kn m) (kn n) = false) :
    Calls Tryd.prog 88 #[.int .i64 m, .int .i64 n] w fun e w' => e = .returned (.bool false) ∧ Below w0.heap.size w0 w' := by
  have h1 : ¬ (reN (kn n) ≤ reN (kn m) ∧ imN (kn n) ≤ imN (kn m)) := by
    rintro ⟨p, q⟩
    unfold covB at h
    simp [p, q] at h
  clear h
  have hx := reN_le (kn m)
  have hy := imN_le (kn m)
  have hx' := reN_le (kn n)
  have hy' := imN_le (kn n)
  go_enter Tryd.func88, Tryd.ntmps88
  go_wp2_with (first | (go_at_call 94; refine (acc (w0 := w0) (by assumption) (at_is _ _ _ (kn_le _) rfl)).mono ?_; rintro e w1 ⟨rfl, hb1⟩) | (go_at_call 96; refine (reaches_no _ _ _ _ _ hx (by omega) hx' (by omega) h1).mono ?_; rintro e w2 ⟨rfl, rfl⟩))
  go_ret
  exact ⟨rfl, by assumption⟩
theorem covers_any (m n : Int) (w0 w : World) (hb : Below w0.heap.size w0 w) :
    Calls Tryd.prog 88 #[.int .i64 m, .int .i64 n] w fun e w' => e = .returned (.bool (covB (kn m) (kn n))) ∧ Below w0.heap.size w0 w' := by
  cases h : covB (kn m) (kn n)
  · exact covers_no m n w0 w hb h
  · exact covers_yes m n w0 w hb h

theorem ord_eq : ∀ x, x ≤ 3 → ∀ y, y ≤ 3 → FloatKind.f64.format.order (fb x) (fb y) = some (compare x y) := by
  intro x hx y hy
  have h1 : x = 0 ∨ x = 1 ∨ x = 2 ∨ x = 3 := by omega
  have h2 : y = 0 ∨ y = 1 ∨ y = 2 ∨ y = 3 := by omega
  rcases h1 with rfl | rfl | rfl | rfl <;> rcases h2 with rfl | rfl | rfl | rfl <;> decide +kernel
theorem run_max_fb (P : Program) (ts : Array TypeId) (t : TypeId) (x y : Nat) (hx : x ≤ 3) (hy : y ≤ 3) (w : World) :
    (Builtin.max_ ts t #[.float .f64 (fb x), .float .f64 (fb y)]).run P w = .ok (.float .f64 (fb (max x y))) w := by
  have ho := ord_eq x hx y hy
  rcases Nat.lt_trichotomy x y with h | h | h
  · have e : max x y = y := by omega
    rw [Nat.compare_eq_lt.2 h] at ho
    simp [Builtin.max_, Builtin.max2, ho, e]
  · subst h
    rw [Nat.compare_eq_eq.2 rfl] at ho
    simp [Builtin.max_, Builtin.max2, ho]
  · have e : max x y = x := by omega
    rw [Nat.compare_eq_gt.2 h] at ho
    simp [Builtin.max_, Builtin.max2, ho, e]

def supN (i j : Nat) : Nat := ofN (max (reN i) (reN j)) (max (imN i) (imN j))
theorem supN_le (i j : Nat) : supN i j ≤ 6 := by
  unfold supN ofN
  repeat' split
  all_goals omega
theorem sup_any (m n : Int) (w0 w : World) (hb : Below w0.heap.size w0 w) :
    Calls Tryd.prog 87 #[.int .i64 m, .int .i64 n] w fun e w' => e = .returned (.int .i64 (supN (kn m) (kn n) : Nat)) ∧ Below w0.heap.size w0 w' := by
  have hx := reN_le (kn m)
  have hy := imN_le (kn m)
  have hx' := reN_le (kn n)
  have hy' := imN_le (kn n)
  have m1 := fun ts t => run_max_fb Tryd.prog ts t _ _ hx hx'
  have m2 := fun ts t => run_max_fb Tryd.prog ts t (imN (kn m)) (imN (kn n)) (by omega) (by omega)
  go_enter Tryd.func87, Tryd.ntmps87
  go_wp2_with (first | (go_at_call 94; refine (acc (w0 := w0) (by assumption) (at_is _ _ _ (kn_le _) rfl)).mono ?_; rintro e w1 ⟨rfl, hb1⟩) | (go_at_call 95; refine (acc (w0 := w0) (by assumption) (of_any _ _ _ (by omega) (by omega))).mono ?_; rintro e w2 ⟨rfl, hb2⟩))
  go_ret
  exact ⟨rfl, by assumption⟩
end Go.Proofs.YteaibamkfccplaaDoor
