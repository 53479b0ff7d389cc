/- The contracts of the program's functions on modes: plain tables on numbers up to six, and what each call gives by them. -/
import Derived.Test.YtlhhopanegnliaaGreatDoorProg
import Derived.WalkKit
import Derived.WalkLawsBesides
import Derived.Deep.QuietTactic
import Derived.BigQuiet
import Derived.WalkSmall
import Derived.KernelRfl
import Derived.Lib.Hide
namespace Go.Proofs.YtlhhopanegnliaaGreatDoor
open Go Go.RowKit

/-- what is no mode counts as the first one -/
def kn (m : Int) : Nat := if 0 ≤ m ∧ m ≤ 6 then m.toNat else 0
theorem kn_le (m : Int) : kn m ≤ 6 := by unfold kn; split <;> omega
theorem kn_in {m : Int} (h0 : 0 ≤ m) (h6 : m ≤ 6) : ((kn m : Nat) : Int) = m := by unfold kn; rw [if_pos ⟨h0, h6⟩]; omega
theorem kn_out {m : Int} (h : ¬ (0 ≤ m ∧ m ≤ 6)) : kn m = 0 := by unfold kn; rw [if_neg h]
theorem ret_int {k : IntKind} {a b : Int} (h : a = b) : Ending.returned (.int k a) = .returned (.int k b) := by rw [h]

/-- the parts of the points, as the bits of a number -/
def fb : Nat → Nat
  | 0 => 0
  | 1 => 4607182418800017408
  | 2 => 4611686018427387904
  | _ => 4613937818241073152
def reN : Nat → Nat
  | 3 => 1
  | 4 => 1
  | 5 => 2
  | 6 => 3
  | _ => 0
def imN : Nat → Nat
  | 1 => 1
  | 2 => 2
  | 3 => 1
  | 4 => 2
  | 5 => 1
  | 6 => 2
  | _ => 0

theorem may_yes (m : Int) (w : World) (h0 : 0 ≤ m) (h6 : m ≤ 6) :
    Calls Tryz.prog 159 #[.int .i64 m] w fun e w' => e = .returned (.bool true) ∧ w = w' := by
  go_enter Tryz.func159, Tryz.ntmps159
  go_wp2
  go_ret
  exact ⟨rfl, rfl⟩
theorem may_no (m : Int) (w : World) (h : ¬ (0 ≤ m ∧ m ≤ 6)) :
    Calls Tryz.prog 159 #[.int .i64 m] w fun e w' => e = .returned (.bool false) ∧ w = w' := by
  by_cases h0 : 0 ≤ m
  · have h6 : ¬ m ≤ 6 := fun q => h ⟨h0, q⟩
    clear h
    go_enter Tryz.func159, Tryz.ntmps159
    go_wp2
    go_ret
    exact ⟨rfl, rfl⟩
  · clear h
    go_enter Tryz.func159, Tryz.ntmps159
    go_wp2
    go_ret
    exact ⟨rfl, rfl⟩

theorem known_any (m : Int) (w : World) :
    Calls Tryz.prog 122 #[.int .i64 m] w fun e w' => e = .returned (.int .i64 (kn m : Nat)) ∧ w = w' := by
  by_cases h : 0 ≤ m ∧ m ≤ 6
  · have e := kn_in h.1 h.2
    rw [e]
    clear e
    obtain ⟨h0, h6⟩ := h
    go_enter Tryz.func122, Tryz.ntmps122
    go_wp2_with (go_at_call 159; refine (may_yes _ _ h0 h6).mono ?_; rintro e w' ⟨rfl, rfl⟩)
    go_ret
    exact ⟨rfl, rfl⟩
  · rw [kn_out h]
    go_enter Tryz.func122, Tryz.ntmps122
    go_wp2_with (go_at_call 159; refine (may_no _ _ h).mono ?_; rintro e w' ⟨rfl, rfl⟩)
    go_ret
    exact ⟨rfl, rfl⟩

theorem kn_cases (m : Int) : kn m = 0 ∨ kn m = 1 ∨ kn m = 2 ∨ kn m = 3 ∨ kn m = 4 ∨ kn m = 5 ∨ kn m = 6 := by have := kn_le m; omega

abbrev pt (j : Nat) : Value := .complex .f64 (fb (reN j)) (fb (imN j))

@[go_sem] theorem run_store_complex (P : Program) (w : World) (a : Addr) (m : Mode) (k : FloatKind) (x y : Nat) : (store a (.complex k x y) m).run P w = stored P w a (.complex k x y) m := run_store P w a _ m rfl

/-- the look of one point: which of the seven it is has been settled -/
theorem at_is (m : Int) (w : World) (j : Nat) (hj : j ≤ 6) (h : kn m = j) :
    Calls Tryz.prog 110 #[.int .i64 m] w fun e w' => e = .returned (pt j) ∧ Below w.heap.size w w' := by
  have hk : ∀ w : World, Calls Tryz.prog 122 #[.int .i64 m] w fun e w' => e = .returned (.int .i64 (j : Nat)) ∧ w = w' := by rw [← h]; exact known_any m
  clear h
  have hc : j = 0 ∨ j = 1 ∨ j = 2 ∨ j = 3 ∨ j = 4 ∨ j = 5 ∨ j = 6 := by omega
  clear hj
  rcases hc with rfl | rfl | rfl | rfl | rfl | rfl | rfl
  all_goals
    go_enter Tryz.func110, Tryz.ntmps110
    go_wp2_with (go_at_call 122; refine (hk _).mono ?_; rintro e w' ⟨rfl, rfl⟩)
    go_ret
    exact ⟨rfl, (Below.refl _ _).alloc (Nat.le_refl _) _⟩
end Go.Proofs.YtlhhopanegnliaaGreatDoor
/- The contracts of the program's functions on modes, the second part: which point reaches which, the mode of a point, what covers two. -/
namespace Go.Proofs.YtlhhopanegnliaaGreatDoor
open Go Go.RowKit

def geB (x y : Nat) : Bool := FloatKind.f64.format.order (fb x) (fb y) == some .gt || FloatKind.f64.format.order (fb x) (fb y) == some .eq
theorem geB_eq : ∀ x, x ≤ 3 → ∀ y, y ≤ 3 → geB x y = decide (y ≤ x) := by
  intro x hx y hy
  have h1 : x = 0 ∨ x = 1 ∨ x = 2 ∨ x = 3 := by omega
  have h2 : y = 0 ∨ y = 1 ∨ y = 2 ∨ y = 3 := by omega
  rcases h1 with rfl | rfl | rfl | rfl <;> rcases h2 with rfl | rfl | rfl | rfl <;> decide +kernel
theorem ge_yes {x y : Nat} (hx : x ≤ 3) (h : y ≤ x) : (FloatKind.f64.format.order (fb x) (fb y) == some .gt || FloatKind.f64.format.order (fb x) (fb y) == some .eq) = true := by
  have := geB_eq x hx y (by omega)
  unfold geB at this
  rw [this]; simpa using h
theorem ge_no {x y : Nat} (hx : x ≤ 3) (hy : y ≤ 3) (h : ¬ y ≤ x) : (FloatKind.f64.format.order (fb x) (fb y) == some .gt || FloatKind.f64.format.order (fb x) (fb y) == some .eq) = false := by
  have := geB_eq x hx y hy
  unfold geB at this
  rw [this]; simpa using h
theorem reN_le (j : Nat) : reN j ≤ 3 := by unfold reN; split <;> omega
theorem imN_le (j : Nat) : imN j ≤ 2 := by unfold imN; split <;> omega

theorem reaches_yes (x y a b : Nat) (w : World) (hx : x ≤ 3) (hy : y ≤ 3) (h1 : a ≤ x) (h2 : b ≤ y) :
    Calls Tryz.prog 124 #[.complex .f64 (fb x) (fb y), .complex .f64 (fb a) (fb b)] w fun e w' => e = .returned (.bool true) ∧ w = w' := by
  have g1 := ge_yes hx h1
  have g2 := ge_yes hy h2
  go_enter Tryz.func124, Tryz.ntmps124
  go_wp2
  go_ret
  exact ⟨rfl, rfl⟩
theorem reaches_no (x y a b : Nat) (w : World) (hx : x ≤ 3) (hy : y ≤ 3) (ha : a ≤ 3) (hb : b ≤ 3) (h : ¬ (a ≤ x ∧ b ≤ y)) :
    Calls Tryz.prog 124 #[.complex .f64 (fb x) (fb y), .complex .f64 (fb a) (fb b)] w fun e w' => e = .returned (.bool false) ∧ w = w' := by
  by_cases h1 : a ≤ x
  · have g1 := ge_yes hx h1
    have g2 := ge_no hy hb (fun q => h ⟨h1, q⟩)
    clear h
    go_enter Tryz.func124, Tryz.ntmps124
    go_wp2
    go_ret
    exact ⟨rfl, rfl⟩
  · have g1 := ge_no hx ha h1
    clear h
    go_enter Tryz.func124, Tryz.ntmps124
    go_wp2
    go_ret
    exact ⟨rfl, rfl⟩

def reachB (j a b : Nat) : Bool := decide (a ≤ reN j) && decide (b ≤ imN j)
def ofN (a b : Nat) : Nat :=
  if reachB 0 a b then 0 else if reachB 1 a b then 1 else if reachB 2 a b then 2 else if reachB 3 a b then 3 else if reachB 4 a b then 4 else if reachB 5 a b then 5 else 6
theorem ofN_hit {k a b : Nat} (hk : k < 6) (h : ∀ j, j < k → reachB j a b = false) (hb : reachB k a b = true) : ofN a b = k := by
  have h0 := h 0
  have h1 := h 1
  have h2 := h 2
  have h3 := h 3
  have h4 := h 4
  have hc : k = 0 ∨ k = 1 ∨ k = 2 ∨ k = 3 ∨ k = 4 ∨ k = 5 := by omega
  unfold ofN
  rcases hc with rfl | rfl | rfl | rfl | rfl | rfl <;> simp_all
theorem ofN_miss {a b : Nat} (h : ∀ j, j < 6 → reachB j a b = false) : ofN a b = 6 := by
  unfold ofN
  simp [h 0 (by omega), h 1 (by omega), h 2 (by omega), h 3 (by omega), h 4 (by omega), h 5 (by omega)]
theorem kn_nat {k : Nat} (h : k ≤ 6) : kn (k : Int) = k := by unfold kn; rw [if_pos ⟨by omega, by omega⟩]; omega
def NotYet (k a b : Nat) : Prop := ∀ j, j < k → reachB j a b = false

theorem of_any (a b : Nat) (w : World) (ha : a ≤ 3) (hb : b ≤ 3) :
    Calls Tryz.prog 123 #[.complex .f64 (fb a) (fb b)] w fun e w' => e = .returned (.int .i64 (ofN a b : Nat)) ∧ Below w.heap.size w w' := by
  go_enter Tryz.func123, Tryz.ntmps123
  go_wp2
  go_loopw [3] (fun i wr => ∃ k : Nat, k ≤ 6 ∧ i = .int .i64 k ∧ NotYet k a b ∧ Below w.heap.size w wr) (fun i _ => 6 - (intOf i).toNat)
  case atStart => exact ⟨0, by omega, rfl, fun j hj => absurd hj (by omega), Below.refl _ _⟩
  case round =>
    obtain ⟨k, hk, rfl, hn, hbl⟩ := hrel
    have hx := reN_le k
    have hy := imN_le k
    have hz := hbl.size
    by_cases hlt : k < 6
    · by_cases hr : reachB k a b = true
      · have h1 : a ≤ reN k := by have := hr; unfold reachB at this; simp at this; exact this.1
        have h2 : b ≤ imN k := by have := hr; unfold reachB at this; simp at this; exact this.2
        have HV := Lib.hid (ofN_hit hlt hn hr)
        clear hr
        go_wp2_with (first | (go_at_call 110; refine (at_is _ _ k (by omega) (kn_nat hk)).mono ?_; rintro e w1 ⟨rfl, hb1⟩) | (go_at_call 124; refine (reaches_yes _ _ _ _ _ hx (by omega) h1 h2).mono ?_; rintro e w2 ⟨rfl, rfl⟩))
        go_ret
        exact ⟨ret_int (by rw [HV.out]), hbl.trans (hb1.mono hz)⟩
      · have hr' : ¬ (a ≤ reN k ∧ b ≤ imN k) := fun h => hr (by unfold reachB; simp [h.1, h.2])
        have hf : reachB k a b = false := by simpa using hr
        have HN : Hid (NotYet (k + 1) a b) := fun j hj => by
          rcases Nat.lt_or_ge j k with h | h
          · exact hn j h
          · obtain rfl : k = j := by omega
            exact hf
        clear hr hf
        go_wp2_with (first | (go_at_call 110; refine (at_is _ _ k (by omega) (kn_nat hk)).mono ?_; rintro e w1 ⟨rfl, hb1⟩) | (go_at_call 124; refine (reaches_no _ _ _ _ _ hx (by omega) ha hb hr').mono ?_; rintro e w2 ⟨rfl, rfl⟩))
        go_roundw
        case rel => exact ⟨k + 1, by omega, by go_num, HN.out, hbl.trans (hb1.mono hz)⟩
        case measure => simp [intOf]; omega
    · obtain rfl : k = 6 := by omega
      have HV := Lib.hid (ofN_miss hn)
      go_wp2
      go_ret
      exact ⟨ret_int (by rw [HV.out]; rfl), hbl⟩


/-- what a call leaves, told from an earlier world on -/
theorem acc {P : Program} {f : Nat} {args : Array Value} {w w0 : World} {E : Ending} (hb : Below w0.heap.size w0 w)
    (h : Calls P f args w fun e w' => e = E ∧ Below w.heap.size w w') : Calls P f args w fun e w' => e = E ∧ Below w0.heap.size w0 w' :=
  h.mono fun _ _ ⟨he, h'⟩ => ⟨he, hb.trans (h'.mono hb.size)⟩
theorem acc_same {P : Program} {f : Nat} {args : Array Value} {w w0 : World} {E : Ending} (hb : Below w0.heap.size w0 w)
    (h : Calls P f args w fun e w' => e = E ∧ w = w') : Calls P f args w fun e w' => e = E ∧ Below w0.heap.size w0 w' :=
  h.mono fun _ _ ⟨he, h'⟩ => ⟨he, h' ▸ hb⟩

def covB (i j : Nat) : Bool := decide (reN j ≤ reN i) && decide (imN j ≤ imN i)
theorem covers_yes (m n : Int) (w0 w : World) (hb : Below w0.heap.size w0 w) (h : covB (kn m) (kn n) = true) :
    Calls Tryz.prog 78 #[.int .i64 m, .int .i64 n] w fun e w' => e = .returned (.bool true) ∧ Below w0.heap.size w0 w' := by
  have h1 : reN (kn n) ≤ reN (kn m) := by have := h; unfold covB at this; simp at this; exact this.1
  have h2 : imN (kn n) ≤ imN (kn m) := by have := h; unfold covB at this; simp at this; exact this.2
  clear h
  have hx := reN_le (kn m)
  have hy := imN_le (kn m)
  go_enter Tryz.func78, Tryz.ntmps78
  go_wp2_with (first | (go_at_call 110; refine (acc (w0 := w0) (by assumption) (at_is _ _ _ (kn_le _) rfl)).mono ?_; rintro e w1 ⟨rfl, hb1⟩) | (go_at_call 124; refine (reaches_yes _ _ _ _ _ hx (by omega) h1 h2).mono ?_; rintro e w2 ⟨rfl, rfl⟩))
  go_ret
  exact ⟨rfl, by assumption⟩
theorem covers_no (m n : Int) (w0 w : World) (hb : Below w0.heap.size w0 w) (h : covB (kn m) (kn n) = false) :
    Calls Tryz.prog 78 #[.int .i64 m, .int .i64 n] w fun e w' => e = .returned (.bool false) ∧ Below w0.heap.size w0 w' := by
  have h1 : ¬ (reN (kn n) ≤ reN (kn m) ∧ imN (kn n) ≤ imN (kn m)) := by
    rintro ⟨p, q⟩
    unfold covB at h
    simp [p, q] at h
  clear h
  have hx := reN_le (kn m)
  have hy := imN_le (kn m)
  have hx' := reN_le (kn n)
  have hy' := imN_le (kn n)
  go_enter Tryz.func78, Tryz.ntmps78
  go_wp2_with (first | (go_at_call 110; refine (acc (w0 := w0) (by assumption) (at_is _ _ _ (kn_le _) rfl)).mono ?_; rintro e w1 ⟨rfl, hb1⟩) | (go_at_call 124; refine (reaches_no _ _ _ _ _ hx (by omega) hx' (by omega) h1).mono ?_; rintro e w2 ⟨rfl, rfl⟩))
  go_ret
  exact ⟨rfl, by assumption⟩
theorem covers_any (m n : Int) (w0 w : World) (hb : Below w0.heap.size w0 w) :
    Calls Tryz.prog 78 #[.int .i64 m, .int .i64 n] w fun e w' => e = .returned (.bool (covB (kn m) (kn n))) ∧ Below w0.heap.size w0 w' := by
  cases h : covB (kn m) (kn n)
  · exact covers_no m n w0 w hb h
  · exact covers_yes m n w0 w hb h

theorem ord_eq : ∀ x, x ≤ 3 → ∀ y, y ≤ 3 → FloatKind.f64.format.order (fb x) (fb y) = some (compare x y) := by
  intro x hx y hy
  have h1 : x = 0 ∨ x = 1 ∨ x = 2 ∨ x = 3 := by omega
  have h2 : y = 0 ∨ y = 1 ∨ y = 2 ∨ y = 3 := by omega
  rcases h1 with rfl | rfl | rfl | rfl <;> rcases h2 with rfl | rfl | rfl | rfl <;> decide +kernel
theorem run_max_fb (P : Program) (ts : Array TypeId) (t : TypeId) (x y : Nat) (hx : x ≤ 3) (hy : y ≤ 3) (w : World) :
    (Builtin.max_ ts t #[.float .f64 (fb x), .float .f64 (fb y)]).run P w = .ok (.float .f64 (fb (max x y))) w := by
  have ho := ord_eq x hx y hy
  rcases Nat.lt_trichotomy x y with h | h | h
  · have e : max x y = y := by omega
    rw [Nat.compare_eq_lt.2 h] at ho
    simp [Builtin.max_, Builtin.max2, ho, e]
  · subst h
    rw [Nat.compare_eq_eq.2 rfl] at ho
    simp [Builtin.max_, Builtin.max2, ho]
  · have e : max x y = x := by omega
    rw [Nat.compare_eq_gt.2 h] at ho
    simp [Builtin.max_, Builtin.max2, ho, e]

def supN (i j : Nat) : Nat := ofN (max (reN i) (reN j)) (max (imN i) (imN j))
theorem supN_le (i j : Nat) : supN i j ≤ 6 := by
  unfold supN ofN
  repeat' split
  all_goals omega
theorem sup_any (m n : Int) (w0 w : World) (hb : Below w0.heap.size w0 w) :
    Calls Tryz.prog 73 #[.int .i64 m, .int .i64 n] w fun e w' => e = .returned (.int .i64 (supN (kn m) (kn n) : Nat)) ∧ Below w0.heap.size w0 w' := by
  have hx := reN_le (kn m)
  have hy := imN_le (kn m)
  have hx' := reN_le (kn n)
  have hy' := imN_le (kn n)
  have m1 := fun ts t => run_max_fb Tryz.prog ts t _ _ hx hx'
  have m2 := fun ts t => run_max_fb Tryz.prog ts t (imN (kn m)) (imN (kn n)) (by omega) (by omega)
  go_enter Tryz.func73, Tryz.ntmps73
  go_wp2_with (first | (go_at_call 110; refine (acc (w0 := w0) (by assumption) (at_is _ _ _ (kn_le _) rfl)).mono ?_; rintro e w1 ⟨rfl, hb1⟩) | (go_at_call 123; refine (acc (w0 := w0) (by assumption) (of_any _ _ _ (by omega) (by omega))).mono ?_; rintro e w2 ⟨rfl, hb2⟩))
  go_ret
  exact ⟨rfl, by assumption⟩
end Go.Proofs.YtlhhopanegnliaaGreatDoor
/- The document's own answers on modes, and what a call gives from whatever later world. -/
namespace Go.Proofs.YtlhhopanegnliaaGreatDoor
open Go Go.RowKit

/-- a call gives a value, from whatever later world, and changes nothing that was there at first -/
def Gives (w0 : World) (f : Nat) (args : Array Value) (v : Value) : Prop :=
  ∀ w', Below w0.heap.size w0 w' → Calls Tryz.prog f args w' fun e w'' => e = .returned v ∧ Below w0.heap.size w0 w''
theorem Gives.use {w0 w' : World} {f : Nat} {args : Array Value} {v : Value} {Q : Ending → World → Prop} (h : Gives w0 f args v) (hb : Below w0.heap.size w0 w')
    (hq : ∀ w'', Below w0.heap.size w0 w'' → Q (.returned v) w'') : Calls Tryz.prog f args w' Q :=
  (h w' hb).mono fun _ w'' ⟨he, hb'⟩ => he ▸ hq w'' hb'
theorem rmay_yes (m : Int) (w : World) (h0 : 0 ≤ m) (h6 : m ≤ 6) :
    Calls Tryz.prog 75 #[.int .i64 m] w fun e w' => e = .returned (.bool true) ∧ w = w' := by
  go_enter Tryz.func75, Tryz.ntmps75
  go_wp2
  go_ret
  exact ⟨rfl, rfl⟩
theorem rmay_no (m : Int) (w : World) (h : ¬ (0 ≤ m ∧ m ≤ 6)) :
    Calls Tryz.prog 75 #[.int .i64 m] w fun e w' => e = .returned (.bool false) ∧ w = w' := by
  by_cases h0 : 0 ≤ m
  · have h6 : ¬ m ≤ 6 := fun q => h ⟨h0, q⟩
    clear h
    go_enter Tryz.func75, Tryz.ntmps75
    go_wp2
    go_ret
    exact ⟨rfl, rfl⟩
  · clear h
    go_enter Tryz.func75, Tryz.ntmps75
    go_wp2
    go_ret
    exact ⟨rfl, rfl⟩
theorem in_cases {m : Int} (h : 0 ≤ m ∧ m ≤ 6) : m = 0 ∨ m = 1 ∨ m = 2 ∨ m = 3 ∨ m = 4 ∨ m = 5 ∨ m = 6 := by omega

theorem rre_any (m : Int) (w : World) :
    Calls Tryz.prog 36 #[.int .i64 m] w fun e w' => e = .returned (.int .i64 (reN (kn m) : Nat)) ∧ Below w.heap.size w w' := by
  by_cases h : 0 ≤ m ∧ m ≤ 6
  · rcases in_cases h with rfl | rfl | rfl | rfl | rfl | rfl | rfl
    all_goals
      clear h
      go_enter Tryz.func36, Tryz.ntmps36
      go_wp2_with (go_at_call 75; refine (rmay_yes _ _ (by omega) (by omega)).mono ?_; rintro e w' ⟨rfl, rfl⟩)
      go_ret
      exact ⟨rfl, (Below.refl _ _).alloc (Nat.le_refl _) _⟩
  · rw [kn_out h]
    go_enter Tryz.func36, Tryz.ntmps36
    go_wp2_with (go_at_call 75; refine (rmay_no _ _ h).mono ?_; rintro e w' ⟨rfl, rfl⟩)
    go_ret
    exact ⟨rfl, (Below.refl _ _).alloc (Nat.le_refl _) _⟩
theorem rim_any (m : Int) (w : World) :
    Calls Tryz.prog 76 #[.int .i64 m] w fun e w' => e = .returned (.int .i64 (imN (kn m) : Nat)) ∧ Below w.heap.size w w' := by
  by_cases h : 0 ≤ m ∧ m ≤ 6
  · rcases in_cases h with rfl | rfl | rfl | rfl | rfl | rfl | rfl
    all_goals
      clear h
      go_enter Tryz.func76, Tryz.ntmps76
      go_wp2_with (go_at_call 75; refine (rmay_yes _ _ (by omega) (by omega)).mono ?_; rintro e w' ⟨rfl, rfl⟩)
      go_ret
      exact ⟨rfl, (Below.refl _ _).alloc (Nat.le_refl _) _⟩
  · rw [kn_out h]
    go_enter Tryz.func76, Tryz.ntmps76
    go_wp2_with (go_at_call 75; refine (rmay_no _ _ h).mono ?_; rintro e w' ⟨rfl, rfl⟩)
    go_ret
    exact ⟨rfl, (Below.refl _ _).alloc (Nat.le_refl _) _⟩
theorem rre_g {m : Int} {v : Nat} (w : World) (h : reN (kn m) = v) : Gives w 36 #[.int .i64 m] (.int .i64 (v : Nat)) := fun w' hb => by rw [← h]; exact acc hb (rre_any m w')
theorem rim_g {m : Int} {v : Nat} (w : World) (h : imN (kn m) = v) : Gives w 76 #[.int .i64 m] (.int .i64 (v : Nat)) := fun w' hb => by rw [← h]; exact acc hb (rim_any m w')
theorem rcov_any (m n : Int) (w0 w : World) (hb : Below w0.heap.size w0 w) :
    Calls Tryz.prog 39 #[.int .i64 m, .int .i64 n] w fun e w' => e = .returned (.bool (covB (kn m) (kn n))) ∧ Below w0.heap.size w0 w' := by
  unfold covB
  obtain ⟨a, ha⟩ : ∃ a, reN (kn m) = a := ⟨_, rfl⟩
  obtain ⟨b, hb'⟩ : ∃ b, imN (kn m) = b := ⟨_, rfl⟩
  obtain ⟨c, hc⟩ : ∃ c, reN (kn n) = c := ⟨_, rfl⟩
  obtain ⟨d, hd⟩ : ∃ d, imN (kn n) = d := ⟨_, rfl⟩
  have q1 : Gives w0 36 #[.int .i64 m] (.int .i64 (a : Nat)) := rre_g w0 ha
  have q2 : Gives w0 76 #[.int .i64 m] (.int .i64 (b : Nat)) := rim_g w0 hb'
  have q3 : Gives w0 36 #[.int .i64 n] (.int .i64 (c : Nat)) := rre_g w0 hc
  have q4 : Gives w0 76 #[.int .i64 n] (.int .i64 (d : Nat)) := rim_g w0 hd
  rw [ha, hb', hc, hd]
  clear ha hb' hc hd
  by_cases h1 : c ≤ a
  · have e1 : decide (c ≤ a) = true := by simpa using h1
    rw [e1, Bool.true_and]
    go_enter Tryz.func39, Tryz.ntmps39
    go_wp2_with ((first | go_at_call 36 | go_at_call 76); refine Gives.use (w0 := w0) (by with_reducible assumption) (by assumption) ?_; intro w1 hb1)
    go_ret
    exact ⟨rfl, by assumption⟩
  · have e1 : decide (c ≤ a) = false := by simpa using h1
    rw [e1, Bool.false_and]
    go_enter Tryz.func39, Tryz.ntmps39
    go_wp2_with ((first | go_at_call 36 | go_at_call 76); refine Gives.use (w0 := w0) (by with_reducible assumption) (by assumption) ?_; intro w1 hb1)
    go_ret
    exact ⟨rfl, by assumption⟩
theorem rcov_g {m n : Int} {b : Bool} (w : World) (h : covB (kn m) (kn n) = b) : Gives w 39 #[.int .i64 m, .int .i64 n] (.bool b) := fun w' hb => by rw [← h]; exact rcov_any m n w w' hb
def okB (t i j k : Nat) : Bool := !covB t i || !covB t j || covB t k
def partB (k i j t : Nat) : Bool := covB k i && covB k j && (List.range t).all (fun u => okB u i j k)
theorem partB_succ (k i j t : Nat) : partB k i j (t + 1) = (partB k i j t && okB t i j k) := by
  unfold partB
  rw [List.range_succ, List.all_append]
  simp [Bool.and_assoc]
theorem sup_least : ∀ i, i ≤ 6 → ∀ j, j ≤ 6 → partB (supN i j) i j 7 = true := by decide +kernel
theorem sup_first : ∀ i, i ≤ 6 → ∀ j, j ≤ 6 → ∀ k, k ≤ 6 → k < supN i j → partB k i j 7 = false := by decide +kernel

set_option maxRecDepth 100000 in
theorem rsup_any (m n : Int) (w0 w : World) (hb : Below w0.heap.size w0 w) :
    Calls Tryz.prog 38 #[.int .i64 m, .int .i64 n] w fun e w' => e = .returned (.int .i64 (supN (kn m) (kn n) : Nat)) ∧ Below w0.heap.size w0 w' := by
  have km := kn_le m
  have kk := kn_le n
  obtain ⟨S, hS⟩ : ∃ S : Nat, supN (kn m) (kn n) = S := ⟨_, rfl⟩
  have kS : S ≤ 6 := hS ▸ supN_le _ _
  have HL : Hid (partB S (kn m) (kn n) 7 = true) := by rw [← hS]; exact sup_least _ km _ kk
  have HF : Hid (∀ k, k < S → partB k (kn m) (kn n) 7 = false) := fun k hk => sup_first _ km _ kk k (by omega) (by omega)
  rw [hS]
  clear hS
  go_enter Tryz.func38, Tryz.ntmps38
  go_wp2
  go_loopw [5] (fun x wr => ∃ k : Nat, k ≤ S ∧ x = .int .i64 k ∧ Below w0.heap.size w0 wr) (fun x _ => 7 - (intOf x).toNat)
  case atStart => exact ⟨0, by omega, rfl, hb⟩
  case round =>
    obtain ⟨k, hk, rfl, hbr⟩ := hrel
    have hk6 : k ≤ 6 := by omega
    have nk : kn (k : Int) = k := kn_nat hk6
    have c1 : ∀ b, covB k (kn m) = b → Gives w0 39 #[.int .i64 (k : Nat), .int .i64 m] (.bool b) := fun b h => rcov_g w0 (by rw [nk, h])
    have c2 : ∀ b, covB k (kn n) = b → Gives w0 39 #[.int .i64 (k : Nat), .int .i64 n] (.bool b) := fun b h => rcov_g w0 (by rw [nk, h])
    have NK := Lib.hid nk
    clear nk
    obtain ⟨b1, h1⟩ : ∃ b, covB k (kn m) = b := ⟨_, rfl⟩
    obtain ⟨b2, h2⟩ : ∃ b, covB k (kn n) = b := ⟨_, rfl⟩
    have H0 : Hid (partB k (kn m) (kn n) 0 = (b1 && b2)) := by unfold partB; simp [h1, h2, Hid]
    replace c1 := c1 _ h1
    replace c2 := c2 _ h2
    clear h1 h2
    cases b1 <;> cases b2
    all_goals
      go_wp2_with (go_at_call 39; refine Gives.use (w0 := w0) (by with_reducible assumption) (by assumption) ?_; intro w1 hb1)
      go_loopw [6, 7] (fun x y wr => ∃ t : Nat, t ≤ 7 ∧ y = .int .i64 t ∧ x = .bool (partB k (kn m) (kn n) t) ∧ Below w0.heap.size w0 wr) (fun _ y _ => 7 - (intOf y).toNat)
      case atStart => exact ⟨0, by omega, rfl, by rw [H0.out]; rfl, by assumption⟩
      case round =>
        obtain ⟨t, ht, rfl, rfl, hbt⟩ := hrel
        by_cases ht6 : t ≤ 6
        · have nt : kn (t : Int) = t := kn_nat ht6
          have d1 : ∀ b, covB t (kn m) = b → Gives w0 39 #[.int .i64 (t : Nat), .int .i64 m] (.bool b) := fun b h => rcov_g w0 (by rw [nt, h])
          have d2 : ∀ b, covB t (kn n) = b → Gives w0 39 #[.int .i64 (t : Nat), .int .i64 n] (.bool b) := fun b h => rcov_g w0 (by rw [nt, h])
          have d3 : ∀ b, covB t k = b → Gives w0 39 #[.int .i64 (t : Nat), .int .i64 (k : Nat)] (.bool b) := fun b h => rcov_g w0 (by rw [nt, NK.out, h])
          clear nt
          obtain ⟨p, hp⟩ : ∃ p, partB k (kn m) (kn n) t = p := ⟨_, rfl⟩
          obtain ⟨e1, g1⟩ : ∃ b, covB t (kn m) = b := ⟨_, rfl⟩
          obtain ⟨e2, g2⟩ : ∃ b, covB t (kn n) = b := ⟨_, rfl⟩
          obtain ⟨e3, g3⟩ : ∃ b, covB t k = b := ⟨_, rfl⟩
          have HS : Hid (partB k (kn m) (kn n) (t + 1) = (p && (!e1 || !e2 || e3))) := by unfold Hid; rw [partB_succ, hp]; unfold okB; rw [g1, g2, g3]
          rw [hp]
          replace d1 := d1 _ g1
          replace d2 := d2 _ g2
          replace d3 := d3 _ g3
          clear hp g1 g2 g3
          rcases p with _ | _
          · go_wp2
            go_roundw
            case rel => exact ⟨t + 1, by omega, by go_num, by rw [HS.out]; rfl, by assumption⟩
            case measure => simp [intOf]; omega
          · rcases e1 with _ | _ <;> rcases e2 with _ | _
            all_goals
              go_wp2_with (go_at_call 39; refine Gives.use (w0 := w0) (by with_reducible assumption) (by assumption) ?_; intro w1 hb1)
              go_roundw
              case rel => exact ⟨t + 1, by omega, by go_num, by rw [HS.out]; simp, by assumption⟩
              case measure => simp [intOf]; omega
        · obtain rfl : t = 7 := by omega
          by_cases he : k = S
          · have hq := HL.out
            subst he
            rw [hq]
            clear hq
            go_wp2
            go_ret
            exact ⟨rfl, by assumption⟩
          · have hq := HF.out k (by omega)
            rw [hq]
            clear hq
            go_wp2
            go_roundw
            case rel => exact ⟨k + 1, by omega, by go_num, by assumption⟩
            case measure => simp [intOf]; omega
end Go.Proofs.YtlhhopanegnliaaGreatDoor
/- Which mode goes with which: the program's answers, out of its table, and the document's. -/
namespace Go.Proofs.YtlhhopanegnliaaGreatDoor
open Go Go.RowKit

theorem below_drewN {B : Nat} {a w : World} (h : Below B a w) (n : Nat) : Below B a (w.drewN n) := h.trans ⟨rfl, rfl, rfl, Nat.le_refl _, fun _ _ => rfl⟩
def goesN (i j : Nat) : Bool :=
  match i with
  | 0 => true
  | 1 => decide (j < 6)
  | 2 => decide (j < 3)
  | 3 => decide (j = 0 ∨ j = 1 ∨ j = 3 ∨ j = 5)
  | 4 => decide (j < 2)
  | 5 => decide (j < 2)
  | _ => decide (j = 0)
structure TabG (w : World) : Prop where
  size : 0 < w.heap.size
  cell : ∀ i j, i ≤ 6 → j ≤ 6 → w.cell? ⟨0, i * 7 + j, none⟩ = some (.bool (goesN i j))
theorem TabG.later {w0 w : World} (h : TabG w0) (hb : Below w0.heap.size w0 w) : TabG w :=
  ⟨Nat.lt_of_lt_of_le h.size hb.size, fun i j hi hj => by rw [hb.cell (p := ⟨0, i * 7 + j, none⟩) h.size]; exact h.cell i j hi hj⟩

theorem compat_any (m n : Int) (w0 w : World) (ht : TabG w0) (hb : Below w0.heap.size w0 w) :
    Calls Tryz.prog 228 #[.int .i64 m, .int .i64 n] w fun e w' => e = .returned (.bool (goesN (kn m) (kn n))) ∧ Below w0.heap.size w0 w' := by
  have hc := (ht.later hb).cell (kn m) (kn n) (kn_le m) (kn_le n)
  have i1 : ((kn m : Nat) : Int) < 7 := by have := kn_le m; omega
  have i2 : ((kn n : Nat) : Int) < 7 := by have := kn_le n; omega
  have j1 : kn m < 7 := by omega
  have j2 : kn n < 7 := by omega
  go_enter Tryz.func228, Tryz.ntmps228
  go_wp2
  go_quiet ((go_at_call 122; exact Calls.quiet_of_same ((known_any _ _).mono fun _ _ ⟨a, b⟩ => ⟨a, b.symm⟩)))
  go_wp2
  go_ret
  exact ⟨rfl, below_drewN hb _⟩
theorem compat_is (m n : Int) (b : Bool) (w0 w : World) (ht : TabG w0) (hb : Below w0.heap.size w0 w) (h : goesN (kn m) (kn n) = b) :
    Calls Tryz.prog 228 #[.int .i64 m, .int .i64 n] w fun e w' => e = .returned (.bool b) ∧ Below w0.heap.size w0 w' := by
  subst h; exact compat_any m n w0 w ht hb
theorem com_g {m n : Int} {b : Bool} {w : World} (ht : TabG w) (h : goesN (kn m) (kn n) = b) : Gives w 228 #[.int .i64 m, .int .i64 n] (.bool b) := fun w' hb => compat_is m n _ w w' ht hb h
def symB (i j : Nat) : Bool := goesN i j || goesN j i
theorem goes_none (j : Nat) : goesN 0 j = true := rfl
theorem goes_to_none : ∀ i, i ≤ 6 → goesN i 0 = true := by decide +kernel
theorem rcompat_any (m n : Int) (w : World) :
    Calls Tryz.prog 199 #[.int .i64 m, .int .i64 n] w fun e w' => e = .returned (.bool (goesN (kn m) (kn n))) ∧ w = w' := by
  by_cases h : 0 ≤ m ∧ m ≤ 6
  · by_cases g : 0 ≤ n ∧ n ≤ 6
    · have y1 := fun w => rmay_yes m w h.1 h.2
      have y2 := fun w => rmay_yes n w g.1 g.2
      rcases in_cases h with rfl | rfl | rfl | rfl | rfl | rfl | rfl <;> rcases in_cases g with rfl | rfl | rfl | rfl | rfl | rfl | rfl
      all_goals
        clear h g
        go_enter Tryz.func199, Tryz.ntmps199
        go_wp2_with (go_at_call 75; first | ((with_reducible refine (y1 _).mono ?_); rintro e w' ⟨rfl, rfl⟩) | ((with_reducible refine (y2 _).mono ?_); rintro e w' ⟨rfl, rfl⟩))
        go_ret
        exact ⟨rfl, rfl⟩
    · have y1 := fun w => rmay_yes m w h.1 h.2
      have y2 := fun w => rmay_no n w g
      rw [kn_out g, goes_to_none _ (kn_le m)]
      clear h g
      go_enter Tryz.func199, Tryz.ntmps199
      go_wp2_with (go_at_call 75; first | ((with_reducible refine (y1 _).mono ?_); rintro e w' ⟨rfl, rfl⟩) | ((with_reducible refine (y2 _).mono ?_); rintro e w' ⟨rfl, rfl⟩))
      go_ret
      exact ⟨rfl, rfl⟩
  · have y1 := fun w => rmay_no m w h
    rw [kn_out h, goes_none]
    clear h
    go_enter Tryz.func199, Tryz.ntmps199
    go_wp2_with (go_at_call 75; (with_reducible refine (y1 _).mono ?_); rintro e w' ⟨rfl, rfl⟩)
    go_ret
    exact ⟨rfl, rfl⟩
theorem rcom_g {m n : Int} {b : Bool} (w : World) (h : goesN (kn m) (kn n) = b) : Gives w 199 #[.int .i64 m, .int .i64 n] (.bool b) := fun w' hb => by rw [← h]; exact acc_same hb (rcompat_any m n w')
end Go.Proofs.YtlhhopanegnliaaGreatDoor
