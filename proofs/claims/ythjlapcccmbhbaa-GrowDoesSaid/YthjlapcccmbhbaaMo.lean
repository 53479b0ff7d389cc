/- The contracts of the program's functions on modes: plain tables on numbers up to six, and what each call gives by them. -/
import Derived.Test.YthjlapcccmbhbaaProg
import Derived.WalkKit
import Derived.WalkLawsBesides
import Derived.Deep.QuietTactic
import Derived.BigQuiet
import Derived.WalkSmall
import Derived.KernelRfl
import Derived.Lib.Hide
namespace Go.Proofs.Ythjlapcccmbhbaa
open Go Go.RowKit

/-- what is no mode counts as the first one -/
def kn (m : Int) : Nat := if 0 ≤ m ∧ m ≤ 6 then m.toNat else 0
theorem kn_le (m : Int) : kn m ≤ 6 := by unfold kn; split <;> omega
theorem kn_in {m : Int} (h0 : 0 ≤ m) (h6 : m ≤ 6) : ((kn m : Nat) : Int) = m := by unfold kn; rw [if_pos ⟨h0, h6⟩]; omega
theorem kn_out {m : Int} (h : ¬ (0 ≤ m ∧ m ≤ 6)) : kn m = 0 := by unfold kn; rw [if_neg h]
theorem ret_int {k : IntKind} {a b : Int} (h : a = b) : Ending.returned (.int k a) = .returned (.int k b) := by rw [h]

/-- the parts of the points, as the bits of a number -/
def fb : Nat → Nat
  | 0 => 0
  | 1 => 4607182418800017408
  | 2 => 4611686018427387904
  | _ => 4613937818241073152
def reN : Nat → Nat
  | 3 => 1
  | 4 => 1
  | 5 => 2
  | 6 => 3
  | _ => 0
def imN : Nat → Nat
  | 1 => 1
  | 2 => 2
  | 3 => 1
  | 4 => 2
  | 5 => 1
  | 6 => 2
  | _ => 0

theorem may_yes (m : Int) (w : World) (h0 : 0 ≤ m) (h6 : m ≤ 6) :
    Calls Try.prog 75 #[.int .i64 m] w fun e w' => e = .returned (.bool true) ∧ w = w' := by
  go_enter Try.func75, Try.ntmps75
  go_wp2
  go_ret
  exact ⟨rfl, rfl⟩
theorem may_no (m : Int) (w : World) (h : ¬ (0 ≤ m ∧ m ≤ 6)) :
    Calls Try.prog 75 #[.int .i64 m] w fun e w' => e = .returned (.bool false) ∧ w = w' := by
  by_cases h0 : 0 ≤ m
  · have h6 : ¬ m ≤ 6 := fun q => h ⟨h0, q⟩
    clear h
    go_enter Try.func75, Try.ntmps75
    go_wp2
    go_ret
    exact ⟨rfl, rfl⟩
  · clear h
    go_enter Try.func75, Try.ntmps75
    go_wp2
    go_ret
    exact ⟨rfl, rfl⟩

theorem known_any (m : Int) (w : World) :
    Calls Try.prog 69 #[.int .i64 m] w fun e w' => e = .returned (.int .i64 (kn m : Nat)) ∧ w = w' := by
  by_cases h : 0 ≤ m ∧ m ≤ 6
  · have e := kn_in h.1 h.2
    rw [e]
    clear e
    obtain ⟨h0, h6⟩ := h
    go_enter Try.func69, Try.ntmps69
    go_wp2_with (go_at_call 75; refine (may_yes _ _ h0 h6).mono ?_; rintro e w' ⟨rfl, rfl⟩)
    go_ret
    exact ⟨rfl, rfl⟩
  · rw [kn_out h]
    go_enter Try.func69, Try.ntmps69
    go_wp2_with (go_at_call 75; refine (may_no _ _ h).mono ?_; rintro e w' ⟨rfl, rfl⟩)
    go_ret
    exact ⟨rfl, rfl⟩

theorem kn_cases (m : Int) : kn m = 0 ∨ kn m = 1 ∨ kn m = 2 ∨ kn m = 3 ∨ kn m = 4 ∨ kn m = 5 ∨ kn m = 6 := by have := kn_le m; omega

abbrev pt (j : Nat) : Value := .complex .f64 (fb (reN j)) (fb (imN j))

@[go_sem] theorem run_store_complex (P : Program) (w : World) (a : Addr) (m : Mode) (k : FloatKind) (x y : Nat) : (store a (.complex k x y) m).run P w = stored P w a (.complex k x y) m := run_store P w a _ m rfl

/-- the look of one point: which of the seven it is has been settled -/
theorem at_is (m : Int) (w : World) (j : Nat) (hj : j ≤ 6) (h : kn m = j) :
    Calls Try.prog 56 #[.int .i64 m] w fun e w' => e = .returned (pt j) ∧ Below w.heap.size w w' := by
  have hk : ∀ w : World, Calls Try.prog 69 #[.int .i64 m] w fun e w' => e = .returned (.int .i64 (j : Nat)) ∧ w = w' := by rw [← h]; exact known_any m
  clear h
  have hc : j = 0 ∨ j = 1 ∨ j = 2 ∨ j = 3 ∨ j = 4 ∨ j = 5 ∨ j = 6 := by omega
  clear hj
  rcases hc with rfl | rfl | rfl | rfl | rfl | rfl | rfl
  all_goals
    go_enter Try.func56, Try.ntmps56
    go_wp2_with (go_at_call 69; refine (hk _).mono ?_; rintro e w' ⟨rfl, rfl⟩)
    go_ret
    exact ⟨rfl, (Below.refl _ _).alloc (Nat.le_refl _) _⟩
end Go.Proofs.Ythjlapcccmbhbaa
/- The contracts of the program's functions on modes, the second part: which point reaches which, the mode of a point, what covers two. -/
namespace Go.Proofs.Ythjlapcccmbhbaa
open Go Go.RowKit

def geB (x y : Nat) : Bool := FloatKind.f64.format.order (fb x) (fb y) == some .gt || FloatKind.f64.format.order (fb x) (fb y) == some .eq
theorem geB_eq : ∀ x, x ≤ 3 → ∀ y, y ≤ 3 → geB x y = decide (y ≤ x) := by
  intro x hx y hy
  have h1 : x = 0 ∨ x = 1 ∨ x = 2 ∨ x = 3 := by omega
  have h2 : y = 0 ∨ y = 1 ∨ y = 2 ∨ y = 3 := by omega
  rcases h1 with rfl | rfl | rfl | rfl <;> rcases h2 with rfl | rfl | rfl | rfl <;> decide +kernel
theorem ge_yes {x y : Nat} (hx : x ≤ 3) (h : y ≤ x) : (FloatKind.f64.format.order (fb x) (fb y) == some .gt || FloatKind.f64.format.order (fb x) (fb y) == some .eq) = true := by
  have := geB_eq x hx y (by omega)
  unfold geB at this
  rw [this]; simpa using h
theorem ge_no {x y : Nat} (hx : x ≤ 3) (hy : y ≤ 3) (h : ¬ y ≤ x) : (FloatKind.f64.format.order (fb x) (fb y) == some .gt || FloatKind.f64.format.order (fb x) (fb y) == some .eq) = false := by
  have := geB_eq x hx y hy
  unfold geB at this
  rw [this]; simpa using h
theorem reN_le (j : Nat) : reN j ≤ 3 := by unfold reN; split <;> omega
theorem imN_le (j : Nat) : imN j ≤ 2 := by unfold imN; split <;> omega

theorem reaches_yes (x y a b : Nat) (w : World) (hx : x ≤ 3) (hy : y ≤ 3) (h1 : a ≤ x) (h2 : b ≤ y) :
    Calls Try.prog 68 #[.complex .f64 (fb x) (fb y), .complex .f64 (fb a) (fb b)] w fun e w' => e = .returned (.bool true) ∧ w = w' := by
  have g1 := ge_yes hx h1
  have g2 := ge_yes hy h2
  go_enter Try.func68, Try.ntmps68
  go_wp2
  go_ret
  exact ⟨rfl, rfl⟩
theorem reaches_no (x y a b : Nat) (w : World) (hx : x ≤ 3) (hy : y ≤ 3) (ha : a ≤ 3) (hb : b ≤ 3) (h : ¬ (a ≤ x ∧ b ≤ y)) :
    Calls Try.prog 68 #[.complex .f64 (fb x) (fb y), .complex .f64 (fb a) (fb b)] w fun e w' => e = .returned (.bool false) ∧ w = w' := by
  by_cases h1 : a ≤ x
  · have g1 := ge_yes hx h1
    have g2 := ge_no hy hb (fun q => h ⟨h1, q⟩)
    clear h
    go_enter Try.func68, Try.ntmps68
    go_wp2
    go_ret
    exact ⟨rfl, rfl⟩
  · have g1 := ge_no hx ha h1
    clear h
    go_enter Try.func68, Try.ntmps68
    go_wp2
    go_ret
    exact ⟨rfl, rfl⟩

def reachB (j a b : Nat) : Bool := decide (a ≤ reN j) && decide (b ≤ imN j)
def ofN (a b : Nat) : Nat :=
  if reachB 0 a b then 0 else if reachB 1 a b then 1 else if reachB 2 a b then 2 else if reachB 3 a b then 3 else if reachB 4 a b then 4 else if reachB 5 a b then 5 else 6
theorem ofN_hit {k a b : Nat} (hk : k < 6) (h : ∀ j, j < k → reachB j a b = false) (hb : reachB k a b = true) : ofN a b = k := by
  have h0 := h 0
  have h1 := h 1
  have h2 := h 2
  have h3 := h 3
  have h4 := h 4
  have hc : k = 0 ∨ k = 1 ∨ k = 2 ∨ k = 3 ∨ k = 4 ∨ k = 5 := by omega
  unfold ofN
  rcases hc with rfl | rfl | rfl | rfl | rfl | rfl <;> simp_all
theorem ofN_miss {a b : Nat} (h : ∀ j, j < 6 → reachB j a b = false) : ofN a b = 6 := by
  unfold ofN
  simp [h 0 (by omega), h 1 (by omega), h 2 (by omega), h 3 (by omega), h 4 (by omega), h 5 (by omega)]
theorem kn_nat {k : Nat} (h : k ≤ 6) : kn (k : Int) = k := by unfold kn; rw [if_pos ⟨by omega, by omega⟩]; omega
def NotYet (k a b : Nat) : Prop := ∀ j, j < k → reachB j a b = false

theorem of_any (a b : Nat) (w : World) (ha : a ≤ 3) (hb : b ≤ 3) :
    Calls Try.prog 57 #[.complex .f64 (fb a) (fb b)] w fun e w' => e = .returned (.int .i64 (ofN a b : Nat)) ∧ Below w.heap.size w w' := by
  go_enter Try.func57, Try.ntmps57
  go_wp2
  go_loopw [3] (fun i wr => ∃ k : Nat, k ≤ 6 ∧ i = .int .i64 k ∧ NotYet k a b ∧ Below w.heap.size w wr) (fun i _ => 6 - (intOf i).toNat)
  case atStart => exact ⟨0, by omega, rfl, fun j hj => absurd hj (by omega), Below.refl _ _⟩
  case round =>
    obtain ⟨k, hk, rfl, hn, hbl⟩ := hrel
    have hx := reN_le k
    have hy := imN_le k
    have hz := hbl.size
    by_cases hlt : k < 6
    · by_cases hr : reachB k a b = true
      · have h1 : a ≤ reN k := by have := hr; unfold reachB at this; simp at this; exact this.1
        have h2 : b ≤ imN k := by have := hr; unfold reachB at this; simp at this; exact this.2
        have HV := Lib.hid (ofN_hit hlt hn hr)
        clear hr
        go_wp2_with (first | (go_at_call 56; refine (at_is _ _ k (by omega) (kn_nat hk)).mono ?_; rintro e w1 ⟨rfl, hb1⟩) | (go_at_call 68; refine (reaches_yes _ _ _ _ _ hx (by omega) h1 h2).mono ?_; rintro e w2 ⟨rfl, rfl⟩))
        go_ret
        exact ⟨ret_int (by rw [HV.out]), hbl.trans (hb1.mono hz)⟩
      · have hr' : ¬ (a ≤ reN k ∧ b ≤ imN k) := fun h => hr (by unfold reachB; simp [h.1, h.2])
        have hf : reachB k a b = false := by simpa using hr
        have HN : Hid (NotYet (k + 1) a b) := fun j hj => by
          rcases Nat.lt_or_ge j k with h | h
          · exact hn j h
          · obtain rfl : k = j := by omega
            exact hf
        clear hr hf
        go_wp2_with (first | (go_at_call 56; refine (at_is _ _ k (by omega) (kn_nat hk)).mono ?_; rintro e w1 ⟨rfl, hb1⟩) | (go_at_call 68; refine (reaches_no _ _ _ _ _ hx (by omega) ha hb hr').mono ?_; rintro e w2 ⟨rfl, rfl⟩))
        go_roundw
        case rel => exact ⟨k + 1, by omega, by go_num, HN.out, hbl.trans (hb1.mono hz)⟩
        case measure => simp [intOf]; omega
    · obtain rfl : k = 6 := by omega
      have HV := Lib.hid (ofN_miss hn)
      go_wp2
      go_ret
      exact ⟨ret_int (by rw [HV.out]; rfl), hbl⟩


/-- what a call leaves, told from an earlier world on -/
theorem acc {P : Program} {f : Nat} {args : Array Value} {w w0 : World} {E : Ending} (hb : Below w0.heap.size w0 w)
    (h : Calls P f args w fun e w' => e = E ∧ Below w.heap.size w w') : Calls P f args w fun e w' => e = E ∧ Below w0.heap.size w0 w' :=
  h.mono fun _ _ ⟨he, h'⟩ => ⟨he, hb.trans (h'.mono hb.size)⟩
theorem acc_same {P : Program} {f : Nat} {args : Array Value} {w w0 : World} {E : Ending} (hb : Below w0.heap.size w0 w)
    (h : Calls P f args w fun e w' => e = E ∧ w = w') : Calls P f args w fun e w' => e = E ∧ Below w0.heap.size w0 w' :=
  h.mono fun _ _ ⟨he, h'⟩ => ⟨he, h' ▸ hb⟩

def covB (i j : Nat) : Bool := decide (reN j ≤ reN i) && decide (imN j ≤ imN i)
theorem covers_yes (m n : Int) (w0 w : World) (hb : Below w0.heap.size w0 w) (h : covB (kn m) (kn n) = true) :
    Calls Try.prog 48 #[.int .i64 m, .int .i64 n] w fun e w' => e = .returned (.bool true) ∧ Below w0.heap.size w0 w' := by
  have h1 : reN (kn n) ≤ reN (kn m) := by have := h; unfold covB at this; simp at this; exact this.1
  have h2 : imN (kn n) ≤ imN (kn m) := by have := h; unfold covB at this; simp at this; exact this.2
  clear h
  have hx := reN_le (kn m)
  have hy := imN_le (kn m)
  go_enter Try.func48, Try.ntmps48
  go_wp2_with (first | (go_at_call 56; refine (acc (w0 := w0) (by assumption) (at_is _ _ _ (kn_le _) rfl)).mono ?_; rintro e w1 ⟨rfl, hb1⟩) | (go_at_call 68; refine (reaches_yes _ _ _ _ _ hx (by omega) h1 h2).mono ?_; rintro e w2 ⟨rfl, rfl⟩))
  go_ret
  exact ⟨rfl, by assumption⟩
theorem covers_no (m n : Int) (w0 w : World) (hb : Below w0.heap.size w0 w) (h : covB (kn m) (kn n) = false) :
    Calls Try.prog 48 #[.int .i64 m, .int .i64 n] w fun e w' => e = .returned (.bool false) ∧ Below w0.heap.size w0 w' := by
  have h1 : ¬ (reN (kn n) ≤ reN (kn m) ∧ imN (kn n) ≤ imN (kn m)) := by
    rintro ⟨p, q⟩
    unfold covB at h
    simp [p, q] at h
  clear h
  have hx := reN_le (kn m)
  have hy := imN_le (kn m)
  have hx' := reN_le (kn n)
  have hy' := imN_le (kn n)
  go_enter Try.func48, Try.ntmps48
  go_wp2_with (first | (go_at_call 56; refine (acc (w0 := w0) (by assumption) (at_is _ _ _ (kn_le _) rfl)).mono ?_; rintro e w1 ⟨rfl, hb1⟩) | (go_at_call 68; refine (reaches_no _ _ _ _ _ hx (by omega) hx' (by omega) h1).mono ?_; rintro e w2 ⟨rfl, rfl⟩))
  go_ret
  exact ⟨rfl, by assumption⟩
theorem covers_any (m n : Int) (w0 w : World) (hb : Below w0.heap.size w0 w) :
    Calls Try.prog 48 #[.int .i64 m, .int .i64 n] w fun e w' => e = .returned (.bool (covB (kn m) (kn n))) ∧ Below w0.heap.size w0 w' := by
  cases h : covB (kn m) (kn n)
  · exact covers_no m n w0 w hb h
  · exact covers_yes m n w0 w hb h

theorem ord_eq : ∀ x, x ≤ 3 → ∀ y, y ≤ 3 → FloatKind.f64.format.order (fb x) (fb y) = some (compare x y) := by
  intro x hx y hy
  have h1 : x = 0 ∨ x = 1 ∨ x = 2 ∨ x = 3 := by omega
  have h2 : y = 0 ∨ y = 1 ∨ y = 2 ∨ y = 3 := by omega
  rcases h1 with rfl | rfl | rfl | rfl <;> rcases h2 with rfl | rfl | rfl | rfl <;> decide +kernel
theorem run_max_fb (P : Program) (ts : Array TypeId) (t : TypeId) (x y : Nat) (hx : x ≤ 3) (hy : y ≤ 3) (w : World) :
    (Builtin.max_ ts t #[.float .f64 (fb x), .float .f64 (fb y)]).run P w = .ok (.float .f64 (fb (max x y))) w := by
  have ho := ord_eq x hx y hy
  rcases Nat.lt_trichotomy x y with h | h | h
  · have e : max x y = y := by omega
    rw [Nat.compare_eq_lt.2 h] at ho
    simp [Builtin.max_, Builtin.max2, ho, e]
  · subst h
    rw [Nat.compare_eq_eq.2 rfl] at ho
    simp [Builtin.max_, Builtin.max2, ho]
  · have e : max x y = x := by omega
    rw [Nat.compare_eq_gt.2 h] at ho
    simp [Builtin.max_, Builtin.max2, ho, e]

def supN (i j : Nat) : Nat := ofN (max (reN i) (reN j)) (max (imN i) (imN j))
theorem supN_le (i j : Nat) : supN i j ≤ 6 := by
  unfold supN ofN
  repeat' split
  all_goals omega
theorem sup_any (m n : Int) (w0 w : World) (hb : Below w0.heap.size w0 w) :
    Calls Try.prog 29 #[.int .i64 m, .int .i64 n] w fun e w' => e = .returned (.int .i64 (supN (kn m) (kn n) : Nat)) ∧ Below w0.heap.size w0 w' := by
  have hx := reN_le (kn m)
  have hy := imN_le (kn m)
  have hx' := reN_le (kn n)
  have hy' := imN_le (kn n)
  have m1 := fun ts t => run_max_fb Try.prog ts t _ _ hx hx'
  have m2 := fun ts t => run_max_fb Try.prog ts t (imN (kn m)) (imN (kn n)) (by omega) (by omega)
  go_enter Try.func29, Try.ntmps29
  go_wp2_with (first | (go_at_call 56; refine (acc (w0 := w0) (by assumption) (at_is _ _ _ (kn_le _) rfl)).mono ?_; rintro e w1 ⟨rfl, hb1⟩) | (go_at_call 57; refine (acc (w0 := w0) (by assumption) (of_any _ _ _ (by omega) (by omega))).mono ?_; rintro e w2 ⟨rfl, hb2⟩))
  go_ret
  exact ⟨rfl, by assumption⟩
end Go.Proofs.Ythjlapcccmbhbaa
/- The document's own answers on modes, and what a call gives from whatever later world. -/
namespace Go.Proofs.Ythjlapcccmbhbaa
open Go Go.RowKit

/-- a call gives a value, from whatever later world, and changes nothing that was there at first -/
def Gives (w0 : World) (f : Nat) (args : Array Value) (v : Value) : Prop :=
  ∀ w', Below w0.heap.size w0 w' → Calls Try.prog f args w' fun e w'' => e = .returned v ∧ Below w0.heap.size w0 w''
theorem Gives.use {w0 w' : World} {f : Nat} {args : Array Value} {v : Value} {Q : Ending → World → Prop} (h : Gives w0 f args v) (hb : Below w0.heap.size w0 w')
    (hq : ∀ w'', Below w0.heap.size w0 w'' → Q (.returned v) w'') : Calls Try.prog f args w' Q :=
  (h w' hb).mono fun _ w'' ⟨he, hb'⟩ => he ▸ hq w'' hb'
theorem rmay_yes (m : Int) (w : World) (h0 : 0 ≤ m) (h6 : m ≤ 6) :
    Calls Try.prog 53 #[.int .i64 m] w fun e w' => e = .returned (.bool true) ∧ w = w' := by
  go_enter Try.func53, Try.ntmps53
  go_wp2
  go_ret
  exact ⟨rfl, rfl⟩
theorem rmay_no (m : Int) (w : World) (h : ¬ (0 ≤ m ∧ m ≤ 6)) :
    Calls Try.prog 53 #[.int .i64 m] w fun e w' => e = .returned (.bool false) ∧ w = w' := by
  by_cases h0 : 0 ≤ m
  · have h6 : ¬ m ≤ 6 := fun q => h ⟨h0, q⟩
    clear h
    go_enter Try.func53, Try.ntmps53
    go_wp2
    go_ret
    exact ⟨rfl, rfl⟩
  · clear h
    go_enter Try.func53, Try.ntmps53
    go_wp2
    go_ret
    exact ⟨rfl, rfl⟩
theorem in_cases {m : Int} (h : 0 ≤ m ∧ m ≤ 6) : m = 0 ∨ m = 1 ∨ m = 2 ∨ m = 3 ∨ m = 4 ∨ m = 5 ∨ m = 6 := by omega

theorem rre_any (m : Int) (w : World) :
    Calls Try.prog 22 #[.int .i64 m] w fun e w' => e = .returned (.int .i64 (reN (kn m) : Nat)) ∧ Below w.heap.size w w' := by
  by_cases h : 0 ≤ m ∧ m ≤ 6
  · rcases in_cases h with rfl | rfl | rfl | rfl | rfl | rfl | rfl
    all_goals
      clear h
      go_enter Try.func22, Try.ntmps22
      go_wp2_with (go_at_call 53; refine (rmay_yes _ _ (by omega) (by omega)).mono ?_; rintro e w' ⟨rfl, rfl⟩)
      go_ret
      exact ⟨rfl, (Below.refl _ _).alloc (Nat.le_refl _) _⟩
  · rw [kn_out h]
    go_enter Try.func22, Try.ntmps22
    go_wp2_with (go_at_call 53; refine (rmay_no _ _ h).mono ?_; rintro e w' ⟨rfl, rfl⟩)
    go_ret
    exact ⟨rfl, (Below.refl _ _).alloc (Nat.le_refl _) _⟩
theorem rim_any (m : Int) (w : World) :
    Calls Try.prog 54 #[.int .i64 m] w fun e w' => e = .returned (.int .i64 (imN (kn m) : Nat)) ∧ Below w.heap.size w w' := by
  by_cases h : 0 ≤ m ∧ m ≤ 6
  · rcases in_cases h with rfl | rfl | rfl | rfl | rfl | rfl | rfl
    all_goals
      clear h
      go_enter Try.func54, Try.ntmps54
      go_wp2_with (go_at_call 53; refine (rmay_yes _ _ (by omega) (by omega)).mono ?_; rintro e w' ⟨rfl, rfl⟩)
      go_ret
      exact ⟨rfl, (Below.refl _ _).alloc (Nat.le_refl _) _⟩
  · rw [kn_out h]
    go_enter Try.func54, Try.ntmps54
    go_wp2_with (go_at_call 53; refine (rmay_no _ _ h).mono ?_; rintro e w' ⟨rfl, rfl⟩)
    go_ret
    exact ⟨rfl, (Below.refl _ _).alloc (Nat.le_refl _) _⟩
theorem rre_g {m : Int} {v : Nat} (w : World) (h : reN (kn m) = v) : Gives w 22 #[.int .i64 m] (.int .i64 (v : Nat)) := fun w' hb => by rw [← h]; exact acc hb (rre_any m w')
theorem rim_g {m : Int} {v : Nat} (w : World) (h : imN (kn m) = v) : Gives w 54 #[.int .i64 m] (.int .i64 (v : Nat)) := fun w' hb => by rw [← h]; exact acc hb (rim_any m w')
theorem rcov_any (m n : Int) (w0 w : World) (hb : Below w0.heap.size w0 w) :
    Calls Try.prog 23 #[.int .i64 m, .int .i64 n] w fun e w' => e = .returned (.bool (covB (kn m) (kn n))) ∧ Below w0.heap.size w0 w' := by
  unfold covB
  obtain ⟨a, ha⟩ : ∃ a, reN (kn m) = a := ⟨_, rfl⟩
  obtain ⟨b, hb'⟩ : ∃ b, imN (kn m) = b := ⟨_, rfl⟩
  obtain ⟨c, hc⟩ : ∃ c, reN (kn n) = c := ⟨_, rfl⟩
  obtain ⟨d, hd⟩ : ∃ d, imN (kn n) = d := ⟨_, rfl⟩
  have q1 : Gives w0 22 #[.int .i64 m] (.int .i64 (a : Nat)) := rre_g w0 ha
  have q2 : Gives w0 54 #[.int .i64 m] (.int .i64 (b : Nat)) := rim_g w0 hb'
  have q3 : Gives w0 22 #[.int .i64 n] (.int .i64 (c : Nat)) := rre_g w0 hc
  have q4 : Gives w0 54 #[.int .i64 n] (.int .i64 (d : Nat)) := rim_g w0 hd
  rw [ha, hb', hc, hd]
  clear ha hb' hc hd
  by_cases h1 : c ≤ a
  · have e1 : decide (c ≤ a) = true := by simpa using h1
    rw [e1, Bool.true_and]
    go_enter Try.func23, Try.ntmps23
    go_wp2_with ((first | go_at_call 22 | go_at_call 54); refine Gives.use (w0 := w0) (by with_reducible assumption) (by assumption) ?_; intro w1 hb1)
    go_ret
    exact ⟨rfl, by assumption⟩
  · have e1 : decide (c ≤ a) = false := by simpa using h1
    rw [e1, Bool.false_and]
    go_enter Try.func23, Try.ntmps23
    go_wp2_with ((first | go_at_call 22 | go_at_call 54); refine Gives.use (w0 := w0) (by with_reducible assumption) (by assumption) ?_; intro w1 hb1)
    go_ret
    exact ⟨rfl, by assumption⟩
theorem rcov_g {m n : Int} {b : Bool} (w : World) (h : covB (kn m) (kn n) = b) : Gives w 23 #[.int .i64 m, .int .i64 n] (.bool b) := fun w' hb => by rw [← h]; exact rcov_any m n w w' hb
def okB (t i j k : Nat) : Bool := !covB t i || !covB t j || covB t k
def partB (k i j t : Nat) : Bool := covB k i && covB k j && (List.range t).all (fun u => okB u i j k)
theorem partB_succ (k i j t : Nat) : partB k i j (t + 1) = (partB k i j t && okB t i j k) := by
  unfold partB
  rw [List.range_succ, List.all_append]
  simp [Bool.and_assoc]
theorem sup_least : ∀ i, i ≤ 6 → ∀ j, j ≤ 6 → partB (supN i j) i j 7 = true := by decide +kernel
theorem sup_first : ∀ i, i ≤ 6 → ∀ j, j ≤ 6 → ∀ k, k ≤ 6 → k < supN i j → partB k i j 7 = false := by decide +kernel

end Go.Proofs.Ythjlapcccmbhbaa
/- Which mode goes with which: the program's answers, out of its table, and the document's. -/
namespace Go.Proofs.Ythjlapcccmbhbaa
open Go Go.RowKit

theorem below_drewN {B : Nat} {a w : World} (h : Below B a w) (n : Nat) : Below B a (w.drewN n) := h.trans ⟨rfl, rfl, rfl, Nat.le_refl _, fun _ _ => rfl⟩
def goesN (i j : Nat) : Bool :=
  match i with
  | 0 => true
  | 1 => decide (j < 6)
  | 2 => decide (j < 3)
  | 3 => decide (j = 0 ∨ j = 1 ∨ j = 3 ∨ j = 5)
  | 4 => decide (j < 2)
  | 5 => decide (j < 2)
  | _ => decide (j = 0)
structure TabG (w : World) : Prop where
  size : 0 < w.heap.size
  cell : ∀ i j, i ≤ 6 → j ≤ 6 → w.cell? ⟨0, i * 7 + j, none⟩ = some (.bool (goesN i j))
theorem TabG.later {w0 w : World} (h : TabG w0) (hb : Below w0.heap.size w0 w) : TabG w :=
  ⟨Nat.lt_of_lt_of_le h.size hb.size, fun i j hi hj => by rw [hb.cell (p := ⟨0, i * 7 + j, none⟩) h.size]; exact h.cell i j hi hj⟩

def symB (i j : Nat) : Bool := goesN i j || goesN j i
theorem goes_none (j : Nat) : goesN 0 j = true := rfl
theorem goes_to_none : ∀ i, i ≤ 6 → goesN i 0 = true := by decide +kernel
end Go.Proofs.Ythjlapcccmbhbaa
