/- The walk of the law on the lattice: whatever the three numbers are, it returns true and changes nothing that was there. -/
import Derived.Test.YtagbfonmeolnjaaDoorA3
namespace Go.Proofs.YtagbfonmeolnjaaDoor
open Go Go.RowKit

/-- a call gives a value, from whatever later world, and changes nothing that was there at first -/
def Gives (w0 : World) (f : Nat) (args : Array Value) (v : Value) : Prop :=
  ∀ w', Below w0.heap.size w0 w' → Calls Tryd.prog f args w' fun e w'' => e = .returned v ∧ Below w0.heap.size w0 w''
theorem Gives.use {w0 w' : World} {f : Nat} {args : Array Value} {v : Value} {Q : Ending → World → Prop} (h : Gives w0 f args v) (hb : Below w0.heap.size w0 w')
    (hq : ∀ w'', Below w0.heap.size w0 w'' → Q (.returned v) w'') : Calls Tryd.prog f args w' Q :=
  (h w' hb).mono fun _ w'' ⟨he, hb'⟩ => he ▸ hq w'' hb'
theorem sup_g {m n : Int} {v : Nat} (w : World) (h : supN (kn m) (kn n) = v) : Gives w 23 #[.int .i64 m, .int .i64 n] (.int .i64 (v : Nat)) := fun w' hb => sup_is m n _ w w' hb (by rw [h])
theorem cov_g {m n : Int} {b : Bool} (w : World) (h : covB (kn m) (kn n) = b) : Gives w 24 #[.int .i64 m, .int .i64 n] (.bool b) := fun w' hb => covers_is m n _ w w' hb h
theorem com_g {m n : Int} {b : Bool} {w : World} (ht : TabG w) (h : goesN (kn m) (kn n) = b) : Gives w 13 #[.int .i64 m, .int .i64 n] (.bool b) := fun w' hb => compat_is m n _ w w' ht hb h
theorem at_g {m : Int} {j : Nat} (w : World) (hj : j ≤ 6) (h : kn m = j) : Gives w 26 #[.int .i64 m] (pt j) := fun _ hb => acc hb (at_is _ _ _ hj h)
theorem awake_g {w : World} (ht : TabG w) : Gives w 8 #[] (.bool true) := fun w' hb => awake_any w w' ht hb

theorem lat_comm : ∀ i, i ≤ 6 → ∀ j, j ≤ 6 → supN j i = supN i j := by decide +kernel
theorem lat_assoc : ∀ i, i ≤ 6 → ∀ j, j ≤ 6 → ∀ k, k ≤ 6 → supN i (supN j k) = supN (supN i j) k := by decide +kernel
theorem lat_left : ∀ i, i ≤ 6 → ∀ j, j ≤ 6 → covB (supN i j) i = true := by decide +kernel
theorem lat_right : ∀ i, i ≤ 6 → ∀ j, j ≤ 6 → covB (supN i j) j = true := by decide +kernel
theorem lat_least : ∀ i, i ≤ 6 → ∀ j, j ≤ 6 → ∀ k, k ≤ 6 → covB k i = true → covB k j = true → covB k (supN i j) = true := by decide +kernel
theorem lat_same : ∀ i, i ≤ 6 → supN i i = i := by decide +kernel
theorem lat_refl : ∀ i, i ≤ 6 → covB i i = true := by decide +kernel
theorem lat_of : ∀ i, i ≤ 6 → ofN (reN i) (imN i) = i := by decide +kernel

theorem lattice_walk (a b c : Int) (w : World) (ht : TabG w) :
    Calls Tryd.prog 4 #[.int .i64 a, .int .i64 b, .int .i64 c] w fun e w' => e = .returned (.bool true) ∧ Below w.heap.size w w' := by
  have ka := kn_le a
  have kb := kn_le b
  have kc := kn_le c
  have hb0 : Below w.heap.size w w := Below.refl _ _
  obtain ⟨S, hS⟩ : ∃ S : Nat, supN (kn a) (kn b) = S := ⟨_, rfl⟩
  obtain ⟨T, hT⟩ : ∃ T : Nat, supN S (kn c) = T := ⟨_, rfl⟩
  obtain ⟨U, hU⟩ : ∃ U : Nat, supN (kn b) (kn c) = U := ⟨_, rfl⟩
  obtain ⟨V, hV⟩ : ∃ V : Nat, kn a = V := ⟨_, rfl⟩
  have kS : S ≤ 6 := hS ▸ supN_le _ _
  have kU : U ≤ 6 := hU ▸ supN_le _ _
  have kV : V ≤ 6 := hV ▸ ka
  have nS : kn (S : Int) = S := kn_nat kS
  have nU : kn (U : Int) = U := kn_nat kU
  have nV : kn (V : Int) = V := kn_nat kV
  have q1 : Gives w 23 #[.int .i64 a, .int .i64 b] (.int .i64 (S : Nat)) := sup_g w hS
  have q2 : Gives w 23 #[.int .i64 b, .int .i64 a] (.int .i64 (S : Nat)) := sup_g w (by rw [lat_comm _ ka _ kb, hS])
  have q3 : Gives w 23 #[.int .i64 (S : Nat), .int .i64 c] (.int .i64 (T : Nat)) := sup_g w (by rw [nS, hT])
  have q4 : Gives w 23 #[.int .i64 b, .int .i64 c] (.int .i64 (U : Nat)) := sup_g w hU
  have q5 : Gives w 23 #[.int .i64 a, .int .i64 (U : Nat)] (.int .i64 (T : Nat)) := sup_g w (by rw [nU, ← hU, lat_assoc _ ka _ kb _ kc, hS, hT])
  have q6 : Gives w 23 #[.int .i64 a, .int .i64 a] (.int .i64 (V : Nat)) := sup_g w (by rw [lat_same _ ka, hV])
  have r1 : Gives w 24 #[.int .i64 (S : Nat), .int .i64 a] (.bool true) := cov_g w (by rw [nS, ← hS]; exact lat_left _ ka _ kb)
  have r2 : Gives w 24 #[.int .i64 (S : Nat), .int .i64 b] (.bool true) := cov_g w (by rw [nS, ← hS]; exact lat_right _ ka _ kb)
  have r3 : Gives w 24 #[.int .i64 (V : Nat), .int .i64 a] (.bool true) := cov_g w (by rw [nV, ← hV]; exact lat_refl _ ka)
  have r4 : Gives w 24 #[.int .i64 a, .int .i64 (V : Nat)] (.bool true) := cov_g w (by rw [nV, ← hV]; exact lat_refl _ ka)
  have q7 : Gives w 26 #[.int .i64 (S : Nat)] (pt S) := at_g w kS nS
  have q8 : Gives w 25 #[pt S] (.int .i64 (S : Nat)) := fun w' hb => by
    have h := acc hb (of_any (reN S) (imN S) w' (reN_le S) (by have := imN_le S; omega))
    rw [lat_of _ kS] at h
    exact h
  have r5 : covB (kn c) (kn a) = true → covB (kn c) (kn b) = true → Gives w 24 #[.int .i64 c, .int .i64 (S : Nat)] (.bool true) := fun h1 h2 => cov_g w (by rw [nS, ← hS]; exact lat_least _ ka _ kb _ kc h1 h2)
  have qa := awake_g ht
  clear hS hT hU hV nS nU nV
  cases h1 : covB (kn c) (kn a)
  · have r6 : Gives w 24 #[.int .i64 c, .int .i64 a] (.bool false) := cov_g w h1
    clear h1 r5
    go_enter Tryd.func4, Tryd.ntmps4
    go_wp2_with ((first | go_at_call 23 | go_at_call 24 | go_at_call 26 | go_at_call 25 | go_at_call 8); refine Gives.use (w0 := w) (by with_reducible assumption) (by assumption) ?_; intro w1 hb1)
    go_ret
    exact ⟨rfl, by assumption⟩
  · cases h2 : covB (kn c) (kn b)
    · have r6 : Gives w 24 #[.int .i64 c, .int .i64 a] (.bool true) := cov_g w h1
      have r7 : Gives w 24 #[.int .i64 c, .int .i64 b] (.bool false) := cov_g w h2
      clear h1 h2 r5
      go_enter Tryd.func4, Tryd.ntmps4
      go_wp2_with ((first | go_at_call 23 | go_at_call 24 | go_at_call 26 | go_at_call 25 | go_at_call 8); refine Gives.use (w0 := w) (by with_reducible assumption) (by assumption) ?_; intro w1 hb1)
      go_ret
      exact ⟨rfl, by assumption⟩
    · have r6 : Gives w 24 #[.int .i64 c, .int .i64 a] (.bool true) := cov_g w h1
      have r7 : Gives w 24 #[.int .i64 c, .int .i64 b] (.bool true) := cov_g w h2
      replace r5 := r5 h1 h2
      clear h1 h2
      go_enter Tryd.func4, Tryd.ntmps4
      go_wp2_with ((first | go_at_call 23 | go_at_call 24 | go_at_call 26 | go_at_call 25 | go_at_call 8); refine Gives.use (w0 := w) (by with_reducible assumption) (by assumption) ?_; intro w1 hb1)
      go_ret
      exact ⟨rfl, by assumption⟩
end Go.Proofs.YtagbfonmeolnjaaDoor
