/- A map beside other blocks; the chapter's example. -/
import Derived.Test.YtbeeekpofbhljaaA7
import Derived.Carry
namespace Go.Proofs.Ytbeeekpofbhljaa
open Go Go.RowKit
variable {w W W' : World} {L b n : Nat} {K : Nat → Prop} {t : Int} {F : Int → Option Int}

/-- a map, and blocks beside it that it leaves alone -/
def One (w W : World) (L b : Nat) (K : Nat → Prop) (n : Nat) (t : Int) (F : Int → Option Int) : Prop :=
  w.heap.size ≤ L ∧ Below w.heap.size w W ∧ ∃ O, Mq W L O b n t F ∧ ∀ x, K x → x < W.heap.size ∧ ¬ O x
/-- these blocks are as they were -/
def Same (K : Nat → Prop) (W W' : World) : Prop := ∀ x, K x → W'.heap[x]? = W.heap[x]?
theorem One.below (h : One w W L b K n t F) (hb : Below W.heap.size W W') : One w W' L b K n t F := by
  obtain ⟨h1, h2, O, ⟨g, c, cs, h3⟩, h4⟩ := h
  exact ⟨h1, h2.trans (hb.mono h2.size), O, ⟨g, c, cs, h3.below hb⟩, fun x hx => ⟨Nat.lt_of_lt_of_le (h4 x hx).1 hb.size, (h4 x hx).2⟩⟩
theorem One.bel (h : One w W L b K n t F) : Below w.heap.size w W := h.2.1
theorem One.box (h : One w W L b K n t F) (o : Obj) : One w (W.alloc o) L b (fun x => K x ∨ x = W.heap.size) n t F := by
  obtain ⟨h1, h2, O, h3, h4⟩ := h.below (box_below W o)
  obtain ⟨_, _, O', h3', h4'⟩ := h
  obtain ⟨g, c, cs, h5⟩ := h3'
  refine ⟨h1, h2, O', ⟨g, c, cs, h5.below (box_below W o)⟩, fun x hx => ?_⟩
  rcases hx with hx | rfl
  · exact ⟨by have := (h4' x hx).1; simp; omega, (h4' x hx).2⟩
  · exact ⟨by simp, fun hO => by have := (h5.ol _ hO).2; omega⟩
theorem One.less {K' : Nat → Prop} (h : One w W L b K n t F) (hk : ∀ x, K' x → K x) : One w W L b K' n t F := by
  obtain ⟨h1, h2, O, h3, h4⟩ := h
  exact ⟨h1, h2, O, h3, fun x hx => h4 x (hk x hx)⟩
theorem One.done {O : Nat → Prop} {v : Value} {n' : Nat} {t' : Int} {F' : Int → Option Int} {e : Ending} (h1 : w.heap.size ≤ L) (h2 : Below w.heap.size w W) (h3 : Mq W L O b n t F) (h4 : ∀ x, K x → x < W.heap.size ∧ ¬ O x) (hd : Does W L O b v n' t' F' e W') :
    e = .returned v ∧ One w W' L b K n' t' F' ∧ Same K W W' := by
  obtain ⟨O', rfl, h5, h6, h7⟩ := hd
  refine ⟨rfl, ⟨h1, ?_, O', h5, fun x hx => ⟨Nat.lt_of_lt_of_le (h4 x hx).1 h6.size, fun ho => ?_⟩⟩, fun x hx => h6.block x (h4 x hx).1 (h4 x hx).2⟩
  · exact h2.trans (h6.below (fun k hk => Nat.le_trans h1 (h3.made_lt hk).1) h2.size)
  · rcases h7 x ho with q | q
    · exact (h4 x hx).2 q
    · have := (h4 x hx).1; omega
theorem One.put (h : One w W L b K n t F) {k : Int} (hk : U k) (v : Int) (ht0 : -1000 ≤ t) (ht1 : t ≤ 2 * (n : Int)) (hn : n < 249) :
    Calls Try.prog 7 #[wp b, .int .u64 k, .int .i64 v] W fun e w' => ∃ n' t' u, e = .returned (.bool u) ∧ One w w' L b K n' t' (putF F k (some v)) ∧ Same K W w' ∧ n ≤ n' ∧ n' ≤ n + 1 ∧ t ≤ t' ∧ t' ≤ t + 1 ∧ t' ≤ 2 * (n' : Int) ∧ (F k = none → t' = t + 1 ∧ n' = if 2 * (n : Int) < t + 1 then n + 1 else n) := by
  obtain ⟨h1, h2, O, h3, h4⟩ := h
  refine (h3.put hk v ht0 ht1 hn).mono ?_
  rintro e w' ⟨n', t', u, hd, hr⟩
  obtain ⟨e1, e2, e3⟩ := One.done h1 h2 h3 h4 hd
  exact ⟨n', t', u, e1, e2, e3, hr⟩
theorem One.drop (h : One w W L b K n t F) {k : Int} (hk : U k) (ht0 : -1000 ≤ t) (ht1 : t ≤ 2 * (n : Int)) (hn : n < 249) :
    Calls Try.prog 8 #[wp b, .int .u64 k] W fun e w' => ∃ n' t' u, e = .returned (.bool u) ∧ One w w' L b K n' t' (putF F k none) ∧ Same K W w' ∧ n' ≤ n ∧ t - 1 ≤ t' ∧ t' ≤ t ∧ t' ≤ 2 * (n' : Int) := by
  obtain ⟨h1, h2, O, h3, h4⟩ := h
  refine (h3.drop hk ht0 ht1 hn).mono ?_
  rintro e w' ⟨n', t', u, hd, hr⟩
  obtain ⟨e1, e2, e3⟩ := One.done h1 h2 h3 h4 hd
  exact ⟨n', t', u, e1, e2, e3, hr⟩
theorem One.len (h : One w W L b K n t F) : Calls Try.prog 11 #[wp b] W fun e w' => e = .returned (.int .i64 t) ∧ W = w' := by
  obtain ⟨_, _, O, ⟨g, c, cs, h3⟩, _⟩ := h
  exact h3.len
theorem One.buckets (h : One w W L b K n t F) : Calls Try.prog 12 #[wp b] W fun e w' => e = .returned (.int .i64 (n : Int)) ∧ W = w' := by
  obtain ⟨_, _, O, ⟨g, c, cs, h3⟩, _⟩ := h
  exact h3.buckets
theorem One.bucket (h : One w W L b K n t F) {k : Int} (hk : U k) : Calls Try.prog 13 #[wp b, .int .u64 k] W fun e w' => e = .returned (.int .i64 (bk n k : Int)) ∧ W = w' := by
  obtain ⟨_, _, O, ⟨g, c, cs, h3⟩, _⟩ := h
  exact h3.bucket hk
theorem One.get (h : One w W L b K n t F) {k : Int} (hk : U k) : Calls Try.prog 9 #[wp b, .int .u64 k] W fun e w' => e = .returned (gotV (F k)) ∧ ∃ j, w' = W.drewN j := by
  obtain ⟨_, _, O, ⟨g, c, cs, h3⟩, _⟩ := h
  exact h3.get hk
theorem One.n4 (h : One w W L b K n t F) : 4 ≤ n := by
  obtain ⟨_, _, O, ⟨g, c, cs, h3⟩, _⟩ := h
  exact h3.n4
theorem one_new (w W : World) (hb : Below w.heap.size w W) : Calls Try.prog 6 #[] W fun e w' => e = .returned (wp (W.heap.size + 1)) ∧ One w w' W.heap.size (W.heap.size + 1) (fun _ => False) 4 0 (fun _ => none) := by
  refine (new_any W).mono ?_
  rintro e w' ⟨rfl, h1, h2⟩
  exact ⟨rfl, hb.size, hb.trans (h2.mono hb.size), _, h1, fun _ h => h.elim⟩

/-- what the example has put -/
def idF (k : Nat) : Int → Option Int := fun i => if 0 ≤ i ∧ i < (k : Int) then some i else none
theorem idF_put (k : Nat) : putF (idF k) (k : Int) (some (k : Int)) = idF (k + 1) := by
  funext i
  unfold putF idF
  by_cases h : i = (k : Int)
  · subst h; simp; omega
  · rw [if_neg h]
    by_cases h1 : 0 ≤ i ∧ i < (k : Int)
    · rw [if_pos h1, if_pos (by omega)]
    · rw [if_neg h1, if_neg (by omega)]
theorem idF_none (k : Nat) : idF k (k : Int) = none := by unfold idF; rw [if_neg (by omega)]
set_option maxHeartbeats 2000000 in
theorem awake_any (w : World) : Calls Try.prog 5 #[] w fun e w' => e = .returned (.bool true) ∧ Below w.heap.size w w' := by
  go_enter Try.func5, Try.ntmps5
  go_wp2_with fail
  refine (one_new w w (Below.refl _ _)).mono ?_
  rintro e w1 ⟨rfl, ho⟩
  have H0 := Lib.hid ho
  clear ho
  generalize w.heap.size + 1 = b at *
  generalize hL : w.heap.size = L at H0 ⊢
  clear hL
  go_wp2_with fail
  go_loopw [6] (fun t wr => ∃ k : Nat, k ≤ 9 ∧ t = .int .i64 k ∧ One w wr L b (fun _ => False) (if k ≤ 8 then 4 else 5) k (idF k)) (fun t _ => 9 - (intOf t).toNat)
  case atStart => exact ⟨0, by omega, rfl, by
    have e : idF 0 = fun _ => none := by funext i; unfold idF; rw [if_neg (by omega)]
    rw [e]; exact H0.out⟩
  case round =>
    obtain ⟨k, hk, rfl, ho⟩ := hrel
    have H := Lib.hid ho
    clear ho H0
    by_cases hlt : k < 9
    · rw [if_pos (by omega)] at H
      go_wp2_with fail
      refine (H.out.put (k := (k : Int)) ⟨by omega, by omega⟩ (k : Int) (by omega) (by omega) (by omega)).mono ?_
      rintro e w2 ⟨n', t', u, rfl, ho, -, -, -, -, -, -, hx⟩
      obtain ⟨rfl, rfl⟩ := hx (idF_none k)
      rw [idF_put] at ho
      have H2 := Lib.hid ho
      clear ho H hx
      go_wp2_with fail
      refine ⟨⟨k + 1, by omega, by congr 1, ?_⟩, by simp [intOf]; omega⟩
      have := H2.out
      have e1 : (if 2 * ((4 : Nat) : Int) < (k : Int) + 1 then 4 + 1 else 4) = if k + 1 ≤ 8 then 4 else 5 := by
        by_cases h8 : k + 1 ≤ 8
        · rw [if_pos h8, if_neg (by omega)]
        · rw [if_neg h8, if_pos (by omega)]
      rw [e1] at this
      exact this
    · obtain rfl : k = 9 := by omega
      simp only [show ¬ (9 ≤ 8) by omega, if_false] at H
      go_wp2_with fail
      refine (H.out.get (k := 7) ⟨by omega, by omega⟩).mono ?_
      rintro e w2 ⟨rfl, j, rfl⟩
      have H2 := Lib.hid (H.out.below (drew_below wr j))
      have e7 : gotV (idF 9 7) = .tuple #[.int .i64 7, .bool true] := rfl
      rw [e7]
      clear H
      generalize wr.drewN j = X at H2 ⊢
      go_wp2_with (first
        | (go_at_call 12; ((with_reducible refine H2.out.buckets.mono ?_); rintro e w' ⟨rfl, rfl⟩))
        | (go_at_call 11; ((with_reducible refine H2.out.len.mono ?_); rintro e w' ⟨rfl, rfl⟩)))
      go_ret
      exact ⟨rfl, H2.out.bel⟩
end Go.Proofs.Ytbeeekpofbhljaa
