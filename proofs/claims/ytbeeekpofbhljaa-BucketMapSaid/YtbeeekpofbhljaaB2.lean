/- A list of deeds that came in; the walk of the law that buckets and keys keep their bounds. -/
import Derived.Test.YtbeeekpofbhljaaB1
namespace Go.Proofs.Ytbeeekpofbhljaa
open Go Go.RowKit

theorem block_add' (a : Addr) (n : Nat) : (a.add n).block = a.block := by unfold Addr.add; split <;> rfl
/-- a deed of a list that came in -/
structure DeedAt (w : World) (ad : Addr) (i : Nat) (k x y : Int) : Prop where
  c0 : w.cell? (ad.add (i * 3)) = some (.int .i64 k)
  c1 : w.cell? ⟨(ad.add (i * 3)).block, (ad.add (i * 3)).off + 1, none⟩ = some (.int .u64 x)
  c2 : w.cell? ⟨(ad.add (i * 3)).block, (ad.add (i * 3)).off + 2, none⟩ = some (.int .i64 y)
def InD (w : World) (A : Option Addr) (L : Nat) : Prop := ∀ i, i < L → ∃ ad k x y, A = some ad ∧ ad.block < w.heap.size ∧ DeedAt w ad i k x y ∧ U x
theorem InD.at {w w' : World} {A : Option Addr} {L i : Nat} (h : InD w A L) (hb : Below w.heap.size w w') (hi : i < L) : ∃ ad k x y, A = some ad ∧ DeedAt w' ad i k x y ∧ U x := by
  obtain ⟨ad, k, x, y, h1, h2, h4, h5⟩ := h i hi
  refine ⟨ad, k, x, y, h1, ⟨?_, ?_, ?_⟩, h5⟩
  · rw [hb.cell (p := ad.add (i * 3)) (by rw [block_add']; exact h2)]; exact h4.c0
  · rw [hb.cell (p := ⟨(ad.add (i * 3)).block, (ad.add (i * 3)).off + 1, none⟩) (by show (ad.add (i * 3)).block < _; rw [block_add']; exact h2)]; exact h4.c1
  · rw [hb.cell (p := ⟨(ad.add (i * 3)).block, (ad.add (i * 3)).off + 2, none⟩) (by show (ad.add (i * 3)).block < _; rw [block_add']; exact h2)]; exact h4.c2
theorem bounds_long (A : Option Addr) (L c : Nat) (key : Int) (w : World) (h : 200 < L) (hm : L ≤ maxLen) :
    Calls Try.prog 4 #[.slice A L c, .int .u64 key] w fun e w' => e = .returned (.bool true) ∧ Below w.heap.size w w' := by
  unfold maxLen at hm
  have h3 : decide ((200 : Int) < (L : Int)) = true := by simp; omega
  have h4 : (200 : Int) < (L : Int) := by omega
  go_enter Try.func4, Try.ntmps4
  go_wp2_with fail
  refine (awake_any _).mono ?_
  rintro e w1 ⟨rfl, hb1⟩
  go_wp2_with fail
  go_ret
  exact ⟨rfl, hb1⟩
/-- the state at the loop's head -/
def Hb (w W : World) (L b k : Nat) : Prop := ∃ n t F, One w W L b (fun _ => False) n t F ∧ n ≤ 4 + k ∧ -(k : Int) ≤ t ∧ t ≤ k ∧ t ≤ 2 * (n : Int)
set_option maxHeartbeats 4000000 in
set_option maxRecDepth 100000 in
theorem bounds_short (A : Option Addr) (N c : Nat) (key : Int) (w : World) (h : ¬ 200 < N) (hin : InD w A N) (hu : U key) :
    Calls Try.prog 4 #[.slice A N c, .int .u64 key] w fun e w' => e = .returned (.bool true) ∧ Below w.heap.size w w' := by
  have I := Lib.hid hin
  have HU := Lib.hid hu
  clear hin hu
  have h3 : decide ((200 : Int) < (N : Int)) = false := by simp; omega
  have h4 : ¬ (200 : Int) < (N : Int) := by omega
  go_enter Try.func4, Try.ntmps4
  go_wp2_with fail
  refine (awake_any _).mono ?_
  rintro e w1 ⟨rfl, hb1⟩
  go_wp2_with fail
  refine (one_new w w1 hb1).mono ?_
  rintro e w2 ⟨rfl, ho⟩
  have H0 := Lib.hid ho
  clear ho hb1
  generalize w1.heap.size + 1 = b at *
  generalize w1.heap.size = L at H0 ⊢
  go_wp2_with fail
  go_loopw [17] (fun t wr => ∃ k : Nat, k ≤ N ∧ t = .int .i64 k ∧ Hb w wr L b k) (fun t _ => N - (intOf t).toNat)
  case atStart => exact ⟨0, by omega, rfl, 4, 0, _, H0.out, by omega, by omega, by omega, by omega⟩
  case round =>
    obtain ⟨k, hk, rfl, n, t, F, ho, hn, ht0, ht1, ht2⟩ := hrel
    have H := Lib.hid ho
    clear ho H0
    by_cases hlt : k < N
    · obtain ⟨ad, kd, x, y, rfl, ⟨c0, c1, c2⟩, hux⟩ := I.out.at H.out.bel hlt
      have HX := Lib.hid hux
      have H1 := Lib.hid (H.out.box (.cells #[.int .i64 kd, .int .u64 x, .int .i64 y] 28))
      clear hux H
      by_cases hk0 : kd = 0
      · subst hk0
        go_wp2_with fail
        clear c0 c1 c2
        generalize wr.alloc (.cells #[.int .i64 0, .int .u64 x, .int .i64 y] 28) = W0 at H1 ⊢
        generalize wr.heap.size = Bd at H1 ⊢
        refine (H1.out.put HX.out y (by omega) ht2 (by omega)).mono ?_
        rintro e w2 ⟨n', t', u, rfl, ho, -, g1, g2, g3, g4, g5, -⟩
        have H2 := Lib.hid (ho.less (K' := fun _ => False) (fun _ h => h.elim))
        have hn4 := ho.n4
        have hbk : bk n' key < n' := bk_lt (by omega) (by omega) key
        clear ho H1
        have HB := Lib.hid (H2.out.bucket HU.out)
        generalize bk n' key = r at HB hbk
        go_wp2_with (first
          | (go_at_call 13; ((with_reducible refine HB.out.mono ?_); rintro e w' ⟨rfl, rfl⟩))
          | (go_at_call 12; ((with_reducible refine H2.out.buckets.mono ?_); rintro e w' ⟨rfl, rfl⟩))
          | (go_at_call 11; ((with_reducible refine H2.out.len.mono ?_); rintro e w' ⟨rfl, rfl⟩)))
        refine ⟨⟨k + 1, by omega, by congr 1, n', t', _, H2.out, by omega, by omega, by omega, g5⟩, by simp [intOf]; omega⟩
      · have hkd : (kd == 0) = false := by simpa using hk0
        go_wp2_with fail
        clear c0 c1 c2
        generalize wr.alloc (.cells #[.int .i64 kd, .int .u64 x, .int .i64 y] 28) = W0 at H1 ⊢
        generalize wr.heap.size = Bd at H1 ⊢
        refine (H1.out.drop HX.out (by omega) ht2 (by omega)).mono ?_
        rintro e w2 ⟨n', t', u, rfl, ho, -, g1, g2, g3, g4⟩
        have H2 := Lib.hid (ho.less (K' := fun _ => False) (fun _ h => h.elim))
        have hn4 := ho.n4
        have hbk : bk n' key < n' := bk_lt (by omega) (by omega) key
        clear ho H1
        have HB := Lib.hid (H2.out.bucket HU.out)
        generalize bk n' key = r at HB hbk
        go_wp2_with (first
          | (go_at_call 13; ((with_reducible refine HB.out.mono ?_); rintro e w' ⟨rfl, rfl⟩))
          | (go_at_call 12; ((with_reducible refine H2.out.buckets.mono ?_); rintro e w' ⟨rfl, rfl⟩))
          | (go_at_call 11; ((with_reducible refine H2.out.len.mono ?_); rintro e w' ⟨rfl, rfl⟩)))
        refine ⟨⟨k + 1, by omega, by congr 1, n', t', _, H2.out, by omega, by omega, by omega, g4⟩, by simp [intOf]; omega⟩
    · obtain rfl : k = N := by omega
      go_wp2_with (go_at_call 11; ((with_reducible refine H.out.len.mono ?_); rintro e w' ⟨rfl, rfl⟩))
      go_ret
      exact ⟨rfl, H.out.bel⟩
theorem bounds_walk (A : Option Addr) (N c : Nat) (key : Int) (w : World) (hm : N ≤ maxLen) (hin : InD w A N) (hu : U key) :
    Calls Try.prog 4 #[.slice A N c, .int .u64 key] w fun e w' => e = .returned (.bool true) ∧ Below w.heap.size w w' := by
  by_cases h : 200 < N
  · exact bounds_long A N c key w h hm
  · exact bounds_short A N c key w h hin hu
end Go.Proofs.Ytbeeekpofbhljaa
