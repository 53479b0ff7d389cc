/- What is held at each node first, in a map: a list told from its end on. -/
import Derived.Test.YthjlapcccmbhbaaWg
import Derived.Test.YthjlapcccmbhbaaRg
import Derived.OwnWalkIn
import Derived.TacticsInMore
import Derived.LoopNIn
import Derived.LoopIn
import Derived.Shelf.RegionOpen
import Derived.OwnWalk
import Derived.Maps.OwnIn
namespace Go.Proofs.Ythjlapcccmbhbaa.Lk
open Go Go.RowKit Go.Shelf Pa
attribute [local go_sem] Oper.semAt_some
set_option maxRecDepth 100000

/-- a place of a list, and what stands there, as they are told -/
abbrev encH (x : Nat × Hd) : Array Value := #[.int .i64 (x.1 : Int), wv x.2]
/-- the last j of a list, the last one first -/
def bwd (xs : List Hd) (j : Nat) : List (Nat × Hd) := (List.range j).map fun m => (xs.length - 1 - m, xs.getD (xs.length - 1 - m) (⟨0, 0, 0, 0, 0⟩, 0))
theorem bwd_succ (xs : List Hd) (j : Nat) : bwd xs (j + 1) = bwd xs j ++ [(xs.length - 1 - j, xs.getD (xs.length - 1 - j) (⟨0, 0, 0, 0, 0⟩, 0))] := by simp [bwd, List.range_succ]
theorem bwd_length (xs : List Hd) (j : Nat) : (bwd xs j).length = j := by simp [bwd]
theorem bwd_split (xs : List Hd) {i n : Nat} (h : i ≤ n) : ∃ r, bwd xs n = bwd xs i ++ r := by
  induction n with
  | zero => obtain rfl : i = 0 := by omega
            exact ⟨[], by simp⟩
  | succ n ih =>
    by_cases e : i = n + 1
    · subst e; exact ⟨[], by simp⟩
    · obtain ⟨r, hr⟩ := ih (by omega)
      exact ⟨r ++ [_], by rw [bwd_succ, hr, List.append_assoc]⟩
theorem bwd_told {xs : List Hd} {n : Nat} (hn : xs.length = n) {pre post : List (Nat × Hd)} {x : Nat × Hd} (h : bwd xs n = pre ++ x :: post) :
    ∃ k, n - pre.length = k + 1 ∧ n = k + 1 + pre.length ∧ ∃ hk : k < xs.length, x = (k, xs[k]) := by
  have hl := congrArg List.length h
  rw [bwd_length, List.length_append, List.length_cons] at hl
  have hg : (bwd xs n)[pre.length]? = some x := by rw [h]; simp
  unfold bwd at hg
  rw [List.getElem?_map, List.getElem?_range (by omega)] at hg
  have hk : xs.length - 1 - pre.length < xs.length := by omega
  refine ⟨xs.length - 1 - pre.length, by omega, by omega, hk, ?_⟩
  simp only [Option.map_some, Option.some.injEq] at hg
  rw [← hg]
  simp [hk]
set_option maxHeartbeats 4000000 in
theorem bwd_tells {w : World} {bx K c : Nat} {A : Option Addr} {xs : List Hd} (hb : w.cell? ⟨bx, 0, none⟩ = some (.slice A xs.length c)) (hls : Ls w A c xs) (hA : 0 < xs.length → ∀ a, A = some a → a.block < K) (hl : xs.length ≤ 100000) :
    Go.Proofs.Ythjlapcccmbhbaa.Tells Try.prog 71 #[] #[.pointer (some ⟨bx, 0, none⟩)] encH (fun k => k = bx ∨ k < K) (bwd xs xs.length) w := by
  intro l J Jx W hW hJ hY h0
  have q1 := (hW.cell (p := ⟨bx, 0, none⟩) (cell_lt hb)).trans hb
  have HLs := Lib.hid hls
  have HA := Lib.hid hA
  have HJ := Lib.hid hJ
  have HY := Lib.hid hY
  have HW := Lib.hid hW
  have HBx := Lib.hid (cell_lt hb)
  have HQ1 := Lib.hid hb
  obtain ⟨n, hn⟩ : ∃ n, xs.length = n := ⟨_, rfl⟩
  have HN := Lib.hid hn
  rw [hn] at q1 hl HY HQ1 ⊢
  clear hls hA hJ hY hn hW hb
  refine callsIn_of_wp Try.func71 rfl trivial ?_ rfl
  simp only [Try.ntmps71, List.size_toArray, List.length_cons, List.length_nil, Nat.reduceAdd, Nat.reduceSub, Array.replicate_succ, Array.replicate_zero, List.push_toArray, List.append_toArray, List.nil_append, List.cons_append]
  gi_wp2
  gi_loopw [3] (fun t wr => ∃ j : Nat, j ≤ n ∧ t = .int .i64 ((n : Int) - 1 - (j : Int)) ∧ J (bwd xs j) wr ∧ Keeps (fun k => k = bx ∨ k < K) W wr) (fun t _ => (intOf t + 1).toNat)
  case atStart => exact ⟨0, by omega, by simp, h0, Keeps.refl _ _⟩
  case round =>
    obtain ⟨j, hj, rfl, hjj, hbj⟩ := hrel
    have HO := Lib.hid hbj
    clear h0
    by_cases hjn : j < n
    · obtain ⟨i, hi⟩ : ∃ i : Nat, n - 1 - j = i := ⟨_, rfl⟩
      have hi' : (n : Int) - 1 - (j : Int) = (i : Int) := by omega
      have hin : i < n := by omega
      have hil : i < xs.length := by rw [HN.out]; exact hin
      have hsz := HW.out.size
      have hbxl := HBx.out
      have c0 := (World.cell?_of_block (w := W) (a := ⟨bx, 0, none⟩) (HO.out.block bx (.inl rfl))).trans q1
      have hls2 : Ls wr A c xs := (HLs.out.below HW.out).keep (fun a ha => HO.out.block _ (.inr (HA.out (by rw [HN.out]; omega) a ha)))
      obtain ⟨a, ha, hh⟩ := hls2.here hil
      subst ha
      obtain ⟨x, hx⟩ : ∃ x, xs[i] = x := ⟨_, rfl⟩
      rw [hx] at hh
      obtain ⟨z0, z1, z2, z3, z4, z5⟩ := hh
      have hU : bwd xs (j + 1) = bwd xs j ++ [(i, x)] := by
        rw [bwd_succ, HN.out, hi]
        simp [hil, hx]
      obtain ⟨r, hr⟩ := bwd_split xs (show j + 1 ≤ n from hjn)
      have hpre : bwd xs n = bwd xs j ++ (i, x) :: r := by rw [hr, hU]; simp
      obtain ⟨fn, tmps, assign, body, hy, hR⟩ := HY.out _ (i, x) _ _ hpre hjj
      have HU := Lib.hid hU
      have HP := Lib.hid (show bwd xs n = (bwd xs j ++ [(i, x)]) ++ r by rw [hpre]; simp)
      rw [hi']
      have hi0 : decide ((0 : Int) ≤ (i : Int)) = true := by simp
      have hilt : (i : Int) < (n : Int) := by omega
      have HI := Lib.hid hi
      obtain ⟨⟨xa, xb, xc, xd, xe⟩, xm⟩ := x
      simp only at z0 z1 z2 z3 z4 z5 hy hR
      clear hi hi' hil hx hU hr hpre hjj hbj hls2
      gi_wp2
      refine hR.mono ?_
      rintro e W3 (⟨rfl, hJ3, hk3⟩ | ⟨rfl, hJx3⟩)
      · have HO3 := Lib.hid (HO.out.trans hk3)
        clear hy hR c0 z0 z1 z2 z3 z4 z5 hk3
        gi_wp2
        go_roundw
        case rel => exact ⟨j + 1, by omega, by have := HI.out; first | (congr 1; omega) | congr 1, by rw [HU.out]; exact hJ3, HO3.out⟩
        case measure => first | (simp [intOf]; have := HI.out; omega) | simp [intOf]
      · gi_wp2
        refine bodyPost_ret (results_none rfl _ _ _) rfl ?_
        exact ⟨⟨_, rfl⟩, .inr ⟨_, _, HP.out, hJx3⟩⟩
    · obtain rfl : j = n := by omega
      rw [show (j : Int) - 1 - (j : Int) = -1 by omega]
      gi_wp2
      go_end0
      refine ⟨⟨_, rfl⟩, .inl ?_⟩
      exact hjj
/-- an iterator over a list's places from the end on, handed back -/
theorem backward_any {W : World} {A : Option Addr} {n c : Nat} : Calls Try.prog 55 #[.slice A n c] W fun e w' => e = .returned (.func (.func 71) #[] #[.pointer (some ⟨W.heap.size, 0, none⟩)]) ∧ w' = W.alloc (.cells #[.slice A n c] 22) := by
  go_enter Try.func55, Try.ntmps55
  go_wp2
  go_ret
  exact ⟨rfl, rfl⟩
end Go.Proofs.Ythjlapcccmbhbaa.Lk
