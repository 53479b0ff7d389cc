/- A list told from its end on; the parts of places, in memory. -/
import Derived.Test.YtggmnjnigmbooaaHf
import Derived.Test.YtggmnjnigmbooaaRg
import Derived.OwnWalkIn
import Derived.TacticsInMore
import Derived.LoopNIn
import Derived.LoopIn
import Derived.Shelf.RegionOpen
import Derived.OwnWalk
import Derived.Maps.OwnIn
namespace Go.Proofs.Ytggmnjnigmbooaa
open Go Go.RowKit Go.Shelf
attribute [local go_sem] Oper.semAt_some
set_option maxRecDepth 100000

theorem callsIn_round {l n : Nat} {P : Program} {f : FuncId} {args : Array Value} {w : World} {R : Ending → World → Prop} (h : Calls P f args w R) : CallsIn (Fence.wide.inRound l) n P f args w R := (callsIn_wide (n := n)).2 h
/-- a place of a list, and what stands there, as they are told -/
abbrev encP (x : Nat × Int) : Array Value := #[.int .i64 (x.1 : Int), .int .i64 x.2]
/-- the last j of a list, the last one first -/
def bwd (xs : List Int) (j : Nat) : List (Nat × Int) := (List.range j).map fun m => (xs.length - 1 - m, xs.getD (xs.length - 1 - m) 0)
theorem bwd_succ (xs : List Int) (j : Nat) : bwd xs (j + 1) = bwd xs j ++ [(xs.length - 1 - j, xs.getD (xs.length - 1 - j) 0)] := by simp [bwd, List.range_succ]
theorem bwd_length (xs : List Int) (j : Nat) : (bwd xs j).length = j := by simp [bwd]
theorem bwd_split (xs : List Int) {i n : Nat} (h : i ≤ n) : ∃ r, bwd xs n = bwd xs i ++ r := by
  induction n with
  | zero => obtain rfl : i = 0 := by omega
            exact ⟨[], by simp⟩
  | succ n ih =>
    by_cases e : i = n + 1
    · subst e; exact ⟨[], by simp⟩
    · obtain ⟨r, hr⟩ := ih (by omega)
      exact ⟨r ++ [_], by rw [bwd_succ, hr, List.append_assoc]⟩
set_option maxHeartbeats 2000000 in
theorem bwd_tells {w : World} {bx g c : Nat} {A : Option Addr} {xs : List Int} (hb : w.cell? ⟨bx, 0, none⟩ = some (.slice A xs.length c)) (hls : Is.Ls w A c xs) (hne : bx ≠ g) (hA : ∀ a, A = some a → a.block ≠ g) (hl : xs.length ≤ 100000) :
    Tells2 Try.prog 46 #[] #[.pointer (some ⟨bx, 0, none⟩)] encP (· = g) (bwd xs xs.length) w := by
  intro l J Jx W hW hJ hJx hY h0
  have q1 := (hW.cell (p := ⟨bx, 0, none⟩) (cell_lt hb)).trans hb
  have HLs := Lib.hid hls
  have HA := Lib.hid hA
  have HJ := Lib.hid hJ
  have HY := Lib.hid hY
  have HW := Lib.hid hW
  have Hne := Lib.hid hne
  have HBx := Lib.hid (cell_lt hb)
  have HQ1 := Lib.hid hb
  obtain ⟨n, hn⟩ : ∃ n, xs.length = n := ⟨_, rfl⟩
  have HN := Lib.hid hn
  rw [hn] at q1 hl HY HQ1 ⊢
  clear hls hA hJ hY hn hW hne hb hJx
  refine callsIn_of_wp Try.func46 rfl trivial ?_ rfl
  simp only [Try.ntmps46, List.size_toArray, List.length_cons, List.length_nil, Nat.reduceAdd, Nat.reduceSub, Array.replicate_succ, Array.replicate_zero, List.push_toArray, List.append_toArray, List.nil_append, List.cons_append]
  gi_wp2
  gi_loopw [3] (fun t wr => ∃ j : Nat, j ≤ n ∧ t = .int .i64 ((n : Int) - 1 - (j : Int)) ∧ J (bwd xs j) wr ∧ OnlyS (fun k => k = g ∨ (w.heap.size ≤ k ∧ k < W.heap.size)) W wr) (fun t _ => (intOf t + 1).toNat)
  case atStart => exact ⟨0, by omega, by simp, h0, OnlyS.refl _ _⟩
  case round =>
    obtain ⟨j, hj, rfl, hjj, hbj⟩ := hrel
    have HO := Lib.hid hbj
    clear h0
    by_cases hjn : j < n
    · obtain ⟨i, hi⟩ : ∃ i : Nat, n - 1 - j = i := ⟨_, rfl⟩
      have hi' : (n : Int) - 1 - (j : Int) = (i : Int) := by omega
      have hin : i < n := by omega
      have hil : i < xs.length := by rw [HN.out]; exact hin
      have hsz := HW.out.size
      have hbxl := HBx.out
      have c0 := HO.out.cell (b := bx) q1 (by have := Hne.out; show ¬ (bx = g ∨ _); omega)
      obtain ⟨a, ha, z0⟩ := HLs.out.here hil
      subst ha
      have hablk := cell_lt z0
      have z1 : wr.cell? (a.add i) = some (.int .i64 xs[i]) := by
        rw [World.cell?_of_block (w := W) (a := a.add i) (HO.out.block _ (Nat.lt_of_lt_of_le hablk hsz) (by
          rw [Es.block_add'] at hablk ⊢
          have := HA.out a rfl
          omega))]
        exact (HW.out.cell (p := a.add i) hablk).trans z0
      obtain ⟨x, hx⟩ : ∃ x, xs[i] = x := ⟨_, rfl⟩
      rw [hx] at z1
      have hU : bwd xs (j + 1) = bwd xs j ++ [(i, x)] := by
        rw [bwd_succ, HN.out, hi]
        simp [hil, hx]
      obtain ⟨r, hr⟩ := bwd_split xs (show j + 1 ≤ n from hjn)
      have hpre : bwd xs n = bwd xs j ++ (i, x) :: r := by rw [hr, hU]; simp
      obtain ⟨fn, tmps, assign, body, hy, hR⟩ := HY.out _ (i, x) _ _ hpre hjj
      have HU := Lib.hid hU
      have HP := Lib.hid (show bwd xs n = (bwd xs j ++ [(i, x)]) ++ r by rw [hpre]; simp)
      rw [hi']
      have hi0 : decide ((0 : Int) ≤ (i : Int)) = true := by simp
      have HI := Lib.hid hi
      clear hi hi' hil hx hU hr hpre z0 hablk hjj hbj
      gi_wp2
      refine hR.mono ?_
      rintro e W3 (⟨rfl, hJ3, hk3⟩ | ⟨rfl, hJx3, -⟩)
      · have HO3 := Lib.hid (HO.out.trans (hk3.mono fun k _ h => h))
        clear hy hR c0 z1 hk3
        gi_wp2
        go_roundw
        case rel => exact ⟨j + 1, by omega, by have := HI.out; first | (congr 1; omega) | congr 1, by rw [HU.out]; exact hJ3, HO3.out⟩
        case measure => first | (simp [intOf]; have := HI.out; omega) | simp [intOf]
      · gi_wp2
        refine bodyPost_ret (results_none rfl _ _ _) rfl ?_
        exact ⟨⟨_, rfl⟩, .inr ⟨_, _, HP.out, hJx3⟩⟩
    · obtain rfl : j = n := by omega
      rw [show (j : Int) - 1 - (j : Int) = -1 by omega]
      gi_wp2
      go_end0
      refine ⟨⟨_, rfl⟩, .inl ?_⟩
      exact hjj
/-- an iterator over a list's places from the end on, handed back -/
theorem backward_any {W : World} {A : Option Addr} {n c : Nat} : Calls Try.prog 35 #[.slice A n c] W fun e w' => e = .returned (.func (.func 46) #[] #[.pointer (some ⟨W.heap.size, 0, none⟩)]) ∧ w' = W.alloc (.cells #[.slice A n c] 23) := by
  go_enter Try.func35, Try.ntmps35
  go_wp2
  go_ret
  exact ⟨rfl, rfl⟩
/-- parts of places, in a row of one's own -/
def Partd (to : Cy.Tos) (n : Nat) (W : World) (e : Ending) (w' : World) : Prop := ∃ g P, e = .returned (.slice (some ⟨g, 0, none⟩) n n) ∧ Arr w' g n P ∧ Cy.Parts to P ∧ Below W.heap.size W w' ∧ W.heap.size ≤ g
theorem bwd_told {xs : List Int} {n : Nat} (hn : xs.length = n) {pre post : List (Nat × Int)} {x : Nat × Int} (h : bwd xs n = pre ++ x :: post) :
    ∃ k, n - pre.length = k + 1 ∧ n = k + 1 + pre.length ∧ ∃ hk : k < xs.length, x = (k, xs[k]) := by
  have hl := congrArg List.length h
  rw [bwd_length, List.length_append, List.length_cons] at hl
  have hg : (bwd xs n)[pre.length]? = some x := by rw [h]; simp
  unfold bwd at hg
  rw [List.getElem?_map, List.getElem?_range (by omega)] at hg
  have hk : xs.length - 1 - pre.length < xs.length := by omega
  refine ⟨xs.length - 1 - pre.length, by omega, by omega, hk, ?_⟩
  simp only [Option.map_some, Option.some.injEq] at hg
  rw [← hg]
  simp [hk]
/-- parts that are told, as far as that has gone, in memory -/
def Prt (to : Cy.Tos) (L : List Nat) (k g n : Nat) (w9 X : World) : Prop := ∃ P, Arr X g n P ∧ Cy.Pts to L k P ∧ OnlyS (· = g) w9 X
def Prl (to : Cy.Tos) (L : List Nat) (g n : Nat) (w9 : World) (pre : List (Nat × Int)) (X : World) : Prop := Prt to L (n - pre.length) g n w9 X
theorem Prt.below {to : Cy.Tos} {L : List Nat} {k g n : Nat} {w9 X Y : World} (h : Prt to L k g n w9 X) (hg : g < w9.heap.size) (hb : Below w9.heap.size X Y) : Prt to L k g n w9 Y := by
  obtain ⟨P, h1, h2, h3⟩ := h
  exact ⟨P, h1.keep hb.size (hb.block g hg), h2, ⟨hb.os.trans h3.os, hb.tape.trans h3.tape, hb.output.trans h3.output, Nat.le_trans h3.size hb.size, fun k hk hn => (hb.block k hk).trans (h3.block k hk hn)⟩⟩
set_option maxHeartbeats 8000000 in
theorem parts_any {W : World} {A1 A2 : Option Addr} {n1 c1 c2 n : Nat} {to : Cy.Tos} (ht : Tl W A2 c2 to) (ho : Okw to) (hn : to.length = n) :
    Calls Try.prog 25 #[wayV A1 n1 c1 A2 n c2] W (Partd to n W) := by
  refine (callsIn_wide (n := 9)).1 ?_
  refine callsIn_of_wp_marks Try.func25 rfl trivial ?_ rfl
  simp only [Try.ntmps25, List.size_toArray, List.length_cons, List.length_nil, Nat.reduceAdd, Nat.reduceSub, Array.replicate_succ, Array.replicate_zero, List.push_toArray, List.append_toArray, List.nil_append, List.cons_append]
  refine wpIn_wide.2 ?_
  have HT := Lib.hid ht
  have HO := Lib.hid ho
  have HN := Lib.hid hn
  have hnl : n ≤ 800 := hn ▸ ho.len
  have hmk := fun w => mk_ints w n (by omega)
  have hX := box_below W (.cells #[.slice A1 n1 c1, .slice A2 n c2] 48)
  have HX := Lib.hid hX
  clear ht ho hn hX
  go_wp2_with fail
  have hX3 := ((Below.refl W.heap.size W).alloc (Nat.le_refl _) (.cells #[.slice A1 n1 c1, .slice A2 n c2] 48)).alloc (by simp) (.cells (madeCells #[.int .i64 0] n) 3) |>.alloc (by simp; omega) (.cells #[.slice (some ⟨W.heap.size + 1, 0, none⟩) n n] 23)
  have x0 : (((W.alloc (.cells #[.slice A1 n1 c1, .slice A2 n c2] 48)).alloc (.cells (madeCells #[.int .i64 0] n) 3)).alloc (.cells #[.slice (some ⟨W.heap.size + 1, 0, none⟩) n n] 23)).cell? ⟨W.heap.size, 0, none⟩ = some (.slice A1 n1 c1) := by simp [go_sem]
  have x1 : (((W.alloc (.cells #[.slice A1 n1 c1, .slice A2 n c2] 48)).alloc (.cells (madeCells #[.int .i64 0] n) 3)).alloc (.cells #[.slice (some ⟨W.heap.size + 1, 0, none⟩) n n] 23)).cell? ⟨W.heap.size, 1, none⟩ = some (.slice A2 n c2) := by simp [go_sem]
  have x2 : (((W.alloc (.cells #[.slice A1 n1 c1, .slice A2 n c2] 48)).alloc (.cells (madeCells #[.int .i64 0] n) 3)).alloc (.cells #[.slice (some ⟨W.heap.size + 1, 0, none⟩) n n] 23)).cell? ⟨W.heap.size + 1 + 1, 0, none⟩ = some (.slice (some ⟨W.heap.size + 1, 0, none⟩) n n) := by simp [go_sem]
  have har : Arr (((W.alloc (.cells #[.slice A1 n1 c1, .slice A2 n c2] 48)).alloc (.cells (madeCells #[.int .i64 0] n) 3)).alloc (.cells #[.slice (some ⟨W.heap.size + 1, 0, none⟩) n n] 23)) (W.heap.size + 1) n fun _ => 0 := by
    have := (Arr.made (W.alloc (.cells #[.slice A1 n1 c1, .slice A2 n c2] 48)) n).below (box_below _ (.cells #[.slice (some ⟨W.heap.size + 1, 0, none⟩) n n] 23))
    simpa using this
  have hxs : (((W.alloc (.cells #[.slice A1 n1 c1, .slice A2 n c2] 48)).alloc (.cells (madeCells #[.int .i64 0] n) 3)).alloc (.cells #[.slice (some ⟨W.heap.size + 1, 0, none⟩) n n] 23)).heap.size = W.heap.size + 3 := by simp
  generalize ((W.alloc (.cells #[.slice A1 n1 c1, .slice A2 n c2] 48)).alloc (.cells (madeCells #[.int .i64 0] n) 3)).alloc (.cells #[.slice (some ⟨W.heap.size + 1, 0, none⟩) n n] 23) = X at *
  have HTX := Lib.hid (HT.out.below hX3)
  have HBk := Lib.hid (back_any (A1 := A1) (n1 := n1) (c1 := c1) HTX.out HO.out)
  rw [HN.out] at HBk
  refine HBk.out.mono ?_
  rintro e w5 ⟨gb, bt, rfl, -, hta, htr, hb5⟩
  have h65 := hb5.trans ((box_below w5 (.cells #[.slice A1 n1 c1, .slice (some ⟨gb, 0, none⟩) n n] 48)).mono hb5.size)
  have HX3 := Lib.hid hX3
  have HXs := Lib.hid hxs
  have HAr := Lib.hid (har.below h65)
  have y0 := (h65.cell (p := ⟨W.heap.size, 0, none⟩) (by show W.heap.size < _; omega)).trans x0
  have y1 := (h65.cell (p := ⟨W.heap.size, 1, none⟩) (by show W.heap.size < _; omega)).trans x1
  have y2 := (h65.cell (p := ⟨W.heap.size + 1 + 1, 0, none⟩) (by show W.heap.size + 1 + 1 < _; omega)).trans x2
  have hs5 := hb5.size
  have HLf := Lib.hid (left_any (A1 := A1) (n1 := n1) (c1 := c1) (HTX.out.below h65) HO.out HN.out)
  have HTb := Lib.hid ((hta (W.heap.size + 1) (by omega)).below (box_below w5 (.cells #[.slice A1 n1 c1, .slice (some ⟨gb, 0, none⟩) n n] 48)))
  have HTr := Lib.hid htr
  have H65 := Lib.hid h65
  have z0 : (w5.alloc (.cells #[.slice A1 n1 c1, .slice (some ⟨gb, 0, none⟩) n n] 48)).cell? ⟨w5.heap.size, 0, none⟩ = some (.slice A1 n1 c1) := by simp [go_sem]
  have z1 : (w5.alloc (.cells #[.slice A1 n1 c1, .slice (some ⟨gb, 0, none⟩) n n] 48)).cell? ⟨w5.heap.size, 1, none⟩ = some (.slice (some ⟨gb, 0, none⟩) n n) := by simp [go_sem]
  have hs6 : (w5.alloc (.cells #[.slice A1 n1 c1, .slice (some ⟨gb, 0, none⟩) n n] 48)).heap.size = w5.heap.size + 1 := by simp
  have HZ := Lib.hid (And.intro z0 (And.intro z1 (And.intro hs6 hs5)))
  clear hX3 hxs har hta htr hb5 h65 HBk x0 x1 x2 hs6 hs5 HTX z0 z1
  go_wp2_with fail
  generalize w5.alloc (.cells #[.slice A1 n1 c1, .slice (some ⟨gb, 0, none⟩) n n] 48) = w6 at *
  refine HLf.out.mono ?_
  rintro e w7 ⟨v7, L, rfl, hr7, hL, hb7⟩
  obtain ⟨A7, c7, rfl, hls7⟩ := hr7.ls
  rw [ints_length, hL.len, HN.out]
  have hA7 : ∀ a, A7 = some a → a.block ≠ W.heap.size + 1 := fun a ha => by
    subst ha
    have := (hr7.lt a.block rfl).1
    have := HZ.out.2.2.1
    have := HZ.out.2.2.2
    have := HXs.out
    omega
  have HLL := Lib.hid hL
  have HLs := Lib.hid hls7
  have HA7 := Lib.hid hA7
  have HB7 := Lib.hid hb7
  clear hr7 hL hls7 hb7 hA7 HLf
  go_wp2_with fail
  refine backward_any.mono ?_
  rintro e w8 ⟨rfl, rfl⟩
  go_wp2_with fail
  have hb9 := HB7.out.trans ((box_below w7 (.cells #[.slice A7 n c7] 23)).mono HB7.out.size)
  have hs6 := HZ.out.2.2.1
  have hs5 := HZ.out.2.2.2
  have hxs := HXs.out
  have y2' := (hb9.cell (p := ⟨W.heap.size + 1 + 1, 0, none⟩) (by show W.heap.size + 1 + 1 < _; omega)).trans y2
  have z0' := (hb9.cell (p := ⟨w5.heap.size, 0, none⟩) (by show w5.heap.size < _; omega)).trans HZ.out.1
  have z1' := (hb9.cell (p := ⟨w5.heap.size, 1, none⟩) (by show w5.heap.size < _; omega)).trans HZ.out.2.1
  have q0 : (w7.alloc (.cells #[.slice A7 n c7] 23)).cell? ⟨w7.heap.size, 0, none⟩ = some (.slice A7 n c7) := by simp [go_sem]
  have HAr9 := Lib.hid (HAr.out.below hb9)
  have HTb9 := Lib.hid (HTb.out.below hb9)
  have hll : (ints L).length = n := by rw [ints_length, HLL.out.len, HN.out]
  have hs7 := HB7.out.size
  have HTells := Lib.hid (bwd_tells (g := W.heap.size + 1) (xs := ints L) (by rw [hll]; exact q0) (HLs.out.below (box_below w7 (.cells #[.slice A7 n c7] 23))) (by omega) HA7.out (by omega))
  have HBW := Lib.hid (HX3.out.trans ((H65.out.trans (hb9.mono H65.out.size)).mono HX3.out.size))
  have hs9 : (w7.alloc (.cells #[.slice A7 n c7] 23)).heap.size = w7.heap.size + 1 := by simp
  generalize w7.alloc (.cells #[.slice A7 n c7] 23) = w9 at *
  have Hz := Lib.hid (And.intro hs6 (And.intro hs5 (And.intro hxs (And.intro hs7 hs9))))
  have HY2 := Lib.hid y2'
  have HZ0 := Lib.hid z0'
  have HZ1 := Lib.hid z1'
  have HLn := Lib.hid hll
  clear hs6 hs5 hxs y2' z0' z1' q0 hb9 hs7 hs9 y0 y1 y2 hll
  rw [HLn.out] at HTells
  refine (wpIn_wide (n := 9)).1 ?_
  refine wp_range2 (α := Nat × Int) (encs := encP) (xs := bwd (ints L) n) (T := (· = W.heap.size + 1)) rfl (enters_of Try.func46 (by kernel_rfl) rfl) HTells.out (fun k hk => by have := Hz.out; omega) (fun _ => rfl)
    (fun pre X => Prl to L (W.heap.size + 1) n w9 pre X)
    (fun _ _ _ => False)
    (fun pre x a' X => Prl to L (W.heap.size + 1) n w9 pre X ∧ a' = { tmps := #[wayV A1 n1 c1 A2 n c2, .pointer (some ⟨W.heap.size, 0, none⟩), .slice none 0 0, .pointer (some ⟨W.heap.size + 1 + 1, 0, none⟩), .pointer (some ⟨w5.heap.size, 0, none⟩), .int .i64 (x.1 : Int), .int .i64 x.2, .pointer (some ⟨W.heap.size, 1, none⟩), .slice A2 n c2, .int .i64 (n : Int), .slice (some ⟨W.heap.size + 1, 0, none⟩) n n, .agg #[.slice A1 n1 c1, .slice A2 n c2], wayV A1 n1 c1 (some ⟨gb, 0, none⟩) n n, .agg #[.slice A1 n1 c1, .slice A2 n c2], .slice A7 n c7, .func (.func 46) #[] #[.pointer (some ⟨w7.heap.size, 0, none⟩)], .int .i64 (x.1 : Int), .int .i64 x.2, undef, undef, undef, undef, undef, undef, undef, undef, undef, undef, undef, undef, undef, undef, undef, undef, undef], defers := [] }) ?hI ?hIx ?hA ?h0 ?assign ?body ?done ?stop
  case hI => exact fun s X Y h hb => Prt.below h (by have := Hz.out; omega) hb
  case hIx => exact fun _ _ _ _ h _ => h
  case hA =>
    rintro s x a' X Y ⟨h, h'⟩ hb
    exact ⟨Prt.below h (by have := Hz.out; omega) hb, h'⟩
  case h0 =>
    refine ⟨fun _ => 0, HAr9.out, ?_, OnlyS.refl _ _⟩
    have := Cy.Pts.start to L
    rw [HLL.out.len, HN.out] at this
    exact this
  case assign =>
    rintro l1 pre x X hi
    have HI := Lib.hid hi
    clear hi
    gi_wp2
    exact ⟨OnlyS.refl _ _, HI.out, by simp⟩
  case body =>
    rintro l1 pre x post a' X hx ⟨⟨P, har, hpt, hon⟩, rfl⟩
    obtain ⟨k, hk1, hk2, hkl, rfl⟩ := bwd_told HLn.out hx
    rw [ints_length] at hkl
    rw [ints_get]
    obtain ⟨a, ha⟩ : ∃ a, L[k] = a := ⟨_, rfl⟩
    have han : a < n := by
      rw [← HN.out]
      exact (HLL.out.mem a).1 (ha ▸ List.getElem_mem hkl)
    rw [ha]
    rw [hk1] at hpt
    have HPr := Lib.hid (fun (Y : World) (h : Prt to L k (W.heap.size + 1) n w9 Y) => show Prl to L (W.heap.size + 1) n w9 (pre ++ [(k, (a : Int))]) Y by
      unfold Prl
      rw [show n - (pre ++ [(k, (a : Int))]).length = k by rw [List.length_append, List.length_singleton]; omega]
      exact h)
    dsimp only
    have hk8 : k ≤ 800 := by omega
    have HP := Lib.hid hpt
    have HOn := Lib.hid hon
    have c2' := hon.cell HY2.out (by show ¬ W.heap.size + 1 + 1 = W.heap.size + 1; omega)
    have c0 := har.at' a han
    have f0 := har.fz a
    have hgX := har.lt
    by_cases hz : P a = 0
    · have h1 := har.set a ((k : Int) + 1)
      have hset : OnlyS (· = W.heap.size + 1) X (X.setCell ⟨W.heap.size + 1, a, none⟩ (.int .i64 ((k : Int) + 1))) := OnlyS.set _ _ _ _
      have hon1 := HOn.out.trans (hset.mono fun _ _ h => h)
      have HSp := Lib.hid (spread_any (A1 := A1) (n1 := n1) (c1 := c1) (mark := (k : Int) + 1) (s := a) (HTb9.out.only hon1) (HO.out.back HTr.out) (by rw [HTr.out.len, HN.out]) h1 han (by omega))
      rw [hk1] at *
      have HSp' := Lib.hid HSp.out
      have d0 := hon1.cell HZ0.out (by have := Hz.out; show ¬ w5.heap.size = W.heap.size + 1; omega)
      have d1 := hon1.cell HZ1.out (by have := Hz.out; show ¬ w5.heap.size = W.heap.size + 1; omega)
      have d2 := hon1.cell HY2.out (by show ¬ W.heap.size + 1 + 1 = W.heap.size + 1; omega)
      have HSet := Lib.hid hset
      have HLa := Lib.hid (show ∃ h : k < L.length, L[k] = a from ⟨hkl, ha⟩)
      rw [hz] at c0
      have HZa := Lib.hid hz
      clear hz hpt hon har hk1 hk2 hx ha h1 hset hon1 hkl HSp
      gi_wp2_with (refine ⟨trivial, ?_⟩; gi_at_call 37; refine (callsIn_round HSp'.out).mono ?_; rintro e w' ⟨rfl, f, har2, hq, hon2⟩)
      refine ⟨HSet.out.trans (hon2.mono fun _ _ h => h), HPr.out _ ⟨f, har2, ?_, HOn.out.trans ((HSet.out.trans (hon2.mono fun _ _ h => h)).mono fun _ _ h => h)⟩⟩
      obtain ⟨hkl, ha⟩ := HLa.out
      subst ha
      exact HP.out.part HLL.out HTr.out.turned hkl HZa.out hq
    · have HP2 := Lib.hid (HP.out.skip hkl (by rw [ha]; exact hz))
      generalize P a = y at c0 hz
      have hy : (y == 0) = false := by simpa using hz
      have HAr := Lib.hid har
      clear hz hpt hon har hk1 hk2 hx ha
      gi_wp2
      exact ⟨OnlyS.refl _ _, HPr.out _ ⟨_, HAr.out, HP2.out, HOn.out⟩⟩
  case done =>
    rintro D X hD ⟨P, har, hpt, hon⟩ hd
    have HD := Lib.hid hd
    have c2' := hon.cell HY2.out (by show ¬ W.heap.size + 1 + 1 = W.heap.size + 1; omega)
    have HA2 := Lib.hid har
    have HO2 := Lib.hid hon
    have HP := Lib.hid (show Cy.Pts to L 0 P by rwa [bwd_length, Nat.sub_self] at hpt)
    clear har hpt hon hd
    dsimp only [Exit.inBlock, Exit.then]
    rename_i hK0
    refine hK0 _ _ ?_
    clear hK0
    go_wp2_with fail
    refine ⟨by simp, .inl ⟨_, _, rfl, run_takeDeferred HD.out, ?_⟩⟩
    refine ⟨_, results_tmp rfl _ _ _, _, P, rfl, HA2.out.keep (by simp) (World.putObj_heap_other (by have := HA2.out.lt; have := Hz.out; omega)), HP.out.end HLL.out, ?_, by omega⟩
    have h1 : Below W.heap.size W X := HBW.out.trans (HO2.out.below (by intro k hk; omega) HBW.out.size)
    exact h1.trans (below_put _ _ (by have := Hz.out; omega))
  case stop =>
    rintro D cd pre post X hD hx h hd
    exact h.elim
end Go.Proofs.Ytggmnjnigmbooaa
