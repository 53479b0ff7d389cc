/- What one may do at a node; which locks are needed: the program's answers. -/
import Derived.Test.YthjlapcccmbhbaaLb
namespace Go.Proofs.Ythjlapcccmbhbaa.Lk
open Go Go.RowKit Go.Shelf Pa
set_option maxRecDepth 100000

/-- what one may do by the locks at these nodes -/
def levN (xs : List Hd) : List Pt → Nat := List.foldl (fun l a => max l (reN (kn (ofL xs a)))) 0
theorem lev_snoc (xs : List Hd) (ps : List Pt) (a : Pt) : levN xs (ps ++ [a]) = max (levN xs ps) (reN (kn (ofL xs a))) := by unfold levN; rw [List.foldl_append]; rfl
def levL (xs : List Hd) (p : Pt) : Nat := levN xs (waysP p)
theorem run_max_int (P : Program) (ts : Array TypeId) (t : TypeId) (x y : Nat) (w : World) :
    (Builtin.max_ ts t #[.int .i64 (x : Nat), .int .i64 (y : Nat)]).run P w = .ok (.int .i64 (max x y : Nat)) w := by
  rcases Nat.lt_or_ge x y with h | h
  · have e : max x y = y := by omega
    have h' : (x : Int) < y := by omega
    rw [e]
    simp [Builtin.max_, Builtin.max2, h']
  · have e : max x y = x := by omega
    have h' : ¬ (x : Int) < y := by omega
    rw [e]
    simp [Builtin.max_, Builtin.max2, h']
theorem take_next {α : Type} {l : List α} {k : Nat} (h : k < l.length) : l.take (k + 1) = l.take k ++ [l[k]] := List.take_succ_eq_append_getElem h
section
variable {W W' : World} {A : Option Addr} {c : Nat} {xs : List Hd}
set_option maxHeartbeats 2000000 in
theorem level_any (hr : Ls W A c xs) (hl : xs.length ≤ 1000) (q : Pt) :
    Calls Try.prog 20 #[.slice A xs.length c, q.v] W fun e w' => e = .returned (.int .i64 (levL xs q : Nat)) ∧ Below W.heap.size W w' := by
  have HO := Lib.hid (fun (w1 : World) (hb : Below W.heap.size W w1) (q : Pt) => of_any (hr.below hb) hl q)
  obtain ⟨ps, hps⟩ : ∃ ps, waysP q = ps := ⟨_, rfl⟩
  have h4 : ps.length ≤ 4 := by rw [← hps]; exact waysP_len q
  have HW := Lib.hid hps
  unfold levL
  rw [hps]
  have hx := Go.Proofs.Ythjlapcccmbhbaa.box_below W (.cells #[.int .i64 q.a, .int .i64 q.b, .int .i64 q.c, .int .i64 q.d, .int .i64 q.e] 25)
  have HX := Lib.hid hx
  clear hps hr hx
  obtain ⟨a, b, c', d, e⟩ := q
  simp only at HX
  generalize xs.length = len at *
  go_enter Try.func20, Try.ntmps20
  go_wp2_with fail
  refine (ways_any ⟨a, b, c', d, e⟩ _).mono ?_
  rintro r1 w1 ⟨v, rfl, hrow, hb1⟩
  rw [HW.out] at hrow
  have HB1 := Lib.hid (HX.out.trans (hb1.mono HX.out.size))
  clear hb1
  rcases hrow.row with ⟨rfl, rfl⟩ | ⟨g, cap, rfl, hg, hc⟩
  · go_wp2_with fail
    refine wp_loop_rounds 1 ?_
    rw [rounds_succ]
    go_wp2_with fail
    go_ret
    exact ⟨rfl, HB1.out⟩
  · have HC := Lib.hid hc
    obtain ⟨n, hn⟩ : ∃ n, ps.length = n := ⟨_, rfl⟩
    have HN := Lib.hid hn
    rw [hn] at h4
    rw [hn]
    clear hc hrow hn
    go_wp2_with fail
    go_loopw [5, 11] (fun l i wr => ∃ k : Nat, k ≤ n ∧ i = .int .i64 (k : Nat) ∧ l = .int .i64 (levN xs (ps.take k) : Nat) ∧ Below w1.heap.size w1 wr) (fun _ i _ => n - (intOf i).toNat)
    case atStart => exact ⟨0, by omega, rfl, rfl, Below.refl _ _⟩
    case round =>
      obtain ⟨k, hk, rfl, rfl, hb⟩ := hrel
      by_cases hlt : k < n
      · have i1 : (0 : Int) ≤ (k : Int) := by omega
        have i2 : (k : Int) < (n : Int) := by omega
        have hkl : k < ps.length := by rw [HN.out]; exact hlt
        obtain ⟨q0, q1, q2, q3, q4⟩ := HC.out k hkl
        obtain ⟨⟨x0, x1, x2, x3, x4⟩, hx⟩ : ∃ x, ps[k]'hkl = x := ⟨_, rfl⟩
        have HS := Lib.hid (lev_snoc xs (ps.take k) (ps[k]'hkl))
        rw [← take_next hkl, hx] at HS
        rw [hx] at q0 q1 q2 q3 q4
        simp only at q0 q1 q2 q3 q4
        obtain ⟨kc, _⟩ := kept hb
        have t0 := (kc g (k * 5) hg).trans q0
        have t1 := (kc g (k * 5 + 1) hg).trans q1
        have t2 := (kc g (k * 5 + 2) hg).trans q2
        have t3 := (kc g (k * 5 + 3) hg).trans q3
        have t4 := (kc g (k * 5 + 4) hg).trans q4
        have HBw := Lib.hid (hb.alloc hb.size (.cells #[.int .i64 x0, .int .i64 x1, .int .i64 x2, .int .i64 x3, .int .i64 x4] 25))
        clear q0 q1 q2 q3 q4 kc hx hb
        obtain ⟨l, hl⟩ : ∃ l, levN xs (ps.take k) = l := ⟨_, rfl⟩
        rw [hl] at HS ⊢
        clear hl
        go_wp2_with fail
        refine (HO.out _ (thenCall HB1.out HBw.out) ⟨x0, x1, x2, x3, x4⟩).mono ?_
        rintro e2 w2 ⟨rfl, hb2⟩
        have HB2 := Lib.hid (thenCall HBw.out hb2)
        obtain ⟨r, hr⟩ : ∃ r, ofL xs ⟨x0, x1, x2, x3, x4⟩ = r := ⟨_, rfl⟩
        rw [hr] at HS ⊢
        clear hr hb2 t0 t1 t2 t3 t4
        go_wp2_with fail
        refine (does_any r _).mono ?_
        rintro e3 w3 ⟨rfl, hb3⟩
        have HB3 := Lib.hid (thenCall HB2.out hb3)
        have hm := fun ts t => run_max_int Try.prog ts t l (reN (kn r))
        clear hb3
        go_wp2_with fail
        go_roundw
        case rel => exact ⟨k + 1, by omega, by go_num, by rw [HS.out], HB3.out⟩
        case measure => simp [intOf]; omega
      · obtain rfl : k = n := by omega
        have HT := Lib.hid (List.take_of_length_le (l := ps) (i := k) (Nat.le_of_eq HN.out))
        go_wp2_with fail
        go_ret
        exact ⟨by rw [HT.out]; rfl, thenCall HB1.out hb⟩
end
end Go.Proofs.Ythjlapcccmbhbaa.Lk
