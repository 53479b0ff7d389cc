/- A request is put where it would wait: the program's answer. -/
import Derived.Test.YteaibamkfccplaaDoorWI1
import Derived.Deep.RegionHeld3
namespace Go.Proofs.YteaibamkfccplaaDoor.Ws
open Go Go.RowKit Go.Shelf

/-- a request in a box of its own -/
abbrev S4 (B : Nat) (tx m : Int) (cv ii : Bool) (w : World) : Prop :=
  w.cell? ⟨B, 0, none⟩ = some (.int .i64 tx) ∧ w.cell? ⟨B, 1, none⟩ = some (.int .i64 m) ∧ w.cell? ⟨B, 2, none⟩ = some (.bool cv) ∧ w.cell? ⟨B, 3, none⟩ = some (.bool ii)
theorem s4_below {B : Nat} {tx m : Int} {cv ii : Bool} {w w' : World} (h : S4 B tx m cv ii w) (hb : Below w.heap.size w w') : S4 B tx m cv ii w' := by
  obtain ⟨h0, h1, h2, h3⟩ := h
  exact ⟨(hb.cell (p := ⟨B, 0, none⟩) (cell_lt h0)).trans h0, (hb.cell (p := ⟨B, 1, none⟩) (cell_lt h1)).trans h1, (hb.cell (p := ⟨B, 2, none⟩) (cell_lt h2)).trans h2, (hb.cell (p := ⟨B, 3, none⟩) (cell_lt h3)).trans h3⟩
theorem s4_drew {B : Nat} {tx m : Int} {cv ii : Bool} {w : World} (h : S4 B tx m cv ii w) : S4 B tx m cv ii w.drew := h
theorem s4_one {B : Nat} {tx m : Int} {cv ii : Bool} {w : World} {o : Obj} (h : S4 B tx m cv ii w) : S4 B tx m cv ii (w.alloc o).drew := s4_drew (s4_below h (box_below _ _))
theorem s4_two {B : Nat} {tx m : Int} {cv ii : Bool} {w : World} {o o' : Obj} (h : S4 B tx m cv ii w) : S4 B tx m cv ii ((w.alloc o).alloc o').drew := s4_drew (s4_below (s4_below h (box_below _ _)) (box_below _ _))
/-- a request put where it would wait -/
def ins (x : Wt) (xs : List Wt) : List Wt := xs.take (plc x.2.2.1 xs) ++ [x] ++ xs.drop (plc x.2.2.1 xs)
/-- where a list goes on from a place -/
def tlA (A : Option Addr) (c k : Nat) : Option Addr := if c = k then A else A.map (·.add (k * 4))
section
variable {W W' : World} {A : Option Addr} {c K : Nat} {xs : List Wt}
theorem Ls.tl (h : Ls W A c xs) {k : Nat} (hk : k ≤ xs.length) : Ls W (tlA A c k) (c - k) (xs.drop k) := by
  have hc := h.cap
  have hm := h.room
  unfold tlA
  by_cases e : c = k
  · rw [if_pos e]
    have e1 : xs.drop k = [] := List.drop_eq_nil_of_le (by omega)
    rw [e1]
    refine ⟨Nat.zero_le _, by omega, fun _ => by omega, fun _ _ j u hj => by simp [flat] at hj⟩
  · rw [if_neg e]
    cases A with
    | none => have := h.nil rfl; omega
    | some a =>
      by_cases e0 : k = 0
      · subst e0
        simpa [Addr.add] using h
      · have := h.tail (k := k) (by omega) hk
        simpa [Addr.add, show ¬ k * 4 = 0 by omega, show ¬ k = 0 by omega] using this
theorem three {w : World} {B : Nat} {A1 A2 A3 : Option Addr} {c1 c2 c3 : Nat} {x1 x2 x3 : List Wt} (q0 : w.cell? ⟨B, 0, none⟩ = some (.slice A1 x1.length c1)) (q1 : w.cell? ⟨B, 1, none⟩ = some (.slice A2 x2.length c2)) (q2 : w.cell? ⟨B, 2, none⟩ = some (.slice A3 x3.length c3))
    (h1 : Ls w A1 c1 x1) (h2 : Ls w A2 c2 x2) (h3 : Ls w A3 c3 x3) (h0 : 1 ≤ x2.length) (hl : x1.length + x2.length + x3.length ≤ 1000) : Calls Tryd.prog 90 #[.slice (some ⟨B, 0, none⟩) 3 3] w (Lists w (x1 ++ x2 ++ x3)) := by
  have hp : Parts w B 3 (fun k => if k = 0 then A1 else if k = 1 then A2 else A3) (fun k => if k = 0 then c1 else if k = 1 then c2 else c3) (fun k => if k = 0 then x1 else if k = 1 then x2 else x3) := by
    refine ⟨fun k hk => ?_, fun k hk => ?_⟩
    all_goals
      have hk3 : k = 0 ∨ k = 1 ∨ k = 2 := by omega
      rcases hk3 with rfl | rfl | rfl
      all_goals simpa
  have := concat_any hp (by simp [cat]; omega) (by simp [cat]; omega) (by omega)
  simpa [cat] using this
theorem three_at {w1 : World} {A1 A3 : Option Addr} {c1 c3 n1 n3 : Nat} {x1 x3 : List Wt} {tx m : Int} {cv ii : Bool} (h1 : Ls w1 A1 c1 x1) (h3 : Ls w1 A3 c3 x3) (e1 : x1.length = n1) (e3 : x3.length = n3) (hl : n1 + n3 ≤ 900) :
    Calls Tryd.prog 90 #[.slice (some ⟨w1.heap.size + 1, 0, none⟩) 3 3] (((w1.alloc (.cells #[.int .i64 tx, .int .i64 m, .bool cv, .bool ii] 60)).alloc (.cells #[.slice A1 n1 c1, .slice (some ⟨w1.heap.size, 0, none⟩) 1 1, .slice A3 n3 c3] 26)).drew) (Lists w1 (x1 ++ [(tx, m, cv, ii)] ++ x3)) := by
  subst e1
  subst e3
  have b1 := box_below w1 (.cells #[.int .i64 tx, .int .i64 m, .bool cv, .bool ii] 60)
  have b2 := box_below (w1.alloc (.cells #[.int .i64 tx, .int .i64 m, .bool cv, .bool ii] 60)) (.cells #[.slice A1 x1.length c1, .slice (some ⟨w1.heap.size, 0, none⟩) 1 1, .slice A3 x3.length c3] 26)
  have b3 := b1.trans (b2.mono b1.size)
  have q : ∀ k, k < 3 → ((w1.alloc (.cells #[.int .i64 tx, .int .i64 m, .bool cv, .bool ii] 60)).alloc (.cells #[.slice A1 x1.length c1, .slice (some ⟨w1.heap.size, 0, none⟩) 1 1, .slice A3 x3.length c3] 26)).cell? ⟨w1.heap.size + 1, k, none⟩ = #[Value.slice A1 x1.length c1, Value.slice (some ⟨w1.heap.size, 0, none⟩) 1 1, Value.slice A3 x3.length c3][k]? := fun k hk => by
    have := World.cell?_alloc_new (w1.alloc (.cells #[.int .i64 tx, .int .i64 m, .bool cv, .bool ii] 60)) #[.slice A1 x1.length c1, .slice (some ⟨w1.heap.size, 0, none⟩) 1 1, .slice A3 x3.length c3] 26 k
    rw [show (w1.alloc (.cells #[.int .i64 tx, .int .i64 m, .bool cv, .bool ii] 60)).heap.size = w1.heap.size + 1 by simp] at this
    exact this
  have q0 := q 0 (by omega)
  have q1 := q 1 (by omega)
  have q2 := q 2 (by omega)
  have hx : Ls _ _ 1 [((tx, m, cv, ii) : Wt)] := box_ls w1 (tx, m, cv, ii)
  refine (three (B := w1.heap.size + 1) (w := ((w1.alloc (.cells #[.int .i64 tx, .int .i64 m, .bool cv, .bool ii] 60)).alloc (.cells #[.slice A1 x1.length c1, .slice (some ⟨w1.heap.size, 0, none⟩) 1 1, .slice A3 x3.length c3] 26)).drew) (x2 := [(tx, m, cv, ii)]) q0 q1 q2 ((h1.below b3).drewN 1) ((hx.below b2).drewN 1) ((h3.below b3).drewN 1) (by simp) (by simp; omega)).mono ?_
  rintro e w' ⟨A', c', rfl, h1, h2⟩
  exact ⟨A', c', rfl, h1, (b3.trans ((drew_below _ 1).mono b3.size)).trans (h2.mono b3.size)⟩
set_option maxHeartbeats 2000000 in
theorem insert_any (hr : Ls W A c xs) (hl : xs.length ≤ 500) (x : Wt) : Calls Tryd.prog 70 #[.slice A xs.length c, wv x] W (Lists W (ins x xs)) := by
  have hx := box_below W (.cells #[.int .i64 x.1, .int .i64 x.2.1, .bool x.2.2.1, .bool x.2.2.2] 60)
  have hbx := box_ls W x
  have HP := Lib.hid (place_any (hr.below hx) (by omega) x.2.2.1)
  have hle := plN_le (fun y => y.2.2.1 || !x.2.2.1) xs
  have HI := Lib.hid (show ins x xs = xs.take (plc x.2.2.1 xs) ++ [x] ++ xs.drop (plc x.2.2.1 xs) from rfl)
  change plc x.2.2.1 xs ≤ _ at hle
  generalize plc x.2.2.1 xs = k at *
  have H1 := Lib.hid (hr.head k)
  have H3 := Lib.hid (hr.tl hle)
  obtain ⟨SA, hSA⟩ : ∃ SA, tlA A c k = SA := ⟨_, rfl⟩
  have HSA := Lib.hid hSA
  rw [hSA] at H3
  have hcap := hr.cap
  have hroom : c ≤ 9223372036854775807 := by have := hr.room; unfold maxLen at this; omega
  obtain ⟨n, hn⟩ : ∃ n, xs.length = n := ⟨_, rfl⟩
  rw [hn] at hle hl hcap HP ⊢
  have HN := Lib.hid hn
  obtain ⟨tx, m, cv, ii⟩ := x
  simp only at hx hbx HP
  have HX := Lib.hid hx
  have HBX := Lib.hid hbx
  have HR := Lib.hid hr
  clear hr hx hbx hSA hn
  go_enter Tryd.func70, Tryd.ntmps70
  go_wp2_with (go_at_call 81; ((with_reducible refine HP.out.mono ?_); rintro e w1 ⟨rfl, hb1⟩))
  have HB1 := Lib.hid hb1
  obtain ⟨ad, had, e0, e1, e2, e3⟩ := (HBX.out.below hb1).here (i := 0) (by simp)
  cases had
  simp only [List.getElem_cons_zero, Nat.zero_mul, add_at, Nat.zero_add] at e0 e1 e2 e3
  have hw1 := hb1.size
  have hsz : W.heap.size < w1.heap.size := by simp at hw1; omega
  generalize W.heap.size = Bx at e0 e1 e2 e3 hsz ⊢
  clear hb1 hw1
  have L1 := Lib.hid ((H1.out.below HX.out).below HB1.out)
  have L3 := Lib.hid ((H3.out.below HX.out).below HB1.out)
  have N1 := Lib.hid (show (xs.take k).length = k by rw [List.length_take, HN.out]; omega)
  have N3 := Lib.hid (show (xs.drop k).length = n - k by rw [List.length_drop, HN.out])
  have hs4 : S4 Bx tx m cv ii w1 := ⟨e0, e1, e2, e3⟩
  have HBB := Lib.hid (HX.out.trans (HB1.out.mono HX.out.size))
  have HIL := Lib.hid (show (ins (tx, m, cv, ii) xs).length = n + 1 by rw [HI.out, List.length_append, List.length_append, N1.out, N3.out]; simp; omega)
  clear H1 H3
  cases A with
  | none =>
    obtain rfl : c = 0 := HR.out.nil rfl
    obtain rfl : n = 0 := by omega
    obtain rfl : k = 0 := by omega
    obtain rfl : SA = none := by rw [← HSA.out]; rfl
    have HF := Lib.hid (three_at (tx := tx) (m := m) (cv := cv) (ii := ii) (n3 := 0) L1.out L3.out N1.out N3.out (by omega))
    rw [← HI.out] at HF
    go_region_held3 (S4 Bx tx m cv ii) (first | exact s4_drew hs4 | exact s4_one hs4 | exact s4_two hs4 | exact s4_below hs4 hb) (first | (go_at_call 90; ((with_reducible refine HF.out.mono ?_); rintro e w2 ⟨A', c', rfl, hls, hb⟩)))
    have HL := Lib.hid hls
    have HB := Lib.hid (HBB.out.trans (hb.mono HBB.out.size))
    rw [HIL.out]
    clear hls hb hs4 e0 e1 e2 e3
    go_wp2_with fail
    go_ret
    exact ⟨A', c', by rw [HIL.out]; rfl, HL.out, HB.out⟩
  | some a =>
    by_cases hck : c = k
    · obtain rfl : n = c := by omega
      obtain rfl : k = n := by omega
      obtain rfl : SA = some a := by rw [← HSA.out]; unfold tlA; rw [if_pos rfl]
      have HF := Lib.hid (three_at (tx := tx) (m := m) (cv := cv) (ii := ii) (n3 := 0) (c3 := 0) L1.out (by have := L3.out; rw [Nat.sub_self] at this; exact this) N1.out (by have := N3.out; rw [Nat.sub_self] at this; exact this) (by omega))
      rw [← HI.out] at HF
      clear hck
      go_region_held3 (S4 Bx tx m cv ii) (first | exact s4_drew hs4 | exact s4_one hs4 | exact s4_two hs4 | exact s4_below hs4 hb) (first | (go_at_call 90; ((with_reducible refine HF.out.mono ?_); rintro e w2 ⟨A', c', rfl, hls, hb⟩)))
      have HL := Lib.hid hls
      have HB := Lib.hid (HBB.out.trans (hb.mono HBB.out.size))
      rw [HIL.out]
      clear hls hb hs4 e0 e1 e2 e3
      go_wp2_with fail
      go_ret
      exact ⟨A', c', by rw [HIL.out]; rfl, HL.out, HB.out⟩
    · have hkc : (k : Int) ≤ (c : Int) := by omega
      obtain rfl : SA = some (a.add (k * 4)) := by rw [← HSA.out]; unfold tlA; rw [if_neg hck]; rfl
      have HF := Lib.hid (three_at (tx := tx) (m := m) (cv := cv) (ii := ii) L1.out L3.out N1.out N3.out (by omega))
      rw [← HI.out] at HF
      go_region_held3 (S4 Bx tx m cv ii) (first | exact s4_drew hs4 | exact s4_one hs4 | exact s4_two hs4 | exact s4_below hs4 hb) (first | (go_at_call 90; ((with_reducible refine HF.out.mono ?_); rintro e w2 ⟨A', c', rfl, hls, hb⟩)))
      have HL := Lib.hid hls
      have HB := Lib.hid (HBB.out.trans (hb.mono HBB.out.size))
      rw [HIL.out]
      clear hls hb hs4 e0 e1 e2 e3
      go_wp2_with fail
      go_ret
      exact ⟨A', c', by rw [HIL.out]; rfl, HL.out, HB.out⟩
end
end Go.Proofs.YteaibamkfccplaaDoor.Ws
