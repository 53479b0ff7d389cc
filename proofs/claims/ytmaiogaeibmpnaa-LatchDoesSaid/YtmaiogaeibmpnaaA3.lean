/- A region that draws its order, whose calls make memory; whose a latch is; a set is made; the calls of a set that nobody made. -/
import Derived.Test.YtmaiogaeibmpnaaA2
import Derived.BigQuiet
import Derived.Deep.RegionHeld3
namespace Go.Proofs.Ytmaiogaeibmpnaa
open Go Go.RowKit

/-- a call gives a value, from whatever later world, and changes nothing that was there at first -/
def Gives (w0 : World) (f : Nat) (args : Array Value) (v : Value) : Prop :=
  ∀ w', Below w0.heap.size w0 w' → Calls Try.prog f args w' fun e w'' => e = .returned v ∧ Below w0.heap.size w0 w''
theorem Gives.of {w0 : World} {f : Nat} {args : Array Value} {v : Value} (h : ∀ w, Calls Try.prog f args w fun e w' => e = .returned v ∧ Below w.heap.size w w') : Gives w0 f args v :=
  fun w' hb => (h w').mono fun _ _ ⟨he, hb'⟩ => ⟨he, hb.trans (hb'.mono hb.size)⟩
/-- the worlds in which all that was in W is as it was -/
structure Later (W : World) where
  w : World
  h : Below W.heap.size W w
instance {W : World} : Inhabited (Later W) := ⟨⟨W, Below.refl _ _⟩⟩
@[go_sem] theorem Later.cell {W : World} (x : Later W) (b o : Nat) (h : b < W.heap.size) : x.w.cell? ⟨b, o, none⟩ = W.cell? ⟨b, o, none⟩ := x.h.cell (p := ⟨b, o, none⟩) h
theorem wp_region_later {P : Program} (W : World) {id : Nat} {Q : Exit → Act → World → Prop} {a : Act} {w : World} {l : List Oper} (hm : P.follows .mixedOrders = true) (hB : Region.lexB .any l.toArray = true)
    (hw : Below W.heap.size W w)
    (h : wpQuiet P l.toArray (fun w' => ∃ x : Later W, w' = x.w) (fun a' => ∀ w', (∃ x : Later W, w' = x.w) → Q .normal a' w') l a) : (Code.region id l.toArray true).wp P Q a w :=
  wp_region_quiet (C := fun w' => ∃ x : Later W, w' = x.w) hm hB ⟨⟨w.drew, hw.drew⟩, rfl⟩ (by simpa using h)
theorem Gives.later {W : World} {f : Nat} {args : Array Value} {v : Value} {x : Later W} (h : Gives W f args v) :
    Calls Try.prog f args x.w fun e w'' => e = .returned v ∧ ∃ y : Later W, w'' = y.w :=
  (h x.w x.h).mono fun _ w'' ⟨he, hb⟩ => ⟨he, ⟨w'', hb⟩, rfl⟩
theorem has_g {W : World} {y x : Int} {t : Bool} (h : fit true y x = t) : Gives W 20 #[.agg #[.bool true, .int .i64 y], .agg #[.bool (fl x), .int .i64 (nm x)]] (.bool t) := by
  subst h
  exact Gives.of fun w => has_any w true (fl x) y (nm x)
section
variable {W W' : World} {b g N : Nat} {wh : Nat → Int}
/-- whose it is, and whether it is somebody's -/
def ownV (x : Int) : Value := .tuple #[.int .i64 (nm x), .bool (fl x)]
theorem Lat.owner (h : Lat W b g N wh) {k : Nat} (hk : k < N) : Calls Try.prog 13 #[wp b, .int .i64 (k : Int)] W fun e w' => e = .returned (ownV (wh k)) ∧ ∃ j, w' = W.drewN j := by
  have q0 := h.c0
  have q1 := h.r0 k hk
  have q2 := h.r1 k hk
  have hnb := h.nb
  have HI := Lib.hid (h.is (k : Int))
  rw [is_is hk] at HI
  have HV := Lib.hid (show ownV (wh k) = .tuple #[.int .i64 (nm (wh k)), .bool (fl (wh k))] from rfl)
  clear h
  generalize fl (wh k) = z0 at *
  generalize nm (wh k) = z1 at *
  go_enter Try.func13, Try.ntmps13
  go_wp2_with (go_at_call 21; ((with_reducible refine HI.out.mono ?_); rintro e w' ⟨rfl, rfl⟩))
  go_quiet (fail)
  go_wp2
  go_ret2
  exact ⟨by rw [HV.out]; rfl, _, rfl⟩
theorem Lat.owner_no (h : Lat W b g N wh) {i : Int} (hi : isB N i = false) : Calls Try.prog 13 #[wp b, .int .i64 i] W fun e w' => e = .returned (ownV (-1)) ∧ W = w' := by
  have HI := Lib.hid (h.is i)
  rw [hi] at HI
  clear h hi
  go_enter Try.func13, Try.ntmps13
  go_wp2_with (go_at_call 21; ((with_reducible refine HI.out.mono ?_); rintro e w' ⟨rfl, rfl⟩))
  go_ret2
  exact ⟨rfl, rfl⟩
theorem ownern_any (W : World) (i : Int) : Calls Try.prog 13 #[.pointer none, .int .i64 i] W fun e w' => e = .returned (ownV (-1)) ∧ W = w' := by
  go_enter Try.func13, Try.ntmps13
  go_wp2_with (go_at_call 21; ((with_reducible refine (isn_any W i).mono ?_); rintro e w' ⟨rfl, rfl⟩))
  go_ret2
  exact ⟨rfl, rfl⟩
theorem taken_any (W : World) (who i : Int) : Calls Try.prog 9 #[.pointer none, .int .i64 who, .int .i64 i] W fun e w' => e = .returned (.int .i64 1) ∧ W = w' := by
  go_enter Try.func9, Try.ntmps9
  go_wp2_with (go_at_call 19; ((with_reducible refine (mayn_any W who i).mono ?_); rintro e w' ⟨rfl, rfl⟩))
  go_ret
  exact ⟨rfl, rfl⟩
theorem given_any (W : World) (who i : Int) : Calls Try.prog 11 #[.pointer none, .int .i64 who, .int .i64 i] W fun e w' => e = .returned (.int .i64 1) ∧ W = w' := by
  go_enter Try.func11, Try.ntmps11
  go_wp2_with (go_at_call 19; ((with_reducible refine (mayn_any W who i).mono ?_); rintro e w' ⟨rfl, rfl⟩))
  go_ret
  exact ⟨rfl, rfl⟩

def cl (n : Int) : Nat := if n < 1 then 1 else if 64 < n then 64 else n.toNat
theorem cl_le (n : Int) : 1 ≤ cl n ∧ cl n ≤ 64 := by unfold cl; split <;> (try split) <;> omega
theorem info49 : (Try.prog.info? 49).map (fun i => (i.zero, i.size, i.bytes)) = some (some (.agg #[.bool false, .int .i64 0]), 2, 16) := by kernel_rfl
theorem heap_new' (w : World) (o : Obj) : (w.alloc o).heap[w.heap.size]? = some o := heap_alloc_new w o
theorem mk_owners (W : World) (N : Nat) (hN : N ≤ 64) : (Instr.makeSlice 44 (.int .i64 (N : Int)) (.int .i64 (N : Int))).run Try.prog W = .ok (.slice (some ⟨W.heap.size, 0, none⟩) N N) (W.alloc (.cells (madeCells #[.bool false, .int .i64 0] (N * 2)) 49)) := by
  obtain ⟨i0, hi, hz0, hz1, hz2⟩ := info_parts info49
  have := run_make (P := Try.prog) W 44 49 i0 _ Try.underlying44 hi hz0 .i64 .i64 (N : Int) (N : Int) (by omega) (Int.le_refl _) (by rw [hz2]; omega) (by omega)
  rw [hz1, show (N : Int).toNat = N by omega] at this
  exact this
theorem zero2 {n j : Nat} (hj : j < n) : (madeCells #[.bool false, .int .i64 0] n)[j]? = some (if j % 2 = 0 then .bool false else .int .i64 0) := by
  have h3 : j % 2 = 0 ∨ j % 2 = 1 := by omega
  rcases h3 with e | e <;> simp [madeCells, hj, e]
theorem lat_made (W : World) (N : Nat) (h1 : 1 ≤ N) (h2 : N ≤ 64) : Lat ((W.alloc (.cells (madeCells #[.bool false, .int .i64 0] (N * 2)) 49)).alloc (.cells #[.slice (some ⟨W.heap.size, 0, none⟩) N N] 46)) (W.heap.size + 1) W.heap.size N (fun _ => -1) := by
  have hb : ((W.alloc (.cells (madeCells #[.bool false, .int .i64 0] (N * 2)) 49)).alloc (.cells #[.slice (some ⟨W.heap.size, 0, none⟩) N N] 46)).heap[W.heap.size]? = some (.cells (madeCells #[.bool false, .int .i64 0] (N * 2)) 49) :=
    ((box_below _ _).block W.heap.size (by simp)).trans (heap_new' _ _)
  refine ⟨by simp [go_sem], fun k hk => ?_, fun k hk => ?_, fun o => frozen_of_row _ _ _ _ _ hb, by simp; omega, by omega, h1, h2, fun _ => Int.le_refl _⟩
  · rw [cell_of_row _ _ _ _ _ _ hb, zero2 (by omega), if_pos (by omega)]; rfl
  · rw [cell_of_row _ _ _ _ _ _ hb, zero2 (by omega), if_neg (by omega)]; rfl
def NewAt (W : World) (N : Nat) (e : Ending) (w' : World) : Prop := ∃ b g, e = .returned (wp b) ∧ Lat w' b g N (fun _ => -1) ∧ Below W.heap.size W w' ∧ W.heap.size ≤ b ∧ W.heap.size ≤ g
theorem new_nat (N : Nat) (W : World) (h1 : 1 ≤ N) (h2 : N ≤ 64) (n : Int) (hn : cl n = N) : Calls Try.prog 7 #[.int .i64 n] W (NewAt W N) := by
  have hmk := mk_owners W N h2
  have HL := Lib.hid (lat_made W N h1 h2)
  have HB := Lib.hid ((box_below W (.cells (madeCells #[.bool false, .int .i64 0] (N * 2)) 49)).alloc (by simp) (.cells #[.slice (some ⟨W.heap.size, 0, none⟩) N N] 46))
  have hmax : ∀ ts ty W, (Builtin.max_ ts ty #[.int .i64 n, .int .i64 1]).run Try.prog W = .ok (.int .i64 (max n 1)) W := fun ts ty W => by rw [run_max_int2]; congr 2; omega
  have hmin : ∀ ts ty W, (Builtin.min_ ts ty #[.int .i64 (max n 1), .int .i64 64]).run Try.prog W = .ok (.int .i64 (N : Int)) W := fun ts ty W => by
    rw [run_min_int2]; congr 2; unfold cl at hn; split at hn <;> (try split at hn) <;> split <;> omega
  generalize max n 1 = x at hmax hmin
  clear hn
  go_enter Try.func7, Try.ntmps7
  go_wp2
  go_ret
  exact ⟨_, _, rfl, HL.out, HB.out, by omega, Nat.le_refl _⟩
theorem new_any (n : Int) (W : World) : Calls Try.prog 7 #[.int .i64 n] W (NewAt W (cl n)) := new_nat _ W (cl_le n).1 (cl_le n).2 n rfl
end
end Go.Proofs.Ytmaiogaeibmpnaa
