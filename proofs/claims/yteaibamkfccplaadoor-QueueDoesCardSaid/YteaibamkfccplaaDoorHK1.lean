/- How many have each mode: the program's counts. -/
import Derived.Test.YteaibamkfccplaaDoorHN1
namespace Go.Proofs.YteaibamkfccplaaDoor.Hs
open Go Go.RowKit Go.Shelf

/-- how many have a mode -/
def cntF (xs : List Hd) (k : Nat) : Int := ((xs.countP (fun x => kn x.2 == k) : Nat) : Int)
theorem cntF_nil : cntF [] = fun _ => 0 := rfl
theorem cntF_snoc (xs : List Hd) (x : Hd) : cntF (xs ++ [x]) = upd (cntF xs) (kn x.2) (cntF xs (kn x.2) + 1) := by
  funext k
  unfold cntF upd
  rw [List.countP_append, List.countP_singleton]
  by_cases h : k = kn x.2
  · subst h; simp
  · rw [if_neg h, if_neg (by simpa using fun e => h e.symm)]; simp
theorem cntF_bounds (xs : List Hd) (k : Nat) : 0 ≤ cntF xs k ∧ cntF xs k ≤ xs.length := by
  unfold cntF
  have := List.countP_le_length (p := fun x : Hd => kn x.2 == k) (l := xs)
  omega
/-- seven numbers as a value -/
abbrev arr (f : Nat → Int) : Value := .agg #[.int .i64 (f 0), .int .i64 (f 1), .int .i64 (f 2), .int .i64 (f 3), .int .i64 (f 4), .int .i64 (f 5), .int .i64 (f 6)]
abbrev zeros7 : Array Value := #[.int .i64 0, .int .i64 0, .int .i64 0, .int .i64 0, .int .i64 0, .int .i64 0, .int .i64 0]
theorem Arr.zeros (W : World) : Arr (W.alloc (.cells zeros7 80)) W.heap.size 7 (fun _ => 0) := by
  have hb := heap_alloc_new W (.cells zeros7 80)
  refine ⟨fun i hi => ?_, fun o => frozen_of_row _ _ _ _ _ hb, by simp⟩
  rw [cell_of_row _ _ _ _ _ _ hb]
  match i, hi with
  | 0, _ => rfl
  | 1, _ => rfl
  | 2, _ => rfl
  | 3, _ => rfl
  | 4, _ => rfl
  | 5, _ => rfl
  | 6, _ => rfl
/-- an array of seven is handed out of its cells -/
theorem results_arr {fn : Func} {p : Tmp} (h : fn.results = #[.cell p 80]) {tmps : Array Value} {w : World} {b : Nat} {f : Nat → Int} (hp : tmps.getD p undef = .pointer (some ⟨b, 0, none⟩)) (hc : Arr w b 7 f) :
    (results fn tmps).run Tryd.prog w = .ok (arr f) w := by
  have hp' : tmps[p]?.getD undef = .pointer (some ⟨b, 0, none⟩) := by simpa using hp
  have h0 := hc.at' 0 (by omega)
  have h1 := hc.at' 1 (by omega)
  have h2 := hc.at' 2 (by omega)
  have h3 := hc.at' 3 (by omega)
  have h4 := hc.at' 4 (by omega)
  have h5 := hc.at' 5 (by omega)
  have h6 := hc.at' 6 (by omega)
  simp [results, h, hp', go_sem, h0, h1, h2, h3, h4, h5, h6]
/-- the counts as they stand -/
structure Cs (W : World) (l : List Hd) (w : World) : Prop where
  res : Arr w W.heap.size 7 (fun _ => 0)
  cnt : Arr w (W.heap.size + 1) 7 (cntF l)
  bel : Below W.heap.size W w
theorem Cs.start (W : World) : Cs W [] ((W.alloc (.cells zeros7 80)).alloc (.cells zeros7 80)) := by
  have h1 := Arr.zeros W
  have h2 := Arr.zeros (W.alloc (.cells zeros7 80))
  rw [show (W.alloc (.cells zeros7 80)).heap.size = W.heap.size + 1 by simp] at h2
  have b1 := box_below W (.cells zeros7 80)
  have b2 := box_below (W.alloc (.cells zeros7 80)) (.cells zeros7 80)
  exact ⟨h1.below b2, h2, b1.trans (b2.mono b1.size)⟩
theorem Cs.box {W w : World} {l : List Hd} (h : Cs W l w) (o : Obj) : Cs W l (w.alloc o) := ⟨h.res.below (box_below _ _), h.cnt.below (box_below _ _), h.bel.trans ((box_below w o).mono h.bel.size)⟩
theorem Arr.far {W : World} {g b n k : Nat} {f : Nat → Int} (h : Arr W g n f) (u : Value) (hb : g ≠ b) : Arr (W.setCell ⟨b, k, none⟩ u) g n f :=
  h.keep (by simp [World.setCell]) (Below.heap_setCell W ⟨b, k, none⟩ u g hb)
theorem Cs.next {W w : World} {l : List Hd} (h : Cs W l w) (x : Hd) : Cs W (l ++ [x]) (w.setCell ⟨W.heap.size + 1, kn x.2, none⟩ (.int .i64 (cntF l (kn x.2) + 1))) := by
  refine ⟨h.res.far _ (by omega), ?_, h.bel.setCell (p := ⟨W.heap.size + 1, kn x.2, none⟩) (by simp) _⟩
  rw [cntF_snoc]
  exact h.cnt.set _ _
section
variable {W W' : World} {A : Option Addr} {c : Nat} {xs : List Hd}
set_option maxRecDepth 100000 in
set_option maxHeartbeats 2000000 in
theorem counts_any (hr : Ls W A c xs) (hl : xs.length ≤ 5000) : Calls Tryd.prog 49 #[.slice A xs.length c] W fun e w' => e = .returned (arr (cntF xs)) ∧ Below W.heap.size W w' := by
  have HR := Lib.hid hr
  have HC0 := Lib.hid (Cs.start W)
  obtain ⟨n, hn⟩ : ∃ n, xs.length = n := ⟨_, rfl⟩
  rw [hn] at hl ⊢
  have HN := Lib.hid hn
  clear hr hn
  go_enter Tryd.func49, Tryd.ntmps49
  go_wp2
  go_loopw [8] (fun t wr => ∃ j : Nat, j ≤ n ∧ t = .int .i64 j ∧ Cs W (xs.take j) wr) (fun t _ => n - (intOf t).toNat)
  case atStart => exact ⟨0, by omega, rfl, HC0.out⟩
  case round =>
    obtain ⟨j, hj, rfl, hcs⟩ := hrel
    have HC := Lib.hid hcs
    clear hcs HC0
    have hsz := HC.out.cnt.lt
    by_cases hjn : j < n
    · have hjl : j < xs.length := by rw [HN.out]; exact hjn
      obtain ⟨a, rfl, c0, c1⟩ := (HR.out.below HC.out.bel).here hjl
      have HT := Lib.hid (List.take_succ_eq_append_getElem hjl)
      generalize xs[j] = x at c0 c1 HT
      obtain ⟨t, mm⟩ := x
      simp only at c0 c1
      clear hjl
      have hbd := cntF_bounds (xs.take j) (kn mm)
      have hbl : (cntF (xs.take j) (kn mm)) ≤ 5000 := by have := hbd.2; rw [List.length_take] at this; have := HN.out; omega
      have hb0 := hbd.1
      have q0 := HC.out.cnt.at' (kn mm) (by have := kn_le mm; omega)
      have f0 := HC.out.cnt.fz (kn mm)
      have HX := Lib.hid ((HC.out.next (t, mm)).box (.cells #[.int .i64 t, .int .i64 mm] 76))
      rw [← HT.out] at HX
      simp only at HX
      generalize cntF (xs.take j) (kn mm) = v at *
      clear hbd
      by_cases hm : 0 ≤ mm ∧ mm ≤ 6
      · have h0 := hm.1
        have h6 := hm.2
        obtain ⟨k, rfl⟩ : ∃ k : Nat, mm = k := ⟨mm.toNat, by omega⟩
        rw [kn_nat (by omega)] at HX q0 f0
        have k7 : k < 7 := by omega
        have HM := fun w => Lib.hid (may_yes (k : Int) w h0 h6)
        clear hm
        go_wp2_with (go_at_call 74; ((with_reducible refine (HM _).out.mono ?_); rintro e w' ⟨rfl, rfl⟩))
        go_roundw
        case rel => exact ⟨j + 1, by omega, by go_num, HX.out⟩
        case measure => simp [intOf]; omega
      · rw [kn_out hm] at HX q0 f0
        have HM := fun w => Lib.hid (may_no mm w hm)
        clear hm
        go_wp2_with (go_at_call 74; ((with_reducible refine (HM _).out.mono ?_); rintro e w' ⟨rfl, rfl⟩))
        go_roundw
        case rel => exact ⟨j + 1, by omega, by go_num, HX.out⟩
        case measure => simp [intOf]; omega
    · obtain rfl : j = n := by omega
      have HT := Lib.hid (List.take_of_length_le (Nat.le_of_eq HN.out))
      rw [HT.out] at HC
      have a0 := HC.out.cnt.at' 0 (by omega)
      have r0 := HC.out.res.at' 0 (by omega)
      have a1 := HC.out.cnt.at' 1 (by omega)
      have r1 := HC.out.res.at' 1 (by omega)
      have a2 := HC.out.cnt.at' 2 (by omega)
      have r2 := HC.out.res.at' 2 (by omega)
      have a3 := HC.out.cnt.at' 3 (by omega)
      have r3 := HC.out.res.at' 3 (by omega)
      have a4 := HC.out.cnt.at' 4 (by omega)
      have r4 := HC.out.res.at' 4 (by omega)
      have a5 := HC.out.cnt.at' 5 (by omega)
      have r5 := HC.out.res.at' 5 (by omega)
      have a6 := HC.out.cnt.at' 6 (by omega)
      have r6 := HC.out.res.at' 6 (by omega)
      have fz := HC.out.res.fz
      have HF := Lib.hid (Arr.congr (f' := cntF xs) (((((((HC.out.res.set 0 (cntF xs 0)).set 1 (cntF xs 1)).set 2 (cntF xs 2)).set 3 (cntF xs 3)).set 4 (cntF xs 4)).set 5 (cntF xs 5)).set 6 (cntF xs 6)) (fun i hi => by
        have hi7 : i = 0 ∨ i = 1 ∨ i = 2 ∨ i = 3 ∨ i = 4 ∨ i = 5 ∨ i = 6 := by omega
        rcases hi7 with rfl | rfl | rfl | rfl | rfl | rfl | rfl <;> simp [upd]))
      have HB := Lib.hid (((((((HC.out.bel.setCell (p := ⟨W.heap.size, 0, none⟩) (Nat.le_refl _) (.int .i64 (cntF xs 0))).setCell (p := ⟨W.heap.size, 1, none⟩) (Nat.le_refl _) (.int .i64 (cntF xs 1))).setCell (p := ⟨W.heap.size, 2, none⟩) (Nat.le_refl _) (.int .i64 (cntF xs 2))).setCell (p := ⟨W.heap.size, 3, none⟩) (Nat.le_refl _) (.int .i64 (cntF xs 3))).setCell (p := ⟨W.heap.size, 4, none⟩) (Nat.le_refl _) (.int .i64 (cntF xs 4))).setCell (p := ⟨W.heap.size, 5, none⟩) (Nat.le_refl _) (.int .i64 (cntF xs 5))).setCell (p := ⟨W.heap.size, 6, none⟩) (Nat.le_refl _) (.int .i64 (cntF xs 6)))
      clear HC
      go_wp2
      exact bodyPost_ret (results_arr rfl rfl HF.out) rfl ⟨rfl, HB.out⟩
end
end Go.Proofs.YteaibamkfccplaaDoor.Hs
