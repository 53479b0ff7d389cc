/- Whether all modes that are there go together, by their counts. -/
import Derived.Test.YteaibamkfccplaaDoorHE2
namespace Go.Proofs.YteaibamkfccplaaDoor.Hs
open Go Go.RowKit Go.Shelf

/-- one of a mode is taken out -/
def dec (f : Nat → Int) (k : Nat) : Nat → Int := fun i => if i = k then f i - 1 else f i
/-- whether all that are there go together -/
def togB (f : Nat → Int) : Bool := eachB f (fun m => eachB (dec f m) (fun o => symB m o))
abbrev cells7 (f : Nat → Int) : Array Value := #[.int .i64 (f 0), .int .i64 (f 1), .int .i64 (f 2), .int .i64 (f 3), .int .i64 (f 4), .int .i64 (f 5), .int .i64 (f 6)]
theorem Arr.boxed (W : World) (f : Nat → Int) : Arr (W.alloc (.cells (cells7 f) 80)) W.heap.size 7 f := by
  have hb := heap_alloc_new W (.cells (cells7 f) 80)
  refine ⟨fun i hi => ?_, fun o => frozen_of_row _ _ _ _ _ hb, by simp⟩
  rw [cell_of_row _ _ _ _ _ _ hb]
  match i, hi with
  | 0, _ => rfl
  | 1, _ => rfl
  | 2, _ => rfl
  | 3, _ => rfl
  | 4, _ => rfl
  | 5, _ => rfl
  | 6, _ => rfl
section
variable {W W' : World} {f : Nat → Int} {B : Nat}
theorem tst_sym {k : Nat} (hk : k ≤ 6) (ht : TabG W) (hc : W.cell? ⟨B, 0, none⟩ = some (.int .i64 (k : Nat))) : Tst W 76 #[.pointer (some ⟨B, 0, none⟩)] (fun o => symB k o) := by
  refine ⟨enters_of Tryd.func76 (by kernel_rfl) rfl, fun W' o ho hb => ?_⟩
  have hc' := (hb.cell (p := ⟨B, 0, none⟩) (cell_lt hc)).trans hc
  have H := Lib.hid (sym_any (k : Int) (o : Int) W W' ht hb)
  rw [kn_nat hk, kn_nat ho] at H
  change Calls Tryd.prog 76 _ W' fun e w' => e = .returned (.bool (symB k o)) ∧ _
  generalize symB k o = b at *
  clear ht hc hb
  go_enter Tryd.func76, Tryd.ntmps76
  go_wp2_with (go_at_call 77; ((with_reducible refine H.out.mono ?_); rintro e w' ⟨rfl, hb⟩))
  go_ret
  exact ⟨rfl, hb⟩
theorem tog_0 (ht : TabG W) (ha : Arr W B 7 f) (hb : Below W.heap.size W W') (h0 : 0 ≤ f 0) (h1 : f 0 ≤ 5000) :
    Calls Tryd.prog 75 #[.int .i64 0, .pointer (some ⟨B, 0, none⟩)] W' fun e w' => e = .returned (.bool (eachB (dec f 0) (fun o => symB 0 o))) ∧ Below W.heap.size W w' := by
  have hx := ha.below hb
  have a0 := hx.at' 0 (by omega)
  have a1 := hx.at' 1 (by omega)
  have a2 := hx.at' 2 (by omega)
  have a3 := hx.at' 3 (by omega)
  have a4 := hx.at' 4 (by omega)
  have a5 := hx.at' 5 (by omega)
  have a6 := hx.at' 6 (by omega)
  have HX := Lib.hid (fun (w2 : World) (hc : w2.cell? ⟨W'.heap.size, 0, none⟩ = some (.int .i64 (0 : Nat))) (ht2 : TabG w2) => each_any (f := dec f 0) (tst_sym (k := 0) (by omega) ht2 hc))
  have HB := Lib.hid hb
  have HT := Lib.hid ht
  have hlt := hx.lt
  clear hx ha hb ht
  go_enter Tryd.func75, Tryd.ntmps75
  go_wp2_with fail
  have hb2 := (box_below W' (.cells #[.int .i64 0] 3))
  have hb3 := hb2.trans ((box_below (W'.alloc (.cells #[.int .i64 0] 3)) (.cells (cells7 (dec f 0)) 80)).mono hb2.size)
  have HB3 := Lib.hid (HB.out.trans (hb3.mono HB.out.size))
  refine (HX.out _ (by simp [go_sem]) (HT.out.later HB3.out)).mono ?_
  rintro e w3 ⟨rfl, hb4⟩
  have HB4 := Lib.hid (HB3.out.trans (hb4.mono HB3.out.size))
  clear hb2 hb3 hb4 HX
  go_wp2_with fail
  go_ret
  exact ⟨rfl, HB4.out⟩
theorem tog_1 (ht : TabG W) (ha : Arr W B 7 f) (hb : Below W.heap.size W W') (h0 : 0 ≤ f 1) (h1 : f 1 ≤ 5000) :
    Calls Tryd.prog 75 #[.int .i64 1, .pointer (some ⟨B, 0, none⟩)] W' fun e w' => e = .returned (.bool (eachB (dec f 1) (fun o => symB 1 o))) ∧ Below W.heap.size W w' := by
  have hx := ha.below hb
  have a0 := hx.at' 0 (by omega)
  have a1 := hx.at' 1 (by omega)
  have a2 := hx.at' 2 (by omega)
  have a3 := hx.at' 3 (by omega)
  have a4 := hx.at' 4 (by omega)
  have a5 := hx.at' 5 (by omega)
  have a6 := hx.at' 6 (by omega)
  have HX := Lib.hid (fun (w2 : World) (hc : w2.cell? ⟨W'.heap.size, 0, none⟩ = some (.int .i64 (1 : Nat))) (ht2 : TabG w2) => each_any (f := dec f 1) (tst_sym (k := 1) (by omega) ht2 hc))
  have HB := Lib.hid hb
  have HT := Lib.hid ht
  have hlt := hx.lt
  clear hx ha hb ht
  go_enter Tryd.func75, Tryd.ntmps75
  go_wp2_with fail
  have hb2 := (box_below W' (.cells #[.int .i64 1] 3))
  have hb3 := hb2.trans ((box_below (W'.alloc (.cells #[.int .i64 1] 3)) (.cells (cells7 (dec f 1)) 80)).mono hb2.size)
  have HB3 := Lib.hid (HB.out.trans (hb3.mono HB.out.size))
  refine (HX.out _ (by simp [go_sem]) (HT.out.later HB3.out)).mono ?_
  rintro e w3 ⟨rfl, hb4⟩
  have HB4 := Lib.hid (HB3.out.trans (hb4.mono HB3.out.size))
  clear hb2 hb3 hb4 HX
  go_wp2_with fail
  go_ret
  exact ⟨rfl, HB4.out⟩
theorem tog_2 (ht : TabG W) (ha : Arr W B 7 f) (hb : Below W.heap.size W W') (h0 : 0 ≤ f 2) (h1 : f 2 ≤ 5000) :
    Calls Tryd.prog 75 #[.int .i64 2, .pointer (some ⟨B, 0, none⟩)] W' fun e w' => e = .returned (.bool (eachB (dec f 2) (fun o => symB 2 o))) ∧ Below W.heap.size W w' := by
  have hx := ha.below hb
  have a0 := hx.at' 0 (by omega)
  have a1 := hx.at' 1 (by omega)
  have a2 := hx.at' 2 (by omega)
  have a3 := hx.at' 3 (by omega)
  have a4 := hx.at' 4 (by omega)
  have a5 := hx.at' 5 (by omega)
  have a6 := hx.at' 6 (by omega)
  have HX := Lib.hid (fun (w2 : World) (hc : w2.cell? ⟨W'.heap.size, 0, none⟩ = some (.int .i64 (2 : Nat))) (ht2 : TabG w2) => each_any (f := dec f 2) (tst_sym (k := 2) (by omega) ht2 hc))
  have HB := Lib.hid hb
  have HT := Lib.hid ht
  have hlt := hx.lt
  clear hx ha hb ht
  go_enter Tryd.func75, Tryd.ntmps75
  go_wp2_with fail
  have hb2 := (box_below W' (.cells #[.int .i64 2] 3))
  have hb3 := hb2.trans ((box_below (W'.alloc (.cells #[.int .i64 2] 3)) (.cells (cells7 (dec f 2)) 80)).mono hb2.size)
  have HB3 := Lib.hid (HB.out.trans (hb3.mono HB.out.size))
  refine (HX.out _ (by simp [go_sem]) (HT.out.later HB3.out)).mono ?_
  rintro e w3 ⟨rfl, hb4⟩
  have HB4 := Lib.hid (HB3.out.trans (hb4.mono HB3.out.size))
  clear hb2 hb3 hb4 HX
  go_wp2_with fail
  go_ret
  exact ⟨rfl, HB4.out⟩
theorem tog_3 (ht : TabG W) (ha : Arr W B 7 f) (hb : Below W.heap.size W W') (h0 : 0 ≤ f 3) (h1 : f 3 ≤ 5000) :
    Calls Tryd.prog 75 #[.int .i64 3, .pointer (some ⟨B, 0, none⟩)] W' fun e w' => e = .returned (.bool (eachB (dec f 3) (fun o => symB 3 o))) ∧ Below W.heap.size W w' := by
  have hx := ha.below hb
  have a0 := hx.at' 0 (by omega)
  have a1 := hx.at' 1 (by omega)
  have a2 := hx.at' 2 (by omega)
  have a3 := hx.at' 3 (by omega)
  have a4 := hx.at' 4 (by omega)
  have a5 := hx.at' 5 (by omega)
  have a6 := hx.at' 6 (by omega)
  have HX := Lib.hid (fun (w2 : World) (hc : w2.cell? ⟨W'.heap.size, 0, none⟩ = some (.int .i64 (3 : Nat))) (ht2 : TabG w2) => each_any (f := dec f 3) (tst_sym (k := 3) (by omega) ht2 hc))
  have HB := Lib.hid hb
  have HT := Lib.hid ht
  have hlt := hx.lt
  clear hx ha hb ht
  go_enter Tryd.func75, Tryd.ntmps75
  go_wp2_with fail
  have hb2 := (box_below W' (.cells #[.int .i64 3] 3))
  have hb3 := hb2.trans ((box_below (W'.alloc (.cells #[.int .i64 3] 3)) (.cells (cells7 (dec f 3)) 80)).mono hb2.size)
  have HB3 := Lib.hid (HB.out.trans (hb3.mono HB.out.size))
  refine (HX.out _ (by simp [go_sem]) (HT.out.later HB3.out)).mono ?_
  rintro e w3 ⟨rfl, hb4⟩
  have HB4 := Lib.hid (HB3.out.trans (hb4.mono HB3.out.size))
  clear hb2 hb3 hb4 HX
  go_wp2_with fail
  go_ret
  exact ⟨rfl, HB4.out⟩
theorem tog_4 (ht : TabG W) (ha : Arr W B 7 f) (hb : Below W.heap.size W W') (h0 : 0 ≤ f 4) (h1 : f 4 ≤ 5000) :
    Calls Tryd.prog 75 #[.int .i64 4, .pointer (some ⟨B, 0, none⟩)] W' fun e w' => e = .returned (.bool (eachB (dec f 4) (fun o => symB 4 o))) ∧ Below W.heap.size W w' := by
  have hx := ha.below hb
  have a0 := hx.at' 0 (by omega)
  have a1 := hx.at' 1 (by omega)
  have a2 := hx.at' 2 (by omega)
  have a3 := hx.at' 3 (by omega)
  have a4 := hx.at' 4 (by omega)
  have a5 := hx.at' 5 (by omega)
  have a6 := hx.at' 6 (by omega)
  have HX := Lib.hid (fun (w2 : World) (hc : w2.cell? ⟨W'.heap.size, 0, none⟩ = some (.int .i64 (4 : Nat))) (ht2 : TabG w2) => each_any (f := dec f 4) (tst_sym (k := 4) (by omega) ht2 hc))
  have HB := Lib.hid hb
  have HT := Lib.hid ht
  have hlt := hx.lt
  clear hx ha hb ht
  go_enter Tryd.func75, Tryd.ntmps75
  go_wp2_with fail
  have hb2 := (box_below W' (.cells #[.int .i64 4] 3))
  have hb3 := hb2.trans ((box_below (W'.alloc (.cells #[.int .i64 4] 3)) (.cells (cells7 (dec f 4)) 80)).mono hb2.size)
  have HB3 := Lib.hid (HB.out.trans (hb3.mono HB.out.size))
  refine (HX.out _ (by simp [go_sem]) (HT.out.later HB3.out)).mono ?_
  rintro e w3 ⟨rfl, hb4⟩
  have HB4 := Lib.hid (HB3.out.trans (hb4.mono HB3.out.size))
  clear hb2 hb3 hb4 HX
  go_wp2_with fail
  go_ret
  exact ⟨rfl, HB4.out⟩
theorem tog_5 (ht : TabG W) (ha : Arr W B 7 f) (hb : Below W.heap.size W W') (h0 : 0 ≤ f 5) (h1 : f 5 ≤ 5000) :
    Calls Tryd.prog 75 #[.int .i64 5, .pointer (some ⟨B, 0, none⟩)] W' fun e w' => e = .returned (.bool (eachB (dec f 5) (fun o => symB 5 o))) ∧ Below W.heap.size W w' := by
  have hx := ha.below hb
  have a0 := hx.at' 0 (by omega)
  have a1 := hx.at' 1 (by omega)
  have a2 := hx.at' 2 (by omega)
  have a3 := hx.at' 3 (by omega)
  have a4 := hx.at' 4 (by omega)
  have a5 := hx.at' 5 (by omega)
  have a6 := hx.at' 6 (by omega)
  have HX := Lib.hid (fun (w2 : World) (hc : w2.cell? ⟨W'.heap.size, 0, none⟩ = some (.int .i64 (5 : Nat))) (ht2 : TabG w2) => each_any (f := dec f 5) (tst_sym (k := 5) (by omega) ht2 hc))
  have HB := Lib.hid hb
  have HT := Lib.hid ht
  have hlt := hx.lt
  clear hx ha hb ht
  go_enter Tryd.func75, Tryd.ntmps75
  go_wp2_with fail
  have hb2 := (box_below W' (.cells #[.int .i64 5] 3))
  have hb3 := hb2.trans ((box_below (W'.alloc (.cells #[.int .i64 5] 3)) (.cells (cells7 (dec f 5)) 80)).mono hb2.size)
  have HB3 := Lib.hid (HB.out.trans (hb3.mono HB.out.size))
  refine (HX.out _ (by simp [go_sem]) (HT.out.later HB3.out)).mono ?_
  rintro e w3 ⟨rfl, hb4⟩
  have HB4 := Lib.hid (HB3.out.trans (hb4.mono HB3.out.size))
  clear hb2 hb3 hb4 HX
  go_wp2_with fail
  go_ret
  exact ⟨rfl, HB4.out⟩
theorem tog_6 (ht : TabG W) (ha : Arr W B 7 f) (hb : Below W.heap.size W W') (h0 : 0 ≤ f 6) (h1 : f 6 ≤ 5000) :
    Calls Tryd.prog 75 #[.int .i64 6, .pointer (some ⟨B, 0, none⟩)] W' fun e w' => e = .returned (.bool (eachB (dec f 6) (fun o => symB 6 o))) ∧ Below W.heap.size W w' := by
  have hx := ha.below hb
  have a0 := hx.at' 0 (by omega)
  have a1 := hx.at' 1 (by omega)
  have a2 := hx.at' 2 (by omega)
  have a3 := hx.at' 3 (by omega)
  have a4 := hx.at' 4 (by omega)
  have a5 := hx.at' 5 (by omega)
  have a6 := hx.at' 6 (by omega)
  have HX := Lib.hid (fun (w2 : World) (hc : w2.cell? ⟨W'.heap.size, 0, none⟩ = some (.int .i64 (6 : Nat))) (ht2 : TabG w2) => each_any (f := dec f 6) (tst_sym (k := 6) (by omega) ht2 hc))
  have HB := Lib.hid hb
  have HT := Lib.hid ht
  have hlt := hx.lt
  clear hx ha hb ht
  go_enter Tryd.func75, Tryd.ntmps75
  go_wp2_with fail
  have hb2 := (box_below W' (.cells #[.int .i64 6] 3))
  have hb3 := hb2.trans ((box_below (W'.alloc (.cells #[.int .i64 6] 3)) (.cells (cells7 (dec f 6)) 80)).mono hb2.size)
  have HB3 := Lib.hid (HB.out.trans (hb3.mono HB.out.size))
  refine (HX.out _ (by simp [go_sem]) (HT.out.later HB3.out)).mono ?_
  rintro e w3 ⟨rfl, hb4⟩
  have HB4 := Lib.hid (HB3.out.trans (hb4.mono HB3.out.size))
  clear hb2 hb3 hb4 HX
  go_wp2_with fail
  go_ret
  exact ⟨rfl, HB4.out⟩
theorem tst_tog (ht : TabG W) (ha : Arr W B 7 f) (hf : ∀ k, 0 ≤ f k ∧ f k ≤ 5000) : Tst W 75 #[.pointer (some ⟨B, 0, none⟩)] (fun m => eachB (dec f m) (fun o => symB m o)) := by
  refine ⟨enters_of Tryd.func75 (by kernel_rfl) rfl, fun W' k hk hb => ?_⟩
  have hc : k = 0 ∨ k = 1 ∨ k = 2 ∨ k = 3 ∨ k = 4 ∨ k = 5 ∨ k = 6 := by omega
  rcases hc with rfl | rfl | rfl | rfl | rfl | rfl | rfl
  · exact tog_0 ht ha hb (hf 0).1 (hf 0).2
  · exact tog_1 ht ha hb (hf 1).1 (hf 1).2
  · exact tog_2 ht ha hb (hf 2).1 (hf 2).2
  · exact tog_3 ht ha hb (hf 3).1 (hf 3).2
  · exact tog_4 ht ha hb (hf 4).1 (hf 4).2
  · exact tog_5 ht ha hb (hf 5).1 (hf 5).2
  · exact tog_6 ht ha hb (hf 6).1 (hf 6).2
theorem together_any (ht : TabG W) (hf : ∀ k, 0 ≤ f k ∧ f k ≤ 5000) : Calls Tryd.prog 50 #[arr f] W fun e w' => e = .returned (.bool (togB f)) ∧ Below W.heap.size W w' := by
  have hb0 := box_below W (.cells (cells7 f) 80)
  have HX := Lib.hid (each_any (f := f) (tst_tog (ht.later hb0) (Arr.boxed W f) hf))
  have HE := Lib.hid (show togB f = eachB f (fun m => eachB (dec f m) (fun o => symB m o)) from rfl)
  rw [← HE.out] at HX
  generalize togB f = z at *
  have HB0 := Lib.hid hb0
  clear ht hf hb0
  go_enter Tryd.func50, Tryd.ntmps50
  go_wp2_with fail
  refine HX.out.mono ?_
  rintro e w3 ⟨rfl, hb4⟩
  have HB4 := Lib.hid (HB0.out.trans (hb4.mono HB0.out.size))
  clear hb4
  go_wp2_with fail
  go_ret
  exact ⟨rfl, HB4.out⟩
end
end Go.Proofs.YteaibamkfccplaaDoor.Hs
