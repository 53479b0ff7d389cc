/- Numbers in memory: a list that is read, numbers in a block of their own; what covers all of a list of modes (the program's answer and the document's); what covers all of a list of holds. -/
import Derived.Test.YtfapgecpndlibaaDoorGA
import Derived.Test.YtfapgecpndlibaaDoorD3
namespace Go.Proofs.YtfapgecpndlibaaDoor
open Go Go.RowKit Go.Shelf

theorem sup_g {m n : Int} {v : Nat} (w : World) (h : supN (kn m) (kn n) = v) : Gives w 40 #[.int .i64 m, .int .i64 n] (.int .i64 (v : Nat)) := fun w' hb => by rw [← h]; exact sup_any m n w w' hb
theorem rsup_g {m n : Int} {v : Nat} (w : World) (h : supN (kn m) (kn n) = v) : Gives w 25 #[.int .i64 m, .int .i64 n] (.int .i64 (v : Nat)) := fun w' hb => by rw [← h]; exact rsup_any m n w w' hb
/-- what covers all of a list of modes -/
def grpN (zs : List Int) : Nat := zs.foldl (fun a m => supN a (kn m)) 0
theorem grpN_le (zs : List Int) : grpN zs ≤ 6 := by
  unfold grpN
  have : ∀ (l : List Int) (a : Nat), a ≤ 6 → l.foldl (fun a m => supN a (kn m)) a ≤ 6 := by
    intro l
    induction l with
    | nil => intro a h; exact h
    | cons x l ih => intro a _; exact ih _ (supN_le _ _)
  exact this zs 0 (by omega)
theorem grpN_snoc (zs : List Int) (k : Nat) (hk : k < zs.length) : grpN (zs.take (k + 1)) = supN (grpN (zs.take k)) (kn zs[k]) := by
  unfold grpN
  rw [List.take_succ_eq_append_getElem hk, List.foldl_append]
  simp
/-- a list of numbers that is read -/
def Nu (W : World) (A : Option Addr) (zs : List Int) : Prop := ∀ i (h : i < zs.length), ∃ ad, A = some ad ∧ W.cell? (ad.add i) = some (.int .i64 zs[i])
section
variable {W W' : World} {A : Option Addr} {zs : List Int} {c : Nat}
theorem Nu.below (h : Nu W A zs) (hb : Below W.heap.size W W') : Nu W' A zs := fun i hi => by
  obtain ⟨ad, h1, h2⟩ := h i hi
  exact ⟨ad, h1, by rw [hb.cell (p := ad.add i) (cell_lt h2)]; exact h2⟩
theorem group_any (h : Nu W A zs) (hl : zs.length ≤ 500) : Calls Tryd.prog 24 #[.slice A zs.length c] W fun e w' => e = .returned (.int .i64 (grpN zs : Nat)) ∧ Below W.heap.size W w' := by
  have HC := Lib.hid h
  clear h
  obtain ⟨n, hn⟩ : ∃ n, zs.length = n := ⟨_, rfl⟩
  have HN := Lib.hid hn
  rw [hn] at hl ⊢
  clear hn
  go_enter Tryd.func24, Tryd.ntmps24
  go_wp2
  go_loopw [3, 8] (fun x i wr => ∃ k : Nat, k ≤ n ∧ i = .int .i64 k ∧ x = .int .i64 (grpN (zs.take k) : Nat) ∧ Below W.heap.size W wr) (fun _ i _ => n - (intOf i).toNat)
  case atStart => exact ⟨0, by omega, rfl, by simp [grpN], Below.refl _ _⟩
  case round =>
    obtain ⟨k, hk, rfl, rfl, hb⟩ := hrel
    by_cases hlt : k < n
    · have hk' : k < zs.length := by rw [HN.out]; exact hlt
      obtain ⟨ad, rfl, hcell⟩ := (HC.out.below hb) k hk'
      have HV := grpN_snoc zs k hk'
      generalize zs[k] = z at hcell HV
      obtain ⟨g, hg⟩ : ∃ g, grpN (zs.take k) = g := ⟨_, rfl⟩
      have kg : g ≤ 6 := hg ▸ grpN_le _
      obtain ⟨v, hv⟩ : ∃ v, supN g (kn z) = v := ⟨_, rfl⟩
      have q : Gives W 40 #[.int .i64 (g : Nat), .int .i64 z] (.int .i64 (v : Nat)) := sup_g W (by rw [kn_nat kg, hv])
      rw [hg, hv] at HV
      replace HV := Lib.hid HV
      rw [hg]
      clear hg hv hk'
      go_wp2_with (go_at_call 40; refine Gives.use (w0 := W) (by with_reducible assumption) (by assumption) ?_; intro w1 hb1)
      go_roundw
      case rel => exact ⟨k + 1, by omega, by go_num, by rw [HV.out], by assumption⟩
      case measure => simp [intOf]; omega
    · obtain rfl : k = n := by omega
      go_wp2
      go_ret
      exact ⟨ret_int (by rw [List.take_of_length_le (by have := HN.out; omega)]), hb⟩
theorem rgroup_any (h : Nu W A zs) (hl : zs.length ≤ 500) : Calls Tryd.prog 10 #[.slice A zs.length c] W fun e w' => e = .returned (.int .i64 (grpN zs : Nat)) ∧ Below W.heap.size W w' := by
  have HC := Lib.hid h
  clear h
  obtain ⟨n, hn⟩ : ∃ n, zs.length = n := ⟨_, rfl⟩
  have HN := Lib.hid hn
  rw [hn] at hl ⊢
  clear hn
  go_enter Tryd.func10, Tryd.ntmps10
  go_wp2
  go_loopw [3, 8] (fun x i wr => ∃ k : Nat, k ≤ n ∧ i = .int .i64 k ∧ x = .int .i64 (grpN (zs.take k) : Nat) ∧ Below W.heap.size W wr) (fun _ i _ => n - (intOf i).toNat)
  case atStart => exact ⟨0, by omega, rfl, by simp [grpN], Below.refl _ _⟩
  case round =>
    obtain ⟨k, hk, rfl, rfl, hb⟩ := hrel
    by_cases hlt : k < n
    · have hk' : k < zs.length := by rw [HN.out]; exact hlt
      obtain ⟨ad, rfl, hcell⟩ := (HC.out.below hb) k hk'
      have HV := grpN_snoc zs k hk'
      generalize zs[k] = z at hcell HV
      obtain ⟨g, hg⟩ : ∃ g, grpN (zs.take k) = g := ⟨_, rfl⟩
      have kg : g ≤ 6 := hg ▸ grpN_le _
      obtain ⟨v, hv⟩ : ∃ v, supN g (kn z) = v := ⟨_, rfl⟩
      have q : Gives W 25 #[.int .i64 (g : Nat), .int .i64 z] (.int .i64 (v : Nat)) := rsup_g W (by rw [kn_nat kg, hv])
      rw [hg, hv] at HV
      replace HV := Lib.hid HV
      rw [hg]
      clear hg hv hk'
      go_wp2_with (go_at_call 25; refine Gives.use (w0 := W) (by with_reducible assumption) (by assumption) ?_; intro w1 hb1)
      go_roundw
      case rel => exact ⟨k + 1, by omega, by go_num, by rw [HV.out], by assumption⟩
      case measure => simp [intOf]; omega
    · obtain rfl : k = n := by omega
      go_wp2
      go_ret
      exact ⟨ret_int (by rw [List.take_of_length_le (by have := HN.out; omega)]), hb⟩
end
theorem cell_far {W : World} {k o o' : Nat} {u : Value} (h : o' ≠ o) : (W.setCell ⟨k, o, none⟩ u).cell? ⟨k, o', none⟩ = W.cell? ⟨k, o', none⟩ :=
  World.cell?_setCell_other _ _ _ _ (fun e => h (by injection e with e1 e2; exact e2.symm))
theorem cell_near {W : World} {k o : Nat} {u x : Value} (h : W.cell? ⟨k, o, none⟩ = some x) : (W.setCell ⟨k, o, none⟩ u).cell? ⟨k, o, none⟩ = some u :=
  World.cell?_setCell_same' _ _ _ (by rw [h]; rfl)
/-- one value is changed -/
def upd (f : Nat → Int) (k : Nat) (x : Int) : Nat → Int := fun i => if i = k then x else f i
/-- numbers in a block of their own -/
structure Arr (W : World) (g n : Nat) (f : Nat → Int) : Prop where
  at' : ∀ i, i < n → W.cell? ⟨g, i, none⟩ = some (.int .i64 (f i))
  fz : ∀ o, W.frozen? ⟨g, o, none⟩ = false
  lt : g < W.heap.size
section
variable {W W' : World} {g n : Nat} {f f' : Nat → Int}
theorem Arr.keep (h : Arr W g n f) (hs : W.heap.size ≤ W'.heap.size) (hg : W'.heap[g]? = W.heap[g]?) : Arr W' g n f :=
  ⟨fun i hi => (World.cell?_of_block (w := W) (a := ⟨g, i, none⟩) hg).trans (h.at' i hi), fun o => (World.frozen?_of_block (w := W) (a := ⟨g, o, none⟩) hg).trans (h.fz o), Nat.lt_of_lt_of_le h.lt hs⟩
theorem Arr.below (h : Arr W g n f) (hb : Below W.heap.size W W') : Arr W' g n f := h.keep hb.size (hb.block g h.lt)
theorem Arr.congr (h : Arr W g n f) (he : ∀ i, i < n → f i = f' i) : Arr W g n f' := ⟨fun i hi => by rw [← he i hi]; exact h.at' i hi, h.fz, h.lt⟩
theorem Arr.set (h : Arr W g n f) (k : Nat) (x : Int) : Arr (W.setCell ⟨g, k, none⟩ (.int .i64 x)) g n (upd f k x) := by
  refine ⟨fun i hi => ?_, fun o => by rw [World.frozen?_setCell]; exact h.fz o, by simpa [World.setCell] using h.lt⟩
  unfold upd
  by_cases e : i = k
  · subst e; rw [if_pos rfl]; exact cell_near (h.at' i hi)
  · rw [if_neg e, cell_far e]; exact h.at' i hi
end
/-- the first k are laid -/
def laidN (F : Nat → Int) (k : Nat) : Nat → Int := fun i => if i < k then F i else 0
theorem Arr.fill {W : World} {g n k : Nat} {F : Nat → Int} (h : Arr W g n (laidN F k)) : Arr (W.setCell ⟨g, k, none⟩ (.int .i64 (F k))) g n (laidN F (k + 1)) :=
  (h.set k (F k)).congr fun i _ => by
    unfold upd laidN
    by_cases e : i = k
    · subst e; rw [if_pos rfl, if_pos (Nat.lt_succ_self _)]
    · rw [if_neg e]
      by_cases e2 : i < k
      · rw [if_pos e2, if_pos (by omega)]
      · rw [if_neg e2, if_neg (by omega)]
theorem info3 : (Tryd.prog.info? 3).map (fun i => (i.zero, i.size, i.bytes)) = some (some (.int .i64 0), 1, 8) := by kernel_rfl
theorem mk_ints (W : World) (N : Nat) (hN : N ≤ 65536) : (Instr.makeSlice 25 (.int .i64 (N : Int)) (.int .i64 (N : Int))).run Tryd.prog W = .ok (.slice (some ⟨W.heap.size, 0, none⟩) N N) (W.alloc (.cells (madeCells #[.int .i64 0] N) 3)) := by
  obtain ⟨i0, hi, hz0, hz1, hz2⟩ := info_parts info3
  have := run_make (P := Tryd.prog) W 25 3 i0 _ Tryd.underlying25 hi hz0 .i64 .i64 (N : Int) (N : Int) (by omega) (Int.le_refl _) (by rw [hz2]; omega) (by omega)
  rw [hz1, Int.toNat_natCast, Nat.mul_one] at this
  exact this
theorem Arr.made (W : World) (N : Nat) : Arr (W.alloc (.cells (madeCells #[.int .i64 0] N) 3)) W.heap.size N (fun _ => 0) := by
  have hb := heap_alloc_new W (.cells (madeCells #[.int .i64 0] N) 3)
  refine ⟨fun i hi => ?_, fun o => frozen_of_row _ _ _ _ _ hb, by simp⟩
  rw [cell_of_row _ _ _ _ _ _ hb]
  simp [madeCells, hi, Nat.mod_one]
/-- the modes of holds -/
def mods (xs : List Hd) : List Int := xs.map (·.2)
theorem mods_len (xs : List Hd) : (mods xs).length = xs.length := List.length_map _
theorem Arr.nu {W : World} {g n : Nat} {xs : List Hd} (h : Arr W g n (laidN (fun i => (xs.getD i (0, 0)).2) n)) (hn : xs.length = n) : Nu W (some ⟨g, 0, none⟩) (mods xs) := fun i hi => by
  rw [mods_len] at hi
  refine ⟨_, rfl, ?_⟩
  rw [add_at, h.at' i (by omega)]
  unfold laidN
  rw [if_pos (by omega)]
  simp [mods, List.getD, List.getElem?_eq_getElem hi]
section
variable {W W' : World} {A : Option Addr} {c : Nat} {xs : List Hd}
theorem mode_any (hr : Ls W A c xs) (hl : xs.length ≤ 500) : Calls Tryd.prog 9 #[.slice A xs.length c] W fun e w' => e = .returned (.int .i64 (grpN (mods xs) : Nat)) ∧ Below W.heap.size W w' := by
  have HR := Lib.hid hr
  obtain ⟨n, hn⟩ : ∃ n, xs.length = n := ⟨_, rfl⟩
  rw [hn] at hl ⊢
  have hmk := mk_ints W n (by omega)
  have H0 := Lib.hid (Arr.made W n)
  have B0 := Lib.hid (box_below W (.cells (madeCells #[.int .i64 0] n) 3))
  have HN := Lib.hid hn
  clear hr hn
  go_enter Tryd.func9, Tryd.ntmps9
  go_wp2
  generalize W.alloc (.cells (madeCells #[.int .i64 0] n) 3) = W1 at H0 B0 ⊢
  clear hmk
  obtain ⟨g, hg⟩ : ∃ g, W.heap.size = g := ⟨_, rfl⟩
  have HG := Lib.hid hg
  rw [hg] at H0
  rw [hg]
  clear hg
  go_loopw [11] (fun t wr => ∃ k : Nat, k ≤ n ∧ t = .int .i64 k ∧ Arr wr g n (laidN (fun i => (xs.getD i (0, 0)).2) k) ∧ Below W.heap.size W wr) (fun t _ => n - (intOf t).toNat)
  case atStart => exact ⟨0, by omega, rfl, H0.out.congr (fun i _ => (if_neg (Nat.not_lt_zero i)).symm), B0.out⟩
  case round =>
    obtain ⟨k, hk, rfl, hn, hb⟩ := hrel
    have H := Lib.hid hn
    have HB := Lib.hid hb
    clear hn hb H0 B0
    by_cases hlt : k < n
    · have hk' : k < xs.length := by rw [HN.out]; exact hlt
      obtain ⟨ad, rfl, c0, c1⟩ := (HR.out.below HB.out).here hk'
      have q0 := H.out.at' k hlt
      have f0 := H.out.fz k
      have hgl : W.heap.size ≤ g := by rw [HG.out]; exact Nat.le_refl _
      have HF := H.out.fill
      rw [show (xs.getD k (0, 0)).2 = xs[k].2 by simp [List.getD, List.getElem?_eq_getElem hk']] at HF
      have hx1 := box_below (wr.setCell ⟨g, k, none⟩ (.int .i64 xs[k].2)) (.cells #[.int .i64 xs[k].1, .int .i64 xs[k].2] 28)
      replace HF := HF.below hx1
      have HO := HB.out.setCell (p := ⟨g, k, none⟩) hgl (.int .i64 xs[k].2)
      replace HO := HO.trans (hx1.mono HO.size)
      generalize xs[k] = x at c0 c1 HF HO q0 f0
      obtain ⟨t, m⟩ := x
      simp only at c0 c1 HF HO q0 f0
      replace HF := Lib.hid HF
      replace HO := Lib.hid HO
      generalize laidN (fun i => (xs.getD i (0, 0)).2) k k = x0 at q0
      have hgs : g < wr.heap.size := H.out.lt
      clear H HB hgl hk' hx1
      go_wp2
      go_roundw
      case rel => exact ⟨k + 1, by omega, by go_num, HF.out, HO.out⟩
      case measure => simp [intOf]; omega
    · obtain rfl : k = n := by omega
      have HU := H.out.nu HN.out
      have hgr := group_any (c := k) HU (by rw [mods_len, HN.out]; omega)
      rw [mods_len, HN.out] at hgr
      have HGr := Lib.hid hgr
      clear H HU hgr
      go_wp2_with (go_at_call 24; ((with_reducible refine HGr.out.mono ?_); rintro e w1 ⟨rfl, hb1⟩))
      go_ret
      exact ⟨rfl, HB.out.trans (hb1.mono HB.out.size)⟩
end
end Go.Proofs.YtfapgecpndlibaaDoor
