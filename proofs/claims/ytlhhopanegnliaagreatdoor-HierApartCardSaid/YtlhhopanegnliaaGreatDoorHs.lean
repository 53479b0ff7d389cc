/- Holds in memory: two cells each; a list that is read; a row of one's own, and what is put behind it. -/
import Derived.Test.YtlhhopanegnliaaGreatDoorR1
import Derived.Maps.AppendAt
import Derived.Deep.Upon
import Derived.Lib.AppendZeros
import Derived.Test.YtlhhopanegnliaaGreatDoorMo
import Derived.Lib.SliceRun
import Derived.BigQuiet
namespace Go.Proofs.YtlhhopanegnliaaGreatDoor.Hs
open Go Go.RowKit

/-- a hold: whose, which mode -/
abbrev Hd := Int × Int
def cellsW (x : Hd) : List Value := [.int .i64 x.1, .int .i64 x.2]
abbrev wv (x : Hd) : Value := .agg #[.int .i64 x.1, .int .i64 x.2]
def flat (xs : List Hd) : List Value := xs.flatMap cellsW
theorem flat_length (xs : List Hd) : (flat xs).length = xs.length * 2 := by
  induction xs with
  | nil => rfl
  | cons x xs ih => simp only [flat, List.flatMap_cons, List.length_append, List.length_cons] at ih ⊢; rw [ih]; simp [cellsW]; omega
theorem flat_append (xs ys : List Hd) : flat (xs ++ ys) = flat xs ++ flat ys := by simp [flat]
theorem flat_at : ∀ (xs : List Hd) (i j : Nat) (h : i < xs.length), j < 2 → (flat xs)[i * 2 + j]? = (cellsW xs[i])[j]?
  | x :: xs, 0, j, h, hj => by
    simp only [flat, List.flatMap_cons, Nat.zero_mul, Nat.zero_add, List.getElem_cons_zero]
    rw [List.getElem?_append_left (by simp [cellsW]; exact hj)]
  | x :: xs, i + 1, j, h, hj => by
    simp only [flat, List.flatMap_cons, List.getElem_cons_succ]
    rw [List.getElem?_append_right (by simp [cellsW]; omega)]
    have e : (i + 1) * 2 + j - (cellsW x).length = i * 2 + j := by simp [cellsW]; omega
    rw [e]
    exact flat_at xs i j (by simpa using h) hj
theorem flat_one (xs : List Hd) : ∀ u ∈ flat xs, u.oneCell' = true := by
  intro u hu
  obtain ⟨x, -, hx⟩ := List.mem_flatMap.1 hu
  simp only [cellsW, List.mem_cons, List.not_mem_nil, or_false] at hx
  rcases hx with rfl | rfl <;> rfl
theorem block_add' (a : Addr) (n : Nat) : (a.add n).block = a.block := by unfold Addr.add; split <;> rfl
theorem add_next (a : Addr) (k j : Nat) (hj : 0 < j) : a.add (k + j) = ⟨(a.add k).block, (a.add k).off + j, none⟩ := by
  unfold Addr.add
  rw [if_neg (by omega)]
  split
  · rename_i h; subst h; simp
  · simp; omega
theorem info28 : (Tryz.prog.info? 123).map (fun i => (i.zero, i.size, i.bytes)) = some (some (.agg #[.int .i64 0, .int .i64 0]), 2, 16) := by kernel_rfl

/-- a list that is read -/
structure Ls (W : World) (A : Option Addr) (c : Nat) (xs : List Hd) : Prop where
  cap : xs.length ≤ c
  room : c ≤ maxLen
  nil : A = none → c = 0
  at' : ∀ a, A = some a → ∀ j u, (flat xs)[j]? = some u → W.cell? (a.add j) = some u
/-- one of them, cell by cell -/
structure Here (W : World) (a : Addr) (i : Nat) (x : Hd) : Prop where
  c0 : W.cell? (a.add (i * 2)) = some (.int .i64 x.1)
  c1 : W.cell? ⟨(a.add (i * 2)).block, (a.add (i * 2)).off + 1, none⟩ = some (.int .i64 x.2)
section
variable {W W' : World} {A : Option Addr} {c K : Nat} {xs ys : List Hd}
theorem Ls.nils (W : World) : Ls W none 0 [] := ⟨Nat.le_refl _, Nat.zero_le _, fun _ => rfl, by simp⟩
theorem Ls.empty (h : Ls W none c xs) : xs = [] := by
  have h1 := h.cap
  have h2 := h.nil rfl
  exact List.length_eq_zero_iff.1 (by omega)
theorem Ls.keep (h : Ls W A c xs) (hk : ∀ a, A = some a → W'.heap[a.block]? = W.heap[a.block]?) : Ls W' A c xs :=
  ⟨h.cap, h.room, h.nil, fun a ha j u hj => (World.cell?_of_block (w := W) (a := a.add j) (by rw [block_add']; exact hk a ha)).trans (h.at' a ha j u hj)⟩
theorem Ls.below (h : Ls W A c xs) (hb : Below W.heap.size W W') : Ls W' A c xs :=
  ⟨h.cap, h.room, h.nil, fun a ha j u hj => by
    have := h.at' a ha j u hj
    rw [World.cell?_of_block (w := W) (a := a.add j) (hb.block _ (cell_lt this))]
    exact this⟩
theorem Ls.only {T : Nat → Prop} (h : Ls W A c xs) (ho : OnlyS T W W') (hT : ∀ a, A = some a → ¬ T a.block) : Ls W' A c xs :=
  ⟨h.cap, h.room, h.nil, fun a ha j u hj => by
    have := h.at' a ha j u hj
    rw [World.cell?_of_block (w := W) (a := a.add j) (ho.block _ (cell_lt this) (by rw [block_add']; exact hT a ha))]
    exact this⟩
theorem Ls.drewN (h : Ls W A c xs) (k : Nat) : Ls (W.drewN k) A c xs := ⟨h.cap, h.room, h.nil, h.at'⟩
theorem Ls.here (h : Ls W A c xs) {i : Nat} (hi : i < xs.length) : ∃ a, A = some a ∧ Here W a i xs[i] := by
  cases A with
  | none => have := h.empty; subst this; simp at hi
  | some a =>
    have key : ∀ j u, j < 2 → (cellsW xs[i])[j]? = some u → W.cell? (a.add (i * 2 + j)) = some u := fun j u hj hu => h.at' a rfl _ _ ((flat_at xs i j hi hj).trans hu)
    refine ⟨a, rfl, key 0 _ (by omega) rfl, ?_⟩
    rw [← add_next _ _ 1 (by omega)]; exact key 1 _ (by omega) rfl
theorem Ls.head (h : Ls W A c xs) (k : Nat) : Ls W A c (xs.take k) := by
  refine ⟨by rw [List.length_take]; have := h.cap; omega, h.room, h.nil, fun a ha j u hj => h.at' a ha j u ?_⟩
  have hj1 := (List.getElem?_eq_some_iff.1 hj).1
  have e : flat xs = flat (xs.take k) ++ flat (xs.drop k) := by rw [← flat_append, List.take_append_drop]
  rw [e, List.getElem?_append_left hj1]
  exact hj
theorem add_add (a : Addr) (i j : Nat) (hi : 0 < i) : (⟨a.block, a.off + i, none⟩ : Addr).add j = a.add (i + j) := by
  unfold Addr.add
  rw [if_neg (by omega : ¬ i + j = 0)]
  split
  · rename_i h; subst h; simp
  · simp; omega
theorem Ls.tail {a : Addr} (h : Ls W (some a) c xs) {k : Nat} (h0 : 0 < k) (hk : k ≤ xs.length) : Ls W (some ⟨a.block, a.off + k * 2, none⟩) (c - k) (xs.drop k) := by
  refine ⟨by rw [List.length_drop]; have := h.cap; omega, Nat.le_trans (Nat.sub_le _ _) h.room, by simp, fun b hb j u hj => ?_⟩
  obtain rfl : (⟨a.block, a.off + k * 2, none⟩ : Addr) = b := by simpa using hb
  rw [add_add a (k * 2) j (by omega)]
  refine h.at' a rfl _ _ ?_
  have e : flat xs = flat (xs.take k) ++ flat (xs.drop k) := by rw [← flat_append, List.take_append_drop]
  rw [e, List.getElem?_append_right (by rw [flat_length, List.length_take]; omega), flat_length, List.length_take]
  rw [show k * 2 + j - min k xs.length * 2 = j by rw [Nat.min_eq_left hk]; omega]
  exact hj
theorem Ls.none_left (a : Addr) (hc : c ≤ maxLen) : Ls W (some a) c [] := ⟨Nat.zero_le _, hc, by simp, fun _ _ j u hj => by simp [flat] at hj⟩
/-- one of one's own -/
abbrev Row (W : World) (K : Nat) (v : Value) (xs : List Hd) : Prop := W.ownsRow K 123 2 v xs.length (flat xs)
theorem Row.ls {v : Value} (h : Row W K v xs) : ∃ A c, v = .slice A xs.length c ∧ Ls W A c xs := by
  rcases h.2 with ⟨rfl, h0⟩ | ⟨g, cap, cur, rfl, hb, hg, h1, h2, h3, h4⟩
  · have := List.length_eq_zero_iff.1 h0
    subst this
    exact ⟨none, 0, rfl, Ls.nils _⟩
  · refine ⟨_, cap, rfl, by omega, h2, by simp, fun a ha j u hj => ?_⟩
    obtain rfl : (⟨g, 0, none⟩ : Addr) = a := by simpa using ha
    exact h.cells (g := g) rfl j u hj
theorem Ls.src (h : Ls W A c ys) : Src Tryz.prog 2 83 (.slice A ys.length c) ys.length (flat ys) W := by
  cases A with
  | none =>
    have := h.empty; subst this
    exact Src.ofNil W Tryz.underlying83 c
  | some a => exact Src.ofSlice W Tryz.underlying83 a ys.length c (flat ys) (flat_length ys) (h.at' a rfl) (flat_one ys)
/-- what is put behind a row of one's own -/
theorem Row.app {v : Value} (h : Row W K v xs) (hs : Ls W A c ys) (hl : xs.length + ys.length ≤ 1000) (hK : K ≤ W.heap.size) (ty : TypeId) :
    ∃ v' W', (Builtin.append_ #[83, 83] ty #[v, .slice A ys.length c]).run Tryz.prog W = .ok v' W' ∧ Row W' K v' (xs ++ ys) ∧ W.grownBy W' v.ownBlock ∧ (v'.ownBlock = v.ownBlock ∨ v'.ownBlock = some W.heap.size) := by
  obtain ⟨i0, hi, hz0, hz1, hz2⟩ := info_parts info28
  cases A with
  | none =>
    have := hs.empty; subst this
    have hc := hs.nil rfl
    subst hc
    obtain ⟨A', c', rfl, hls⟩ := h.ls
    refine ⟨_, W, run_append_nothing (P := Tryz.prog) W 83 83 ty 123 i0 Tryz.underlying83 hi A' xs.length c' hls.cap _ (by rw [hz1]; exact hs.src), by rw [List.append_nil]; exact h, ⟨rfl, rfl, rfl, Nat.le_refl _, fun _ _ _ => rfl⟩, .inl rfl⟩
  | some a =>
    obtain ⟨v', W', h1, h2, h3, -, h5⟩ := run_append_own_at (P := Tryz.prog) W K 83 ty 123 i0 _ 2 16 Tryz.underlying83 hi hz0 hz1 hz2 rfl (by decide) v xs.length (flat xs) h a ys.length c (flat ys) (flat_length ys) (hs.at' a rfl) (flat_one ys) (by unfold maxLen; omega) (by omega) hK
    refine ⟨v', W', h1, ?_, h3, h5⟩
    unfold Row
    rw [flat_append, List.length_append]
    exact h2
theorem Row.app_below {v : Value} (h : Row W K v xs) (hg : W.grownBy W' v.ownBlock) (hK : K ≤ W.heap.size) : Below K W W' :=
  OnlyS.below (S := fun k => v.ownBlock = some k) ((OnlyS.refl _ W).grown hg fun _ hk => .inl hk) (fun k hk => (h.lt k hk).1) hK
theorem box_ls (W : World) (x : Hd) : Ls (W.alloc (.cells #[.int .i64 x.1, .int .i64 x.2] 123)) (some ⟨W.heap.size, 0, none⟩) 1 [x] := by
  refine ⟨Nat.le_refl _, by decide, by simp, fun a ha j u hj => ?_⟩
  obtain rfl : (⟨W.heap.size, 0, none⟩ : Addr) = a := by simpa using ha
  rw [add_at]
  match j, hj with
  | 0, hj => simp [flat, cellsW] at hj; subst hj; simp [go_sem]
  | 1, hj => simp [flat, cellsW] at hj; subst hj; simp [go_sem]
  | j + 2, hj => simp [flat, cellsW] at hj
end
end Go.Proofs.YtlhhopanegnliaaGreatDoor.Hs
/- What tells of a hold whether a condition holds; the first place at which it does. -/
namespace Go.Proofs.YtlhhopanegnliaaGreatDoor.Hs
open Go Go.RowKit Go.Shelf

/-- a function value that tells of a hold whether a condition holds, in whatever world that is as this one but for these blocks -/
def Prd (T : Nat → Prop) (W : World) (gf : Nat) (cs : Array Value) (p : Hd → Bool) : Prop :=
  (∀ args w, (callFunc gf args).run Tryz.prog w = .ok (.enter gf args) w) ∧
  ∀ (W' : World) (x : Hd), OnlyS T W W' → Calls Tryz.prog gf (#[wv x] ++ cs) W' fun e w' => e = .returned (.bool (p x)) ∧ Below W'.heap.size W' w'
theorem Prd.mono {T : Nat → Prop} {W W' : World} {gf : Nat} {cs : Array Value} {p : Hd → Bool} (h : Prd T W gf cs p) (ho : OnlyS T W W') : Prd (fun _ => False) W' gf cs p :=
  ⟨h.1, fun W'' x ho' => h.2 W'' x (ho.trans (ho'.mono fun _ _ hf => hf.elim))⟩
theorem prd_tx {T : Nat → Prop} {W : World} {B : Nat} {tx : Int} (hc : W.cell? ⟨B, 0, none⟩ = some (.int .i64 tx)) (hT : ¬ T B) : Prd T W 216 #[.pointer (some ⟨B, 0, none⟩)] (fun x => x.1 == tx) := by
  refine ⟨enters_of Tryz.func216 (by kernel_rfl) rfl, fun W' x ho => ?_⟩
  have hc' := ho.cell hc hT
  have hlt := cell_lt hc'
  obtain ⟨t, m⟩ := x
  clear ho hc
  go_enter Tryz.func216, Tryz.ntmps216
  go_wp2
  go_ret
  exact ⟨rfl, box_below _ _⟩
/-- the first place at which it holds; -1 -/
def idxP (p : Hd → Bool) : List Hd → Int
  | [] => -1
  | x :: xs => if p x then 0 else if idxP p xs = -1 then -1 else idxP p xs + 1
theorem idx_none {p : Hd → Bool} {xs : List Hd} (h : ∀ i (h : i < xs.length), p xs[i] = false) : idxP p xs = -1 := by
  induction xs with
  | nil => rfl
  | cons x xs ih =>
    have h1 := h 0 (by simp)
    have h2 := ih (fun i hi => h (i + 1) (by simpa using hi))
    simp at h1
    simp [idxP, h1, h2]
theorem idx_some {p : Hd → Bool} : ∀ {xs : List Hd} {k : Nat} (hk : k < xs.length), (∀ i (h : i < k), p (xs[i]'(by omega)) = false) → p xs[k] = true → idxP p xs = k
  | x :: xs, 0, _, _, hp => by simp at hp; simp [idxP, hp]
  | x :: xs, k + 1, hk, h, hp => by
    have h1 := h 0 (by omega)
    have h2 := idx_some (xs := xs) (k := k) (by simpa using hk) (fun i hi => h (i + 1) (by omega)) hp
    simp at h1
    have h3 : ¬ ((k : Int) = -1) := by omega
    simp [idxP, h1, h2, h3]
theorem idx_cases (p : Hd → Bool) (xs : List Hd) : (idxP p xs = -1 ∧ ∀ x ∈ xs, p x = false) ∨ ∃ (k : Nat) (hk : k < xs.length), idxP p xs = k ∧ p xs[k] = true ∧ ∀ i (h : i < k), p (xs[i]'(by omega)) = false := by
  induction xs with
  | nil => exact .inl ⟨rfl, by simp⟩
  | cons x xs ih =>
    cases hx : p x
    · rcases ih with ⟨h1, h2⟩ | ⟨k, hk, h1, h2, h3⟩
      · exact .inl ⟨by simp [idxP, hx, h1], fun y hy => by
          rcases List.mem_cons.1 hy with rfl | hy
          · exact hx
          · exact h2 y hy⟩
      · refine .inr ⟨k + 1, by simpa using hk, ?_, by simpa using h2, fun i hi => ?_⟩
        · have h4 : ¬ ((k : Int) = -1) := by omega
          simp [idxP, hx, h1, h4]
        · cases i with
          | zero => simpa using hx
          | succ i => simpa using h3 i (by omega)
    · exact .inr ⟨0, by simp, by simp [idxP, hx], by simpa using hx, fun i hi => by omega⟩
theorem idx_any (p : Hd → Bool) (xs : List Hd) : decide (0 ≤ idxP p xs) = xs.any p := by
  rcases idx_cases p xs with ⟨h1, h2⟩ | ⟨k, hk, h1, h2, -⟩
  · have : xs.any p = false := List.any_eq_false.2 fun x hx => by rw [h2 x hx]; simp
    rw [h1, this]; decide
  · have : xs.any p = true := List.any_eq_true.2 ⟨_, List.getElem_mem hk, h2⟩
    rw [h1, this]; simp
section
variable {T : Nat → Prop} {W W' : World} {gf : Nat} {cs : Array Value} {p : Hd → Bool} {A : Option Addr} {c : Nat} {xs : List Hd}
set_option maxRecDepth 100000 in
set_option maxHeartbeats 2000000 in
theorem index_any (hp : Prd T W gf cs p) (hr : Ls W A c xs) (hl : xs.length ≤ 5000) :
    Calls Tryz.prog 193 #[.slice A xs.length c, .func (.func gf) #[] cs] W fun e w' => e = .returned (.int .i64 (idxP p xs)) ∧ Below W.heap.size W w' := by
  obtain ⟨eg, hp⟩ := hp
  have HP := Lib.hid hp
  have HR := Lib.hid hr
  obtain ⟨n, hn⟩ : ∃ n, xs.length = n := ⟨_, rfl⟩
  rw [hn] at hl ⊢
  have HN := Lib.hid hn
  clear hp hr hn
  go_enter Tryz.func193, Tryz.ntmps193
  go_wp2
  go_loopw [8] (fun t wr => ∃ j : Nat, j ≤ n ∧ t = .int .i64 j ∧ (∀ i (_ : i < j) (h : i < xs.length), p xs[i] = false) ∧ Below W.heap.size W wr) (fun t _ => n - (intOf t).toNat)
  case atStart => exact ⟨0, by omega, rfl, fun i hi => by omega, Below.refl _ _⟩
  case round =>
    obtain ⟨j, hj, rfl, hall, hb⟩ := hrel
    have HA := Lib.hid hall
    clear hall
    by_cases hjn : j < n
    · have hjl : j < xs.length := by rw [HN.out]; exact hjn
      obtain ⟨a, rfl, hh⟩ := (HR.out.below hb).here hjl
      obtain ⟨c0, c1⟩ := hh
      have hcall := Lib.hid (HP.out wr xs[j] (OnlyS.of_below hb))
      have HB0 := Lib.hid hb
      have hsz := hb.size
      clear hb
      obtain ⟨x, hx⟩ : ∃ x, xs[j] = x := ⟨_, rfl⟩
      have HX := Lib.hid hx
      rw [hx] at c0 c1 hcall
      obtain ⟨q, hq⟩ : ∃ q, p x = q := ⟨_, rfl⟩
      rw [hq] at hcall
      have HQ := Lib.hid hq
      clear hq hx
      cases q
      · go_wp2_with fail
        refine hcall.out.mono ?_
        rintro e w1 ⟨rfl, hb1⟩
        have HB := Lib.hid (HB0.out.trans (hb1.mono HB0.out.size))
        clear c0 c1 hb1 hcall
        go_wp2_with fail
        go_roundw
        case rel =>
          refine ⟨j + 1, by omega, by go_num, fun i hi h => ?_, HB.out⟩
          rcases Nat.lt_or_ge i j with h' | h'
          · exact HA.out i h' h
          · obtain rfl : i = j := by omega
            rw [HX.out]; exact HQ.out
        case measure => simp [intOf]; omega
      · go_wp2_with fail
        refine hcall.out.mono ?_
        rintro e w1 ⟨rfl, hb1⟩
        have HB := Lib.hid (HB0.out.trans (hb1.mono HB0.out.size))
        clear c0 c1 hb1 hcall
        go_wp2_with fail
        go_ret
        refine ⟨ret_int ?_, HB.out⟩
        clear hsz
        exact (idx_some hjl (fun i hi => HA.out i hi (by omega)) (by rw [HX.out]; exact HQ.out)).symm
    · obtain rfl : j = n := by omega
      go_wp2_with fail
      go_ret
      refine ⟨ret_int (idx_none fun i hi => HA.out i (by have := HN.out; omega) hi).symm, hb⟩
end
end Go.Proofs.YtlhhopanegnliaaGreatDoor.Hs
/- Stores into a row's own block; what is cleared; a copy of a list. -/
namespace Go.Proofs.YtlhhopanegnliaaGreatDoor.Hs
open Go Go.RowKit Go.Shelf

theorem set_blk {W : World} {g o : Nat} {cur : Array Value} {t : TypeId} {fr : Nat × Nat} (v : Value) (h : W.heap[g]? = some (.cells cur t fr)) : (W.setCell ⟨g, o, none⟩ v).heap[g]? = some (.cells (cur.setIfInBounds o v) t fr) := by
  obtain ⟨hlt, hk⟩ := Array.getElem?_eq_some_iff.1 h
  show (W.heap.modify g _)[g]? = _
  rw [Array.getElem?_eq_getElem (by rw [Array.size_modify]; exact hlt), Array.getElem_modify_self, hk]
  rfl
theorem sets_blk {t : TypeId} {fr : Nat × Nat} {g : Nat} : ∀ (vs : List Value) (W : World) (o : Nat) (cur : Array Value), W.heap[g]? = some (.cells cur t fr) →
    ∃ cur', (W.setCells g o vs).heap[g]? = some (.cells cur' t fr) ∧ cur'.size = cur.size ∧ (∀ k, k < o → cur'[k]? = cur[k]?) ∧ OnlyS (· = g) W (W.setCells g o vs)
  | [], W, o, cur, h => ⟨cur, h, rfl, fun _ _ => rfl, OnlyS.refl _ _⟩
  | v :: vs, W, o, cur, h => by
    obtain ⟨cur', h1, h2, h3, h4⟩ := sets_blk vs (W.setCell ⟨g, o, none⟩ v) (o + 1) _ (set_blk (o := o) v h)
    refine ⟨cur', h1, by simpa using h2, fun k hk => ?_, (OnlyS.set g o W v).trans h4⟩
    rw [h3 k (by omega), Array.getElem?_setIfInBounds_ne (by omega)]
/-- one is stored, cell by cell -/
abbrev put2 (W : World) (g o : Nat) (x : Hd) : World := (W.setCell ⟨g, o, none⟩ (.int .i64 x.1)).setCell ⟨g, o + 1, none⟩ (.int .i64 x.2)
theorem flat_set (zs : List Hd) (i : Nat) (x : Hd) (h : i < zs.length) : flat (zs.set i x) = ((flat zs).set (i * 2) (.int .i64 x.1)).set (i * 2 + 1) (.int .i64 x.2) := by
  induction zs generalizing i with
  | nil => simp at h
  | cons z zs ih =>
    have e : ∀ (y : Hd) (ys : List Hd), flat (y :: ys) = .int .i64 y.1 :: .int .i64 y.2 :: flat ys := fun y ys => by simp [flat, cellsW]
    cases i with
    | zero => simp [e]
    | succ i =>
      have h' : i < zs.length := by simpa using h
      rw [List.set_cons_succ, e, e, ih i h', show (i + 1) * 2 = i * 2 + 1 + 1 by omega]
      simp
section
variable {W W' : World} {g n cap K : Nat} {zs : List Hd}
theorem Row.keep {v : Value} (h : Row W K v zs) (hk : ∀ g, v.ownBlock = some g → W'.heap[g]? = W.heap[g]?) : Row W' K v zs := row_keep h hk
theorem Row.put (h : Row W K (.slice (some ⟨g, 0, none⟩) n cap) zs) (x : Hd) {i : Nat} (hi : i < zs.length) : Row (put2 W g (i * 2) x) K (.slice (some ⟨g, 0, none⟩) n cap) (zs.set i x) := by
  rcases h.2 with ⟨h0, _⟩ | ⟨g', cap', cur, e, hb, hg, h1, h2, h3, h4⟩
  · cases h0
  · cases e
    refine ⟨flat_length _, .inr ⟨g, cap, _, by simp, hb, set_blk _ (set_blk _ hg), by simpa using h1, h2, by simpa using h3, ?_⟩⟩
    rw [flat_set _ _ _ hi, ← h4]
    simp [List.take_set]
/-- a shorter slice of the same row, whatever stands behind -/
theorem Row.cut {i : Nat} (h : Row W K (.slice (some ⟨g, 0, none⟩) n cap) zs) (hi : i ≤ zs.length)
    (hg' : ∀ cur, W.heap[g]? = some (.cells cur 123 (0, 0)) → ∃ cur', W'.heap[g]? = some (.cells cur' 123 (0, 0)) ∧ cur'.size = cur.size ∧ ∀ k, k < i * 2 → cur'[k]? = cur[k]?) :
    Row W' K (.slice (some ⟨g, 0, none⟩) i cap) (zs.take i) := by
  rcases h.2 with ⟨h0, _⟩ | ⟨g', cap', cur, e, hb, hg, h1, h2, h3, h4⟩
  · cases h0
  · cases e
    obtain ⟨cur', k1, k2, k3⟩ := hg' cur hg
    have hl : (zs.take i).length = i := by rw [List.length_take]; omega
    refine ⟨flat_length _, .inr ⟨g, cap, cur', by rw [hl], hb, k1, by omega, h2, by omega, ?_⟩⟩
    rw [hl]
    have e1 : flat (zs.take i) = (flat zs).take (i * 2) := by
      have e2 : flat zs = flat (zs.take i) ++ flat (zs.drop i) := by rw [← flat_append, List.take_append_drop]
      rw [e2, List.take_left' (by rw [flat_length, hl])]
    rw [e1, ← h4, List.take_take]
    apply List.ext_getElem?
    intro k
    rw [List.getElem?_take, List.getElem?_take]
    by_cases hk : k < i * 2
    · rw [if_pos hk, if_pos (by omega), Array.getElem?_toList, Array.getElem?_toList, k3 k hk]
    · rw [if_neg hk, if_neg (by omega)]
theorem Row.blk (h : Row W K (.slice (some ⟨g, 0, none⟩) n cap) zs) : ∃ cur, W.heap[g]? = some (.cells cur 123 (0, 0)) ∧ zs.length ≤ cap ∧ cap ≤ maxLen := by
  rcases h.2 with ⟨h0, _⟩ | ⟨g', cap', cur, e, _, hb, h1, h2, _⟩
  · cases h0
  · cases e; exact ⟨cur, hb, h1, h2⟩
theorem Row.free {k : Nat} (h : Row W K (.slice (some ⟨g, 0, none⟩) n cap) zs) : W.frozen? ⟨g, k, none⟩ = false := by
  obtain ⟨cur, hb, -⟩ := h.blk
  exact frozen_of_row _ _ _ _ _ hb
theorem Row.there {k : Nat} (h : Row W K (.slice (some ⟨g, 0, none⟩) n cap) zs) (hk : k < zs.length * 2) : (W.cell? ⟨g, k, none⟩).isSome = true := by
  have h1 := h.cells (g := g) rfl k _ (List.getElem?_eq_getElem (by rw [flat_length]; exact hk))
  rw [add_at] at h1
  rw [h1]; rfl
end
/-- as many zeros -/
def zz (n : Nat) : List Value := (Builtin.zeroCells (Value.agg #[.int .i64 0, .int .i64 0]).cells n).toList
theorem zz_length (n : Nat) : (zz n).length = n * 2 := by simp [zz, size_zeroCells, Value.cells]
theorem zz_one (n : Nat) : ∀ u ∈ zz n, u.oneCell' = true := by
  intro u hu
  obtain ⟨k, hk, rfl⟩ := List.getElem_of_mem hu
  simp only [zz, Builtin.zeroCells, Value.cells, Array.getElem_toList]
  have h2 : k % 2 = 0 ∨ k % 2 = 1 := by omega
  rcases h2 with e | e <;> simp [e] <;> rfl
theorem run_clear_w (w : World) (ty : TypeId) (b o n c : Nat) (hn : 0 < n) (hc : ∀ j, j < n * 2 → (w.cell? ⟨b, o + j, none⟩).isSome = true) (hf : ∀ j, j < n * 2 → w.frozen? ⟨b, o + j, none⟩ = false) :
    (Builtin.clear_ #[83] ty #[.slice (some ⟨b, o, none⟩) n c]).run Tryz.prog w = .ok (.tuple #[]) (w.setCells b o (zz n)) := by
  have hst := run_storeCells_cells (P := Tryz.prog) b o (zz n) 0 w (by rw [zz_length]; simpa using hc) (by rw [zz_length]; simpa using hf) (zz_one n)
  simp only [Nat.add_zero] at hst
  obtain ⟨m, rfl⟩ : ∃ m, n = m + 1 := ⟨n - 1, by omega⟩
  unfold zz at hst
  simp [Builtin.clear_, run_underlying Tryz.underlying83, Tryz.zeroValue123, hst, zz]
end Go.Proofs.YtlhhopanegnliaaGreatDoor.Hs
/- A list is copied; those of which a condition holds go out of a row of one's own, in its own memory; those of others. -/
namespace Go.Proofs.YtlhhopanegnliaaGreatDoor.Hs
open Go Go.RowKit Go.Shelf

theorem filter_none {p : Hd → Bool} {xs : List Hd} (h : ∀ x ∈ xs, p x = false) : xs.filter (fun x => !p x) = xs := List.filter_eq_self.2 fun x hx => by simp [h x hx]
/-- how a row stands as it is gone through: i kept, j looked at -/
structure Mid (p : Hd → Bool) (xs zs : List Hd) (i j : Nat) : Prop where
  len : zs.length = xs.length
  ij : i < j
  jn : j ≤ xs.length
  kept : zs.take i = (xs.take j).filter (fun x => !p x)
  rest : zs.drop j = xs.drop j
theorem Mid.start {p : Hd → Bool} {xs : List Hd} {i : Nat} (h : i < xs.length) (hp : p xs[i] = true) (ha : ∀ k (h : k < i), p (xs[k]'(by omega)) = false) : Mid p xs xs i (i + 1) := by
  refine ⟨rfl, by omega, h, ?_, rfl⟩
  have ha' : ∀ y ∈ xs.take i, p y = false := by
    intro y hy
    obtain ⟨k, hk, rfl⟩ := List.getElem_of_mem hy
    rw [List.getElem_take]
    exact ha k (by rw [List.length_take] at hk; omega)
  rw [List.take_succ_eq_append_getElem h, List.filter_append, filter_none ha']
  simp [hp]
theorem Mid.at {p : Hd → Bool} {xs zs : List Hd} {i j : Nat} (h : Mid p xs zs i j) (hj : j < xs.length) : ∃ hz : j < zs.length, zs[j] = xs[j] := by
  have hz : j < zs.length := by rw [h.len]; exact hj
  refine ⟨hz, ?_⟩
  have := congrArg (fun l => l[0]?) h.rest
  simp [List.getElem?_drop, List.getElem?_eq_getElem hz, List.getElem?_eq_getElem hj] at this
  exact this
theorem Mid.skip {p : Hd → Bool} {xs zs : List Hd} {i j : Nat} (h : Mid p xs zs i j) (hj : j < xs.length) (hp : p xs[j] = true) : Mid p xs zs i (j + 1) := by
  refine ⟨h.len, by have := h.ij; omega, hj, ?_, ?_⟩
  · rw [h.kept, List.take_succ_eq_append_getElem hj, List.filter_append]; simp [hp]
  · rw [← List.drop_drop, ← List.drop_drop, h.rest]
theorem Mid.keep {p : Hd → Bool} {xs zs : List Hd} {i j : Nat} (h : Mid p xs zs i j) (hj : j < xs.length) (hp : p xs[j] = false) : Mid p xs (zs.set i xs[j]) (i + 1) (j + 1) := by
  have hij := h.ij
  have hz : i < zs.length := by rw [h.len]; omega
  refine ⟨by simpa using h.len, by omega, hj, ?_, ?_⟩
  · have hl : i < (zs.set i xs[j]).length := by simpa using hz
    rw [List.take_succ_eq_append_getElem hl, List.take_set_of_le (Nat.le_refl _), h.kept, List.take_succ_eq_append_getElem hj, List.filter_append]
    simp [hp]
  · rw [List.drop_set_of_lt (by omega), ← List.drop_drop, ← List.drop_drop, h.rest]
theorem Mid.done {p : Hd → Bool} {xs zs : List Hd} {i : Nat} (h : Mid p xs zs i xs.length) : zs.take i = xs.filter (fun x => !p x) := by
  rw [h.kept, List.take_length]
/-- what a call that drops some of a row hands back -/
def Drops (W : World) (K : Nat) (v : Value) (xs : List Hd) (e : Ending) (w' : World) : Prop :=
  ∃ v', e = .returned v' ∧ Row w' K v' xs ∧ OnlyS (fun k => v.ownBlock = some k) W w'
section
variable {T : Nat → Prop} {W W' : World} {gf : Nat} {cs : Array Value} {p : Hd → Bool} {A : Option Addr} {c K : Nat} {xs : List Hd}
set_option maxRecDepth 100000 in
set_option maxHeartbeats 4000000 in
theorem delete_any {v : Value} (hp : Prd (fun k => v.ownBlock = some k) W gf cs p) (hr : Row W K v xs) (hl : xs.length ≤ 5000) :
    Calls Tryz.prog 208 #[v, .func (.func gf) #[] cs] W (Drops W K v (xs.filter (fun x => !p x))) := by
  obtain ⟨A, c, rfl, hls⟩ := hr.ls
  have HI := Lib.hid (index_any (hp.mono (OnlyS.refl _ _)) hls hl)
  rcases idx_cases p xs with ⟨h1, h2⟩ | ⟨i, h2, h1, h3, h4⟩
  · rw [h1] at HI
    have HF := Lib.hid (filter_none h2)
    have HR := Lib.hid hr
    clear hp hr hls hl h1 h2
    generalize xs.length = n at *
    go_enter Tryz.func208, Tryz.ntmps208
    go_wp2_with (go_at_call 193; ((with_reducible refine HI.out.mono ?_); rintro e w1 ⟨rfl, hb1⟩))
    go_ret
    exact ⟨_, rfl, by rw [HF.out]; exact HR.out.keep fun g hg => hb1.block g (HR.out.lt g hg).2, OnlyS.of_below hb1⟩
  · rw [h1] at HI
    have HM := Lib.hid (Mid.start h2 h3 h4)
    obtain ⟨eg, hp⟩ := hp
    cases A with
    | none => exact absurd h2 (by rw [hls.empty]; simp)
    | some ad =>
      obtain ⟨g, rfl⟩ : ∃ g, ad = ⟨g, 0, none⟩ := by
        rcases hr.2 with ⟨h0, _⟩ | ⟨g, cap, cur, e, _⟩
        · cases h0
        · cases e; exact ⟨g, rfl⟩
      obtain ⟨cur, hblk, hnc, hcm⟩ := hr.blk
      have hgl := (Array.getElem?_eq_some_iff.1 hblk).1
      have hp' : ∀ (W' : World) (x : Hd), OnlyS (· = g) W W' → Calls Tryz.prog gf (#[wv x] ++ cs) W' fun e w' => e = .returned (.bool (p x)) ∧ Below W'.heap.size W' w' :=
        fun W' x ho => hp W' x (ho.mono fun k _ hk => by rw [hk]; rfl)
      have HP := Lib.hid hp'
      have HR := Lib.hid hr
      obtain ⟨n, hn⟩ : ∃ n, xs.length = n := ⟨_, rfl⟩
      have HN := Lib.hid hn
      have hin : i < n := by rw [← hn]; exact h2
      have hcm2 : c ≤ 9223372036854775807 := by unfold maxLen at hcm; omega
      rw [hn] at hnc HI hl
      rw [hn] at HR ⊢
      clear hp hp' hr hls h1 h2 h3 h4 hblk hcm hn
      go_enter Tryz.func208, Tryz.ntmps208
      go_wp2_with fail
      refine HI.out.mono ?_
      rintro e w1 ⟨rfl, hb1⟩
      have HR1 := Lib.hid (HR.out.keep (W' := w1) fun g' hg' => hb1.block g' (HR.out.lt g' hg').2)
      have HO1 := Lib.hid (OnlyS.of_below (S := (· = g)) hb1)
      have hi1 : ((i : Int) == -1) = false := by simp
      clear HI hb1
      go_wp2_with fail
      go_loopw [5, 6] (fun s t wr => ∃ (a b : Nat) (zs : List Hd), s = .int .i64 a ∧ t = .int .i64 b ∧ Mid p xs zs a b ∧ Row wr K (.slice (some ⟨g, 0, none⟩) n c) zs ∧ OnlyS (· = g) W wr) (fun _ t _ => n - (intOf t).toNat)
      case atStart => exact ⟨i, i + 1, xs, rfl, by go_num, HM.out, HR1.out, HO1.out⟩
      case round =>
        obtain ⟨a, b, zs, rfl, rfl, hmid, hrow, hon⟩ := hrel
        have hab := hmid.ij
        have hbn : b ≤ n := by rw [← HN.out]; exact hmid.jn
        have HMd := Lib.hid hmid
        have HRw := Lib.hid hrow
        have HOn := Lib.hid hon
        have hsz := hon.size
        have hzn : zs.length = n := by rw [hmid.len, HN.out]
        have HZN := Lib.hid hzn
        clear hmid hrow hon HM HR1 HO1 hzn
        by_cases hlt : b < n
        · have hbl : b < xs.length := by rw [HN.out]; exact hlt
          obtain ⟨hbz, hze⟩ := HMd.out.at hbl
          obtain ⟨a', c', ev, hls⟩ := HRw.out.ls
          rw [HZN.out] at ev
          cases ev
          obtain ⟨ad, had, c0, c1⟩ := hls.here hbz
          cases had
          obtain ⟨x, hx⟩ : ∃ x, xs[b] = x := ⟨_, rfl⟩
          rw [hze, hx] at c0 c1
          have HX := Lib.hid hx
          clear hls hx hze
          obtain ⟨t, m⟩ := x
          simp only [add_at] at c0 c1
          have hb1 := box_below wr (.cells #[.int .i64 t, .int .i64 m] 123)
          have hbx := box_ls wr (t, m)
          have hcall := Lib.hid (HP.out (wr.alloc (.cells #[.int .i64 t, .int .i64 m] 123)) (t, m) (HOn.out.trans (OnlyS.of_below hb1)))
          obtain ⟨q, hpx⟩ : ∃ q, p (t, m) = q := ⟨_, rfl⟩
          rw [hpx] at hcall
          have HPX := Lib.hid (show p xs[b] = q by rw [HX.out]; exact hpx)
          clear hpx
          cases q
          · go_wp2_with fail
            refine hcall.out.mono ?_
            rintro e w2 ⟨rfl, hb2⟩
            have hb3 : Below wr.heap.size wr w2 := hb1.trans (hb2.mono hb1.size)
            obtain ⟨ad2, had2, e0, e1⟩ := (hbx.below hb2).here (i := 0) (by simp)
            cases had2
            simp only [List.getElem_cons_zero, Nat.zero_mul, add_at, Nat.zero_add] at e0 e1
            have HR2 := Lib.hid (HRw.out.keep (W' := w2) fun g' hg' => hb3.block g' (HRw.out.lt g' hg').2)
            have haz : a < zs.length := by rw [HZN.out]; omega
            have han : a < n := by omega
            have s0 := HR2.out.there (k := a * 2) (by omega)
            have s1 := HR2.out.there (k := a * 2 + 1) (by omega)
            obtain ⟨y0, t0⟩ := Option.isSome_iff_exists.1 s0
            obtain ⟨y1, t1⟩ := Option.isSome_iff_exists.1 s1
            have f0 : w2.frozen? ⟨g, a * 2, none⟩ = false := HR2.out.free
            have f1 : w2.frozen? ⟨g, a * 2 + 1, none⟩ = false := HR2.out.free
            have HO2 := Lib.hid (HOn.out.trans (OnlyS.of_below hb3))
            have HPut := Lib.hid (HR2.out.put (t, m) haz)
            clear hcall hb1 hb2 hb3 hbx c0 c1 s0 s1 haz hbz
            go_wp2_with fail
            go_roundw
            case rel =>
              refine ⟨a + 1, b + 1, zs.set a (t, m), by go_num, by go_num, ?_, HPut.out, (HO2.out.trans (OnlyS.set _ _ _ _)).trans (OnlyS.set _ _ _ _)⟩
              have := HMd.out.keep (by rw [HN.out]; exact hlt) HPX.out
              rw [HX.out] at this
              exact this
            case measure => simp [intOf]; omega
          · go_wp2_with fail
            refine hcall.out.mono ?_
            rintro e w2 ⟨rfl, hb2⟩
            have hb3 : Below wr.heap.size wr w2 := hb1.trans (hb2.mono hb1.size)
            have HR2 := Lib.hid (HRw.out.keep (W' := w2) fun g' hg' => hb3.block g' (HRw.out.lt g' hg').2)
            have HO2 := Lib.hid (HOn.out.trans (OnlyS.of_below hb3))
            clear hcall hb1 hb2 hb3 hbx c0 c1 hbz
            go_wp2_with fail
            go_roundw
            case rel => exact ⟨a, b + 1, zs, rfl, by go_num, HMd.out.skip (by rw [HN.out]; exact hlt) HPX.out, HR2.out, HO2.out⟩
            case measure => simp [intOf]; omega
        · obtain rfl : b = n := by omega
          have hzl : zs.length = b := HZN.out
          have hclr := fun ty => run_clear_w wr ty g (a * 2) (b - a) (c - a) (by omega) (fun k hk => HRw.out.there (by omega)) (fun k _ => HRw.out.free)
          clear hzl
          go_wp2_with fail
          go_ret
          have hset : ∀ cur, wr.heap[g]? = some (.cells cur 123 (0, 0)) → ∃ cur', (wr.setCells g (a * 2) (zz (b - a))).heap[g]? = some (.cells cur' 123 (0, 0)) ∧ cur'.size = cur.size ∧ ∀ k, k < a * 2 → cur'[k]? = cur[k]? := fun cur hcur => by
            obtain ⟨cur', q1, q2, q3, _⟩ := sets_blk (zz (b - a)) wr (a * 2) cur hcur
            exact ⟨cur', q1, q2, q3⟩
          refine ⟨_, rfl, ?_, ?_⟩
          · have hmd := HMd.out
            rw [← HN.out] at hmd
            have hz := hmd.done
            rw [← hz]
            have := HRw.out.cut (i := a) (by rw [HZN.out]; omega) hset
            exact this
          · obtain ⟨cur, hb, -⟩ := HRw.out.blk
            obtain ⟨_, _, _, _, q4⟩ := sets_blk (zz (b - a)) wr (a * 2) cur hb
            exact (HOn.out.trans q4).mono (fun k _ hk => by rw [hk]; rfl)
end
end Go.Proofs.YtlhhopanegnliaaGreatDoor.Hs
/- A list is copied; those of others: the program's answer and the document's. -/
namespace Go.Proofs.YtlhhopanegnliaaGreatDoor.Hs
open Go Go.RowKit Go.Shelf

@[go_sem] theorem eql22_none (w : World) (n c : Nat) : (binOp .eql 83 (.slice none n c) (.slice none 0 0)).run Tryz.prog w = .ok (.bool true) w := Lib.run_eql_slice_nil w 83 123 none n c 0 0 Tryz.underlying83
@[go_sem] theorem eql22_some (w : World) (a : Addr) (n c : Nat) : (binOp .eql 83 (.slice (some a) n c) (.slice none 0 0)).run Tryz.prog w = .ok (.bool false) w := Lib.run_eql_slice_nil w 83 123 (some a) n c 0 0 Tryz.underlying83
theorem ofc_any (tx : Int) (W : World) : Calls Tryz.prog 194 #[.int .i64 tx] W fun e w' => e = .returned (.func (.func 216) #[] #[.pointer (some ⟨W.heap.size, 0, none⟩)]) ∧ w' = W.alloc (.cells #[.int .i64 tx] 3) := by
  go_enter Tryz.func194, Tryz.ntmps194
  go_wp2
  go_ret
  exact ⟨rfl, rfl⟩
/-- a list is handed out, in memory of its own -/
def Lists (W : World) (xs : List Hd) (e : Ending) (w' : World) : Prop := ∃ A c, e = .returned (.slice A xs.length c) ∧ Ls w' A c xs ∧ Below W.heap.size W w'
section
variable {W W' : World} {A : Option Addr} {c K : Nat} {xs : List Hd}
theorem clone_any (hr : Ls W A c xs) (hl : xs.length ≤ 500) : Calls Tryz.prog 90 #[.slice A xs.length c] W fun e w' => ∃ v, e = .returned v ∧ Row w' W.heap.size v xs ∧ Below W.heap.size W w' := by
  cases A with
  | none =>
    have := hr.empty; subst this
    have hc := hr.nil rfl
    subst hc
    clear hr
    go_enter Tryz.func90, Tryz.ntmps90
    go_wp2
    go_ret
    exact ⟨_, rfl, World.ownsRow_nil _ _ _ _, Below.refl _ _⟩
  | some a =>
    have h0 : Row (W.alloc (.cells #[] 123)) W.heap.size (.slice (some ⟨W.heap.size, 0, none⟩) 0 0) [] :=
      ⟨rfl, .inr ⟨W.heap.size, 0, #[], rfl, Nat.le_refl _, heap_alloc_new W _, Nat.le_refl _, Nat.zero_le _, rfl, rfl⟩⟩
    have hx := box_below W (.cells #[] 123)
    obtain ⟨v', w', hrun, hrow, hg, -⟩ := h0.app (hr.below hx) (by simp; omega) hx.size 83
    have HR := Lib.hid hrow
    have HB := Lib.hid (hx.trans (h0.app_below hg hx.size))
    simp only [List.nil_append] at HR
    generalize xs.length = n at *
    clear hr h0 hx hrow hg
    go_enter Tryz.func90, Tryz.ntmps90
    go_wp2_with (at_builtin; refine Lib.wpList_append_run _ rfl _ _ _ _ rfl _ _ rfl rfl _ _ hrun ?_)
    go_ret
    exact ⟨_, rfl, HR.out, HB.out⟩
/-- those of others -/
def wout (tx : Int) (xs : List Hd) : List Hd := xs.filter (fun x => !(x.1 == tx))
theorem without_any (hr : Ls W A c xs) (hl : xs.length ≤ 500) (tx : Int) : Calls Tryz.prog 184 #[.slice A xs.length c, .int .i64 tx] W (Lists W (wout tx xs)) := by
  have H := Lib.hid (clone_any hr hl)
  have HD := Lib.hid (fun (w1 : World) (v : Value) (h : Row w1 W.heap.size v xs) (hb : Below W.heap.size W w1) =>
    (show Calls Tryz.prog 208 #[v, .func (.func 216) #[] #[.pointer (some ⟨w1.heap.size, 0, none⟩)]] (w1.alloc (.cells #[.int .i64 tx] 3)) (Lists W (wout tx xs)) from by
      have hx := box_below w1 (.cells #[.int .i64 tx] 3)
      refine (delete_any (prd_tx (tx := tx) (by simp [go_sem]) ?_) (row_below h hx) (by omega)).mono ?_
      · intro e
        have := (h.lt _ e).2
        omega
      · rintro e w' ⟨v', rfl, h1, h2⟩
        obtain ⟨A', c', rfl, hls⟩ := h1.ls
        exact ⟨A', c', rfl, hls, (hb.trans (hx.mono hb.size)).trans (h2.below (fun k hk => (h.lt k hk).1) (Nat.le_trans hb.size hx.size))⟩))
  clear hr hl
  generalize xs.length = n at *
  go_enter Tryz.func184, Tryz.ntmps184
  go_wp2_with fail
  refine H.out.mono ?_
  rintro e w1 ⟨v, rfl, h1, h2⟩
  have HC := Lib.hid (HD.out _ _ h1 h2)
  clear h1 h2
  go_wp2_with (first | (go_at_call 194; ((with_reducible refine (ofc_any tx _).mono ?_); rintro e w' ⟨rfl, rfl⟩)) | (go_at_call 208; ((with_reducible refine HC.out.mono ?_); rintro e w' ⟨A', c', rfl, hls, hb⟩)))
  have HL := Lib.hid hls
  have HB := Lib.hid hb
  clear hls hb
  obtain ⟨k, hk⟩ : ∃ k, (wout tx xs).length = k := ⟨_, rfl⟩
  have HK := Lib.hid hk
  rw [hk]
  clear hk
  go_ret
  exact ⟨A', c', by rw [HK.out]; rfl, HL.out, HB.out⟩
/-- what has been kept so far -/
structure Kep (W : World) (tx : Int) (xs : List Hd) (k : Nat) (v : Value) (w1 : World) : Prop where
  row : Row w1 W.heap.size v (wout tx (xs.take k))
  bel : Below W.heap.size W w1
theorem Kep.below {tx : Int} {k : Nat} {v : Value} (h : Kep W tx xs k v W') {w2 : World} (hb : Below W'.heap.size W' w2) : Kep W tx xs k v w2 :=
  ⟨row_below h.row hb, h.bel.trans (hb.mono h.bel.size)⟩
theorem wout_no {tx : Int} {k : Nat} (hk : k < xs.length) (h : (xs[k].1 == tx) = true) : wout tx (xs.take (k + 1)) = wout tx (xs.take k) := by
  unfold wout
  rw [List.take_succ_eq_append_getElem hk, List.filter_append]
  simp [h]
theorem wout_yes {tx : Int} {k : Nat} (hk : k < xs.length) (h : (xs[k].1 == tx) = false) : wout tx (xs.take (k + 1)) = wout tx (xs.take k) ++ [xs[k]] := by
  unfold wout
  rw [List.take_succ_eq_append_getElem hk, List.filter_append]
  simp [h]
theorem wout_len (tx : Int) (xs : List Hd) : (wout tx xs).length ≤ xs.length := List.length_filter_le _ _
set_option maxHeartbeats 2000000 in
theorem rwithout_any (hr : Ls W A c xs) (hl : xs.length ≤ 500) (tx : Int) : Calls Tryz.prog 162 #[.slice A xs.length c, .int .i64 tx] W (Lists W (wout tx xs)) := by
  have HR := Lib.hid hr
  obtain ⟨n, hn⟩ : ∃ n, xs.length = n := ⟨_, rfl⟩
  rw [hn] at hl ⊢
  have HN := Lib.hid hn
  clear hr hn
  go_enter Tryz.func162, Tryz.ntmps162
  go_wp2
  go_loopw [10, 5] (fun t v wr => ∃ j : Nat, j ≤ n ∧ t = .int .i64 j ∧ Kep W tx xs j v wr) (fun t _ _ => n - (intOf t).toNat)
  case atStart => exact ⟨0, by omega, rfl, World.ownsRow_nil _ _ _ _, Below.refl _ _⟩
  case round =>
    obtain ⟨j, hj, rfl, hk⟩ := hrel
    have K0 := Lib.hid hk
    obtain ⟨A0, c0', ev, -⟩ := hk.row.ls
    subst ev
    obtain ⟨q, hq⟩ : ∃ q, (wout tx (xs.take j)).length = q := ⟨_, rfl⟩
    have hq1 : q ≤ j := by rw [← hq]; refine Nat.le_trans (wout_len _ _) ?_; rw [List.length_take]; omega
    have HQ := Lib.hid hq
    clear hk
    rw [hq] at K0 ⊢
    clear hq
    by_cases hjn : j < n
    · have hjl : j < xs.length := by rw [HN.out]; exact hjn
      obtain ⟨a, rfl, hh⟩ := (HR.out.below K0.out.bel).here hjl
      obtain ⟨c0, c1⟩ := hh
      obtain ⟨x, hx⟩ : ∃ x, xs[j] = x := ⟨_, rfl⟩
      rw [hx] at c0 c1
      have hb1 := box_below wr (.cells #[.int .i64 x.1, .int .i64 x.2] 123)
      have K1 := Lib.hid (K0.out.below hb1)
      by_cases ht : x.1 = tx
      · have HE := Lib.hid (wout_no (tx := tx) hjl (by rw [hx]; simpa using ht))
        obtain ⟨t, m⟩ := x
        simp only at c0 c1 ht K1
        subst ht
        clear hx hb1 hjl
        go_wp2
        go_roundw
        case rel => exact ⟨j + 1, by omega, by go_num, by have := K1.out; exact ⟨by rw [HE.out]; exact this.row, this.bel⟩⟩
        case measure => simp [intOf]; omega
      · have HE := Lib.hid (wout_yes (tx := tx) hjl (by rw [hx]; simpa using ht))
        rw [hx] at HE
        have hbx := box_ls wr x
        have hx2 := box_ls (wr.alloc (.cells #[.int .i64 x.1, .int .i64 x.2] 123)) x
        have hb2 := box_below (wr.alloc (.cells #[.int .i64 x.1, .int .i64 x.2] 123)) (.cells #[.int .i64 x.1, .int .i64 x.2] 123)
        have hs2 := (K1.out.bel.trans (hb2.mono K1.out.bel.size)).size
        have hr2 : Row _ W.heap.size _ _ := row_below K1.out.row hb2
        obtain ⟨v', w', hrun, hrow, hg, -⟩ := hr2.app hx2 (by rw [HQ.out]; simp; omega) hs2 83
        obtain ⟨A', c', rfl, -⟩ := hrow.ls
        have K2 := Lib.hid (show Kep W tx xs (j + 1) (.slice A' (wout tx (xs.take j) ++ [x]).length c') w' from ⟨by rw [HE.out]; exact hrow, (K1.out.bel.trans (hb2.mono K1.out.bel.size)).trans (hr2.app_below hg hs2)⟩)
        rw [List.length_append, HQ.out] at K2 hrun
        obtain ⟨t, m⟩ := x
        simp only at c0 c1 ht
        simp only [List.length_cons, List.length_nil, Nat.zero_add] at K2 hrun
        rw [show (wr.alloc (.cells #[.int .i64 t, .int .i64 m] 123)).heap.size = wr.heap.size + 1 by simp] at hrun
        have ht' : (t != tx) = true := by simpa using ht
        clear hx hbx hx2 hb1 hb2 hs2 hr2 hrow hg K1 HE hjl ht
        go_wp2_with (at_builtin; refine Lib.wpList_append_run _ rfl _ _ _ _ rfl _ _ rfl rfl _ _ hrun ?_)
        go_roundw
        case rel => exact ⟨j + 1, by omega, by go_num, K2.out⟩
        case measure => simp [intOf]; omega
    · obtain rfl : j = n := by omega
      have hr := K0.out.row
      have hall : xs.take j = xs := List.take_of_length_le (Nat.le_of_eq HN.out)
      rw [hall] at hr HQ
      obtain ⟨A', c', hv, hd⟩ := hr.ls
      rw [HQ.out] at hv
      cases hv
      have HD := Lib.hid hd
      have HB := Lib.hid K0.out.bel
      clear hr hd K0 hall
      go_wp2
      go_ret
      exact ⟨A0, c0', by rw [HQ.out]; rfl, HD.out, HB.out⟩
end
end Go.Proofs.YtlhhopanegnliaaGreatDoor.Hs
/- Who has what: the program's answer and the document's; lists of holds that are alike. -/
namespace Go.Proofs.YtlhhopanegnliaaGreatDoor.Hs
open Go Go.RowKit Go.Shelf

/-- the mode of the first one of a transaction; none -/
def fst (tx : Int) : List Hd → Int
  | [] => 0
  | x :: xs => if x.1 == tx then x.2 else fst tx xs
theorem fst_none {tx : Int} {xs : List Hd} (h : ∀ i (h : i < xs.length), (xs[i].1 == tx) = false) : fst tx xs = 0 := by
  induction xs with
  | nil => rfl
  | cons x xs ih =>
    have h1 := h 0 (by simp)
    have h2 := ih (fun i hi => h (i + 1) (by simpa using hi))
    rw [List.getElem_cons_zero] at h1
    simp only [fst, h1, h2]
    rfl
theorem fst_some {tx : Int} : ∀ {xs : List Hd} {k : Nat} (hk : k < xs.length), (∀ i (h : i < k), ((xs[i]'(by omega)).1 == tx) = false) → (xs[k].1 == tx) = true → fst tx xs = xs[k].2
  | x :: xs, 0, _, _, hp => by
    rw [List.getElem_cons_zero] at hp
    simp only [fst, hp, List.getElem_cons_zero, if_true]
  | x :: xs, k + 1, hk, h, hp => by
    have h1 := h 0 (by omega)
    have h2 := fst_some (xs := xs) (k := k) (by simpa using hk) (fun i hi => h (i + 1) (by omega)) hp
    rw [List.getElem_cons_zero] at h1
    simp only [fst, h1, h2, List.getElem_cons_succ]
    rfl
section
variable {W W' : World} {A : Option Addr} {c : Nat} {xs : List Hd}
theorem modeOf_any (hr : Ls W A c xs) (hl : xs.length ≤ 5000) (tx : Int) : Calls Tryz.prog 152 #[.slice A xs.length c, .int .i64 tx] W fun e w' => e = .returned (.int .i64 (fst tx xs)) ∧ Below W.heap.size W w' := by
  have hb0 := box_below W (.cells #[.int .i64 tx] 3)
  have H := index_any (prd_tx (T := fun _ => False) (W := W.alloc (.cells #[.int .i64 tx] 3)) (B := W.heap.size) (tx := tx) (by simp [go_sem]) (fun h => h)) (hr.below hb0) hl
  have HB0 := Lib.hid hb0
  rcases idx_cases (fun x => x.1 == tx) xs with ⟨h1, h2⟩ | ⟨k, hk, h1, h3, h4⟩
  · rw [h1] at H
    have HE := Lib.hid (fst_none (tx := tx) (xs := xs) (fun i hi => h2 _ (List.getElem_mem hi)))
    have HI := Lib.hid H
    clear hr hb0 H h1 h2
    generalize fst tx xs = z at *
    generalize xs.length = n at *
    go_enter Tryz.func152, Tryz.ntmps152
    go_wp2_with (first | (go_at_call 194; ((with_reducible refine (ofc_any tx W).mono ?_); rintro e w' ⟨rfl, rfl⟩)) | (go_at_call 193; ((with_reducible refine HI.out.mono ?_); rintro e w' ⟨rfl, hb⟩)))
    go_ret
    exact ⟨ret_int HE.out.symm, HB0.out.trans (hb.mono HB0.out.size)⟩
  · rw [h1] at H
    have HE := Lib.hid (fst_some hk h4 h3)
    have HI := Lib.hid H
    have HR := Lib.hid hr
    have HK := Lib.hid hk
    obtain ⟨n, hn⟩ : ∃ n, xs.length = n := ⟨_, rfl⟩
    have hkn : k < n := by rw [← hn]; exact hk
    rw [hn] at HI hl ⊢
    clear hr hb0 H h1 h3 h4 hn
    obtain ⟨z, hz⟩ : ∃ z, fst tx xs = z := ⟨_, rfl⟩
    rw [hz] at HE ⊢
    clear hz
    go_enter Tryz.func152, Tryz.ntmps152
    go_wp2_with (first | (go_at_call 194; ((with_reducible refine (ofc_any tx W).mono ?_); rintro e w' ⟨rfl, rfl⟩)) | (go_at_call 193; ((with_reducible refine HI.out.mono ?_); rintro e w' ⟨rfl, hb⟩); have HB := Lib.hid hb; have HH := Lib.hid (((HR.out.below HB0.out).below hb).here HK.out); clear hb; obtain ⟨ad, rfl, c0, c1⟩ := HH.out; rw [← HE.out] at c1))
    go_ret
    exact ⟨rfl, HB0.out.trans (HB.out.mono HB0.out.size)⟩
theorem rmode_any (hr : Ls W A c xs) (hl : xs.length ≤ 5000) (tx : Int) : Calls Tryz.prog 31 #[.slice A xs.length c, .int .i64 tx] W fun e w' => e = .returned (.int .i64 (fst tx xs)) ∧ Below W.heap.size W w' := by
  have HR := Lib.hid hr
  obtain ⟨n, hn⟩ : ∃ n, xs.length = n := ⟨_, rfl⟩
  rw [hn] at hl ⊢
  have HN := Lib.hid hn
  clear hr hn
  go_enter Tryz.func31, Tryz.ntmps31
  go_wp2
  go_loopw [9] (fun t wr => ∃ j : Nat, j ≤ n ∧ t = .int .i64 j ∧ (∀ i (_ : i < j) (h : i < xs.length), (xs[i].1 == tx) = false) ∧ Below W.heap.size W wr) (fun t _ => n - (intOf t).toNat)
  case atStart => exact ⟨0, by omega, rfl, fun i hi => by omega, Below.refl _ _⟩
  case round =>
    obtain ⟨j, hj, rfl, hall, hb⟩ := hrel
    have HA := Lib.hid hall
    clear hall
    by_cases hjn : j < n
    · have hjl : j < xs.length := by rw [HN.out]; exact hjn
      obtain ⟨a, rfl, hh⟩ := (HR.out.below hb).here hjl
      obtain ⟨c0, c1⟩ := hh
      have HB0 := Lib.hid hb
      have hsz := hb.size
      clear hb
      obtain ⟨x, hx⟩ : ∃ x, xs[j] = x := ⟨_, rfl⟩
      have HX := Lib.hid hx
      rw [hx] at c0 c1
      obtain ⟨t, m⟩ := x
      simp only at c0 c1
      have HB1 := Lib.hid (HB0.out.trans ((box_below wr (.cells #[.int .i64 t, .int .i64 m] 123)).mono HB0.out.size))
      clear hx
      by_cases hq : t = tx
      · subst hq
        have HE := Lib.hid (fst_some (tx := t) hjl (fun i hi => HA.out i hi (by omega)) (by rw [HX.out]; simp))
        rw [HX.out] at HE
        go_wp2
        go_ret
        exact ⟨ret_int HE.out.symm, HB1.out⟩
      · have hq' : (t == tx) = false := by simpa using hq
        go_wp2
        go_roundw
        case rel =>
          refine ⟨j + 1, by omega, by go_num, fun i hi h => ?_, HB1.out⟩
          rcases Nat.lt_or_ge i j with h' | h'
          · exact HA.out i h' h
          · obtain rfl : i = j := by omega
            rw [HX.out]; exact hq'
        case measure => simp [intOf]; omega
    · obtain rfl : j = n := by omega
      have HE := Lib.hid (fst_none (tx := tx) (xs := xs) (fun i hi => HA.out i (by have := HN.out; omega) hi))
      go_wp2
      go_ret
      exact ⟨ret_int HE.out.symm, hb⟩
end
set_option maxRecDepth 100000 in
@[go_sem ↓] theorem eq28 (n : Nat) (w : World) (x y : Int) :
    (Op.equalIn (n + 3) 123 (.agg #[.int .i64 x, .int .i64 y]) (.agg #[.int .i64 x, .int .i64 y])).run Tryz.prog w = .ok true w := by
  rw [run_equalIn_struct w (n + 2) 123 _ _ (by kernel_rfl) (by kernel_rfl)]
  simp [go_sem, run_equalIn_int (h := Tryz.underlying3)]
section
variable {W W' : World} {A1 A2 : Option Addr} {c1 c2 : Nat} {xs : List Hd}
set_option maxHeartbeats 1000000 in
theorem same_any (h1 : Ls W A1 c1 xs) (h2 : Ls W A2 c2 xs) (hl : xs.length ≤ 5000) : Calls Tryz.prog 50 #[.slice A1 xs.length c1, .slice A2 xs.length c2] W fun e w' => e = .returned (.bool true) ∧ Below W.heap.size W w' := by
  have H1 := Lib.hid h1
  have H2 := Lib.hid h2
  clear h1 h2
  obtain ⟨n, hn⟩ : ∃ n, xs.length = n := ⟨_, rfl⟩
  rw [hn] at hl ⊢
  have HN := Lib.hid hn
  clear hn
  go_enter Tryz.func50, Tryz.ntmps50
  go_wp2
  go_loopw [13] (fun t wr => ∃ k : Nat, k ≤ n ∧ t = .int .i64 k ∧ ∃ j, wr = W.drewN j) (fun t _ => n - (intOf t).toNat)
  case atStart => exact ⟨0, by omega, rfl, 0, rfl⟩
  case round =>
    obtain ⟨k, hk, rfl, j, rfl⟩ := hrel
    by_cases hlt : k < n
    · have hlt' : k < xs.length := by rw [HN.out]; exact hlt
      obtain ⟨g1, rfl, e1⟩ := (H1.out.drewN j).here hlt'
      obtain ⟨g2, rfl, e2⟩ := (H2.out.drewN j).here hlt'
      generalize xs[k] = x at e1 e2
      obtain ⟨t, m⟩ := x
      obtain ⟨a0, a1⟩ := e1
      obtain ⟨b0, b1⟩ := e2
      simp only at a0 a1 b0 b1
      generalize hX : W.drewN j = X at a0 a1 b0 b1 ⊢
      have HX := Lib.hid hX
      clear hX hlt'
      go_wp2
      go_quiet (fail)
      have HE := Lib.hid (show X.drewN nq = W.drewN (j + nq) by rw [← HX.out]; simp [World.drewN]; omega)
      generalize X.drewN nq = Y at HE ⊢
      clear a0 a1 b0 b1
      go_wp2
      go_roundw
      case rel => exact ⟨k + 1, by omega, by go_num, j + nq, HE.out⟩
      case measure => simp [intOf]; omega
    · obtain rfl : k = n := by omega
      go_wp2
      go_ret
      exact ⟨rfl, drew_below W j⟩
end
end Go.Proofs.YtlhhopanegnliaaGreatDoor.Hs
/- What one has is set: the program's answer and the document's. -/
namespace Go.Proofs.YtlhhopanegnliaaGreatDoor.Hs
open Go Go.RowKit Go.Shelf

/-- a mode for the first one of a transaction, or behind all -/
def setL (tx m : Int) : List Hd → List Hd
  | [] => [(tx, m)]
  | x :: xs => if x.1 == tx then (tx, m) :: xs else x :: setL tx m xs
/-- whether a transaction is there -/
def dn (tx : Int) (xs : List Hd) : Bool := xs.any (fun x => x.1 == tx)
theorem setL_none {tx m : Int} {xs : List Hd} (h : dn tx xs = false) : setL tx m xs = xs ++ [(tx, m)] := by
  induction xs with
  | nil => rfl
  | cons x xs ih =>
    unfold dn at h
    rw [List.any_cons, Bool.or_eq_false_iff] at h
    simp only [setL, h.1, List.cons_append]
    rw [ih h.2]
    rfl
theorem setL_at {tx m : Int} : ∀ {xs : List Hd} {k : Nat} (hk : k < xs.length), (∀ i (h : i < k), ((xs[i]'(by omega)).1 == tx) = false) → (xs[k].1 == tx) = true → setL tx m xs = xs.set k (tx, m)
  | x :: xs, 0, _, _, hp => by
    rw [List.getElem_cons_zero] at hp
    simp only [setL, hp, List.set_cons_zero, if_true]
  | x :: xs, k + 1, hk, h, hp => by
    have h1 := h 0 (by omega)
    have h2 := setL_at (m := m) (xs := xs) (k := k) (by simpa using hk) (fun i hi => h (i + 1) (by omega)) hp
    rw [List.getElem_cons_zero] at h1
    simp only [setL, h1, h2, List.set_cons_succ]
    rfl
theorem setL_app {tx m : Int} {x : Hd} {xs : List Hd} (h : dn tx xs = true) : setL tx m (xs ++ [x]) = setL tx m xs ++ [x] := by
  induction xs with
  | nil => simp [dn] at h
  | cons y xs ih =>
    simp only [List.cons_append, setL]
    cases hy : y.1 == tx
    · unfold dn at h
      rw [List.any_cons, hy, Bool.false_or] at h
      rw [if_neg (by simp), if_neg (by simp), ih h]
      rfl
    · rw [if_pos rfl, if_pos rfl]
      rfl
theorem setL_new {tx m : Int} {x : Hd} {xs : List Hd} (h : dn tx xs = false) (hx : (x.1 == tx) = true) : setL tx m (xs ++ [x]) = xs ++ [(tx, m)] := by
  induction xs with
  | nil => simp only [List.nil_append, setL, hx, if_true]
  | cons y xs ih =>
    unfold dn at h
    rw [List.any_cons, Bool.or_eq_false_iff] at h
    simp only [List.cons_append, setL, h.1]
    rw [ih h.2]
    rfl
theorem setL_len (tx m : Int) (xs : List Hd) : (setL tx m xs).length = if dn tx xs then xs.length else xs.length + 1 := by
  induction xs with
  | nil => rfl
  | cons x xs ih =>
    have e : dn tx (x :: xs) = (x.1 == tx || dn tx xs) := rfl
    rw [e]
    by_cases hx : (x.1 == tx) = true
    · simp [setL, hx]
    · have hx' : (x.1 == tx) = false := by simpa using hx
      rw [hx', Bool.false_or]
      simp only [setL, hx', Bool.false_eq_true, if_false, List.length_cons]
      rw [ih]
      split <;> rfl
/-- what has been put so far -/
def pre (tx m : Int) (l : List Hd) : List Hd := if dn tx l then setL tx m l else l
theorem dn_snoc (tx : Int) (l : List Hd) (x : Hd) : dn tx (l ++ [x]) = (dn tx l || x.1 == tx) := by simp [dn]
theorem pre_keep {tx m : Int} {l : List Hd} {x : Hd} (h : (x.1 == tx) = false ∨ dn tx l = true) : pre tx m (l ++ [x]) = pre tx m l ++ [x] := by
  unfold pre
  rw [dn_snoc]
  cases hd : dn tx l
  · rcases h with h | h
    · rw [h]; rfl
    · rw [hd] at h; cases h
  · simp only [Bool.true_or, if_true]
    exact setL_app hd
theorem pre_new {tx m : Int} {l : List Hd} {x : Hd} (h : (x.1 == tx) = true) (hd : dn tx l = false) : pre tx m (l ++ [x]) = pre tx m l ++ [(tx, m)] := by
  unfold pre
  rw [dn_snoc, hd, h]
  exact setL_new hd h
theorem pre_len (tx m : Int) (l : List Hd) : (pre tx m l).length = l.length := by
  unfold pre
  split
  · rename_i h; rw [setL_len, if_pos h]
  · rfl
theorem set_one {zs : List Hd} {i : Nat} (m : Int) (h : i < zs.length) : (flat zs).set (i * 2 + 1) (.int .i64 m) = flat (zs.set i (zs[i].1, m)) := by
  rw [flat_set _ _ _ h]
  congr 1
  have e := flat_at zs i 0 h (by omega)
  rw [Nat.add_zero] at e
  obtain ⟨h1, h2⟩ := List.getElem?_eq_some_iff.1 (e.trans rfl)
  rw [← h2, List.set_getElem_self]
theorem pair_of {x : Hd} {tx m : Int} (h : (x.1 == tx) = true) : (x.1, m) = (tx, m) := by
  have : x.1 = tx := by simpa using h
  rw [this]
/-- a row of one's own, made since -/
structure Kp (W : World) (l : List Hd) (v : Value) (w1 : World) : Prop where
  row : Row w1 W.heap.size v l
  bel : Below W.heap.size W w1
section
variable {W W' : World} {A : Option Addr} {c : Nat} {xs : List Hd} {l : List Hd} {v : Value}
theorem Kp.below (h : Kp W l v W') {w2 : World} (hb : Below W'.heap.size W' w2) : Kp W l v w2 := ⟨row_below h.row hb, h.bel.trans (hb.mono h.bel.size)⟩
/-- one is put behind a row of one's own -/
theorem Kp.app {n : Nat} {x : Hd} (h : Kp W l v W') (hn : l.length = n) (hl : n ≤ 900) (ty : TypeId) :
    ∃ A' c' w2, (Builtin.append_ #[83, 83] ty #[v, .slice (some ⟨W'.heap.size, 0, none⟩) 1 1]).run Tryz.prog (W'.alloc (.cells #[.int .i64 x.1, .int .i64 x.2] 123)) = .ok (.slice A' (n + 1) c') w2 ∧ Kp W (l ++ [x]) (.slice A' (n + 1) c') w2 := by
  have hb := box_below W' (.cells #[.int .i64 x.1, .int .i64 x.2] 123)
  have h1 := h.below hb
  obtain ⟨v', w2, hrun, hrow, hg, -⟩ := h1.row.app (box_ls W' x) (by simp; omega) h1.bel.size ty
  obtain ⟨A', c', rfl, -⟩ := hrow.ls
  rw [List.length_append, hn] at hrun hrow
  exact ⟨A', c', w2, hrun, hrow, h1.bel.trans (h1.row.app_below hg h1.bel.size)⟩
end
end Go.Proofs.YtlhhopanegnliaaGreatDoor.Hs
/- What one has is set: the walks of the program's answer and of the document's. -/
namespace Go.Proofs.YtlhhopanegnliaaGreatDoor.Hs
open Go Go.RowKit Go.Shelf

theorem dn_false {tx : Int} {xs : List Hd} (h : ∀ x ∈ xs, (x.1 == tx) = false) : dn tx xs = false := by
  unfold dn
  rw [List.any_eq_false]
  intro x hx
  rw [h x hx]
  simp
theorem lists_of {W w2 : World} {zs ys : List Hd} {A' : Option Addr} {c' k : Nat} (h : Kp W ys (.slice A' k c') w2) (hk : ys.length = k) (he : ys = zs) : Lists W zs (.returned (.slice A' k c')) w2 := by
  subst he
  subst hk
  obtain ⟨A1, c1, hv, hls⟩ := h.row.ls
  cases hv
  exact ⟨_, _, rfl, hls, h.bel⟩
section
variable {W W' : World} {A : Option Addr} {c : Nat} {xs : List Hd}
set_option maxHeartbeats 1000000 in
theorem set_any (hr : Ls W A c xs) (hl : xs.length ≤ 500) (tx m : Int) : Calls Tryz.prog 212 #[.slice A xs.length c, .int .i64 tx, .int .i64 m] W (Lists W (setL tx m xs)) := by
  have H := Lib.hid (clone_any hr hl)
  obtain ⟨n, hn⟩ : ∃ n, xs.length = n := ⟨_, rfl⟩
  rcases idx_cases (fun x => x.1 == tx) xs with ⟨h1, h2⟩ | ⟨k, hk, h1, h3, h4⟩
  · have HI := Lib.hid (fun (w1 : World) (A1 : Option Addr) (c1 : Nat) (h : Ls w1 A1 c1 xs) => by
      have := index_any (prd_tx (T := fun _ => False) (W := w1.alloc (.cells #[.int .i64 tx] 3)) (B := w1.heap.size) (tx := tx) (by simp [go_sem]) (fun h => h)) (h.below (box_below _ _)) (by omega)
      rw [h1, hn] at this
      exact this)
    have HE := Lib.hid (setL_none (m := m) (dn_false h2))
    have HN := Lib.hid hn
    rw [hn] at hl H ⊢
    clear hr h1 h2 hn
    go_enter Tryz.func212, Tryz.ntmps212
    go_wp2_with fail
    refine H.out.mono ?_
    rintro e w1 ⟨v, rfl, hv, hb⟩
    obtain ⟨A1, c1, rfl, hls⟩ := hv.ls
    rw [HN.out] at hv ⊢
    have HI1 := Lib.hid (HI.out _ _ _ hls)
    have HK := Lib.hid (show Kp W xs (.slice A1 n c1) w1 from ⟨hv, hb⟩)
    clear hv hb hls HI
    go_wp2_with (go_at_call 194; ((with_reducible refine (ofc_any tx _).mono ?_); rintro e w' ⟨rfl, rfl⟩))
    refine HI1.out.mono ?_
    rintro e w2 ⟨rfl, hb2⟩
    obtain ⟨A2, c2, w3, hrun, hk3⟩ := ((HK.out.below (box_below _ _)).below hb2).app (x := (tx, m)) HN.out (by omega) 83
    have HK3 := Lib.hid hk3
    clear hk3 hb2 HI1
    simp only at hrun
    go_wp2_with (at_builtin; refine Lib.wpList_append_run _ rfl _ _ _ _ rfl _ _ rfl rfl _ _ hrun ?_)
    go_ret
    exact lists_of HK3.out (by rw [List.length_append, HN.out]; rfl) HE.out.symm
  · have HI := Lib.hid (fun (w1 : World) (A1 : Option Addr) (c1 : Nat) (h : Ls w1 A1 c1 xs) => by
      have := index_any (prd_tx (T := fun _ => False) (W := w1.alloc (.cells #[.int .i64 tx] 3)) (B := w1.heap.size) (tx := tx) (by simp [go_sem]) (fun h => h)) (h.below (box_below _ _)) (by omega)
      rw [h1, hn] at this
      exact this)
    have HE := Lib.hid (setL_at (m := m) hk h4 h3)
    have HP := Lib.hid (pair_of (m := m) h3)
    have HN := Lib.hid hn
    have hkn : k < n := by rw [← hn]; exact hk
    have HK0 := Lib.hid hk
    rw [hn] at hl H ⊢
    clear hr h1 h3 h4 hn
    go_enter Tryz.func212, Tryz.ntmps212
    go_wp2_with fail
    refine H.out.mono ?_
    rintro e w1 ⟨v, rfl, hv, hb⟩
    obtain ⟨A1, c1, rfl, hls⟩ := hv.ls
    rw [HN.out] at hv ⊢
    have HI1 := Lib.hid (HI.out _ _ _ hls)
    have HK := Lib.hid (show Kp W xs (.slice A1 n c1) w1 from ⟨hv, hb⟩)
    clear HI
    obtain ⟨g, rfl⟩ : ∃ g, A1 = some ⟨g, 0, none⟩ := by
      rcases hv.2 with ⟨h0, _⟩ | ⟨g, cap, cur, e, _⟩
      · cases h0; omega
      · cases e; exact ⟨g, rfl⟩
    have hgl := (hv.lt g rfl).1
    clear hv hb hls
    go_wp2_with (go_at_call 194; ((with_reducible refine (ofc_any tx _).mono ?_); rintro e w' ⟨rfl, rfl⟩))
    refine HI1.out.mono ?_
    rintro e w2 ⟨rfl, hb2⟩
    have hk2 := (HK.out.below (box_below _ _)).below hb2
    obtain ⟨y, t1⟩ := Option.isSome_iff_exists.1 (hk2.row.there (k := k * 2 + 1) (by rw [HN.out]; omega))
    have f1 : w2.frozen? ⟨g, k * 2 + 1, none⟩ = false := hk2.row.free
    have hrw := hk2.row
    unfold Row at hrw
    rw [HN.out] at hrw
    have hst := row_store hrw (k * 2 + 1) (.int .i64 m)
    rw [set_one m HK0.out, HP.out] at hst
    have HK3 := Lib.hid (show Kp W (xs.set k (tx, m)) (.slice (some ⟨g, 0, none⟩) n c1) (w2.setCell ⟨g, k * 2 + 1, none⟩ (.int .i64 m)) from ⟨by unfold Row; rw [List.length_set, HN.out]; exact hst, hk2.bel.setCell (p := ⟨g, k * 2 + 1, none⟩) hgl _⟩)
    clear hk2 hrw hst hb2 HI1
    go_wp2_with fail
    go_ret
    exact lists_of HK3.out (by rw [List.length_set, HN.out]) HE.out.symm
end
end Go.Proofs.YtlhhopanegnliaaGreatDoor.Hs
/- What one has is set: the walk of the document's answer. -/
namespace Go.Proofs.YtlhhopanegnliaaGreatDoor.Hs
open Go Go.RowKit Go.Shelf

theorem setL_pre {tx m : Int} {xs : List Hd} (h : dn tx xs = true) : pre tx m xs = setL tx m xs := by unfold pre; rw [h]; rfl
theorem setL_post {tx m : Int} {xs : List Hd} (h : dn tx xs = false) : pre tx m xs ++ [(tx, m)] = setL tx m xs := by unfold pre; rw [h, setL_none h]; rfl
section
variable {W W' : World} {A : Option Addr} {c : Nat} {xs : List Hd}
set_option maxHeartbeats 1000000 in
theorem rset_any (hr : Ls W A c xs) (hl : xs.length ≤ 500) (tx m : Int) : Calls Tryz.prog 166 #[.slice A xs.length c, .int .i64 tx, .int .i64 m] W (Lists W (setL tx m xs)) := by
  have HR := Lib.hid hr
  obtain ⟨n, hn⟩ : ∃ n, xs.length = n := ⟨_, rfl⟩
  rw [hn] at hl ⊢
  have HN := Lib.hid hn
  clear hr hn
  go_enter Tryz.func166, Tryz.ntmps166
  go_wp2
  go_loopw [13, 8, 7] (fun t d v wr => ∃ j : Nat, j ≤ n ∧ t = .int .i64 j ∧ d = .bool (dn tx (xs.take j)) ∧ Kp W (pre tx m (xs.take j)) v wr) (fun t _ _ _ => n - (intOf t).toNat)
  case atStart => exact ⟨0, by omega, rfl, rfl, World.ownsRow_nil _ _ _ _, Below.refl _ _⟩
  case round =>
    obtain ⟨j, hj, rfl, rfl, hk⟩ := hrel
    have hpl : (pre tx m (xs.take j)).length = j := by rw [pre_len, List.length_take]; have := HN.out; omega
    obtain ⟨A0, c0', ev, -⟩ := hk.row.ls
    rw [hpl] at ev
    subst ev
    have K0 := Lib.hid hk
    have HPL := Lib.hid hpl
    clear hk hpl
    obtain ⟨d, hd⟩ : ∃ d, dn tx (xs.take j) = d := ⟨_, rfl⟩
    have HD := Lib.hid hd
    rw [hd]
    clear hd
    by_cases hjn : j < n
    · have hjl : j < xs.length := by rw [HN.out]; exact hjn
      obtain ⟨a, rfl, c0, c1⟩ := (HR.out.below K0.out.bel).here hjl
      have HT := Lib.hid (List.take_succ_eq_append_getElem hjl)
      generalize xs[j] = x at c0 c1 HT
      obtain ⟨t, mm⟩ := x
      simp only at c0 c1
      clear hjl
      by_cases ht : t = tx
      · subst ht
        cases d
        · have hb1 := box_below wr (.cells #[.int .i64 t, .int .i64 m] 123)
          obtain ⟨A2, c2, w3, hrun, hk3⟩ := (K0.out.below hb1).app (x := (t, m)) HPL.out (by omega) 83
          simp only at hrun
          rw [show (wr.alloc (.cells #[.int .i64 t, .int .i64 m] 123)).heap.size = wr.heap.size + 1 by simp] at hrun
          have HE := Lib.hid (pre_new (tx := t) (m := m) (l := xs.take j) (x := (t, mm)) (by simp) HD.out)
          have HS := Lib.hid (dn_snoc t (xs.take j) (t, mm))
          rw [← HT.out] at HE HS
          rw [← HE.out] at hk3
          have K3 := Lib.hid hk3
          have HD2 := Lib.hid (show dn t (xs.take (j + 1)) = true by rw [HS.out]; simp)
          clear hk3 hb1 HE HS
          go_wp2_with (at_builtin; refine Lib.wpList_append_run _ rfl _ _ _ _ rfl _ _ rfl rfl _ _ hrun ?_)
          go_roundw
          case rel => exact ⟨j + 1, by omega, by go_num, by rw [HD2.out], K3.out⟩
          case measure => simp [intOf]; omega
        · have hb1 := box_below wr (.cells #[.int .i64 t, .int .i64 mm] 123)
          obtain ⟨A2, c2, w3, hrun, hk3⟩ := (K0.out.below hb1).app (x := (t, mm)) HPL.out (by omega) 83
          simp only at hrun
          rw [show (wr.alloc (.cells #[.int .i64 t, .int .i64 mm] 123)).heap.size = wr.heap.size + 1 by simp] at hrun
          have HE := Lib.hid (pre_keep (tx := t) (m := m) (l := xs.take j) (x := (t, mm)) (.inr HD.out))
          have HS := Lib.hid (dn_snoc t (xs.take j) (t, mm))
          rw [← HT.out] at HE HS
          rw [← HE.out] at hk3
          have K3 := Lib.hid hk3
          have HD2 := Lib.hid (show dn t (xs.take (j + 1)) = true by rw [HS.out]; simp)
          clear hk3 hb1 HE HS
          go_wp2_with (at_builtin; refine Lib.wpList_append_run _ rfl _ _ _ _ rfl _ _ rfl rfl _ _ hrun ?_)
          go_roundw
          case rel => exact ⟨j + 1, by omega, by go_num, by rw [HD2.out], K3.out⟩
          case measure => simp [intOf]; omega
      · have hne : (t == tx) = false := by simpa using ht
        have hb1 := box_below wr (.cells #[.int .i64 t, .int .i64 mm] 123)
        obtain ⟨A2, c2, w3, hrun, hk3⟩ := (K0.out.below hb1).app (x := (t, mm)) HPL.out (by omega) 83
        simp only at hrun
        rw [show (wr.alloc (.cells #[.int .i64 t, .int .i64 mm] 123)).heap.size = wr.heap.size + 1 by simp] at hrun
        have HE := Lib.hid (pre_keep (tx := tx) (m := m) (l := xs.take j) (x := (t, mm)) (.inl hne))
        have HS := Lib.hid (dn_snoc tx (xs.take j) (t, mm))
        rw [← HT.out] at HE HS
        rw [← HE.out] at hk3
        have K3 := Lib.hid hk3
        have HD2 := Lib.hid (show dn tx (xs.take (j + 1)) = d by rw [HS.out, HD.out, hne]; simp)
        clear hk3 hb1 HE HS ht
        go_wp2_with (at_builtin; refine Lib.wpList_append_run _ rfl _ _ _ _ rfl _ _ rfl rfl _ _ hrun ?_)
        go_roundw
        case rel => exact ⟨j + 1, by omega, by go_num, by rw [HD2.out], K3.out⟩
        case measure => simp [intOf]; omega
    · obtain rfl : j = n := by omega
      have HT := Lib.hid (List.take_of_length_le (Nat.le_of_eq HN.out))
      rw [HT.out] at HD K0 HPL
      cases d
      · obtain ⟨A2, c2, w3, hrun, hk3⟩ := K0.out.app (x := (tx, m)) HPL.out (by omega) 83
        simp only at hrun
        have K3 := Lib.hid hk3
        clear hk3
        go_wp2_with (at_builtin; refine Lib.wpList_append_run _ rfl _ _ _ _ rfl _ _ rfl rfl _ _ hrun ?_)
        go_ret
        exact lists_of K3.out (by rw [List.length_append, HPL.out]; rfl) (setL_post HD.out)
      · go_wp2
        go_ret
        exact lists_of K0.out HPL.out (setL_pre HD.out)
end
end Go.Proofs.YtlhhopanegnliaaGreatDoor.Hs
/- Numbers in a block of their own. -/
namespace Go.Proofs.YtlhhopanegnliaaGreatDoor.Hs
open Go Go.RowKit Go.Shelf

theorem cell_far {W : World} {k o o' : Nat} {u : Value} (h : o' ≠ o) : (W.setCell ⟨k, o, none⟩ u).cell? ⟨k, o', none⟩ = W.cell? ⟨k, o', none⟩ :=
  World.cell?_setCell_other _ _ _ _ (fun e => h (by injection e with e1 e2; exact e2.symm))
theorem cell_near {W : World} {k o : Nat} {u x : Value} (h : W.cell? ⟨k, o, none⟩ = some x) : (W.setCell ⟨k, o, none⟩ u).cell? ⟨k, o, none⟩ = some u :=
  World.cell?_setCell_same' _ _ _ (by rw [h]; rfl)
/-- one value is changed -/
def upd (f : Nat → Int) (k : Nat) (x : Int) : Nat → Int := fun i => if i = k then x else f i
/-- numbers in a block of their own -/
structure Arr (W : World) (g n : Nat) (f : Nat → Int) : Prop where
  at' : ∀ i, i < n → W.cell? ⟨g, i, none⟩ = some (.int .i64 (f i))
  fz : ∀ o, W.frozen? ⟨g, o, none⟩ = false
  lt : g < W.heap.size
section
variable {W W' : World} {g n : Nat} {f f' : Nat → Int}
theorem Arr.keep (h : Arr W g n f) (hs : W.heap.size ≤ W'.heap.size) (hg : W'.heap[g]? = W.heap[g]?) : Arr W' g n f :=
  ⟨fun i hi => (World.cell?_of_block (w := W) (a := ⟨g, i, none⟩) hg).trans (h.at' i hi), fun o => (World.frozen?_of_block (w := W) (a := ⟨g, o, none⟩) hg).trans (h.fz o), Nat.lt_of_lt_of_le h.lt hs⟩
theorem Arr.below (h : Arr W g n f) (hb : Below W.heap.size W W') : Arr W' g n f := h.keep hb.size (hb.block g h.lt)
theorem Arr.congr (h : Arr W g n f) (he : ∀ i, i < n → f i = f' i) : Arr W g n f' := ⟨fun i hi => by rw [← he i hi]; exact h.at' i hi, h.fz, h.lt⟩
theorem Arr.set (h : Arr W g n f) (k : Nat) (x : Int) : Arr (W.setCell ⟨g, k, none⟩ (.int .i64 x)) g n (upd f k x) := by
  refine ⟨fun i hi => ?_, fun o => by rw [World.frozen?_setCell]; exact h.fz o, by simpa [World.setCell] using h.lt⟩
  unfold upd
  by_cases e : i = k
  · subst e; rw [if_pos rfl]; exact cell_near (h.at' i hi)
  · rw [if_neg e, cell_far e]; exact h.at' i hi
end
end Go.Proofs.YtlhhopanegnliaaGreatDoor.Hs
/- How many have each mode: the program's counts. -/
namespace Go.Proofs.YtlhhopanegnliaaGreatDoor.Hs
open Go Go.RowKit Go.Shelf

/-- how many have a mode -/
def cntF (xs : List Hd) (k : Nat) : Int := ((xs.countP (fun x => kn x.2 == k) : Nat) : Int)
theorem cntF_nil : cntF [] = fun _ => 0 := rfl
theorem cntF_snoc (xs : List Hd) (x : Hd) : cntF (xs ++ [x]) = upd (cntF xs) (kn x.2) (cntF xs (kn x.2) + 1) := by
  funext k
  unfold cntF upd
  rw [List.countP_append, List.countP_singleton]
  by_cases h : k = kn x.2
  · subst h; simp
  · rw [if_neg h, if_neg (by simpa using fun e => h e.symm)]; simp
theorem cntF_bounds (xs : List Hd) (k : Nat) : 0 ≤ cntF xs k ∧ cntF xs k ≤ xs.length := by
  unfold cntF
  have := List.countP_le_length (p := fun x : Hd => kn x.2 == k) (l := xs)
  omega
/-- seven numbers as a value -/
abbrev arr (f : Nat → Int) : Value := .agg #[.int .i64 (f 0), .int .i64 (f 1), .int .i64 (f 2), .int .i64 (f 3), .int .i64 (f 4), .int .i64 (f 5), .int .i64 (f 6)]
abbrev zeros7 : Array Value := #[.int .i64 0, .int .i64 0, .int .i64 0, .int .i64 0, .int .i64 0, .int .i64 0, .int .i64 0]
theorem Arr.zeros (W : World) : Arr (W.alloc (.cells zeros7 243)) W.heap.size 7 (fun _ => 0) := by
  have hb := heap_alloc_new W (.cells zeros7 243)
  refine ⟨fun i hi => ?_, fun o => frozen_of_row _ _ _ _ _ hb, by simp⟩
  rw [cell_of_row _ _ _ _ _ _ hb]
  match i, hi with
  | 0, _ => rfl
  | 1, _ => rfl
  | 2, _ => rfl
  | 3, _ => rfl
  | 4, _ => rfl
  | 5, _ => rfl
  | 6, _ => rfl
/-- an array of seven is handed out of its cells -/
theorem results_arr {fn : Func} {p : Tmp} (h : fn.results = #[.cell p 243]) {tmps : Array Value} {w : World} {b : Nat} {f : Nat → Int} (hp : tmps.getD p undef = .pointer (some ⟨b, 0, none⟩)) (hc : Arr w b 7 f) :
    (results fn tmps).run Tryz.prog w = .ok (arr f) w := by
  have hp' : tmps[p]?.getD undef = .pointer (some ⟨b, 0, none⟩) := by simpa using hp
  have h0 := hc.at' 0 (by omega)
  have h1 := hc.at' 1 (by omega)
  have h2 := hc.at' 2 (by omega)
  have h3 := hc.at' 3 (by omega)
  have h4 := hc.at' 4 (by omega)
  have h5 := hc.at' 5 (by omega)
  have h6 := hc.at' 6 (by omega)
  simp [results, h, hp', go_sem, h0, h1, h2, h3, h4, h5, h6]
/-- the counts as they stand -/
structure Cs (W : World) (l : List Hd) (w : World) : Prop where
  res : Arr w W.heap.size 7 (fun _ => 0)
  cnt : Arr w (W.heap.size + 1) 7 (cntF l)
  bel : Below W.heap.size W w
theorem Cs.start (W : World) : Cs W [] ((W.alloc (.cells zeros7 243)).alloc (.cells zeros7 243)) := by
  have h1 := Arr.zeros W
  have h2 := Arr.zeros (W.alloc (.cells zeros7 243))
  rw [show (W.alloc (.cells zeros7 243)).heap.size = W.heap.size + 1 by simp] at h2
  have b1 := box_below W (.cells zeros7 243)
  have b2 := box_below (W.alloc (.cells zeros7 243)) (.cells zeros7 243)
  exact ⟨h1.below b2, h2, b1.trans (b2.mono b1.size)⟩
theorem Cs.box {W w : World} {l : List Hd} (h : Cs W l w) (o : Obj) : Cs W l (w.alloc o) := ⟨h.res.below (box_below _ _), h.cnt.below (box_below _ _), h.bel.trans ((box_below w o).mono h.bel.size)⟩
theorem Arr.far {W : World} {g b n k : Nat} {f : Nat → Int} (h : Arr W g n f) (u : Value) (hb : g ≠ b) : Arr (W.setCell ⟨b, k, none⟩ u) g n f :=
  h.keep (by simp [World.setCell]) (Below.heap_setCell W ⟨b, k, none⟩ u g hb)
theorem Cs.next {W w : World} {l : List Hd} (h : Cs W l w) (x : Hd) : Cs W (l ++ [x]) (w.setCell ⟨W.heap.size + 1, kn x.2, none⟩ (.int .i64 (cntF l (kn x.2) + 1))) := by
  refine ⟨h.res.far _ (by omega), ?_, h.bel.setCell (p := ⟨W.heap.size + 1, kn x.2, none⟩) (by simp) _⟩
  rw [cntF_snoc]
  exact h.cnt.set _ _
section
variable {W W' : World} {A : Option Addr} {c : Nat} {xs : List Hd}
set_option maxRecDepth 100000 in
set_option maxHeartbeats 2000000 in
theorem counts_any (hr : Ls W A c xs) (hl : xs.length ≤ 5000) : Calls Tryz.prog 226 #[.slice A xs.length c] W fun e w' => e = .returned (arr (cntF xs)) ∧ Below W.heap.size W w' := by
  have HR := Lib.hid hr
  have HC0 := Lib.hid (Cs.start W)
  obtain ⟨n, hn⟩ : ∃ n, xs.length = n := ⟨_, rfl⟩
  rw [hn] at hl ⊢
  have HN := Lib.hid hn
  clear hr hn
  go_enter Tryz.func226, Tryz.ntmps226
  go_wp2
  go_loopw [8] (fun t wr => ∃ j : Nat, j ≤ n ∧ t = .int .i64 j ∧ Cs W (xs.take j) wr) (fun t _ => n - (intOf t).toNat)
  case atStart => exact ⟨0, by omega, rfl, HC0.out⟩
  case round =>
    obtain ⟨j, hj, rfl, hcs⟩ := hrel
    have HC := Lib.hid hcs
    clear hcs HC0
    have hsz := HC.out.cnt.lt
    by_cases hjn : j < n
    · have hjl : j < xs.length := by rw [HN.out]; exact hjn
      obtain ⟨a, rfl, c0, c1⟩ := (HR.out.below HC.out.bel).here hjl
      have HT := Lib.hid (List.take_succ_eq_append_getElem hjl)
      generalize xs[j] = x at c0 c1 HT
      obtain ⟨t, mm⟩ := x
      simp only at c0 c1
      clear hjl
      have hbd := cntF_bounds (xs.take j) (kn mm)
      have hbl : (cntF (xs.take j) (kn mm)) ≤ 5000 := by have := hbd.2; rw [List.length_take] at this; have := HN.out; omega
      have hb0 := hbd.1
      have q0 := HC.out.cnt.at' (kn mm) (by have := kn_le mm; omega)
      have f0 := HC.out.cnt.fz (kn mm)
      have HX := Lib.hid ((HC.out.next (t, mm)).box (.cells #[.int .i64 t, .int .i64 mm] 123))
      rw [← HT.out] at HX
      simp only at HX
      generalize cntF (xs.take j) (kn mm) = v at *
      clear hbd
      by_cases hm : 0 ≤ mm ∧ mm ≤ 6
      · have h0 := hm.1
        have h6 := hm.2
        obtain ⟨k, rfl⟩ : ∃ k : Nat, mm = k := ⟨mm.toNat, by omega⟩
        rw [kn_nat (by omega)] at HX q0 f0
        have k7 : k < 7 := by omega
        have HM := fun w => Lib.hid (may_yes (k : Int) w h0 h6)
        clear hm
        go_wp2_with (go_at_call 159; ((with_reducible refine (HM _).out.mono ?_); rintro e w' ⟨rfl, rfl⟩))
        go_roundw
        case rel => exact ⟨j + 1, by omega, by go_num, HX.out⟩
        case measure => simp [intOf]; omega
      · rw [kn_out hm] at HX q0 f0
        have HM := fun w => Lib.hid (may_no mm w hm)
        clear hm
        go_wp2_with (go_at_call 159; ((with_reducible refine (HM _).out.mono ?_); rintro e w' ⟨rfl, rfl⟩))
        go_roundw
        case rel => exact ⟨j + 1, by omega, by go_num, HX.out⟩
        case measure => simp [intOf]; omega
    · obtain rfl : j = n := by omega
      have HT := Lib.hid (List.take_of_length_le (Nat.le_of_eq HN.out))
      rw [HT.out] at HC
      have a0 := HC.out.cnt.at' 0 (by omega)
      have r0 := HC.out.res.at' 0 (by omega)
      have a1 := HC.out.cnt.at' 1 (by omega)
      have r1 := HC.out.res.at' 1 (by omega)
      have a2 := HC.out.cnt.at' 2 (by omega)
      have r2 := HC.out.res.at' 2 (by omega)
      have a3 := HC.out.cnt.at' 3 (by omega)
      have r3 := HC.out.res.at' 3 (by omega)
      have a4 := HC.out.cnt.at' 4 (by omega)
      have r4 := HC.out.res.at' 4 (by omega)
      have a5 := HC.out.cnt.at' 5 (by omega)
      have r5 := HC.out.res.at' 5 (by omega)
      have a6 := HC.out.cnt.at' 6 (by omega)
      have r6 := HC.out.res.at' 6 (by omega)
      have fz := HC.out.res.fz
      have HF := Lib.hid (Arr.congr (f' := cntF xs) (((((((HC.out.res.set 0 (cntF xs 0)).set 1 (cntF xs 1)).set 2 (cntF xs 2)).set 3 (cntF xs 3)).set 4 (cntF xs 4)).set 5 (cntF xs 5)).set 6 (cntF xs 6)) (fun i hi => by
        have hi7 : i = 0 ∨ i = 1 ∨ i = 2 ∨ i = 3 ∨ i = 4 ∨ i = 5 ∨ i = 6 := by omega
        rcases hi7 with rfl | rfl | rfl | rfl | rfl | rfl | rfl <;> simp [upd]))
      have HB := Lib.hid (((((((HC.out.bel.setCell (p := ⟨W.heap.size, 0, none⟩) (Nat.le_refl _) (.int .i64 (cntF xs 0))).setCell (p := ⟨W.heap.size, 1, none⟩) (Nat.le_refl _) (.int .i64 (cntF xs 1))).setCell (p := ⟨W.heap.size, 2, none⟩) (Nat.le_refl _) (.int .i64 (cntF xs 2))).setCell (p := ⟨W.heap.size, 3, none⟩) (Nat.le_refl _) (.int .i64 (cntF xs 3))).setCell (p := ⟨W.heap.size, 4, none⟩) (Nat.le_refl _) (.int .i64 (cntF xs 4))).setCell (p := ⟨W.heap.size, 5, none⟩) (Nat.le_refl _) (.int .i64 (cntF xs 5))).setCell (p := ⟨W.heap.size, 6, none⟩) (Nat.le_refl _) (.int .i64 (cntF xs 6)))
      clear HC
      go_wp2
      exact bodyPost_ret (results_arr rfl rfl HF.out) rfl ⟨rfl, HB.out⟩
end
end Go.Proofs.YtlhhopanegnliaaGreatDoor.Hs
/- Whether all modes that are there fit; what goes with others: the program's answer and the document's. -/
namespace Go.Proofs.YtlhhopanegnliaaGreatDoor.Hs
open Go Go.RowKit Go.Shelf

/-- a function value that tells of a mode whether a condition holds, in whatever later world -/
def Tst (W : World) (gf : Nat) (cs : Array Value) (q : Nat → Bool) : Prop :=
  (∀ args w, (callFunc gf args).run Tryz.prog w = .ok (.enter gf args) w) ∧
  ∀ (W' : World) (k : Nat), k ≤ 6 → Below W.heap.size W W' → Calls Tryz.prog gf (#[.int .i64 (k : Nat)] ++ cs) W' fun e w' => e = .returned (.bool (q k)) ∧ Below W.heap.size W w'
/-- whether all that are there fit -/
def eachB (f : Nat → Int) (q : Nat → Bool) : Bool := (List.range 7).all (fun k => !decide (0 < f k) || q k)
theorem eachB_iff {f : Nat → Int} {q : Nat → Bool} : eachB f q = true ↔ ∀ k, k ≤ 6 → 0 < f k → q k = true := by
  unfold eachB
  rw [List.all_eq_true]
  constructor
  · intro h k hk h0
    have := h k (List.mem_range.2 (by omega))
    simpa [h0] using this
  · intro h k hk
    have hk' := List.mem_range.1 hk
    by_cases h0 : 0 < f k
    · rw [h k (by omega) h0]; simp
    · simp [h0]
theorem eachB_not {f : Nat → Int} {q : Nat → Bool} {k : Nat} (hk : k ≤ 6) (h0 : 0 < f k) (hq : q k = false) : eachB f q = false := by
  cases h : eachB f q
  · rfl
  · rw [eachB_iff.1 h k hk h0] at hq; cases hq
theorem idx26 (f : Nat → Int) (k : Nat) (h : k < 7) (w : World) : (Instr.index 243 (arr f) (.int .i64 (k : Nat))).run Tryz.prog w = .ok (.int .i64 (f k)) w := by
  have hc : k = 0 ∨ k = 1 ∨ k = 2 ∨ k = 3 ∨ k = 4 ∨ k = 5 ∨ k = 6 := by omega
  rcases hc with rfl | rfl | rfl | rfl | rfl | rfl | rfl <;> simp [Instr.index, asIntOf, run_underlying Tryz.underlying243, go_sem]
section
variable {W W' : World} {gf : Nat} {cs : Array Value} {q : Nat → Bool} {f : Nat → Int}
set_option maxRecDepth 100000 in
theorem each_any (hq : Tst W gf cs q) : Calls Tryz.prog 225 #[arr f, .func (.func gf) #[] cs] W fun e w' => e = .returned (.bool (eachB f q)) ∧ Below W.heap.size W w' := by
  obtain ⟨eg, hp⟩ := hq
  have HP := Lib.hid hp
  have HB0 := Lib.hid (box_below W (.cells #[.int .i64 (f 0), .int .i64 (f 1), .int .i64 (f 2), .int .i64 (f 3), .int .i64 (f 4), .int .i64 (f 5), .int .i64 (f 6)] 243))
  clear hp
  go_enter Tryz.func225, Tryz.ntmps225
  go_wp2
  go_loopw [8] (fun t wr => ∃ k : Nat, k ≤ 7 ∧ t = .int .i64 k ∧ (∀ i, i < k → 0 < f i → q i = true) ∧ Below W.heap.size W wr) (fun t _ => 7 - (intOf t).toNat)
  case atStart => exact ⟨0, by omega, rfl, fun i hi => by omega, HB0.out⟩
  case round =>
    obtain ⟨k, hk, rfl, hall, hb⟩ := hrel
    have HA := Lib.hid hall
    have HB := Lib.hid hb
    clear hall hb HB0
    by_cases h7 : k < 7
    · have hi := fun w => idx26 f k h7 w
      have HC := Lib.hid (HP.out wr k (by omega) HB.out)
      by_cases h0 : 0 < f k
      · cases hq : q k
        · rw [hq] at HC
          have HE := Lib.hid (eachB_not (by omega) h0 hq)
          clear hq
          go_wp2_with fail
          refine HC.out.mono ?_
          rintro e w1 ⟨rfl, hb1⟩
          have HB1 := Lib.hid hb1
          clear hb1
          go_wp2_with fail
          go_ret
          exact ⟨by rw [HE.out]; rfl, HB1.out⟩
        · rw [hq] at HC
          have HQ := Lib.hid hq
          clear hq
          go_wp2_with fail
          refine HC.out.mono ?_
          rintro e w1 ⟨rfl, hb1⟩
          have HB1 := Lib.hid hb1
          clear hb1
          go_wp2_with fail
          go_roundw
          case rel =>
            refine ⟨k + 1, by omega, by go_num, fun i hi h => ?_, HB1.out⟩
            rcases Nat.lt_or_ge i k with h' | h'
            · exact HA.out i h' h
            · obtain rfl : i = k := by omega
              exact HQ.out
          case measure => simp [intOf]; omega
      · have H0 := Lib.hid h0
        go_wp2_with fail
        go_roundw
        case rel =>
          refine ⟨k + 1, by omega, by go_num, fun i hi h => ?_, HB.out⟩
          rcases Nat.lt_or_ge i k with h' | h'
          · exact HA.out i h' h
          · obtain rfl : i = k := by omega
            exact absurd h H0.out
        case measure => simp [intOf]; omega
    · obtain rfl : k = 7 := by omega
      have HE := Lib.hid (eachB_iff.2 (fun i hi h => HA.out i (by omega) h))
      go_wp2
      go_ret
      exact ⟨by rw [HE.out]; rfl, HB.out⟩
end
end Go.Proofs.YtlhhopanegnliaaGreatDoor.Hs
/- What goes with others: the program's answer and the document's. -/
namespace Go.Proofs.YtlhhopanegnliaaGreatDoor.Hs
open Go Go.RowKit Go.Shelf

/-- whether a mode goes with what others have -/
def goesB (tx m : Int) (xs : List Hd) : Bool := xs.all (fun x => x.1 == tx || goesN (kn x.2) (kn m))
theorem cntF_pos {xs : List Hd} {k : Nat} : 0 < cntF xs k ↔ ∃ x ∈ xs, kn x.2 = k := by
  unfold cntF
  rw [Int.natCast_pos, List.countP_pos_iff]
  simp
theorem each_goes (tx m : Int) (xs : List Hd) : eachB (cntF (wout tx xs)) (fun k => goesN k (kn m)) = goesB tx m xs := by
  rw [Bool.eq_iff_iff, eachB_iff]
  unfold goesB
  rw [List.all_eq_true]
  constructor
  · intro h x hx
    cases e : x.1 == tx
    · rw [Bool.false_or]
      exact h _ (kn_le _) (cntF_pos.2 ⟨x, by unfold wout; simp [hx, e], rfl⟩)
    · rfl
  · intro h k _ hk
    obtain ⟨x, hx, rfl⟩ := cntF_pos.1 hk
    unfold wout at hx
    obtain ⟨h1, h2⟩ := List.mem_filter.1 hx
    have := h x h1
    simp only [Bool.not_eq_true'] at h2
    rw [h2, Bool.false_or] at this
    exact this
theorem goesB_snoc (tx m : Int) (xs : List Hd) (x : Hd) : goesB tx m (xs ++ [x]) = (goesB tx m xs && (x.1 == tx || goesN (kn x.2) (kn m))) := by simp [goesB]
theorem goesB_not {tx m : Int} {xs : List Hd} {k : Nat} (hk : k < xs.length) (h1 : (xs[k].1 == tx) = false) (h2 : goesN (kn xs[k].2) (kn m) = false) : goesB tx m xs = false := by
  unfold goesB
  rw [List.all_eq_false]
  exact ⟨_, List.getElem_mem hk, by rw [h1, h2]; simp⟩
section
variable {W W' : World} {A : Option Addr} {c : Nat} {xs : List Hd}
theorem tst_goes {B : Nat} {m : Int} (ht : TabG W) (hc : W.cell? ⟨B, 0, none⟩ = some (.int .i64 m)) : Tst W 227 #[.pointer (some ⟨B, 0, none⟩)] (fun k => goesN k (kn m)) := by
  refine ⟨enters_of Tryz.func227 (by kernel_rfl) rfl, fun W' k hk hb => ?_⟩
  have hc' := (hb.cell (p := ⟨B, 0, none⟩) (cell_lt hc)).trans hc
  have H := Lib.hid (compat_any (k : Int) m W W' ht hb)
  rw [kn_nat hk] at H
  change Calls Tryz.prog 227 _ W' fun e w' => e = .returned (.bool (goesN k (kn m))) ∧ _
  generalize goesN k (kn m) = b at *
  clear ht hc hb
  go_enter Tryz.func227, Tryz.ntmps227
  go_wp2_with (go_at_call 228; ((with_reducible refine H.out.mono ?_); rintro e w' ⟨rfl, hb⟩))
  go_ret
  exact ⟨rfl, hb⟩
theorem goes_any (ht : TabG W) (hr : Ls W A c xs) (hl : xs.length ≤ 500) (tx m : Int) : Calls Tryz.prog 211 #[.slice A xs.length c, .int .i64 tx, .int .i64 m] W fun e w' => e = .returned (.bool (goesB tx m xs)) ∧ Below W.heap.size W w' := by
  have hb0 := box_below W (.cells #[.int .i64 m] 3)
  have HD := Lib.hid (without_any (hr.below hb0) hl tx)
  have hcell : (W.alloc (.cells #[.int .i64 m] 3)).cell? ⟨W.heap.size, 0, none⟩ = some (.int .i64 m) := by simp [go_sem]
  have HC := Lib.hid hcell
  have HB0 := Lib.hid hb0
  have HT := Lib.hid ht
  have HE := Lib.hid (each_goes tx m xs)
  have hwl := wout_len tx xs
  clear hr ht hb0 hcell
  generalize goesB tx m xs = z at *
  generalize wout tx xs = ys at *
  generalize xs.length = n at *
  obtain ⟨f, hf⟩ : ∃ f, cntF ys = f := ⟨_, rfl⟩
  go_enter Tryz.func211, Tryz.ntmps211
  go_wp2_with fail
  refine HD.out.mono ?_
  rintro e w1 ⟨A1, c1, rfl, hls, hb1⟩
  have hcn := counts_any hls (by omega)
  rw [hf] at hcn HE
  have HCn := Lib.hid hcn
  have HB1 := Lib.hid hb1
  generalize ys.length = k at *
  clear hcn hls hb1 hf
  go_wp2_with fail
  refine HCn.out.mono ?_
  rintro e w2 ⟨rfl, hb2⟩
  have hb3 := HB1.out.trans (hb2.mono HB1.out.size)
  have HX := Lib.hid (each_any (f := f) (tst_goes (W := w2) (B := W.heap.size) (m := m) (HT.out.later (HB0.out.trans (hb3.mono HB0.out.size))) ((hb3.cell (p := ⟨W.heap.size, 0, none⟩) (cell_lt HC.out)).trans HC.out)))
  rw [HE.out] at HX
  have HB3 := Lib.hid (HB0.out.trans (hb3.mono HB0.out.size))
  clear hb2 hb3 HCn
  go_wp2_with fail
  refine HX.out.mono ?_
  rintro e w3 ⟨rfl, hb4⟩
  have HB4 := Lib.hid (HB3.out.trans (hb4.mono HB3.out.size))
  clear hb4
  go_wp2_with fail
  go_ret
  exact ⟨rfl, HB4.out⟩
theorem rgoes_any (hr : Ls W A c xs) (hl : xs.length ≤ 5000) (tx m : Int) : Calls Tryz.prog 165 #[.slice A xs.length c, .int .i64 tx, .int .i64 m] W fun e w' => e = .returned (.bool (goesB tx m xs)) ∧ Below W.heap.size W w' := by
  have HR := Lib.hid hr
  obtain ⟨n, hn⟩ : ∃ n, xs.length = n := ⟨_, rfl⟩
  rw [hn] at hl ⊢
  have HN := Lib.hid hn
  clear hr hn
  go_enter Tryz.func165, Tryz.ntmps165
  go_wp2
  go_loopw [11] (fun t wr => ∃ j : Nat, j ≤ n ∧ t = .int .i64 j ∧ goesB tx m (xs.take j) = true ∧ Below W.heap.size W wr) (fun t _ => n - (intOf t).toNat)
  case atStart => exact ⟨0, by omega, rfl, rfl, Below.refl _ _⟩
  case round =>
    obtain ⟨j, hj, rfl, hall, hb⟩ := hrel
    have HA := Lib.hid hall
    clear hall
    by_cases hjn : j < n
    · have hjl : j < xs.length := by rw [HN.out]; exact hjn
      obtain ⟨a, rfl, hh⟩ := (HR.out.below hb).here hjl
      obtain ⟨c0, c1⟩ := hh
      have HB0 := Lib.hid hb
      have hsz := hb.size
      clear hb
      have hsn := goesB_snoc tx m (xs.take j) xs[j]
      rw [← List.take_succ_eq_append_getElem hjl, HA.out, Bool.true_and] at hsn
      have hnot := fun h1 h2 => goesB_not (tx := tx) (m := m) hjl h1 h2
      generalize xs[j] = x at c0 c1 hsn hnot
      obtain ⟨t, mm⟩ := x
      simp only at c0 c1 hsn hnot
      have HB1 := Lib.hid (HB0.out.trans ((box_below wr (.cells #[.int .i64 t, .int .i64 mm] 123)).mono HB0.out.size))
      have HG := fun w => Lib.hid (rcompat_any mm m w)
      generalize goesN (kn mm) (kn m) = b at *
      have HS := Lib.hid hsn
      have HQ := Lib.hid hnot
      clear hsn hnot hjl
      by_cases hq : t = tx
      · subst hq
        have HS' := Lib.hid (show goesB t m (xs.take (j + 1)) = true by rw [HS.out]; simp)
        clear HS
        go_wp2
        go_roundw
        case rel => exact ⟨j + 1, by omega, by go_num, HS'.out, HB1.out⟩
        case measure => simp [intOf]; omega
      · have hq' : (t != tx) = true := by simpa using hq
        have hq2 : (t == tx) = false := by simpa using hq
        rw [hq2] at HS HQ
        have HH := Lib.hid hq2
        clear hq hq2
        cases b
        · have HE := Lib.hid (HQ.out rfl rfl)
          clear HS HQ
          go_wp2_with (go_at_call 199; ((with_reducible refine (HG _).out.mono ?_); rintro e w' ⟨rfl, rfl⟩))
          go_ret
          exact ⟨by rw [HE.out]; rfl, HB1.out⟩
        · have HS' := Lib.hid (show goesB tx m (xs.take (j + 1)) = true by rw [HS.out]; rfl)
          clear HS HQ
          go_wp2_with (go_at_call 199; ((with_reducible refine (HG _).out.mono ?_); rintro e w' ⟨rfl, rfl⟩))
          go_roundw
          case rel => exact ⟨j + 1, by omega, by go_num, HS'.out, HB1.out⟩
          case measure => simp [intOf]; omega
    · obtain rfl : j = n := by omega
      have HT := Lib.hid (List.take_of_length_le (Nat.le_of_eq HN.out))
      rw [HT.out] at HA
      go_wp2
      go_ret
      exact ⟨by rw [HA.out]; rfl, hb⟩
end
end Go.Proofs.YtlhhopanegnliaaGreatDoor.Hs
