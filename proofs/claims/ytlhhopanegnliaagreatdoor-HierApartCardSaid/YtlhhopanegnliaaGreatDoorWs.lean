/- Requests in memory: four cells each; a list that is read; a row of one's own, and what is put behind it. -/
import Derived.Test.YtlhhopanegnliaaGreatDoorR1
import Derived.Maps.AppendAt
import Derived.Deep.Upon
import Derived.Lib.AppendZeros
import Derived.Test.YtlhhopanegnliaaGreatDoorMo
import Derived.BigQuiet
import Derived.Lib.SliceRun
import Derived.Deep.RegionHeld3
import Derived.Maps.OwnSet
import Derived.Maps.Views
import Derived.Maps.Keyed
namespace Go.Proofs.YtlhhopanegnliaaGreatDoor.Ws
open Go Go.RowKit

/-- a request: whose, which mode, whether it converts, whether it is for an instant -/
abbrev Wt := Int × Int × Bool × Bool
def cellsW (x : Wt) : List Value := [.int .i64 x.1, .int .i64 x.2.1, .bool x.2.2.1, .bool x.2.2.2]
abbrev wv (x : Wt) : Value := .agg #[.int .i64 x.1, .int .i64 x.2.1, .bool x.2.2.1, .bool x.2.2.2]
def flat (xs : List Wt) : List Value := xs.flatMap cellsW
theorem flat_length (xs : List Wt) : (flat xs).length = xs.length * 4 := by
  induction xs with
  | nil => rfl
  | cons x xs ih => simp only [flat, List.flatMap_cons, List.length_append, List.length_cons] at ih ⊢; rw [ih]; simp [cellsW]; omega
theorem flat_append (xs ys : List Wt) : flat (xs ++ ys) = flat xs ++ flat ys := by simp [flat]
theorem flat_at : ∀ (xs : List Wt) (i j : Nat) (h : i < xs.length), j < 4 → (flat xs)[i * 4 + j]? = (cellsW xs[i])[j]?
  | x :: xs, 0, j, h, hj => by
    simp only [flat, List.flatMap_cons, Nat.zero_mul, Nat.zero_add, List.getElem_cons_zero]
    rw [List.getElem?_append_left (by simp [cellsW]; exact hj)]
  | x :: xs, i + 1, j, h, hj => by
    simp only [flat, List.flatMap_cons, List.getElem_cons_succ]
    rw [List.getElem?_append_right (by simp [cellsW]; omega)]
    have e : (i + 1) * 4 + j - (cellsW x).length = i * 4 + j := by simp [cellsW]; omega
    rw [e]
    exact flat_at xs i j (by simpa using h) hj
theorem flat_one (xs : List Wt) : ∀ u ∈ flat xs, u.oneCell' = true := by
  intro u hu
  obtain ⟨x, -, hx⟩ := List.mem_flatMap.1 hu
  simp only [cellsW, List.mem_cons, List.not_mem_nil, or_false] at hx
  rcases hx with rfl | rfl | rfl | rfl <;> rfl
theorem block_add' (a : Addr) (n : Nat) : (a.add n).block = a.block := by unfold Addr.add; split <;> rfl
theorem add_next (a : Addr) (k j : Nat) (hj : 0 < j) : a.add (k + j) = ⟨(a.add k).block, (a.add k).off + j, none⟩ := by
  unfold Addr.add
  rw [if_neg (by omega)]
  split
  · rename_i h; subst h; simp
  · simp; omega
theorem info24 : (Tryz.prog.info? 61).map (fun i => (i.zero, i.size, i.bytes)) = some (some (.agg #[.int .i64 0, .int .i64 0, .bool false, .bool false]), 4, 24) := by kernel_rfl

/-- a list that is read -/
structure Ls (W : World) (A : Option Addr) (c : Nat) (xs : List Wt) : Prop where
  cap : xs.length ≤ c
  room : c ≤ maxLen
  nil : A = none → c = 0
  at' : ∀ a, A = some a → ∀ j u, (flat xs)[j]? = some u → W.cell? (a.add j) = some u
/-- one of them, cell by cell -/
structure Here (W : World) (a : Addr) (i : Nat) (x : Wt) : Prop where
  c0 : W.cell? (a.add (i * 4)) = some (.int .i64 x.1)
  c1 : W.cell? ⟨(a.add (i * 4)).block, (a.add (i * 4)).off + 1, none⟩ = some (.int .i64 x.2.1)
  c2 : W.cell? ⟨(a.add (i * 4)).block, (a.add (i * 4)).off + 2, none⟩ = some (.bool x.2.2.1)
  c3 : W.cell? ⟨(a.add (i * 4)).block, (a.add (i * 4)).off + 3, none⟩ = some (.bool x.2.2.2)
section
variable {W W' : World} {A : Option Addr} {c K : Nat} {xs ys : List Wt}
theorem Ls.nils (W : World) : Ls W none 0 [] := ⟨Nat.le_refl _, Nat.zero_le _, fun _ => rfl, by simp⟩
theorem Ls.empty (h : Ls W none c xs) : xs = [] := by
  have h1 := h.cap
  have h2 := h.nil rfl
  exact List.length_eq_zero_iff.1 (by omega)
theorem Ls.keep (h : Ls W A c xs) (hk : ∀ a, A = some a → W'.heap[a.block]? = W.heap[a.block]?) : Ls W' A c xs :=
  ⟨h.cap, h.room, h.nil, fun a ha j u hj => (World.cell?_of_block (w := W) (a := a.add j) (by rw [block_add']; exact hk a ha)).trans (h.at' a ha j u hj)⟩
theorem Ls.below (h : Ls W A c xs) (hb : Below W.heap.size W W') : Ls W' A c xs :=
  ⟨h.cap, h.room, h.nil, fun a ha j u hj => by
    have := h.at' a ha j u hj
    rw [World.cell?_of_block (w := W) (a := a.add j) (hb.block _ (cell_lt this))]
    exact this⟩
theorem Ls.only {T : Nat → Prop} (h : Ls W A c xs) (ho : OnlyS T W W') (hT : ∀ a, A = some a → ¬ T a.block) : Ls W' A c xs :=
  ⟨h.cap, h.room, h.nil, fun a ha j u hj => by
    have := h.at' a ha j u hj
    rw [World.cell?_of_block (w := W) (a := a.add j) (ho.block _ (cell_lt this) (by rw [block_add']; exact hT a ha))]
    exact this⟩
theorem Ls.drewN (h : Ls W A c xs) (k : Nat) : Ls (W.drewN k) A c xs := ⟨h.cap, h.room, h.nil, h.at'⟩
theorem Ls.here (h : Ls W A c xs) {i : Nat} (hi : i < xs.length) : ∃ a, A = some a ∧ Here W a i xs[i] := by
  cases A with
  | none => have := h.empty; subst this; simp at hi
  | some a =>
    have key : ∀ j u, j < 4 → (cellsW xs[i])[j]? = some u → W.cell? (a.add (i * 4 + j)) = some u := fun j u hj hu => h.at' a rfl _ _ ((flat_at xs i j hi hj).trans hu)
    refine ⟨a, rfl, key 0 _ (by omega) rfl, ?_, ?_, ?_⟩
    · rw [← add_next _ _ 1 (by omega)]; exact key 1 _ (by omega) rfl
    · rw [← add_next _ _ 2 (by omega)]; exact key 2 _ (by omega) rfl
    · rw [← add_next _ _ 3 (by omega)]; exact key 3 _ (by omega) rfl
theorem Ls.head (h : Ls W A c xs) (k : Nat) : Ls W A c (xs.take k) := by
  refine ⟨by rw [List.length_take]; have := h.cap; omega, h.room, h.nil, fun a ha j u hj => h.at' a ha j u ?_⟩
  have hj1 := (List.getElem?_eq_some_iff.1 hj).1
  have e : flat xs = flat (xs.take k) ++ flat (xs.drop k) := by rw [← flat_append, List.take_append_drop]
  rw [e, List.getElem?_append_left hj1]
  exact hj
theorem add_add (a : Addr) (i j : Nat) (hi : 0 < i) : (⟨a.block, a.off + i, none⟩ : Addr).add j = a.add (i + j) := by
  unfold Addr.add
  rw [if_neg (by omega : ¬ i + j = 0)]
  split
  · rename_i h; subst h; simp
  · simp; omega
theorem Ls.tail {a : Addr} (h : Ls W (some a) c xs) {k : Nat} (h0 : 0 < k) (hk : k ≤ xs.length) : Ls W (some ⟨a.block, a.off + k * 4, none⟩) (c - k) (xs.drop k) := by
  refine ⟨by rw [List.length_drop]; have := h.cap; omega, Nat.le_trans (Nat.sub_le _ _) h.room, by simp, fun b hb j u hj => ?_⟩
  obtain rfl : (⟨a.block, a.off + k * 4, none⟩ : Addr) = b := by simpa using hb
  rw [add_add a (k * 4) j (by omega)]
  refine h.at' a rfl _ _ ?_
  have e : flat xs = flat (xs.take k) ++ flat (xs.drop k) := by rw [← flat_append, List.take_append_drop]
  rw [e, List.getElem?_append_right (by rw [flat_length, List.length_take]; omega), flat_length, List.length_take]
  rw [show k * 4 + j - min k xs.length * 4 = j by rw [Nat.min_eq_left hk]; omega]
  exact hj
theorem Ls.none_left (a : Addr) (hc : c ≤ maxLen) : Ls W (some a) c [] := ⟨Nat.zero_le _, hc, by simp, fun _ _ j u hj => by simp [flat] at hj⟩
/-- one of one's own -/
abbrev Row (W : World) (K : Nat) (v : Value) (xs : List Wt) : Prop := W.ownsRow K 61 4 v xs.length (flat xs)
theorem Row.ls {v : Value} (h : Row W K v xs) : ∃ A c, v = .slice A xs.length c ∧ Ls W A c xs := by
  rcases h.2 with ⟨rfl, h0⟩ | ⟨g, cap, cur, rfl, hb, hg, h1, h2, h3, h4⟩
  · have := List.length_eq_zero_iff.1 h0
    subst this
    exact ⟨none, 0, rfl, Ls.nils _⟩
  · refine ⟨_, cap, rfl, by omega, h2, by simp, fun a ha j u hj => ?_⟩
    obtain rfl : (⟨g, 0, none⟩ : Addr) = a := by simpa using ha
    exact h.cells (g := g) rfl j u hj
theorem Ls.src (h : Ls W A c ys) : Src Tryz.prog 4 51 (.slice A ys.length c) ys.length (flat ys) W := by
  cases A with
  | none =>
    have := h.empty; subst this
    exact Src.ofNil W Tryz.underlying51 c
  | some a => exact Src.ofSlice W Tryz.underlying51 a ys.length c (flat ys) (flat_length ys) (h.at' a rfl) (flat_one ys)
/-- what is put behind a row of one's own -/
theorem Row.app {v : Value} (h : Row W K v xs) (hs : Ls W A c ys) (hl : xs.length + ys.length ≤ 1000) (hK : K ≤ W.heap.size) (ty : TypeId) :
    ∃ v' W', (Builtin.append_ #[51, 51] ty #[v, .slice A ys.length c]).run Tryz.prog W = .ok v' W' ∧ Row W' K v' (xs ++ ys) ∧ W.grownBy W' v.ownBlock ∧ (v'.ownBlock = v.ownBlock ∨ v'.ownBlock = some W.heap.size) := by
  obtain ⟨i0, hi, hz0, hz1, hz2⟩ := info_parts info24
  cases A with
  | none =>
    have := hs.empty; subst this
    have hc := hs.nil rfl
    subst hc
    obtain ⟨A', c', rfl, hls⟩ := h.ls
    refine ⟨_, W, run_append_nothing (P := Tryz.prog) W 51 51 ty 61 i0 Tryz.underlying51 hi A' xs.length c' hls.cap _ (by rw [hz1]; exact hs.src), by rw [List.append_nil]; exact h, ⟨rfl, rfl, rfl, Nat.le_refl _, fun _ _ _ => rfl⟩, .inl rfl⟩
  | some a =>
    obtain ⟨v', W', h1, h2, h3, -, h5⟩ := run_append_own_at (P := Tryz.prog) W K 51 ty 61 i0 _ 4 24 Tryz.underlying51 hi hz0 hz1 hz2 rfl (by decide) v xs.length (flat xs) h a ys.length c (flat ys) (flat_length ys) (hs.at' a rfl) (flat_one ys) (by unfold maxLen; omega) (by omega) hK
    refine ⟨v', W', h1, ?_, h3, h5⟩
    unfold Row
    rw [flat_append, List.length_append]
    exact h2
theorem Row.app_below {v : Value} (h : Row W K v xs) (hg : W.grownBy W' v.ownBlock) (hK : K ≤ W.heap.size) : Below K W W' :=
  OnlyS.below (S := fun k => v.ownBlock = some k) ((OnlyS.refl _ W).grown hg fun _ hk => .inl hk) (fun k hk => (h.lt k hk).1) hK
theorem box_ls (W : World) (x : Wt) : Ls (W.alloc (.cells #[.int .i64 x.1, .int .i64 x.2.1, .bool x.2.2.1, .bool x.2.2.2] 61)) (some ⟨W.heap.size, 0, none⟩) 1 [x] := by
  refine ⟨Nat.le_refl _, by decide, by simp, fun a ha j u hj => ?_⟩
  obtain rfl : (⟨W.heap.size, 0, none⟩ : Addr) = a := by simpa using ha
  rw [add_at]
  match j, hj with
  | 0, hj => simp [flat, cellsW] at hj; subst hj; simp [go_sem]
  | 1, hj => simp [flat, cellsW] at hj; subst hj; simp [go_sem]
  | 2, hj => simp [flat, cellsW] at hj; subst hj; simp [go_sem]
  | 3, hj => simp [flat, cellsW] at hj; subst hj; simp [go_sem]
  | j + 4, hj => simp [flat, cellsW] at hj
end
end Go.Proofs.YtlhhopanegnliaaGreatDoor.Ws
/- What tells of a request whether a condition holds; the first place at which it does, and whether there is one. -/
namespace Go.Proofs.YtlhhopanegnliaaGreatDoor.Ws
open Go Go.RowKit Go.Shelf

/-- a function value that tells of a request whether a condition holds, in whatever world that is as this one but for these blocks -/
def Prd (T : Nat → Prop) (W : World) (gf : Nat) (cs : Array Value) (p : Wt → Bool) : Prop :=
  (∀ args w, (callFunc gf args).run Tryz.prog w = .ok (.enter gf args) w) ∧
  ∀ (W' : World) (x : Wt), OnlyS T W W' → Calls Tryz.prog gf (#[wv x] ++ cs) W' fun e w' => e = .returned (.bool (p x)) ∧ Below W'.heap.size W' w'
theorem Prd.mono {T : Nat → Prop} {W W' : World} {gf : Nat} {cs : Array Value} {p : Wt → Bool} (h : Prd T W gf cs p) (ho : OnlyS T W W') : Prd (fun _ => False) W' gf cs p :=
  ⟨h.1, fun W'' x ho' => h.2 W'' x (ho.trans (ho'.mono fun _ _ hf => hf.elim))⟩
theorem prd_tx {T : Nat → Prop} {W : World} {B : Nat} {tx : Int} (hc : W.cell? ⟨B, 0, none⟩ = some (.int .i64 tx)) (hT : ¬ T B) : Prd T W 156 #[.pointer (some ⟨B, 0, none⟩)] (fun x => x.1 == tx) := by
  refine ⟨enters_of Tryz.func156 (by kernel_rfl) rfl, fun W' x ho => ?_⟩
  have hc' := ho.cell hc hT
  have hlt := cell_lt hc'
  obtain ⟨t, m, c, i⟩ := x
  clear ho hc
  go_enter Tryz.func156, Tryz.ntmps156
  go_wp2
  go_ret
  exact ⟨rfl, box_below _ _⟩
theorem prd_place {T : Nat → Prop} {W : World} {B : Nat} {cv : Bool} (hc : W.cell? ⟨B, 0, none⟩ = some (.bool cv)) (hT : ¬ T B) : Prd T W 224 #[.pointer (some ⟨B, 0, none⟩)] (fun x => x.2.2.1 || !cv) := by
  refine ⟨enters_of Tryz.func224 (by kernel_rfl) rfl, fun W' x ho => ?_⟩
  have hc' := ho.cell hc hT
  have hlt := cell_lt hc'
  obtain ⟨t, m, c, i⟩ := x
  clear ho hc
  cases c
  · go_enter Tryz.func224, Tryz.ntmps224
    go_wp2
    go_ret
    exact ⟨rfl, box_below _ _⟩
  · go_enter Tryz.func224, Tryz.ntmps224
    go_wp2
    go_ret
    exact ⟨rfl, box_below _ _⟩
/-- the first place at which it holds; -1 -/
def idxP (p : Wt → Bool) : List Wt → Int
  | [] => -1
  | x :: xs => if p x then 0 else if idxP p xs = -1 then -1 else idxP p xs + 1
theorem idx_none {p : Wt → Bool} {xs : List Wt} (h : ∀ i (h : i < xs.length), p xs[i] = false) : idxP p xs = -1 := by
  induction xs with
  | nil => rfl
  | cons x xs ih =>
    have h1 := h 0 (by simp)
    have h2 := ih (fun i hi => h (i + 1) (by simpa using hi))
    simp at h1
    simp [idxP, h1, h2]
theorem idx_some {p : Wt → Bool} : ∀ {xs : List Wt} {k : Nat} (hk : k < xs.length), (∀ i (h : i < k), p (xs[i]'(by omega)) = false) → p xs[k] = true → idxP p xs = k
  | x :: xs, 0, _, _, hp => by simp at hp; simp [idxP, hp]
  | x :: xs, k + 1, hk, h, hp => by
    have h1 := h 0 (by omega)
    have h2 := idx_some (xs := xs) (k := k) (by simpa using hk) (fun i hi => h (i + 1) (by omega)) hp
    simp at h1
    have h3 : ¬ ((k : Int) = -1) := by omega
    simp [idxP, h1, h2, h3]
theorem idx_cases (p : Wt → Bool) (xs : List Wt) : (idxP p xs = -1 ∧ ∀ x ∈ xs, p x = false) ∨ ∃ (k : Nat) (hk : k < xs.length), idxP p xs = k ∧ p xs[k] = true ∧ ∀ i (h : i < k), p (xs[i]'(by omega)) = false := by
  induction xs with
  | nil => exact .inl ⟨rfl, by simp⟩
  | cons x xs ih =>
    cases hx : p x
    · rcases ih with ⟨h1, h2⟩ | ⟨k, hk, h1, h2, h3⟩
      · exact .inl ⟨by simp [idxP, hx, h1], fun y hy => by
          rcases List.mem_cons.1 hy with rfl | hy
          · exact hx
          · exact h2 y hy⟩
      · refine .inr ⟨k + 1, by simpa using hk, ?_, by simpa using h2, fun i hi => ?_⟩
        · have h4 : ¬ ((k : Int) = -1) := by omega
          simp [idxP, hx, h1, h4]
        · cases i with
          | zero => simpa using hx
          | succ i => simpa using h3 i (by omega)
    · exact .inr ⟨0, by simp, by simp [idxP, hx], by simpa using hx, fun i hi => by omega⟩
theorem idx_any (p : Wt → Bool) (xs : List Wt) : decide (0 ≤ idxP p xs) = xs.any p := by
  rcases idx_cases p xs with ⟨h1, h2⟩ | ⟨k, hk, h1, h2, -⟩
  · have : xs.any p = false := List.any_eq_false.2 fun x hx => by rw [h2 x hx]; simp
    rw [h1, this]; decide
  · have : xs.any p = true := List.any_eq_true.2 ⟨_, List.getElem_mem hk, h2⟩
    rw [h1, this]; simp
section
variable {T : Nat → Prop} {W W' : World} {gf : Nat} {cs : Array Value} {p : Wt → Bool} {A : Option Addr} {c : Nat} {xs : List Wt}
set_option maxRecDepth 100000 in
set_option maxHeartbeats 2000000 in
theorem index_any (hp : Prd T W gf cs p) (hr : Ls W A c xs) (hl : xs.length ≤ 5000) :
    Calls Tryz.prog 116 #[.slice A xs.length c, .func (.func gf) #[] cs] W fun e w' => e = .returned (.int .i64 (idxP p xs)) ∧ Below W.heap.size W w' := by
  obtain ⟨eg, hp⟩ := hp
  have HP := Lib.hid hp
  have HR := Lib.hid hr
  obtain ⟨n, hn⟩ : ∃ n, xs.length = n := ⟨_, rfl⟩
  rw [hn] at hl ⊢
  have HN := Lib.hid hn
  clear hp hr hn
  go_enter Tryz.func116, Tryz.ntmps116
  go_wp2
  go_loopw [8] (fun t wr => ∃ j : Nat, j ≤ n ∧ t = .int .i64 j ∧ (∀ i (_ : i < j) (h : i < xs.length), p xs[i] = false) ∧ Below W.heap.size W wr) (fun t _ => n - (intOf t).toNat)
  case atStart => exact ⟨0, by omega, rfl, fun i hi => by omega, Below.refl _ _⟩
  case round =>
    obtain ⟨j, hj, rfl, hall, hb⟩ := hrel
    have HA := Lib.hid hall
    clear hall
    by_cases hjn : j < n
    · have hjl : j < xs.length := by rw [HN.out]; exact hjn
      obtain ⟨a, rfl, hh⟩ := (HR.out.below hb).here hjl
      obtain ⟨c0, c1, c2, c3⟩ := hh
      have hcall := Lib.hid (HP.out wr xs[j] (OnlyS.of_below hb))
      have HB0 := Lib.hid hb
      have hsz := hb.size
      clear hb
      obtain ⟨x, hx⟩ : ∃ x, xs[j] = x := ⟨_, rfl⟩
      have HX := Lib.hid hx
      rw [hx] at c0 c1 c2 c3 hcall
      obtain ⟨q, hq⟩ : ∃ q, p x = q := ⟨_, rfl⟩
      rw [hq] at hcall
      have HQ := Lib.hid hq
      clear hq hx
      cases q
      · go_wp2_with fail
        refine hcall.out.mono ?_
        rintro e w1 ⟨rfl, hb1⟩
        have HB := Lib.hid (HB0.out.trans (hb1.mono HB0.out.size))
        clear c0 c1 c2 c3 hb1 hcall
        go_wp2_with fail
        go_roundw
        case rel =>
          refine ⟨j + 1, by omega, by go_num, fun i hi h => ?_, HB.out⟩
          rcases Nat.lt_or_ge i j with h' | h'
          · exact HA.out i h' h
          · obtain rfl : i = j := by omega
            rw [HX.out]; exact HQ.out
        case measure => simp [intOf]; omega
      · go_wp2_with fail
        refine hcall.out.mono ?_
        rintro e w1 ⟨rfl, hb1⟩
        have HB := Lib.hid (HB0.out.trans (hb1.mono HB0.out.size))
        clear c0 c1 c2 c3 hb1 hcall
        go_wp2_with fail
        go_ret
        refine ⟨ret_int ?_, HB.out⟩
        clear hsz
        exact (idx_some hjl (fun i hi => HA.out i hi (by omega)) (by rw [HX.out]; exact HQ.out)).symm
    · obtain rfl : j = n := by omega
      go_wp2_with fail
      go_ret
      refine ⟨ret_int (idx_none fun i hi => HA.out i (by have := HN.out; omega) hi).symm, hb⟩
end
end Go.Proofs.YtlhhopanegnliaaGreatDoor.Ws
/- Where a request would wait: behind the last one for which a condition holds; the program's answer and the document's. -/
namespace Go.Proofs.YtlhhopanegnliaaGreatDoor.Ws
open Go Go.RowKit Go.Shelf

/-- the place behind the last one for which it holds -/
def plN (p : Wt → Bool) : List Wt → Nat
  | [] => 0
  | x :: xs => if plN p xs = 0 then (if p x then 1 else 0) else plN p xs + 1
theorem plN_le (p : Wt → Bool) : ∀ xs, plN p xs ≤ xs.length
  | [] => Nat.le_refl _
  | x :: xs => by
    have := plN_le p xs
    simp only [plN, List.length_cons]
    split
    · split <;> omega
    · omega
theorem plN_is {p : Wt → Bool} : ∀ {xs : List Wt} {k : Nat}, k ≤ xs.length → (∀ i (_ : k ≤ i) (h : i < xs.length), p xs[i] = false) → (∀ i (_ : k = i + 1) (h : i < xs.length), p xs[i] = true) → k = plN p xs
  | [], k, h, _, _ => by simp at h; simp [plN, h]
  | x :: xs, k, h, h1, h2 => by
    by_cases hk : k = 0
    · subst hk
      have e := plN_is (p := p) (xs := xs) (k := 0) (by omega) (fun i hi hx => h1 (i + 1) (by omega) (by simpa using hx)) (fun i hi => by omega)
      have e2 := h1 0 (by omega) (by simp)
      simp at e2
      simp [plN, ← e, e2]
    · obtain ⟨m, rfl⟩ : ∃ m, k = m + 1 := ⟨k - 1, by omega⟩
      have e := plN_is (p := p) (xs := xs) (k := m) (by simpa using h) (fun i hi hx => h1 (i + 1) (by omega) (by simpa using hx)) (fun i hi hx => by
        have := h2 (i + 1) (by omega) (by simpa using hx)
        simpa using this)
      by_cases hm : m = 0
      · subst hm
        have e2 := h2 0 rfl (by simp)
        simp at e2
        simp [plN, ← e, e2]
      · simp [plN, ← e, hm]
theorem plN_false (p : Wt → Bool) : ∀ (xs : List Wt) i (_ : plN p xs ≤ i) (h : i < xs.length), p xs[i] = false
  | x :: xs, 0, h1, _ => by
    simp only [plN] at h1
    split at h1
    · split at h1
      · omega
      · rename_i h; simpa using h
    · omega
  | x :: xs, i + 1, h1, h2 => by
    simp only [plN] at h1
    have := plN_false p xs i (by split at h1 <;> omega) (by simpa using h2)
    simpa using this
theorem plN_true (p : Wt → Bool) : ∀ (xs : List Wt) i (_ : plN p xs = i + 1) (h : i < xs.length), p xs[i] = true
  | x :: xs, 0, h1, _ => by
    simp only [plN] at h1
    split at h1
    · split at h1
      · rename_i h; simpa using h
      · omega
    · omega
  | x :: xs, i + 1, h1, h2 => by
    simp only [plN] at h1
    have := plN_true p xs i (by split at h1 <;> (try split at h1) <;> omega) (by simpa using h2)
    simpa using this
section
variable {T : Nat → Prop} {W W' : World} {gf : Nat} {cs : Array Value} {p : Wt → Bool} {A : Option Addr} {c : Nat} {xs : List Wt}
set_option maxRecDepth 100000 in
set_option maxHeartbeats 2000000 in
theorem behind_any (hp : Prd T W gf cs p) (hr : Ls W A c xs) (hl : xs.length ≤ 5000) :
    Calls Tryz.prog 223 #[.slice A xs.length c, .func (.func gf) #[] cs] W fun e w' => e = .returned (.int .i64 (plN p xs : Nat)) ∧ Below W.heap.size W w' := by
  obtain ⟨eg, hp⟩ := hp
  have HP := Lib.hid hp
  have HR := Lib.hid hr
  obtain ⟨n, hn⟩ : ∃ n, xs.length = n := ⟨_, rfl⟩
  rw [hn] at hl ⊢
  have HN := Lib.hid hn
  clear hp hr hn
  go_enter Tryz.func223, Tryz.ntmps223
  go_wp2
  go_loopw [5] (fun t wr => ∃ j : Nat, j ≤ n ∧ t = .int .i64 j ∧ (∀ i (_ : j ≤ i) (h : i < xs.length), p xs[i] = false) ∧ Below W.heap.size W wr) (fun t _ => (intOf t).toNat)
  case atStart => exact ⟨n, by omega, rfl, fun i hi h => by have := HN.out; omega, Below.refl _ _⟩
  case round =>
    obtain ⟨j, hj, rfl, hall, hb⟩ := hrel
    have HA := Lib.hid hall
    clear hall
    have HB0 := Lib.hid hb
    have hsz := hb.size
    cases j with
    | zero =>
      have HE := Lib.hid (plN_is (p := p) (xs := xs) (k := 0) (by omega) (fun i _ h => HA.out i (by omega) h) (fun i hi => by omega))
      clear hb
      go_wp2
      go_ret
      exact ⟨by rw [← HE.out]; rfl, HB0.out⟩
    | succ j =>
      have hjl : j < xs.length := by rw [HN.out]; omega
      obtain ⟨a, rfl, hh⟩ := (HR.out.below hb).here hjl
      obtain ⟨c0, c1, c2, c3⟩ := hh
      have hcall := Lib.hid (HP.out wr xs[j] (OnlyS.of_below hb))
      clear hb
      obtain ⟨x, hx⟩ : ∃ x, xs[j] = x := ⟨_, rfl⟩
      have HX := Lib.hid hx
      rw [hx] at c0 c1 c2 c3 hcall
      obtain ⟨q, hq⟩ : ∃ q, p x = q := ⟨_, rfl⟩
      rw [hq] at hcall
      have HQ := Lib.hid hq
      clear hq hx
      cases q
      · go_wp2_with fail
        refine hcall.out.mono ?_
        rintro e w1 ⟨rfl, hb1⟩
        have HB := Lib.hid (HB0.out.trans (hb1.mono HB0.out.size))
        clear c0 c1 c2 c3 hb1 hcall
        go_wp2_with fail
        go_roundw
        case rel =>
          refine ⟨j, by omega, by go_num, fun i hi h => ?_, HB.out⟩
          rcases Nat.lt_or_ge j i with h' | h'
          · exact HA.out i (by omega) h
          · obtain rfl : i = j := by omega
            rw [HX.out]; exact HQ.out
        case measure => simp [intOf]
      · have HE := Lib.hid (plN_is (p := p) (xs := xs) (k := j + 1) (by omega) (fun i hi h => HA.out i hi h) (fun i hi h => by
          obtain rfl : j = i := by omega
          rw [HX.out]; exact HQ.out))
        go_wp2_with fail
        refine hcall.out.mono ?_
        rintro e w1 ⟨rfl, hb1⟩
        have HB := Lib.hid (HB0.out.trans (hb1.mono HB0.out.size))
        clear c0 c1 c2 c3 hb1 hcall
        go_wp2_with fail
        go_ret
        exact ⟨by rw [← HE.out]; rfl, HB.out⟩
/-- where one that converts, or not, would wait -/
def plc (cv : Bool) (xs : List Wt) : Nat := plN (fun x => x.2.2.1 || !cv) xs
theorem place_any (hr : Ls W A c xs) (hl : xs.length ≤ 5000) (cv : Bool) : Calls Tryz.prog 210 #[.slice A xs.length c, .bool cv] W fun e w' => e = .returned (.int .i64 (plc cv xs : Nat)) ∧ Below W.heap.size W w' := by
  have H := Lib.hid (show Calls Tryz.prog 223 #[.slice A xs.length c, .func (.func 224) #[] #[.pointer (some ⟨W.heap.size, 0, none⟩)]] (W.alloc (.cells #[.bool cv] 4)) fun e w' => e = .returned (.int .i64 (plc cv xs : Nat)) ∧ Below (W.alloc (.cells #[.bool cv] 4)).heap.size (W.alloc (.cells #[.bool cv] 4)) w' from behind_any (prd_place (T := fun _ => False) (W := W.alloc (.cells #[.bool cv] 4)) (B := W.heap.size) (cv := cv) (by simp [go_sem]) (fun h => h)) (hr.below (box_below _ _)) hl)
  have HB0 := Lib.hid (box_below W (.cells #[.bool cv] 4))
  clear hr hl
  generalize plc cv xs = z at *
  generalize xs.length = n at *
  go_enter Tryz.func210, Tryz.ntmps210
  go_wp2_with (go_at_call 223; ((with_reducible refine H.out.mono ?_); rintro e w' ⟨rfl, hb⟩))
  go_ret
  exact ⟨rfl, HB0.out.trans (hb.mono HB0.out.size)⟩
set_option maxRecDepth 100000 in
set_option maxHeartbeats 2000000 in
theorem rplace_any (hr : Ls W A c xs) (hl : xs.length ≤ 5000) (cv : Bool) : Calls Tryz.prog 164 #[.slice A xs.length c, .bool cv] W fun e w' => e = .returned (.int .i64 (plc cv xs : Nat)) ∧ W = w' := by
  have HR := Lib.hid hr
  obtain ⟨n, hn⟩ : ∃ n, xs.length = n := ⟨_, rfl⟩
  rw [hn] at hl ⊢
  have HN := Lib.hid hn
  clear hr hn
  go_enter Tryz.func164, Tryz.ntmps164
  go_wp2
  go_loopw [5] (fun t wr => ∃ j : Nat, j ≤ n ∧ t = .int .i64 j ∧ (∀ i (_ : j ≤ i) (h : i < xs.length), (xs[i].2.2.1 || !cv) = false) ∧ W = wr) (fun t _ => (intOf t).toNat)
  case atStart => exact ⟨n, by omega, rfl, fun i hi h => by have := HN.out; omega, rfl⟩
  case round =>
    obtain ⟨j, hj, rfl, hall, rfl⟩ := hrel
    have HA := Lib.hid hall
    clear hall
    cases j with
    | zero =>
      have HE := Lib.hid (plN_is (p := fun x => x.2.2.1 || !cv) (xs := xs) (k := 0) (by omega) (fun i _ h => HA.out i (by omega) h) (fun i hi => by omega))
      go_wp2
      go_ret
      exact ⟨by unfold plc; rw [← HE.out]; rfl, rfl⟩
    | succ j =>
      have hjl : j < xs.length := by rw [HN.out]; omega
      obtain ⟨a, rfl, hh⟩ := HR.out.here hjl
      obtain ⟨-, -, c2, -⟩ := hh
      obtain ⟨q, hq⟩ : ∃ q, xs[j].2.2.1 = q := ⟨_, rfl⟩
      have HQ := Lib.hid hq
      rw [hq] at c2
      clear hq
      have HE := Lib.hid (fun h2 : (q || !cv) = true => plN_is (p := fun x => x.2.2.1 || !cv) (xs := xs) (k := j + 1) (by omega) (fun i hi h => HA.out i hi h) (fun i hi h => by
        obtain rfl : j = i := by omega
        rw [HQ.out]; exact h2))
      have HS := Lib.hid (fun h2 : (q || !cv) = false => (show ∀ i (_ : j ≤ i) (h : i < xs.length), (xs[i].2.2.1 || !cv) = false from fun i hi h => by
        rcases Nat.lt_or_ge j i with h' | h'
        · exact HA.out i (by omega) h
        · obtain rfl : i = j := by omega
          rw [HQ.out]; exact h2))
      cases cv
      · have HE := Lib.hid (HE.out (by simp))
        clear HS
        go_wp2
        go_ret
        exact ⟨by unfold plc; rw [← HE.out]; rfl, rfl⟩
      · cases q
        · have HS := Lib.hid (HS.out rfl)
          clear HE
          go_wp2
          go_roundw
          case rel => exact ⟨j, by omega, by go_num, HS.out, trivial⟩
          case measure => simp [intOf]
        · have HE := Lib.hid (HE.out rfl)
          clear HS
          go_wp2
          go_ret
          exact ⟨by unfold plc; rw [← HE.out]; rfl, rfl⟩
end
end Go.Proofs.YtlhhopanegnliaaGreatDoor.Ws
/- Whether a request may be (the program's answer and the document's); the first place of one's request (both); requests alike. -/
namespace Go.Proofs.YtlhhopanegnliaaGreatDoor.Ws
open Go Go.RowKit Go.Shelf

def lockB (m : Int) : Bool := decide (1 ≤ m) && decide (m ≤ 6)
def knownB (f : Int) : Bool := decide (0 ≤ f) && decide (f ≤ 2)
def okB3 (tx m f : Int) : Bool := decide (1 ≤ tx) && lockB m && knownB f
def errV (b : Bool) : Int := if b then 0 else 1
theorem lock_any (m : Int) (W : World) : Calls Tryz.prog 221 #[.int .i64 m] W fun e w' => e = .returned (.bool (lockB m)) ∧ W = w' := by
  by_cases h : 0 ≤ m ∧ m ≤ 6
  · by_cases h0 : m = 0
    · subst h0
      go_enter Tryz.func221, Tryz.ntmps221
      go_wp2_with (go_at_call 159; ((with_reducible refine (may_yes _ _ (by omega) (by omega)).mono ?_); rintro e w' ⟨rfl, rfl⟩))
      go_ret
      exact ⟨rfl, rfl⟩
    · have e : lockB m = true := by unfold lockB; simp; omega
      have h0' : (m != 0) = true := by simpa using h0
      have h1 := h.1
      have h6 := h.2
      rw [e]
      clear h
      go_enter Tryz.func221, Tryz.ntmps221
      go_wp2_with (go_at_call 159; ((with_reducible refine (may_yes _ _ h1 h6).mono ?_); rintro e w' ⟨rfl, rfl⟩))
      go_ret
      exact ⟨rfl, rfl⟩
  · have e : lockB m = false := by unfold lockB; simp; omega
    rw [e]
    have H := fun W => Lib.hid (may_no m W h)
    clear h
    go_enter Tryz.func221, Tryz.ntmps221
    go_wp2_with (go_at_call 159; ((with_reducible refine (H _).out.mono ?_); rintro e w' ⟨rfl, rfl⟩))
    go_ret
    exact ⟨rfl, rfl⟩
theorem known_is (f : Int) (W : World) : Calls Tryz.prog 222 #[.int .i64 f] W fun e w' => e = .returned (.bool (knownB f)) ∧ W = w' := by
  by_cases h0 : f = 0
  · subst h0
    go_enter Tryz.func222, Tryz.ntmps222
    go_wp2
    go_ret
    exact ⟨rfl, rfl⟩
  · by_cases h1 : f = 1
    · subst h1
      go_enter Tryz.func222, Tryz.ntmps222
      go_wp2
      go_ret
      exact ⟨rfl, rfl⟩
    · by_cases h2 : f = 2
      · subst h2
        go_enter Tryz.func222, Tryz.ntmps222
        go_wp2
        go_ret
        exact ⟨rfl, rfl⟩
      · have e : knownB f = false := by unfold knownB; simp; omega
        rw [e]
        have q0 : (f == 0) = false := by simpa using h0
        have q1 : (f == 1) = false := by simpa using h1
        have q2 : (f == 2) = false := by simpa using h2
        go_enter Tryz.func222, Tryz.ntmps222
        go_wp2
        go_ret
        exact ⟨rfl, rfl⟩
theorem check_any (tx m f : Int) (W : World) : Calls Tryz.prog 209 #[.int .i64 tx, .int .i64 m, .int .i64 f] W fun e w' => e = .returned (.int .i64 (errV (okB3 tx m f))) ∧ W = w' := by
  have H1 := Lib.hid (lock_any m W)
  have H2 := Lib.hid (known_is f W)
  have HE := Lib.hid (show okB3 tx m f = (decide (1 ≤ tx) && lockB m && knownB f) from rfl)
  generalize okB3 tx m f = q at *
  generalize lockB m = a at *
  generalize knownB f = b at *
  by_cases h : tx < 1
  · have e : decide (1 ≤ tx) = false := by simp; omega
    rw [e] at HE
    clear e
    go_enter Tryz.func209, Tryz.ntmps209
    go_wp2
    go_ret
    exact ⟨by rw [HE.out]; rfl, rfl⟩
  · have e : decide (1 ≤ tx) = true := by simp; omega
    rw [e] at HE
    clear e
    cases a
    · go_enter Tryz.func209, Tryz.ntmps209
      go_wp2_with (go_at_call 221; ((with_reducible refine H1.out.mono ?_); rintro e w' ⟨rfl, rfl⟩))
      go_ret
      exact ⟨by rw [HE.out]; rfl, rfl⟩
    · cases b
      · go_enter Tryz.func209, Tryz.ntmps209
        go_wp2_with (first | (go_at_call 221; ((with_reducible refine H1.out.mono ?_); rintro e w' ⟨rfl, rfl⟩)) | (go_at_call 222; ((with_reducible refine H2.out.mono ?_); rintro e w' ⟨rfl, rfl⟩)))
        go_ret
        exact ⟨by rw [HE.out]; rfl, rfl⟩
      · go_enter Tryz.func209, Tryz.ntmps209
        go_wp2_with (first | (go_at_call 221; ((with_reducible refine H1.out.mono ?_); rintro e w' ⟨rfl, rfl⟩)) | (go_at_call 222; ((with_reducible refine H2.out.mono ?_); rintro e w' ⟨rfl, rfl⟩)))
        go_ret
        exact ⟨by rw [HE.out]; rfl, rfl⟩
theorem rcheck_any (tx m f : Int) (W : World) : Calls Tryz.prog 163 #[.int .i64 tx, .int .i64 m, .int .i64 f] W fun e w' => e = .returned (.int .i64 (errV (okB3 tx m f))) ∧ W = w' := by
  obtain ⟨q, hq⟩ : ∃ q, okB3 tx m f = q := ⟨_, rfl⟩
  rw [hq]
  by_cases h1 : tx < 1
  · obtain rfl : q = false := by rw [← hq]; unfold okB3; simp; omega
    clear hq
    go_enter Tryz.func163, Tryz.ntmps163
    go_wp2
    go_ret
    exact ⟨rfl, rfl⟩
  · by_cases h2 : m < 1
    · obtain rfl : q = false := by rw [← hq]; unfold okB3 lockB; simp; omega
      clear hq
      go_enter Tryz.func163, Tryz.ntmps163
      go_wp2
      go_ret
      exact ⟨rfl, rfl⟩
    · by_cases h3 : 6 < m
      · obtain rfl : q = false := by rw [← hq]; unfold okB3 lockB; simp; omega
        clear hq
        go_enter Tryz.func163, Tryz.ntmps163
        go_wp2
        go_ret
        exact ⟨rfl, rfl⟩
      · by_cases h4 : f < 0
        · obtain rfl : q = false := by rw [← hq]; unfold okB3 knownB; simp; omega
          clear hq
          go_enter Tryz.func163, Tryz.ntmps163
          go_wp2
          go_ret
          exact ⟨rfl, rfl⟩
        · by_cases h5 : 2 < f
          · obtain rfl : q = false := by rw [← hq]; unfold okB3 knownB; simp; omega
            clear hq
            go_enter Tryz.func163, Tryz.ntmps163
            go_wp2
            go_ret
            exact ⟨rfl, rfl⟩
          · obtain rfl : q = true := by rw [← hq]; unfold okB3 lockB knownB; simp; omega
            clear hq
            go_enter Tryz.func163, Tryz.ntmps163
            go_wp2
            go_ret
            exact ⟨rfl, rfl⟩
/-- whether a request is right by itself -/
def okW (x : Wt) : Bool := okB3 x.1 x.2.1 0
theorem ofc_any (tx : Int) (W : World) : Calls Tryz.prog 117 #[.int .i64 tx] W fun e w' => e = .returned (.func (.func 156) #[] #[.pointer (some ⟨W.heap.size, 0, none⟩)]) ∧ w' = W.alloc (.cells #[.int .i64 tx] 3) := by
  go_enter Tryz.func117, Tryz.ntmps117
  go_wp2
  go_ret
  exact ⟨rfl, rfl⟩
/-- the first place of one's request; -1 -/
def fndI (tx : Int) (xs : List Wt) : Int := idxP (fun x => x.1 == tx) xs
section
variable {T : Nat → Prop} {W W' : World} {A : Option Addr} {c : Nat} {xs : List Wt}
theorem find_any (hr : Ls W A c xs) (hl : xs.length ≤ 5000) (tx : Int) : Calls Tryz.prog 66 #[.slice A xs.length c, .int .i64 tx] W fun e w' => e = .returned (.int .i64 (fndI tx xs)) ∧ Below W.heap.size W w' := by
  have H := Lib.hid (show Calls Tryz.prog 116 #[.slice A xs.length c, .func (.func 156) #[] #[.pointer (some ⟨W.heap.size, 0, none⟩)]] (W.alloc (.cells #[.int .i64 tx] 3)) fun e w' => e = .returned (.int .i64 (fndI tx xs)) ∧ Below (W.alloc (.cells #[.int .i64 tx] 3)).heap.size (W.alloc (.cells #[.int .i64 tx] 3)) w' from
    index_any (prd_tx (T := fun _ => False) (B := W.heap.size) (tx := tx) (by simp [go_sem]) (fun h => h)) (hr.below (box_below _ _)) hl)
  have HB0 := Lib.hid (box_below W (.cells #[.int .i64 tx] 3))
  clear hr hl
  generalize fndI tx xs = z at *
  generalize xs.length = n at *
  go_enter Tryz.func66, Tryz.ntmps66
  go_wp2_with (first | (go_at_call 117; ((with_reducible refine (ofc_any tx W).mono ?_); rintro e w' ⟨rfl, rfl⟩)) | (go_at_call 116; ((with_reducible refine H.out.mono ?_); rintro e w' ⟨rfl, hb⟩)))
  go_ret
  exact ⟨rfl, HB0.out.trans (hb.mono HB0.out.size)⟩
set_option maxRecDepth 100000 in
set_option maxHeartbeats 2000000 in
theorem rfind_any (hr : Ls W A c xs) (hl : xs.length ≤ 5000) (tx : Int) : Calls Tryz.prog 125 #[.slice A xs.length c, .int .i64 tx] W fun e w' => e = .returned (.int .i64 (fndI tx xs)) ∧ Below W.heap.size W w' := by
  have HR := Lib.hid hr
  obtain ⟨n, hn⟩ : ∃ n, xs.length = n := ⟨_, rfl⟩
  rw [hn] at hl ⊢
  have HN := Lib.hid hn
  clear hr hn
  go_enter Tryz.func125, Tryz.ntmps125
  go_wp2
  go_loopw [9] (fun t wr => ∃ j : Nat, j ≤ n ∧ t = .int .i64 j ∧ (∀ i (_ : i < j) (h : i < xs.length), (xs[i].1 == tx) = false) ∧ Below W.heap.size W wr) (fun t _ => n - (intOf t).toNat)
  case atStart => exact ⟨0, by omega, rfl, fun i hi => by omega, Below.refl _ _⟩
  case round =>
    obtain ⟨j, hj, rfl, hall, hb⟩ := hrel
    have HA := Lib.hid hall
    clear hall
    by_cases hjn : j < n
    · have hjl : j < xs.length := by rw [HN.out]; exact hjn
      obtain ⟨a, rfl, hh⟩ := (HR.out.below hb).here hjl
      obtain ⟨c0, c1, c2, c3⟩ := hh
      have HB0 := Lib.hid hb
      have hsz := hb.size
      clear hb
      obtain ⟨x, hx⟩ : ∃ x, xs[j] = x := ⟨_, rfl⟩
      have HX := Lib.hid hx
      rw [hx] at c0 c1 c2 c3
      obtain ⟨t, m, cv, i⟩ := x
      simp only at c0 c1 c2 c3
      have HB1 := Lib.hid (HB0.out.trans ((box_below wr (.cells #[.int .i64 t, .int .i64 m, .bool cv, .bool i] 61)).mono HB0.out.size))
      clear hx
      by_cases hq : t = tx
      · subst hq
        go_wp2
        go_ret
        refine ⟨ret_int ?_, HB1.out⟩
        exact (idx_some hjl (fun i hi => HA.out i hi (by omega)) (by rw [HX.out]; simp)).symm
      · have hq' : (t == tx) = false := by simpa using hq
        go_wp2
        go_roundw
        case rel =>
          refine ⟨j + 1, by omega, by go_num, fun i hi h => ?_, HB1.out⟩
          rcases Nat.lt_or_ge i j with h' | h'
          · exact HA.out i h' h
          · obtain rfl : i = j := by omega
            rw [HX.out]; exact hq'
        case measure => simp [intOf]; omega
    · obtain rfl : j = n := by omega
      go_wp2
      go_ret
      refine ⟨ret_int (idx_none fun i hi => HA.out i (by have := HN.out; omega) hi).symm, hb⟩
end
end Go.Proofs.YtlhhopanegnliaaGreatDoor.Ws
/- Stores into a row's own block; what is cleared; a copy of a list. -/
namespace Go.Proofs.YtlhhopanegnliaaGreatDoor.Ws
open Go Go.RowKit Go.Shelf

theorem set_blk {W : World} {g o : Nat} {cur : Array Value} {t : TypeId} {fr : Nat × Nat} (v : Value) (h : W.heap[g]? = some (.cells cur t fr)) : (W.setCell ⟨g, o, none⟩ v).heap[g]? = some (.cells (cur.setIfInBounds o v) t fr) := by
  obtain ⟨hlt, hk⟩ := Array.getElem?_eq_some_iff.1 h
  show (W.heap.modify g _)[g]? = _
  rw [Array.getElem?_eq_getElem (by rw [Array.size_modify]; exact hlt), Array.getElem_modify_self, hk]
  rfl
theorem sets_blk {t : TypeId} {fr : Nat × Nat} {g : Nat} : ∀ (vs : List Value) (W : World) (o : Nat) (cur : Array Value), W.heap[g]? = some (.cells cur t fr) →
    ∃ cur', (W.setCells g o vs).heap[g]? = some (.cells cur' t fr) ∧ cur'.size = cur.size ∧ (∀ k, k < o → cur'[k]? = cur[k]?) ∧ OnlyS (· = g) W (W.setCells g o vs)
  | [], W, o, cur, h => ⟨cur, h, rfl, fun _ _ => rfl, OnlyS.refl _ _⟩
  | v :: vs, W, o, cur, h => by
    obtain ⟨cur', h1, h2, h3, h4⟩ := sets_blk vs (W.setCell ⟨g, o, none⟩ v) (o + 1) _ (set_blk (o := o) v h)
    refine ⟨cur', h1, by simpa using h2, fun k hk => ?_, (OnlyS.set g o W v).trans h4⟩
    rw [h3 k (by omega), Array.getElem?_setIfInBounds_ne (by omega)]
/-- one is stored, cell by cell -/
abbrev put4 (W : World) (g o : Nat) (x : Wt) : World :=
  (((W.setCell ⟨g, o, none⟩ (.int .i64 x.1)).setCell ⟨g, o + 1, none⟩ (.int .i64 x.2.1)).setCell ⟨g, o + 2, none⟩ (.bool x.2.2.1)).setCell ⟨g, o + 3, none⟩ (.bool x.2.2.2)
theorem flat_set (zs : List Wt) (i : Nat) (x : Wt) (h : i < zs.length) : flat (zs.set i x) = ((((flat zs).set (i * 4) (.int .i64 x.1)).set (i * 4 + 1) (.int .i64 x.2.1)).set (i * 4 + 2) (.bool x.2.2.1)).set (i * 4 + 3) (.bool x.2.2.2) := by
  induction zs generalizing i with
  | nil => simp at h
  | cons z zs ih =>
    have e : ∀ (y : Wt) (ys : List Wt), flat (y :: ys) = .int .i64 y.1 :: .int .i64 y.2.1 :: .bool y.2.2.1 :: .bool y.2.2.2 :: flat ys := fun y ys => by simp [flat, cellsW]
    cases i with
    | zero => simp [e]
    | succ i =>
      have h' : i < zs.length := by simpa using h
      rw [List.set_cons_succ, e, e, ih i h', show (i + 1) * 4 = i * 4 + 1 + 1 + 1 + 1 by omega]
      simp
section
variable {W W' : World} {g n cap K : Nat} {zs : List Wt}
theorem Row.keep {v : Value} (h : Row W K v zs) (hk : ∀ g, v.ownBlock = some g → W'.heap[g]? = W.heap[g]?) : Row W' K v zs := row_keep h hk
theorem Row.put (h : Row W K (.slice (some ⟨g, 0, none⟩) n cap) zs) (x : Wt) {i : Nat} (hi : i < zs.length) : Row (put4 W g (i * 4) x) K (.slice (some ⟨g, 0, none⟩) n cap) (zs.set i x) := by
  rcases h.2 with ⟨h0, _⟩ | ⟨g', cap', cur, e, hb, hg, h1, h2, h3, h4⟩
  · cases h0
  · cases e
    refine ⟨flat_length _, .inr ⟨g, cap, _, by simp, hb, set_blk _ (set_blk _ (set_blk _ (set_blk _ hg))), by simpa using h1, h2, by simpa using h3, ?_⟩⟩
    rw [flat_set _ _ _ hi, ← h4]
    simp [List.take_set]
/-- a shorter slice of the same row, whatever stands behind -/
theorem Row.cut {i : Nat} (h : Row W K (.slice (some ⟨g, 0, none⟩) n cap) zs) (hi : i ≤ zs.length)
    (hg' : ∀ cur, W.heap[g]? = some (.cells cur 61 (0, 0)) → ∃ cur', W'.heap[g]? = some (.cells cur' 61 (0, 0)) ∧ cur'.size = cur.size ∧ ∀ k, k < i * 4 → cur'[k]? = cur[k]?) :
    Row W' K (.slice (some ⟨g, 0, none⟩) i cap) (zs.take i) := by
  rcases h.2 with ⟨h0, _⟩ | ⟨g', cap', cur, e, hb, hg, h1, h2, h3, h4⟩
  · cases h0
  · cases e
    obtain ⟨cur', k1, k2, k3⟩ := hg' cur hg
    have hl : (zs.take i).length = i := by rw [List.length_take]; omega
    refine ⟨flat_length _, .inr ⟨g, cap, cur', by rw [hl], hb, k1, by omega, h2, by omega, ?_⟩⟩
    rw [hl]
    have e1 : flat (zs.take i) = (flat zs).take (i * 4) := by
      have e2 : flat zs = flat (zs.take i) ++ flat (zs.drop i) := by rw [← flat_append, List.take_append_drop]
      rw [e2, List.take_left' (by rw [flat_length, hl])]
    rw [e1, ← h4, List.take_take]
    apply List.ext_getElem?
    intro k
    rw [List.getElem?_take, List.getElem?_take]
    by_cases hk : k < i * 4
    · rw [if_pos hk, if_pos (by omega), Array.getElem?_toList, Array.getElem?_toList, k3 k hk]
    · rw [if_neg hk, if_neg (by omega)]
theorem Row.blk (h : Row W K (.slice (some ⟨g, 0, none⟩) n cap) zs) : ∃ cur, W.heap[g]? = some (.cells cur 61 (0, 0)) ∧ zs.length ≤ cap ∧ cap ≤ maxLen := by
  rcases h.2 with ⟨h0, _⟩ | ⟨g', cap', cur, e, _, hb, h1, h2, _⟩
  · cases h0
  · cases e; exact ⟨cur, hb, h1, h2⟩
theorem Row.free {k : Nat} (h : Row W K (.slice (some ⟨g, 0, none⟩) n cap) zs) : W.frozen? ⟨g, k, none⟩ = false := by
  obtain ⟨cur, hb, -⟩ := h.blk
  exact frozen_of_row _ _ _ _ _ hb
theorem Row.there {k : Nat} (h : Row W K (.slice (some ⟨g, 0, none⟩) n cap) zs) (hk : k < zs.length * 4) : (W.cell? ⟨g, k, none⟩).isSome = true := by
  have h1 := h.cells (g := g) rfl k _ (List.getElem?_eq_getElem (by rw [flat_length]; exact hk))
  rw [add_at] at h1
  rw [h1]; rfl
end
/-- as many zeros -/
def zz (n : Nat) : List Value := (Builtin.zeroCells (Value.agg #[.int .i64 0, .int .i64 0, .bool false, .bool false]).cells n).toList
theorem zz_length (n : Nat) : (zz n).length = n * 4 := by simp [zz, size_zeroCells, Value.cells]
theorem zz_one (n : Nat) : ∀ u ∈ zz n, u.oneCell' = true := by
  intro u hu
  obtain ⟨k, hk, rfl⟩ := List.getElem_of_mem hu
  simp only [zz, Builtin.zeroCells, Value.cells, Array.getElem_toList]
  have h4 : k % 4 = 0 ∨ k % 4 = 1 ∨ k % 4 = 2 ∨ k % 4 = 3 := by omega
  rcases h4 with e | e | e | e <;> simp [e] <;> rfl
theorem run_clear_w (w : World) (ty : TypeId) (b o n c : Nat) (hn : 0 < n) (hc : ∀ j, j < n * 4 → (w.cell? ⟨b, o + j, none⟩).isSome = true) (hf : ∀ j, j < n * 4 → w.frozen? ⟨b, o + j, none⟩ = false) :
    (Builtin.clear_ #[51] ty #[.slice (some ⟨b, o, none⟩) n c]).run Tryz.prog w = .ok (.tuple #[]) (w.setCells b o (zz n)) := by
  have hst := run_storeCells_cells (P := Tryz.prog) b o (zz n) 0 w (by rw [zz_length]; simpa using hc) (by rw [zz_length]; simpa using hf) (zz_one n)
  simp only [Nat.add_zero] at hst
  obtain ⟨m, rfl⟩ : ∃ m, n = m + 1 := ⟨n - 1, by omega⟩
  unfold zz at hst
  simp [Builtin.clear_, run_underlying Tryz.underlying51, Tryz.zeroValue61, hst, zz]
end Go.Proofs.YtlhhopanegnliaaGreatDoor.Ws
/- A list is copied; those of which a condition holds go out of a row of one's own, in its own memory; those of others. -/
namespace Go.Proofs.YtlhhopanegnliaaGreatDoor.Ws
open Go Go.RowKit Go.Shelf

theorem filter_none {p : Wt → Bool} {xs : List Wt} (h : ∀ x ∈ xs, p x = false) : xs.filter (fun x => !p x) = xs := List.filter_eq_self.2 fun x hx => by simp [h x hx]
/-- how a row stands as it is gone through: i kept, j looked at -/
structure Mid (p : Wt → Bool) (xs zs : List Wt) (i j : Nat) : Prop where
  len : zs.length = xs.length
  ij : i < j
  jn : j ≤ xs.length
  kept : zs.take i = (xs.take j).filter (fun x => !p x)
  rest : zs.drop j = xs.drop j
theorem Mid.start {p : Wt → Bool} {xs : List Wt} {i : Nat} (h : i < xs.length) (hp : p xs[i] = true) (ha : ∀ k (h : k < i), p (xs[k]'(by omega)) = false) : Mid p xs xs i (i + 1) := by
  refine ⟨rfl, by omega, h, ?_, rfl⟩
  have ha' : ∀ y ∈ xs.take i, p y = false := by
    intro y hy
    obtain ⟨k, hk, rfl⟩ := List.getElem_of_mem hy
    rw [List.getElem_take]
    exact ha k (by rw [List.length_take] at hk; omega)
  rw [List.take_succ_eq_append_getElem h, List.filter_append, filter_none ha']
  simp [hp]
theorem Mid.at {p : Wt → Bool} {xs zs : List Wt} {i j : Nat} (h : Mid p xs zs i j) (hj : j < xs.length) : ∃ hz : j < zs.length, zs[j] = xs[j] := by
  have hz : j < zs.length := by rw [h.len]; exact hj
  refine ⟨hz, ?_⟩
  have := congrArg (fun l => l[0]?) h.rest
  simp [List.getElem?_drop, List.getElem?_eq_getElem hz, List.getElem?_eq_getElem hj] at this
  exact this
theorem Mid.skip {p : Wt → Bool} {xs zs : List Wt} {i j : Nat} (h : Mid p xs zs i j) (hj : j < xs.length) (hp : p xs[j] = true) : Mid p xs zs i (j + 1) := by
  refine ⟨h.len, by have := h.ij; omega, hj, ?_, ?_⟩
  · rw [h.kept, List.take_succ_eq_append_getElem hj, List.filter_append]; simp [hp]
  · rw [← List.drop_drop, ← List.drop_drop, h.rest]
theorem Mid.keep {p : Wt → Bool} {xs zs : List Wt} {i j : Nat} (h : Mid p xs zs i j) (hj : j < xs.length) (hp : p xs[j] = false) : Mid p xs (zs.set i xs[j]) (i + 1) (j + 1) := by
  have hij := h.ij
  have hz : i < zs.length := by rw [h.len]; omega
  refine ⟨by simpa using h.len, by omega, hj, ?_, ?_⟩
  · have hl : i < (zs.set i xs[j]).length := by simpa using hz
    rw [List.take_succ_eq_append_getElem hl, List.take_set_of_le (Nat.le_refl _), h.kept, List.take_succ_eq_append_getElem hj, List.filter_append]
    simp [hp]
  · rw [List.drop_set_of_lt (by omega), ← List.drop_drop, ← List.drop_drop, h.rest]
theorem Mid.done {p : Wt → Bool} {xs zs : List Wt} {i : Nat} (h : Mid p xs zs i xs.length) : zs.take i = xs.filter (fun x => !p x) := by
  rw [h.kept, List.take_length]
/-- what a call that drops some of a row hands back -/
def Drops (W : World) (K : Nat) (v : Value) (xs : List Wt) (e : Ending) (w' : World) : Prop :=
  ∃ v', e = .returned v' ∧ Row w' K v' xs ∧ OnlyS (fun k => v.ownBlock = some k) W w'
section
variable {T : Nat → Prop} {W W' : World} {gf : Nat} {cs : Array Value} {p : Wt → Bool} {A : Option Addr} {c K : Nat} {xs : List Wt}
set_option maxRecDepth 100000 in
set_option maxHeartbeats 4000000 in
theorem delete_any {v : Value} (hp : Prd (fun k => v.ownBlock = some k) W gf cs p) (hr : Row W K v xs) (hl : xs.length ≤ 5000) :
    Calls Tryz.prog 207 #[v, .func (.func gf) #[] cs] W (Drops W K v (xs.filter (fun x => !p x))) := by
  obtain ⟨A, c, rfl, hls⟩ := hr.ls
  have HI := Lib.hid (index_any (hp.mono (OnlyS.refl _ _)) hls hl)
  rcases idx_cases p xs with ⟨h1, h2⟩ | ⟨i, h2, h1, h3, h4⟩
  · rw [h1] at HI
    have HF := Lib.hid (filter_none h2)
    have HR := Lib.hid hr
    clear hp hr hls hl h1 h2
    generalize xs.length = n at *
    go_enter Tryz.func207, Tryz.ntmps207
    go_wp2_with (go_at_call 116; ((with_reducible refine HI.out.mono ?_); rintro e w1 ⟨rfl, hb1⟩))
    go_ret
    exact ⟨_, rfl, by rw [HF.out]; exact HR.out.keep fun g hg => hb1.block g (HR.out.lt g hg).2, OnlyS.of_below hb1⟩
  · rw [h1] at HI
    have HM := Lib.hid (Mid.start h2 h3 h4)
    obtain ⟨eg, hp⟩ := hp
    cases A with
    | none => exact absurd h2 (by rw [hls.empty]; simp)
    | some ad =>
      obtain ⟨g, rfl⟩ : ∃ g, ad = ⟨g, 0, none⟩ := by
        rcases hr.2 with ⟨h0, _⟩ | ⟨g, cap, cur, e, _⟩
        · cases h0
        · cases e; exact ⟨g, rfl⟩
      obtain ⟨cur, hblk, hnc, hcm⟩ := hr.blk
      have hgl := (Array.getElem?_eq_some_iff.1 hblk).1
      have hp' : ∀ (W' : World) (x : Wt), OnlyS (· = g) W W' → Calls Tryz.prog gf (#[wv x] ++ cs) W' fun e w' => e = .returned (.bool (p x)) ∧ Below W'.heap.size W' w' :=
        fun W' x ho => hp W' x (ho.mono fun k _ hk => by rw [hk]; rfl)
      have HP := Lib.hid hp'
      have HR := Lib.hid hr
      obtain ⟨n, hn⟩ : ∃ n, xs.length = n := ⟨_, rfl⟩
      have HN := Lib.hid hn
      have hin : i < n := by rw [← hn]; exact h2
      have hcm2 : c ≤ 9223372036854775807 := by unfold maxLen at hcm; omega
      rw [hn] at hnc HI hl
      rw [hn] at HR ⊢
      clear hp hp' hr hls h1 h2 h3 h4 hblk hcm hn
      go_enter Tryz.func207, Tryz.ntmps207
      go_wp2_with fail
      refine HI.out.mono ?_
      rintro e w1 ⟨rfl, hb1⟩
      have HR1 := Lib.hid (HR.out.keep (W' := w1) fun g' hg' => hb1.block g' (HR.out.lt g' hg').2)
      have HO1 := Lib.hid (OnlyS.of_below (S := (· = g)) hb1)
      have hi1 : ((i : Int) == -1) = false := by simp
      clear HI hb1
      go_wp2_with fail
      go_loopw [5, 6] (fun s t wr => ∃ (a b : Nat) (zs : List Wt), s = .int .i64 a ∧ t = .int .i64 b ∧ Mid p xs zs a b ∧ Row wr K (.slice (some ⟨g, 0, none⟩) n c) zs ∧ OnlyS (· = g) W wr) (fun _ t _ => n - (intOf t).toNat)
      case atStart => exact ⟨i, i + 1, xs, rfl, by go_num, HM.out, HR1.out, HO1.out⟩
      case round =>
        obtain ⟨a, b, zs, rfl, rfl, hmid, hrow, hon⟩ := hrel
        have hab := hmid.ij
        have hbn : b ≤ n := by rw [← HN.out]; exact hmid.jn
        have HMd := Lib.hid hmid
        have HRw := Lib.hid hrow
        have HOn := Lib.hid hon
        have hsz := hon.size
        have hzn : zs.length = n := by rw [hmid.len, HN.out]
        have HZN := Lib.hid hzn
        clear hmid hrow hon HM HR1 HO1 hzn
        by_cases hlt : b < n
        · have hbl : b < xs.length := by rw [HN.out]; exact hlt
          obtain ⟨hbz, hze⟩ := HMd.out.at hbl
          obtain ⟨a', c', ev, hls⟩ := HRw.out.ls
          rw [HZN.out] at ev
          cases ev
          obtain ⟨ad, had, c0, c1, c2, c3⟩ := hls.here hbz
          cases had
          obtain ⟨x, hx⟩ : ∃ x, xs[b] = x := ⟨_, rfl⟩
          rw [hze, hx] at c0 c1 c2 c3
          have HX := Lib.hid hx
          clear hls hx hze
          obtain ⟨t, m, cv, ii⟩ := x
          simp only [add_at] at c0 c1 c2 c3
          have hb1 := box_below wr (.cells #[.int .i64 t, .int .i64 m, .bool cv, .bool ii] 61)
          have hbx := box_ls wr (t, m, cv, ii)
          have hcall := Lib.hid (HP.out (wr.alloc (.cells #[.int .i64 t, .int .i64 m, .bool cv, .bool ii] 61)) (t, m, cv, ii) (HOn.out.trans (OnlyS.of_below hb1)))
          obtain ⟨q, hpx⟩ : ∃ q, p (t, m, cv, ii) = q := ⟨_, rfl⟩
          rw [hpx] at hcall
          have HPX := Lib.hid (show p xs[b] = q by rw [HX.out]; exact hpx)
          clear hpx
          cases q
          · go_wp2_with fail
            refine hcall.out.mono ?_
            rintro e w2 ⟨rfl, hb2⟩
            have hb3 : Below wr.heap.size wr w2 := hb1.trans (hb2.mono hb1.size)
            obtain ⟨ad2, had2, e0, e1, e2, e3⟩ := (hbx.below hb2).here (i := 0) (by simp)
            cases had2
            simp only [List.getElem_cons_zero, Nat.zero_mul, add_at, Nat.zero_add] at e0 e1 e2 e3
            have HR2 := Lib.hid (HRw.out.keep (W' := w2) fun g' hg' => hb3.block g' (HRw.out.lt g' hg').2)
            have haz : a < zs.length := by rw [HZN.out]; omega
            have han : a < n := by omega
            have s0 := HR2.out.there (k := a * 4) (by omega)
            have s1 := HR2.out.there (k := a * 4 + 1) (by omega)
            have s2 := HR2.out.there (k := a * 4 + 2) (by omega)
            have s3 := HR2.out.there (k := a * 4 + 3) (by omega)
            obtain ⟨y0, t0⟩ := Option.isSome_iff_exists.1 s0
            obtain ⟨y1, t1⟩ := Option.isSome_iff_exists.1 s1
            obtain ⟨y2, t2⟩ := Option.isSome_iff_exists.1 s2
            obtain ⟨y3, t3⟩ := Option.isSome_iff_exists.1 s3
            have f0 : w2.frozen? ⟨g, a * 4, none⟩ = false := HR2.out.free
            have f1 : w2.frozen? ⟨g, a * 4 + 1, none⟩ = false := HR2.out.free
            have f2 : w2.frozen? ⟨g, a * 4 + 2, none⟩ = false := HR2.out.free
            have f3 : w2.frozen? ⟨g, a * 4 + 3, none⟩ = false := HR2.out.free
            have HO2 := Lib.hid (HOn.out.trans (OnlyS.of_below hb3))
            have HPut := Lib.hid (HR2.out.put (t, m, cv, ii) haz)
            clear hcall hb1 hb2 hb3 hbx c0 c1 c2 c3 s0 s1 s2 s3 haz hbz
            go_wp2_with fail
            go_roundw
            case rel =>
              refine ⟨a + 1, b + 1, zs.set a (t, m, cv, ii), by go_num, by go_num, ?_, HPut.out, (((HO2.out.trans (OnlyS.set _ _ _ _)).trans (OnlyS.set _ _ _ _)).trans (OnlyS.set _ _ _ _)).trans (OnlyS.set _ _ _ _)⟩
              have := HMd.out.keep (by rw [HN.out]; exact hlt) HPX.out
              rw [HX.out] at this
              exact this
            case measure => simp [intOf]; omega
          · go_wp2_with fail
            refine hcall.out.mono ?_
            rintro e w2 ⟨rfl, hb2⟩
            have hb3 : Below wr.heap.size wr w2 := hb1.trans (hb2.mono hb1.size)
            have HR2 := Lib.hid (HRw.out.keep (W' := w2) fun g' hg' => hb3.block g' (HRw.out.lt g' hg').2)
            have HO2 := Lib.hid (HOn.out.trans (OnlyS.of_below hb3))
            clear hcall hb1 hb2 hb3 hbx c0 c1 c2 c3 hbz
            go_wp2_with fail
            go_roundw
            case rel => exact ⟨a, b + 1, zs, rfl, by go_num, HMd.out.skip (by rw [HN.out]; exact hlt) HPX.out, HR2.out, HO2.out⟩
            case measure => simp [intOf]; omega
        · obtain rfl : b = n := by omega
          have hzl : zs.length = b := HZN.out
          have hclr := fun ty => run_clear_w wr ty g (a * 4) (b - a) (c - a) (by omega) (fun k hk => HRw.out.there (by omega)) (fun k _ => HRw.out.free)
          clear hzl
          go_wp2_with fail
          go_ret
          have hset : ∀ cur, wr.heap[g]? = some (.cells cur 61 (0, 0)) → ∃ cur', (wr.setCells g (a * 4) (zz (b - a))).heap[g]? = some (.cells cur' 61 (0, 0)) ∧ cur'.size = cur.size ∧ ∀ k, k < a * 4 → cur'[k]? = cur[k]? := fun cur hcur => by
            obtain ⟨cur', q1, q2, q3, _⟩ := sets_blk (zz (b - a)) wr (a * 4) cur hcur
            exact ⟨cur', q1, q2, q3⟩
          refine ⟨_, rfl, ?_, ?_⟩
          · have hmd := HMd.out
            rw [← HN.out] at hmd
            have hz := hmd.done
            rw [← hz]
            have := HRw.out.cut (i := a) (by rw [HZN.out]; omega) hset
            exact this
          · obtain ⟨cur, hb, -⟩ := HRw.out.blk
            obtain ⟨_, _, _, _, q4⟩ := sets_blk (zz (b - a)) wr (a * 4) cur hb
            exact (HOn.out.trans q4).mono (fun k _ hk => by rw [hk]; rfl)
end
end Go.Proofs.YtlhhopanegnliaaGreatDoor.Ws
/- A list is copied; those of others: the program's answer and the document's. -/
namespace Go.Proofs.YtlhhopanegnliaaGreatDoor.Ws
open Go Go.RowKit Go.Shelf

@[go_sem] theorem eql22_none (w : World) (n c : Nat) : (binOp .eql 51 (.slice none n c) (.slice none 0 0)).run Tryz.prog w = .ok (.bool true) w := Lib.run_eql_slice_nil w 51 61 none n c 0 0 Tryz.underlying51
@[go_sem] theorem eql22_some (w : World) (a : Addr) (n c : Nat) : (binOp .eql 51 (.slice (some a) n c) (.slice none 0 0)).run Tryz.prog w = .ok (.bool false) w := Lib.run_eql_slice_nil w 51 61 (some a) n c 0 0 Tryz.underlying51
/-- a list is handed out, in memory of its own -/
def Lists (W : World) (xs : List Wt) (e : Ending) (w' : World) : Prop := ∃ A c, e = .returned (.slice A xs.length c) ∧ Ls w' A c xs ∧ Below W.heap.size W w'
/-- a list is handed out, in memory that was made since -/
def Fars (W : World) (xs : List Wt) (e : Ending) (w' : World) : Prop := ∃ A c, e = .returned (.slice A xs.length c) ∧ (Ls w' A c xs ∧ ∀ a, A = some a → W.heap.size ≤ a.block) ∧ Below W.heap.size W w'
theorem row_far {W : World} {K c n : Nat} {A : Option Addr} {xs : List Wt} (h : Row W K (.slice A n c) xs) : ∀ a, A = some a → K ≤ a.block := by
  rintro a rfl
  rcases h.2 with ⟨h0, _⟩ | ⟨g, cap, cur, e, hb, _⟩
  · cases h0
  · cases e; exact hb
section
variable {W W' : World} {A : Option Addr} {c K : Nat} {xs : List Wt}
theorem clone_any (hr : Ls W A c xs) (hl : xs.length ≤ 500) : Calls Tryz.prog 92 #[.slice A xs.length c] W fun e w' => ∃ v, e = .returned v ∧ Row w' W.heap.size v xs ∧ Below W.heap.size W w' := by
  cases A with
  | none =>
    have := hr.empty; subst this
    have hc := hr.nil rfl
    subst hc
    clear hr
    go_enter Tryz.func92, Tryz.ntmps92
    go_wp2
    go_ret
    exact ⟨_, rfl, World.ownsRow_nil _ _ _ _, Below.refl _ _⟩
  | some a =>
    have h0 : Row (W.alloc (.cells #[] 61)) W.heap.size (.slice (some ⟨W.heap.size, 0, none⟩) 0 0) [] :=
      ⟨rfl, .inr ⟨W.heap.size, 0, #[], rfl, Nat.le_refl _, heap_alloc_new W _, Nat.le_refl _, Nat.zero_le _, rfl, rfl⟩⟩
    have hx := box_below W (.cells #[] 61)
    obtain ⟨v', w', hrun, hrow, hg, -⟩ := h0.app (hr.below hx) (by simp; omega) hx.size 51
    have HR := Lib.hid hrow
    have HB := Lib.hid (hx.trans (h0.app_below hg hx.size))
    simp only [List.nil_append] at HR
    generalize xs.length = n at *
    clear hr h0 hx hrow hg
    go_enter Tryz.func92, Tryz.ntmps92
    go_wp2_with (at_builtin; refine Lib.wpList_append_run _ rfl _ _ _ _ rfl _ _ rfl rfl _ _ hrun ?_)
    go_ret
    exact ⟨_, rfl, HR.out, HB.out⟩
/-- those of others -/
def wout (tx : Int) (xs : List Wt) : List Wt := xs.filter (fun x => !(x.1 == tx))
theorem without_any (hr : Ls W A c xs) (hl : xs.length ≤ 500) (tx : Int) : Calls Tryz.prog 181 #[.slice A xs.length c, .int .i64 tx] W (Lists W (wout tx xs)) := by
  have H := Lib.hid (clone_any hr hl)
  have HD := Lib.hid (fun (w1 : World) (v : Value) (h : Row w1 W.heap.size v xs) (hb : Below W.heap.size W w1) =>
    (show Calls Tryz.prog 207 #[v, .func (.func 156) #[] #[.pointer (some ⟨w1.heap.size, 0, none⟩)]] (w1.alloc (.cells #[.int .i64 tx] 3)) (Lists W (wout tx xs)) from by
      have hx := box_below w1 (.cells #[.int .i64 tx] 3)
      refine (delete_any (prd_tx (tx := tx) (by simp [go_sem]) ?_) (row_below h hx) (by omega)).mono ?_
      · intro e
        have := (h.lt _ e).2
        omega
      · rintro e w' ⟨v', rfl, h1, h2⟩
        obtain ⟨A', c', rfl, hls⟩ := h1.ls
        exact ⟨A', c', rfl, hls, (hb.trans (hx.mono hb.size)).trans (h2.below (fun k hk => (h.lt k hk).1) (Nat.le_trans hb.size hx.size))⟩))
  clear hr hl
  generalize xs.length = n at *
  go_enter Tryz.func181, Tryz.ntmps181
  go_wp2_with fail
  refine H.out.mono ?_
  rintro e w1 ⟨v, rfl, h1, h2⟩
  have HC := Lib.hid (HD.out _ _ h1 h2)
  clear h1 h2
  go_wp2_with (first | (go_at_call 117; ((with_reducible refine (ofc_any tx _).mono ?_); rintro e w' ⟨rfl, rfl⟩)) | (go_at_call 207; ((with_reducible refine HC.out.mono ?_); rintro e w' ⟨A', c', rfl, hls, hb⟩)))
  have HL := Lib.hid hls
  have HB := Lib.hid hb
  clear hls hb
  obtain ⟨k, hk⟩ : ∃ k, (wout tx xs).length = k := ⟨_, rfl⟩
  have HK := Lib.hid hk
  rw [hk]
  clear hk
  go_ret
  exact ⟨A', c', by rw [HK.out]; rfl, HL.out, HB.out⟩
/-- what has been kept so far -/
structure Kep (W : World) (tx : Int) (xs : List Wt) (k : Nat) (v : Value) (w1 : World) : Prop where
  row : Row w1 W.heap.size v (wout tx (xs.take k))
  bel : Below W.heap.size W w1
theorem Kep.below {tx : Int} {k : Nat} {v : Value} (h : Kep W tx xs k v W') {w2 : World} (hb : Below W'.heap.size W' w2) : Kep W tx xs k v w2 :=
  ⟨row_below h.row hb, h.bel.trans (hb.mono h.bel.size)⟩
theorem wout_no {tx : Int} {k : Nat} (hk : k < xs.length) (h : (xs[k].1 == tx) = true) : wout tx (xs.take (k + 1)) = wout tx (xs.take k) := by
  unfold wout
  rw [List.take_succ_eq_append_getElem hk, List.filter_append]
  simp [h]
theorem wout_yes {tx : Int} {k : Nat} (hk : k < xs.length) (h : (xs[k].1 == tx) = false) : wout tx (xs.take (k + 1)) = wout tx (xs.take k) ++ [xs[k]] := by
  unfold wout
  rw [List.take_succ_eq_append_getElem hk, List.filter_append]
  simp [h]
theorem wout_len (tx : Int) (xs : List Wt) : (wout tx xs).length ≤ xs.length := List.length_filter_le _ _
set_option maxHeartbeats 2000000 in
theorem rwithout_any (hr : Ls W A c xs) (hl : xs.length ≤ 500) (tx : Int) : Calls Tryz.prog 160 #[.slice A xs.length c, .int .i64 tx] W (Lists W (wout tx xs)) := by
  have HR := Lib.hid hr
  obtain ⟨n, hn⟩ : ∃ n, xs.length = n := ⟨_, rfl⟩
  rw [hn] at hl ⊢
  have HN := Lib.hid hn
  clear hr hn
  go_enter Tryz.func160, Tryz.ntmps160
  go_wp2
  go_loopw [10, 5] (fun t v wr => ∃ j : Nat, j ≤ n ∧ t = .int .i64 j ∧ Kep W tx xs j v wr) (fun t _ _ => n - (intOf t).toNat)
  case atStart => exact ⟨0, by omega, rfl, World.ownsRow_nil _ _ _ _, Below.refl _ _⟩
  case round =>
    obtain ⟨j, hj, rfl, hk⟩ := hrel
    have K0 := Lib.hid hk
    obtain ⟨A0, c0', ev, -⟩ := hk.row.ls
    subst ev
    obtain ⟨q, hq⟩ : ∃ q, (wout tx (xs.take j)).length = q := ⟨_, rfl⟩
    have hq1 : q ≤ j := by rw [← hq]; refine Nat.le_trans (wout_len _ _) ?_; rw [List.length_take]; omega
    have HQ := Lib.hid hq
    clear hk
    rw [hq] at K0 ⊢
    clear hq
    by_cases hjn : j < n
    · have hjl : j < xs.length := by rw [HN.out]; exact hjn
      obtain ⟨a, rfl, hh⟩ := (HR.out.below K0.out.bel).here hjl
      obtain ⟨c0, c1, c2, c3⟩ := hh
      obtain ⟨x, hx⟩ : ∃ x, xs[j] = x := ⟨_, rfl⟩
      rw [hx] at c0 c1 c2 c3
      have hb1 := box_below wr (.cells #[.int .i64 x.1, .int .i64 x.2.1, .bool x.2.2.1, .bool x.2.2.2] 61)
      have K1 := Lib.hid (K0.out.below hb1)
      by_cases ht : x.1 = tx
      · have HE := Lib.hid (wout_no (tx := tx) hjl (by rw [hx]; simpa using ht))
        obtain ⟨t, m, cv, ii⟩ := x
        simp only at c0 c1 c2 c3 ht K1
        subst ht
        clear hx hb1 hjl
        go_wp2
        go_roundw
        case rel => exact ⟨j + 1, by omega, by go_num, by have := K1.out; exact ⟨by rw [HE.out]; exact this.row, this.bel⟩⟩
        case measure => simp [intOf]; omega
      · have HE := Lib.hid (wout_yes (tx := tx) hjl (by rw [hx]; simpa using ht))
        rw [hx] at HE
        have hbx := box_ls wr x
        have hx2 := box_ls (wr.alloc (.cells #[.int .i64 x.1, .int .i64 x.2.1, .bool x.2.2.1, .bool x.2.2.2] 61)) x
        have hb2 := box_below (wr.alloc (.cells #[.int .i64 x.1, .int .i64 x.2.1, .bool x.2.2.1, .bool x.2.2.2] 61)) (.cells #[.int .i64 x.1, .int .i64 x.2.1, .bool x.2.2.1, .bool x.2.2.2] 61)
        have hs2 := (K1.out.bel.trans (hb2.mono K1.out.bel.size)).size
        have hr2 : Row _ W.heap.size _ _ := row_below K1.out.row hb2
        obtain ⟨v', w', hrun, hrow, hg, -⟩ := hr2.app hx2 (by rw [HQ.out]; simp; omega) hs2 51
        obtain ⟨A', c', rfl, -⟩ := hrow.ls
        have K2 := Lib.hid (show Kep W tx xs (j + 1) (.slice A' (wout tx (xs.take j) ++ [x]).length c') w' from ⟨by rw [HE.out]; exact hrow, (K1.out.bel.trans (hb2.mono K1.out.bel.size)).trans (hr2.app_below hg hs2)⟩)
        rw [List.length_append, HQ.out] at K2 hrun
        obtain ⟨t, m, cv, ii⟩ := x
        simp only at c0 c1 c2 c3 ht
        simp only [List.length_cons, List.length_nil, Nat.zero_add] at K2 hrun
        rw [show (wr.alloc (.cells #[.int .i64 t, .int .i64 m, .bool cv, .bool ii] 61)).heap.size = wr.heap.size + 1 by simp] at hrun
        have ht' : (t != tx) = true := by simpa using ht
        clear hx hbx hx2 hb1 hb2 hs2 hr2 hrow hg K1 HE hjl ht
        go_wp2_with (at_builtin; refine Lib.wpList_append_run _ rfl _ _ _ _ rfl _ _ rfl rfl _ _ hrun ?_)
        go_roundw
        case rel => exact ⟨j + 1, by omega, by go_num, K2.out⟩
        case measure => simp [intOf]; omega
    · obtain rfl : j = n := by omega
      have hr := K0.out.row
      have hall : xs.take j = xs := List.take_of_length_le (Nat.le_of_eq HN.out)
      rw [hall] at hr HQ
      obtain ⟨A', c', hv, hd⟩ := hr.ls
      rw [HQ.out] at hv
      cases hv
      have HD := Lib.hid hd
      have HB := Lib.hid K0.out.bel
      clear hr hd K0 hall
      go_wp2
      go_ret
      exact ⟨A0, c0', by rw [HQ.out]; rfl, HD.out, HB.out⟩
end
end Go.Proofs.YtlhhopanegnliaaGreatDoor.Ws
/- Room for so many; lists that are joined. -/
namespace Go.Proofs.YtlhhopanegnliaaGreatDoor.Ws
open Go Go.RowKit Go.Shelf

section
variable {W W' : World} {A : Option Addr} {c K : Nat} {xs : List Wt}
set_option maxRecDepth 100000 in
theorem grow_any (n : Nat) (h1 : 1 ≤ n) (h2 : n ≤ 1000) (W : World) : Calls Tryz.prog 229 #[.slice none 0 0, .int .i64 (n : Int)] W fun e w' => ∃ v, e = .returned v ∧ Row w' W.heap.size v [] ∧ Below W.heap.size W w' := by
  obtain ⟨i0, hi, hz0, hz1, hz2⟩ := info_parts info24
  have hrun := Lib.run_append_nil_zeros (P := Tryz.prog) W 51 3 51 61 i0 _ .i64 .i64 Tryz.underlying51 Tryz.underlying3 hi hz0 n h1 (by rw [hz1]; omega) (by omega) (by rw [hz2]; omega)
  have hge := grownCap_ge W n 0 61
  have hcm := grownCap_le_maxLen W n 0 61 (by unfold maxLen; omega)
  have hsz : (Builtin.zeroCells (Value.agg #[.int .i64 0, .int .i64 0, .bool false, .bool false]).cells n ++ Builtin.zeroCells (Value.agg #[.int .i64 0, .int .i64 0, .bool false, .bool false]).cells (grownCap W n 0 61 - n)).size = grownCap W n 0 61 * 4 := by
    rw [Array.size_append, size_zeroCells, size_zeroCells]
    simp [Value.cells]
    omega
  generalize Builtin.zeroCells (Value.agg #[.int .i64 0, .int .i64 0, .bool false, .bool false]).cells n ++ Builtin.zeroCells (Value.agg #[.int .i64 0, .int .i64 0, .bool false, .bool false]).cells (grownCap W n 0 61 - n) = zs at *
  generalize grownCap W n 0 61 = cp at *
  have HR := Lib.hid (show Row (W.drew.alloc (.cells zs 61)) W.heap.size (.slice (some ⟨W.heap.size, 0, none⟩) 0 cp) [] from
    ⟨rfl, .inr ⟨W.heap.size, cp, zs, rfl, Nat.le_refl _, heap_alloc_new W.drew _, Nat.zero_le _, hcm, hsz, rfl⟩⟩)
  have HB := Lib.hid ((drew_below W 1).trans (box_below W.drew (.cells zs 61)))
  have hcm2 : cp ≤ 9223372036854775807 := by unfold maxLen at hcm; omega
  clear hsz hcm hz0 hz1 hz2 hi
  go_enter Tryz.func229, Tryz.ntmps229
  go_wp2_with (at_builtin; refine Lib.wpList_append_run _ rfl _ _ _ _ rfl _ _ rfl rfl _ _ hrun ?_)
  go_ret
  exact ⟨_, rfl, HR.out, HB.out⟩
/-- the first of some lists, one behind the other -/
def cat (X : Nat → List Wt) : Nat → List Wt
  | 0 => []
  | k + 1 => cat X k ++ X k
/-- lists, one beside the other -/
structure Parts (W : World) (b : Nat) (N : Nat) (A : Nat → Option Addr) (C : Nat → Nat) (X : Nat → List Wt) : Prop where
  c : ∀ k, k < N → W.cell? ⟨b, k, none⟩ = some (.slice (A k) (X k).length (C k))
  l : ∀ k, k < N → Ls W (A k) (C k) (X k)
theorem cat_le {X : Nat → List Wt} : ∀ {N k : Nat}, k ≤ N → (cat X k).length ≤ (cat X N).length
  | 0, 0, _ => Nat.le_refl _
  | N + 1, k, h => by
    rcases Nat.lt_or_ge N k with h' | h'
    · obtain rfl : k = N + 1 := by omega
      exact Nat.le_refl _
    · refine Nat.le_trans (cat_le h') ?_
      simp only [cat, List.length_append]
      omega
theorem Parts.below {b N : Nat} {A : Nat → Option Addr} {C : Nat → Nat} {X : Nat → List Wt} (h : Parts W b N A C X) (hb : Below W.heap.size W W') : Parts W' b N A C X :=
  ⟨fun k hk => by have := h.c k hk; rw [World.cell?_of_block (w := W) (a := ⟨b, k, none⟩) (hb.block _ (cell_lt this))]; exact this, fun k hk => (h.l k hk).below hb⟩
set_option maxHeartbeats 4000000 in
theorem concat_far {b N : Nat} {A : Nat → Option Addr} {C : Nat → Nat} {X : Nat → List Wt} (h : Parts W b N A C X) (h1 : 1 ≤ (cat X N).length) (h2 : (cat X N).length ≤ 1000) (hN : N ≤ 1000) :
    Calls Tryz.prog 213 #[.slice (some ⟨b, 0, none⟩) N N] W (Fars W (cat X N)) := by
  have H := Lib.hid h
  have HG := fun W => Lib.hid (grow_any (cat X N).length h1 h2 W)
  clear h
  obtain ⟨s, hs⟩ : ∃ s, (cat X N).length = s := ⟨_, rfl⟩
  have HS := Lib.hid hs
  rw [hs] at h1 h2 HG
  have hle : ∀ k, k ≤ N → (cat X k).length ≤ s := fun k hk => by rw [← hs]; exact cat_le hk
  have HLE := Lib.hid hle
  clear hs hle
  go_enter Tryz.func213, Tryz.ntmps213
  go_wp2_with fail
  go_loopw [11, 3] (fun t v wr => ∃ k : Nat, k ≤ N ∧ t = .int .i64 k ∧ v = .int .i64 ((cat X k).length : Nat) ∧ W = wr) (fun t _ _ => N - (intOf t).toNat)
  case atStart => exact ⟨0, by omega, rfl, rfl, rfl⟩
  case round =>
    obtain ⟨k, hk, rfl, rfl, rfl⟩ := hrel
    by_cases hkN : k < N
    · have q0 := H.out.c k hkN
      have hk1 := HLE.out k hk
      have hk2 := HLE.out (k + 1) hkN
      have hk3 : (cat X (k + 1)).length = (cat X k).length + (X k).length := by simp [cat]
      have HK := Lib.hid hk3
      rw [hk3] at hk2
      generalize (cat X k).length = y at *
      generalize (X k).length = z at *
      clear hk3
      go_wp2_with fail
      go_roundw
      case rel => exact ⟨k + 1, by omega, by go_num, by rw [HK.out]; go_num, trivial⟩
      case measure => simp [intOf]; omega
    · obtain rfl : k = N := by omega
      rw [HS.out]
      go_wp2_with fail
      refine (HG W).out.mono ?_
      rintro e w1 ⟨v0, rfl, hr0, hb0⟩
      have R0 := Lib.hid hr0
      have B0 := Lib.hid hb0
      clear hr0 hb0
      go_wp2_with fail
      go_loopw [27, 6] (fun t v wr => ∃ j : Nat, j ≤ k ∧ t = .int .i64 j ∧ Row wr W.heap.size v (cat X j) ∧ Below W.heap.size W wr) (fun t _ _ => k - (intOf t).toNat)
      case atStart => exact ⟨0, by omega, rfl, R0.out, B0.out⟩
      case round =>
        obtain ⟨w4, rfl⟩ : ∃ w4, w4 = wr := ⟨_, rfl⟩
        obtain ⟨j, hj, rfl, hr, hb⟩ := hrel
        obtain ⟨A0, c0', ev, hls⟩ := hr.ls
        subst ev
        by_cases hjN : j < k
        · have hP := H.out.below hb
          have q0 := hP.c j hjN
          have hj2 := HLE.out (j + 1) hjN
          have hj3 : (cat X (j + 1)).length = (cat X j).length + (X j).length := by simp [cat]
          rw [hj3] at hj2
          obtain ⟨v', w', hrun, hrow, hg, -⟩ := hr.app (hP.l j hjN) (by omega) hb.size 51
          obtain ⟨A', c', rfl, -⟩ := hrow.ls
          have R2 := Lib.hid (show Row w' W.heap.size (.slice A' (cat X j ++ X j).length c') (cat X (j + 1)) from hrow)
          have B2 := Lib.hid (hb.trans (hr.app_below hg hb.size))
          rw [List.length_append] at R2 hrun
          generalize (cat X j).length = y at *
          generalize (X j).length = z at *
          clear hP hr hls hrow hg hb hj3
          go_wp2_with (at_builtin; refine Lib.wpList_append_run _ rfl _ _ _ _ rfl _ _ rfl rfl _ _ hrun ?_)
          go_roundw
          case rel => exact ⟨j + 1, by omega, by go_num, R2.out, B2.out⟩
          case measure => simp [intOf]; omega
        · obtain rfl : j = k := by omega
          have HL := Lib.hid (And.intro hls (row_far hr))
          have HB := Lib.hid hb
          rw [HS.out] at hr ⊢
          clear hr hls hb
          go_wp2_with fail
          go_ret
          exact ⟨A0, c0', by rw [HS.out]; rfl, HL.out, HB.out⟩
end
end Go.Proofs.YtlhhopanegnliaaGreatDoor.Ws
/- A request is put where it would wait: the program's answer. -/
namespace Go.Proofs.YtlhhopanegnliaaGreatDoor.Ws
open Go Go.RowKit Go.Shelf

/-- a request in a box of its own -/
abbrev S4 (B : Nat) (tx m : Int) (cv ii : Bool) (w : World) : Prop :=
  w.cell? ⟨B, 0, none⟩ = some (.int .i64 tx) ∧ w.cell? ⟨B, 1, none⟩ = some (.int .i64 m) ∧ w.cell? ⟨B, 2, none⟩ = some (.bool cv) ∧ w.cell? ⟨B, 3, none⟩ = some (.bool ii)
theorem s4_below {B : Nat} {tx m : Int} {cv ii : Bool} {w w' : World} (h : S4 B tx m cv ii w) (hb : Below w.heap.size w w') : S4 B tx m cv ii w' := by
  obtain ⟨h0, h1, h2, h3⟩ := h
  exact ⟨(hb.cell (p := ⟨B, 0, none⟩) (cell_lt h0)).trans h0, (hb.cell (p := ⟨B, 1, none⟩) (cell_lt h1)).trans h1, (hb.cell (p := ⟨B, 2, none⟩) (cell_lt h2)).trans h2, (hb.cell (p := ⟨B, 3, none⟩) (cell_lt h3)).trans h3⟩
theorem s4_drew {B : Nat} {tx m : Int} {cv ii : Bool} {w : World} (h : S4 B tx m cv ii w) : S4 B tx m cv ii w.drew := h
theorem s4_one {B : Nat} {tx m : Int} {cv ii : Bool} {w : World} {o : Obj} (h : S4 B tx m cv ii w) : S4 B tx m cv ii (w.alloc o).drew := s4_drew (s4_below h (box_below _ _))
theorem s4_two {B : Nat} {tx m : Int} {cv ii : Bool} {w : World} {o o' : Obj} (h : S4 B tx m cv ii w) : S4 B tx m cv ii ((w.alloc o).alloc o').drew := s4_drew (s4_below (s4_below h (box_below _ _)) (box_below _ _))
/-- a request put where it would wait -/
def ins (x : Wt) (xs : List Wt) : List Wt := xs.take (plc x.2.2.1 xs) ++ [x] ++ xs.drop (plc x.2.2.1 xs)
/-- where a list goes on from a place -/
def tlA (A : Option Addr) (c k : Nat) : Option Addr := if c = k then A else A.map (·.add (k * 4))
section
variable {W W' : World} {A : Option Addr} {c K : Nat} {xs : List Wt}
theorem Ls.tl (h : Ls W A c xs) {k : Nat} (hk : k ≤ xs.length) : Ls W (tlA A c k) (c - k) (xs.drop k) := by
  have hc := h.cap
  have hm := h.room
  unfold tlA
  by_cases e : c = k
  · rw [if_pos e]
    have e1 : xs.drop k = [] := List.drop_eq_nil_of_le (by omega)
    rw [e1]
    refine ⟨Nat.zero_le _, by omega, fun _ => by omega, fun _ _ j u hj => by simp [flat] at hj⟩
  · rw [if_neg e]
    cases A with
    | none => have := h.nil rfl; omega
    | some a =>
      by_cases e0 : k = 0
      · subst e0
        simpa [Addr.add] using h
      · have := h.tail (k := k) (by omega) hk
        simpa [Addr.add, show ¬ k * 4 = 0 by omega, show ¬ k = 0 by omega] using this
theorem three {w : World} {B : Nat} {A1 A2 A3 : Option Addr} {c1 c2 c3 : Nat} {x1 x2 x3 : List Wt} (q0 : w.cell? ⟨B, 0, none⟩ = some (.slice A1 x1.length c1)) (q1 : w.cell? ⟨B, 1, none⟩ = some (.slice A2 x2.length c2)) (q2 : w.cell? ⟨B, 2, none⟩ = some (.slice A3 x3.length c3))
    (h1 : Ls w A1 c1 x1) (h2 : Ls w A2 c2 x2) (h3 : Ls w A3 c3 x3) (h0 : 1 ≤ x2.length) (hl : x1.length + x2.length + x3.length ≤ 1000) : Calls Tryz.prog 213 #[.slice (some ⟨B, 0, none⟩) 3 3] w (Fars w (x1 ++ x2 ++ x3)) := by
  have hp : Parts w B 3 (fun k => if k = 0 then A1 else if k = 1 then A2 else A3) (fun k => if k = 0 then c1 else if k = 1 then c2 else c3) (fun k => if k = 0 then x1 else if k = 1 then x2 else x3) := by
    refine ⟨fun k hk => ?_, fun k hk => ?_⟩
    all_goals
      have hk3 : k = 0 ∨ k = 1 ∨ k = 2 := by omega
      rcases hk3 with rfl | rfl | rfl
      all_goals simpa
  have := concat_far hp (by simp [cat]; omega) (by simp [cat]; omega) (by omega)
  simpa [cat] using this
theorem three_at {w1 : World} {A1 A3 : Option Addr} {c1 c3 n1 n3 : Nat} {x1 x3 : List Wt} {tx m : Int} {cv ii : Bool} (h1 : Ls w1 A1 c1 x1) (h3 : Ls w1 A3 c3 x3) (e1 : x1.length = n1) (e3 : x3.length = n3) (hl : n1 + n3 ≤ 900) :
    Calls Tryz.prog 213 #[.slice (some ⟨w1.heap.size + 1, 0, none⟩) 3 3] (((w1.alloc (.cells #[.int .i64 tx, .int .i64 m, .bool cv, .bool ii] 61)).alloc (.cells #[.slice A1 n1 c1, .slice (some ⟨w1.heap.size, 0, none⟩) 1 1, .slice A3 n3 c3] 51)).drew) (Fars w1 (x1 ++ [(tx, m, cv, ii)] ++ x3)) := by
  subst e1
  subst e3
  have b1 := box_below w1 (.cells #[.int .i64 tx, .int .i64 m, .bool cv, .bool ii] 61)
  have b2 := box_below (w1.alloc (.cells #[.int .i64 tx, .int .i64 m, .bool cv, .bool ii] 61)) (.cells #[.slice A1 x1.length c1, .slice (some ⟨w1.heap.size, 0, none⟩) 1 1, .slice A3 x3.length c3] 51)
  have b3 := b1.trans (b2.mono b1.size)
  have q : ∀ k, k < 3 → ((w1.alloc (.cells #[.int .i64 tx, .int .i64 m, .bool cv, .bool ii] 61)).alloc (.cells #[.slice A1 x1.length c1, .slice (some ⟨w1.heap.size, 0, none⟩) 1 1, .slice A3 x3.length c3] 51)).cell? ⟨w1.heap.size + 1, k, none⟩ = #[Value.slice A1 x1.length c1, Value.slice (some ⟨w1.heap.size, 0, none⟩) 1 1, Value.slice A3 x3.length c3][k]? := fun k hk => by
    have := World.cell?_alloc_new (w1.alloc (.cells #[.int .i64 tx, .int .i64 m, .bool cv, .bool ii] 61)) #[.slice A1 x1.length c1, .slice (some ⟨w1.heap.size, 0, none⟩) 1 1, .slice A3 x3.length c3] 51 k
    rw [show (w1.alloc (.cells #[.int .i64 tx, .int .i64 m, .bool cv, .bool ii] 61)).heap.size = w1.heap.size + 1 by simp] at this
    exact this
  have q0 := q 0 (by omega)
  have q1 := q 1 (by omega)
  have q2 := q 2 (by omega)
  have hx : Ls _ _ 1 [((tx, m, cv, ii) : Wt)] := box_ls w1 (tx, m, cv, ii)
  refine (three (B := w1.heap.size + 1) (w := ((w1.alloc (.cells #[.int .i64 tx, .int .i64 m, .bool cv, .bool ii] 61)).alloc (.cells #[.slice A1 x1.length c1, .slice (some ⟨w1.heap.size, 0, none⟩) 1 1, .slice A3 x3.length c3] 51)).drew) (x2 := [(tx, m, cv, ii)]) q0 q1 q2 ((h1.below b3).drewN 1) ((hx.below b2).drewN 1) ((h3.below b3).drewN 1) (by simp) (by simp; omega)).mono ?_
  rintro e w' ⟨A', c', rfl, h1, h2⟩
  exact ⟨A', c', rfl, ⟨h1.1, fun a ha => Nat.le_trans b3.size (h1.2 a ha)⟩, (b3.trans ((drew_below _ 1).mono b3.size)).trans (h2.mono b3.size)⟩
set_option maxHeartbeats 2000000 in
theorem insert_far (hr : Ls W A c xs) (hl : xs.length ≤ 500) (x : Wt) : Calls Tryz.prog 191 #[.slice A xs.length c, wv x] W (Fars W (ins x xs)) := by
  have hx := box_below W (.cells #[.int .i64 x.1, .int .i64 x.2.1, .bool x.2.2.1, .bool x.2.2.2] 61)
  have hbx := box_ls W x
  have HP := Lib.hid (place_any (hr.below hx) (by omega) x.2.2.1)
  have hle := plN_le (fun y => y.2.2.1 || !x.2.2.1) xs
  have HI := Lib.hid (show ins x xs = xs.take (plc x.2.2.1 xs) ++ [x] ++ xs.drop (plc x.2.2.1 xs) from rfl)
  change plc x.2.2.1 xs ≤ _ at hle
  generalize plc x.2.2.1 xs = k at *
  have H1 := Lib.hid (hr.head k)
  have H3 := Lib.hid (hr.tl hle)
  obtain ⟨SA, hSA⟩ : ∃ SA, tlA A c k = SA := ⟨_, rfl⟩
  have HSA := Lib.hid hSA
  rw [hSA] at H3
  have hcap := hr.cap
  have hroom : c ≤ 9223372036854775807 := by have := hr.room; unfold maxLen at this; omega
  obtain ⟨n, hn⟩ : ∃ n, xs.length = n := ⟨_, rfl⟩
  rw [hn] at hle hl hcap HP ⊢
  have HN := Lib.hid hn
  obtain ⟨tx, m, cv, ii⟩ := x
  simp only at hx hbx HP
  have HX := Lib.hid hx
  have HBX := Lib.hid hbx
  have HR := Lib.hid hr
  clear hr hx hbx hSA hn
  go_enter Tryz.func191, Tryz.ntmps191
  go_wp2_with (go_at_call 210; ((with_reducible refine HP.out.mono ?_); rintro e w1 ⟨rfl, hb1⟩))
  have HB1 := Lib.hid hb1
  obtain ⟨ad, had, e0, e1, e2, e3⟩ := (HBX.out.below hb1).here (i := 0) (by simp)
  cases had
  simp only [List.getElem_cons_zero, Nat.zero_mul, add_at, Nat.zero_add] at e0 e1 e2 e3
  have hw1 := hb1.size
  have hsz : W.heap.size < w1.heap.size := by simp at hw1; omega
  generalize W.heap.size = Bx at e0 e1 e2 e3 hsz ⊢
  clear hb1 hw1
  have L1 := Lib.hid ((H1.out.below HX.out).below HB1.out)
  have L3 := Lib.hid ((H3.out.below HX.out).below HB1.out)
  have N1 := Lib.hid (show (xs.take k).length = k by rw [List.length_take, HN.out]; omega)
  have N3 := Lib.hid (show (xs.drop k).length = n - k by rw [List.length_drop, HN.out])
  have hs4 : S4 Bx tx m cv ii w1 := ⟨e0, e1, e2, e3⟩
  have HBB := Lib.hid (HX.out.trans (HB1.out.mono HX.out.size))
  have HIL := Lib.hid (show (ins (tx, m, cv, ii) xs).length = n + 1 by rw [HI.out, List.length_append, List.length_append, N1.out, N3.out]; simp; omega)
  clear H1 H3
  cases A with
  | none =>
    obtain rfl : c = 0 := HR.out.nil rfl
    obtain rfl : n = 0 := by omega
    obtain rfl : k = 0 := by omega
    obtain rfl : SA = none := by rw [← HSA.out]; rfl
    have HF := Lib.hid (three_at (tx := tx) (m := m) (cv := cv) (ii := ii) (n3 := 0) L1.out L3.out N1.out N3.out (by omega))
    rw [← HI.out] at HF
    go_region_held3 (S4 Bx tx m cv ii) (first | exact s4_drew hs4 | exact s4_one hs4 | exact s4_two hs4 | exact s4_below hs4 hb) (first | (go_at_call 213; ((with_reducible refine HF.out.mono ?_); rintro e w2 ⟨A', c', rfl, hls, hb⟩)))
    have HL := Lib.hid (And.intro hls.1 fun a ha => Nat.le_trans HBB.out.size (hls.2 a ha))
    have HB := Lib.hid (HBB.out.trans (hb.mono HBB.out.size))
    rw [HIL.out]
    clear hls hb hs4 e0 e1 e2 e3
    go_wp2_with fail
    go_ret
    exact ⟨A', c', by rw [HIL.out]; rfl, HL.out, HB.out⟩
  | some a =>
    by_cases hck : c = k
    · obtain rfl : n = c := by omega
      obtain rfl : k = n := by omega
      obtain rfl : SA = some a := by rw [← HSA.out]; unfold tlA; rw [if_pos rfl]
      have HF := Lib.hid (three_at (tx := tx) (m := m) (cv := cv) (ii := ii) (n3 := 0) (c3 := 0) L1.out (by have := L3.out; rw [Nat.sub_self] at this; exact this) N1.out (by have := N3.out; rw [Nat.sub_self] at this; exact this) (by omega))
      rw [← HI.out] at HF
      clear hck
      go_region_held3 (S4 Bx tx m cv ii) (first | exact s4_drew hs4 | exact s4_one hs4 | exact s4_two hs4 | exact s4_below hs4 hb) (first | (go_at_call 213; ((with_reducible refine HF.out.mono ?_); rintro e w2 ⟨A', c', rfl, hls, hb⟩)))
      have HL := Lib.hid (And.intro hls.1 fun a ha => Nat.le_trans HBB.out.size (hls.2 a ha))
      have HB := Lib.hid (HBB.out.trans (hb.mono HBB.out.size))
      rw [HIL.out]
      clear hls hb hs4 e0 e1 e2 e3
      go_wp2_with fail
      go_ret
      exact ⟨A', c', by rw [HIL.out]; rfl, HL.out, HB.out⟩
    · have hkc : (k : Int) ≤ (c : Int) := by omega
      obtain rfl : SA = some (a.add (k * 4)) := by rw [← HSA.out]; unfold tlA; rw [if_neg hck]; rfl
      have HF := Lib.hid (three_at (tx := tx) (m := m) (cv := cv) (ii := ii) L1.out L3.out N1.out N3.out (by omega))
      rw [← HI.out] at HF
      go_region_held3 (S4 Bx tx m cv ii) (first | exact s4_drew hs4 | exact s4_one hs4 | exact s4_two hs4 | exact s4_below hs4 hb) (first | (go_at_call 213; ((with_reducible refine HF.out.mono ?_); rintro e w2 ⟨A', c', rfl, hls, hb⟩)))
      have HL := Lib.hid (And.intro hls.1 fun a ha => Nat.le_trans HBB.out.size (hls.2 a ha))
      have HB := Lib.hid (HBB.out.trans (hb.mono HBB.out.size))
      rw [HIL.out]
      clear hls hb hs4 e0 e1 e2 e3
      go_wp2_with fail
      go_ret
      exact ⟨A', c', by rw [HIL.out]; rfl, HL.out, HB.out⟩
end
end Go.Proofs.YtlhhopanegnliaaGreatDoor.Ws
/- A request is put where it would wait: the document's answer. -/
namespace Go.Proofs.YtlhhopanegnliaaGreatDoor.Ws
open Go Go.RowKit Go.Shelf

section
variable {ops : Array Oper} {o : Oper} {a : Act} {w : World} {K : Act → World → Prop} {Q : Exit → Act → World → Prop} {E : Prop}
/-- append of requests in a region that draws: to nothing, and to a row of one's own -/
theorem step_nil {base c n : Nat} {A : Option Addr} {ys : List Wt} (hg : o.guard = none) (s x : Operand) (hop : o.op = Op.call { callee := Callee.builtin Builtin.append, args := #[s, x], argTypes := #[51, 51] })
    (hs : a.eval s = .slice none 0 0) (hx : a.eval x = .slice A n c) (hl : Ls w A c ys) (hn : ys.length = n) (hle : n ≤ 1000) (hb : base ≤ w.heap.size)
    (hK : ∀ A' c' w', Row w' base (.slice A' n c') ys → Below w.heap.size w w' → K (a.put o.dst (.slice A' n c')) w') :
    if Region.wanted o (yielded ops a.tmps) = true then Oper.wp Tryz.prog o a w K Q else E := by
  subst hn
  obtain ⟨v', w', hrun, hrow, hgr, -⟩ := (show Row w base (.slice none 0 0) [] from World.ownsRow_nil _ _ _ _).app hl (by simpa using hle) hb o.type
  obtain ⟨A', c', rfl, -⟩ := hrow.ls
  have hw : Region.wanted o (yielded ops a.tmps) = true := by simp [Region.wanted, hg]
  rw [if_pos hw]
  unfold Oper.wp
  simp [execOp, hop, resolve, invoke, builtin, hs, hx, hrun, Result.andThen]
  exact hK _ _ _ hrow ⟨hgr.os, hgr.tape, hgr.output, hgr.size, fun k hk => hgr.block k hk (by simp [Value.ownBlock])⟩
theorem step_row {base c c0 n m q : Nat} {A A0 : Option Addr} {xs ys : List Wt} (hg : o.guard = none) (s x : Operand) (hop : o.op = Op.call { callee := Callee.builtin Builtin.append, args := #[s, x], argTypes := #[51, 51] })
    (hs : a.eval s = .slice A0 m c0) (hx : a.eval x = .slice A n c) (hr : Row w base (.slice A0 m c0) xs) (hl : Ls w A c ys) (hm : xs.length = m) (hn : ys.length = n) (hq : m + n = q) (hle : q ≤ 1000) (hb : base ≤ w.heap.size)
    (hK : ∀ A' c' w', Row w' base (.slice A' q c') (xs ++ ys) → Below base w w' → K (a.put o.dst (.slice A' q c')) w') :
    if Region.wanted o (yielded ops a.tmps) = true then Oper.wp Tryz.prog o a w K Q else E := by
  subst hn
  subst hm
  subst hq
  obtain ⟨v', w', hrun, hrow, hgr, -⟩ := hr.app hl hle hb o.type
  obtain ⟨A', c', rfl, -⟩ := hrow.ls
  have hw : Region.wanted o (yielded ops a.tmps) = true := by simp [Region.wanted, hg]
  rw [if_pos hw]
  unfold Oper.wp
  simp [execOp, hop, resolve, invoke, builtin, hs, hx, hrun, Result.andThen]
  have := hK A' c' w' (by rw [← List.length_append]; exact hrow) (hr.app_below hgr hb)
  exact this
end
/-- a request in its box, and what was there at first -/
abbrev SB (B : Nat) (tx m : Int) (cv ii : Bool) (w1 w' : World) : Prop :=
  w'.cell? ⟨B, 0, none⟩ = some (.int .i64 tx) ∧ w'.cell? ⟨B, 1, none⟩ = some (.int .i64 m) ∧ w'.cell? ⟨B, 2, none⟩ = some (.bool cv) ∧ w'.cell? ⟨B, 3, none⟩ = some (.bool ii) ∧ Below w1.heap.size w1 w'
section
variable {B : Nat} {tx m : Int} {cv ii : Bool} {w1 w w' : World}
theorem sb_of (h : S4 B tx m cv ii w1) (hb : Below w1.heap.size w1 w') : SB B tx m cv ii w1 w' := by
  obtain ⟨h0, h1, h2, h3⟩ := s4_below h hb
  exact ⟨h0, h1, h2, h3, hb⟩
theorem sb_drew (h : S4 B tx m cv ii w1) : SB B tx m cv ii w1 w1.drew := sb_of h (drew_below _ 1)
theorem sb_box {o : Obj} (h : S4 B tx m cv ii w1) : SB B tx m cv ii w1 (w1.alloc o).drew := sb_of h ((box_below w1 o).trans ((drew_below (w1.alloc o) 1).mono (by simp)))
theorem sb_bel (h : SB B tx m cv ii w1 w) : Below w1.heap.size w1 w := h.2.2.2.2
theorem sb_alloc {o : Obj} (h : S4 B tx m cv ii w1) (hb : SB B tx m cv ii w1 w) : SB B tx m cv ii w1 (w.alloc o) := sb_of h ((sb_bel hb).trans ((box_below w o).mono (sb_bel hb).size))
theorem sb_full (h : S4 B tx m cv ii w1) (hb : SB B tx m cv ii w1 w) (hf : Below w.heap.size w w') : SB B tx m cv ii w1 w' := sb_of h ((sb_bel hb).trans (hf.mono (sb_bel hb).size))
theorem sb_app (h : S4 B tx m cv ii w1) (hb : SB B tx m cv ii w1 w) (hf : Below w1.heap.size w w') : SB B tx m cv ii w1 w' := sb_of h ((sb_bel hb).trans hf)
end
section
variable {W W' : World} {A : Option Addr} {c K : Nat} {xs : List Wt}
set_option maxHeartbeats 4000000 in
theorem rinsert_any (hr : Ls W A c xs) (hl : xs.length ≤ 500) (x : Wt) : Calls Tryz.prog 167 #[.slice A xs.length c, wv x] W (Lists W (ins x xs)) := by
  have hx := box_below W (.cells #[.int .i64 x.1, .int .i64 x.2.1, .bool x.2.2.1, .bool x.2.2.2] 61)
  have hbx := box_ls W x
  have HP := Lib.hid (rplace_any (hr.below hx) (by omega) x.2.2.1)
  have hle := plN_le (fun y => y.2.2.1 || !x.2.2.1) xs
  have HI := Lib.hid (show ins x xs = xs.take (plc x.2.2.1 xs) ++ [x] ++ xs.drop (plc x.2.2.1 xs) from rfl)
  change plc x.2.2.1 xs ≤ _ at hle
  generalize plc x.2.2.1 xs = k at *
  have H1 := Lib.hid (hr.head k)
  have H3 := Lib.hid (hr.tl hle)
  obtain ⟨SA, hSA⟩ : ∃ SA, tlA A c k = SA := ⟨_, rfl⟩
  have HSA := Lib.hid hSA
  rw [hSA] at H3
  have hcap := hr.cap
  have hroom : c ≤ 9223372036854775807 := by have := hr.room; unfold maxLen at this; omega
  obtain ⟨n, hn⟩ : ∃ n, xs.length = n := ⟨_, rfl⟩
  rw [hn] at hle hl hcap HP ⊢
  have HN := Lib.hid hn
  obtain ⟨tx, m, cv, ii⟩ := x
  simp only at hx hbx HP
  have HX := Lib.hid hx
  have HR := Lib.hid hr
  have hkc : (k : Int) ≤ (c : Int) := by omega
  have L1 := Lib.hid (H1.out.below HX.out)
  have L3 := Lib.hid (H3.out.below HX.out)
  have N1 := Lib.hid (show (xs.take k).length = k by rw [List.length_take, HN.out]; omega)
  have N3 := Lib.hid (show (xs.drop k).length = n - k by rw [List.length_drop, HN.out])
  have HIL := Lib.hid (show (ins (tx, m, cv, ii) xs).length = n + 1 by rw [HI.out, List.length_append, List.length_append, N1.out, N3.out]; simp; omega)
  obtain ⟨ad, had, e0, e1, e2, e3⟩ := hbx.here (i := 0) (by simp)
  cases had
  simp only [List.getElem_cons_zero, Nat.zero_mul, add_at, Nat.zero_add] at e0 e1 e2 e3
  have hs4 : S4 W.heap.size tx m cv ii (W.alloc (.cells #[.int .i64 tx, .int .i64 m, .bool cv, .bool ii] 61)) := ⟨e0, e1, e2, e3⟩
  have HS4 := Lib.hid hs4
  have HL1 := Lib.hid (show (xs.take k ++ [(tx, m, cv, ii)]).length = k + 1 by rw [List.length_append, N1.out]; rfl)
  have HSZ := Lib.hid (show Below W.heap.size W (W.alloc (.cells #[.int .i64 tx, .int .i64 m, .bool cv, .bool ii] 61)) from HX.out)
  clear hr hx hbx hSA hn H1 H3 e0 e1 e2 e3 hs4
  cases A with
  | none =>
    obtain rfl : c = 0 := HR.out.nil rfl
    obtain rfl : n = 0 := by omega
    obtain rfl : k = 0 := by omega
    obtain rfl : SA = none := by rw [← HSA.out]; rfl
    go_enter Tryz.func167, Tryz.ntmps167
    go_wp2_with (go_at_call 164; ((with_reducible refine HP.out.mono ?_); rintro e w' ⟨rfl, rfl⟩))
    generalize W.heap.size = Bx at HS4 ⊢
    generalize W.alloc (.cells #[.int .i64 tx, .int .i64 m, .bool cv, .bool ii] 61) = w1 at *
    go_region_held3 (SB Bx tx m cv ii w1) (first | exact sb_drew HS4.out | exact sb_box HS4.out | exact sb_alloc HS4.out hsa | assumption | fail) (first
          | (refine step_nil (base := w1.heap.size) (A := none) (c := 0) (n := 0) (ys := xs.take 0) ?h1 (.const (.slice none 0 0)) (.tmp 12) ?h2 ?h3 ?h4 ?h5 N1.out ?h6 ?h7 ?_; rotate_right; (case h1 => rfl); (case h2 => rfl); (case h3 => kernel_rfl); (case h4 => kernel_rfl); (case h5 => first | exact L1.out.below (drew_below w1 1) | exact (L1.out.below (box_below w1 _)).drewN 1); (case h6 => omega); (case h7 => first | exact Nat.le_refl _ | simp); intro A1 c1 wa hra hba; have hsa : SB Bx tx m cv ii w1 wa := (by first | exact sb_full HS4.out (sb_drew HS4.out) hba | exact sb_full HS4.out (sb_box HS4.out) hba))
          | (refine step_row (base := w1.heap.size) (A := some ⟨wa.heap.size, 0, none⟩) (A0 := A1) (c0 := c1) (c := 1) (n := 1) (m := 0) (q := 0 + 1) (xs := xs.take 0) (ys := [(tx, m, cv, ii)]) ?h1 (.tmp 13) (.tmp 15) ?h2 ?h3 ?h4 ?h5 ?h6 N1.out rfl rfl ?h7 ?h8 ?_; rotate_right; (case h1 => rfl); (case h2 => rfl); (case h3 => kernel_rfl); (case h4 => kernel_rfl); (case h5 => exact row_below hra (box_below _ _)); (case h6 => exact box_ls wa (tx, m, cv, ii)); (case h7 => omega); (case h8 => exact (sb_bel (sb_alloc HS4.out hsa)).size); intro A2 c2 wb hrb hbb; have hsb : SB Bx tx m cv ii w1 wb := sb_app HS4.out (sb_alloc HS4.out hsa) hbb)
          | (refine step_row (base := w1.heap.size) (A := some ⟨w1.heap.size, 0, none⟩) (A0 := A1) (c0 := c1) (c := 1) (n := 1) (m := 0) (q := 0 + 1) (xs := xs.take 0) (ys := [(tx, m, cv, ii)]) ?h1 (.tmp 13) (.tmp 15) ?h2 ?h3 ?h4 ?h5 ?h6 N1.out rfl rfl ?h7 ?h8 ?_; rotate_right; (case h1 => rfl); (case h2 => rfl); (case h3 => kernel_rfl); (case h4 => kernel_rfl); (case h5 => exact hra); (case h6 => exact ((box_ls w1 (tx, m, cv, ii)).drewN 1).below hba); (case h7 => omega); (case h8 => exact (sb_bel hsa).size); intro A2 c2 wb hrb hbb; have hsb : SB Bx tx m cv ii w1 wb := sb_app HS4.out hsa hbb)
          | (refine step_row (base := w1.heap.size) (A := none) (A0 := A2) (c0 := c2) (c := 0) (n := 0) (m := 0 + 1) (q := 1) (xs := xs.take 0 ++ [(tx, m, cv, ii)]) (ys := xs.drop 0) ?h1 (.tmp 16) (.tmp 19) ?h2 ?h3 ?h4 ?h5 ?h6 ?h9 N3.out ?h10 ?h7 ?h8 ?_; rotate_right; (case h1 => rfl); (case h2 => rfl); (case h3 => kernel_rfl); (case h4 => kernel_rfl); (case h5 => exact hrb); (case h6 => exact L3.out.below (sb_bel hsb)); (case h7 => omega); (case h8 => exact (sb_bel hsb).size); (case h9 => exact HL1.out); (case h10 => omega); intro A3 c3 wc hrc hbc; have hsc : SB Bx tx m cv ii w1 wc := sb_app HS4.out hsb hbc) | fail)
    all_goals
      obtain ⟨A4, c4, hv, hls⟩ := (show ∃ A c, Value.slice A3 (1) c3 = .slice A (ins (tx, m, cv, ii) xs).length c ∧ Ls wc A c (ins (tx, m, cv, ii) xs) by rw [HI.out]; exact hrc.ls)
      have HB := Lib.hid (HSZ.out.trans ((sb_bel hsc).mono HSZ.out.size))
      have HV := Lib.hid hv
      have HL := Lib.hid hls
      clear hv hls hra hba hrb hbb hrc hbc hsa hsb hsc
      go_wp2_with fail
      go_ret
      exact ⟨A4, c4, by rw [← HV.out]; rfl, HL.out, HB.out⟩
  | some a =>
    by_cases hck : c = k
    · obtain rfl : n = c := by omega
      obtain rfl : k = n := by omega
      obtain rfl : SA = some a := by rw [← HSA.out]; unfold tlA; rw [if_pos rfl]
      replace L3 := Lib.hid L3.out
      rw [Nat.sub_self] at L3 N3
      clear hck
      go_enter Tryz.func167, Tryz.ntmps167
      go_wp2_with (go_at_call 164; ((with_reducible refine HP.out.mono ?_); rintro e w' ⟨rfl, rfl⟩))
      generalize W.heap.size = Bx at HS4 ⊢
      generalize W.alloc (.cells #[.int .i64 tx, .int .i64 m, .bool cv, .bool ii] 61) = w1 at *
      go_region_held3 (SB Bx tx m cv ii w1) (first | exact sb_drew HS4.out | exact sb_box HS4.out | exact sb_alloc HS4.out hsa | assumption | fail) (first
            | (refine step_nil (base := w1.heap.size) (A := some a) (c := k) (n := k) (ys := xs.take k) ?h1 (.const (.slice none 0 0)) (.tmp 12) ?h2 ?h3 ?h4 ?h5 N1.out ?h6 ?h7 ?_; rotate_right; (case h1 => rfl); (case h2 => rfl); (case h3 => kernel_rfl); (case h4 => kernel_rfl); (case h5 => first | exact L1.out.below (drew_below w1 1) | exact (L1.out.below (box_below w1 _)).drewN 1); (case h6 => omega); (case h7 => first | exact Nat.le_refl _ | simp); intro A1 c1 wa hra hba; have hsa : SB Bx tx m cv ii w1 wa := (by first | exact sb_full HS4.out (sb_drew HS4.out) hba | exact sb_full HS4.out (sb_box HS4.out) hba))
            | (refine step_row (base := w1.heap.size) (A := some ⟨wa.heap.size, 0, none⟩) (A0 := A1) (c0 := c1) (c := 1) (n := 1) (m := k) (q := k + 1) (xs := xs.take k) (ys := [(tx, m, cv, ii)]) ?h1 (.tmp 13) (.tmp 15) ?h2 ?h3 ?h4 ?h5 ?h6 N1.out rfl rfl ?h7 ?h8 ?_; rotate_right; (case h1 => rfl); (case h2 => rfl); (case h3 => kernel_rfl); (case h4 => kernel_rfl); (case h5 => exact row_below hra (box_below _ _)); (case h6 => exact box_ls wa (tx, m, cv, ii)); (case h7 => omega); (case h8 => exact (sb_bel (sb_alloc HS4.out hsa)).size); intro A2 c2 wb hrb hbb; have hsb : SB Bx tx m cv ii w1 wb := sb_app HS4.out (sb_alloc HS4.out hsa) hbb)
            | (refine step_row (base := w1.heap.size) (A := some ⟨w1.heap.size, 0, none⟩) (A0 := A1) (c0 := c1) (c := 1) (n := 1) (m := k) (q := k + 1) (xs := xs.take k) (ys := [(tx, m, cv, ii)]) ?h1 (.tmp 13) (.tmp 15) ?h2 ?h3 ?h4 ?h5 ?h6 N1.out rfl rfl ?h7 ?h8 ?_; rotate_right; (case h1 => rfl); (case h2 => rfl); (case h3 => kernel_rfl); (case h4 => kernel_rfl); (case h5 => exact hra); (case h6 => exact ((box_ls w1 (tx, m, cv, ii)).drewN 1).below hba); (case h7 => omega); (case h8 => exact (sb_bel hsa).size); intro A2 c2 wb hrb hbb; have hsb : SB Bx tx m cv ii w1 wb := sb_app HS4.out hsa hbb)
            | (refine step_row (base := w1.heap.size) (A := some a) (A0 := A2) (c0 := c2) (c := 0) (n := 0) (m := k + 1) (q := k + 1) (xs := xs.take k ++ [(tx, m, cv, ii)]) (ys := xs.drop k) ?h1 (.tmp 16) (.tmp 19) ?h2 ?h3 ?h4 ?h5 ?h6 ?h9 N3.out ?h10 ?h7 ?h8 ?_; rotate_right; (case h1 => rfl); (case h2 => rfl); (case h3 => kernel_rfl); (case h4 => kernel_rfl); (case h5 => exact hrb); (case h6 => exact L3.out.below (sb_bel hsb)); (case h7 => omega); (case h8 => exact (sb_bel hsb).size); (case h9 => exact HL1.out); (case h10 => omega); intro A3 c3 wc hrc hbc; have hsc : SB Bx tx m cv ii w1 wc := sb_app HS4.out hsb hbc) | fail)
      all_goals
        obtain ⟨A4, c4, hv, hls⟩ := (show ∃ A c, Value.slice A3 (k + 1) c3 = .slice A (ins (tx, m, cv, ii) xs).length c ∧ Ls wc A c (ins (tx, m, cv, ii) xs) by rw [HI.out]; exact hrc.ls)
        have HB := Lib.hid (HSZ.out.trans ((sb_bel hsc).mono HSZ.out.size))
        have HV := Lib.hid hv
        have HL := Lib.hid hls
        clear hv hls hra hba hrb hbb hrc hbc hsa hsb hsc
        go_wp2_with fail
        go_ret
        exact ⟨A4, c4, by rw [← HV.out]; rfl, HL.out, HB.out⟩
    · obtain rfl : SA = some (a.add (k * 4)) := by rw [← HSA.out]; unfold tlA; rw [if_neg hck]; rfl
      go_enter Tryz.func167, Tryz.ntmps167
      go_wp2_with (go_at_call 164; ((with_reducible refine HP.out.mono ?_); rintro e w' ⟨rfl, rfl⟩))
      generalize W.heap.size = Bx at HS4 ⊢
      generalize W.alloc (.cells #[.int .i64 tx, .int .i64 m, .bool cv, .bool ii] 61) = w1 at *
      go_region_held3 (SB Bx tx m cv ii w1) (first | exact sb_drew HS4.out | exact sb_box HS4.out | exact sb_alloc HS4.out hsa | assumption | fail) (first
            | (refine step_nil (base := w1.heap.size) (A := some a) (c := c) (n := k) (ys := xs.take k) ?h1 (.const (.slice none 0 0)) (.tmp 12) ?h2 ?h3 ?h4 ?h5 N1.out ?h6 ?h7 ?_; rotate_right; (case h1 => rfl); (case h2 => rfl); (case h3 => kernel_rfl); (case h4 => kernel_rfl); (case h5 => first | exact L1.out.below (drew_below w1 1) | exact (L1.out.below (box_below w1 _)).drewN 1); (case h6 => omega); (case h7 => first | exact Nat.le_refl _ | simp); intro A1 c1 wa hra hba; have hsa : SB Bx tx m cv ii w1 wa := (by first | exact sb_full HS4.out (sb_drew HS4.out) hba | exact sb_full HS4.out (sb_box HS4.out) hba))
            | (refine step_row (base := w1.heap.size) (A := some ⟨wa.heap.size, 0, none⟩) (A0 := A1) (c0 := c1) (c := 1) (n := 1) (m := k) (q := k + 1) (xs := xs.take k) (ys := [(tx, m, cv, ii)]) ?h1 (.tmp 13) (.tmp 15) ?h2 ?h3 ?h4 ?h5 ?h6 N1.out rfl rfl ?h7 ?h8 ?_; rotate_right; (case h1 => rfl); (case h2 => rfl); (case h3 => kernel_rfl); (case h4 => kernel_rfl); (case h5 => exact row_below hra (box_below _ _)); (case h6 => exact box_ls wa (tx, m, cv, ii)); (case h7 => omega); (case h8 => exact (sb_bel (sb_alloc HS4.out hsa)).size); intro A2 c2 wb hrb hbb; have hsb : SB Bx tx m cv ii w1 wb := sb_app HS4.out (sb_alloc HS4.out hsa) hbb)
            | (refine step_row (base := w1.heap.size) (A := some ⟨w1.heap.size, 0, none⟩) (A0 := A1) (c0 := c1) (c := 1) (n := 1) (m := k) (q := k + 1) (xs := xs.take k) (ys := [(tx, m, cv, ii)]) ?h1 (.tmp 13) (.tmp 15) ?h2 ?h3 ?h4 ?h5 ?h6 N1.out rfl rfl ?h7 ?h8 ?_; rotate_right; (case h1 => rfl); (case h2 => rfl); (case h3 => kernel_rfl); (case h4 => kernel_rfl); (case h5 => exact hra); (case h6 => exact ((box_ls w1 (tx, m, cv, ii)).drewN 1).below hba); (case h7 => omega); (case h8 => exact (sb_bel hsa).size); intro A2 c2 wb hrb hbb; have hsb : SB Bx tx m cv ii w1 wb := sb_app HS4.out hsa hbb)
            | (refine step_row (base := w1.heap.size) (A := some (a.add (k * 4))) (A0 := A2) (c0 := c2) (c := (c - k)) (n := (n - k)) (m := k + 1) (q := n + 1) (xs := xs.take k ++ [(tx, m, cv, ii)]) (ys := xs.drop k) ?h1 (.tmp 16) (.tmp 19) ?h2 ?h3 ?h4 ?h5 ?h6 ?h9 N3.out ?h10 ?h7 ?h8 ?_; rotate_right; (case h1 => rfl); (case h2 => rfl); (case h3 => kernel_rfl); (case h4 => kernel_rfl); (case h5 => exact hrb); (case h6 => exact L3.out.below (sb_bel hsb)); (case h7 => omega); (case h8 => exact (sb_bel hsb).size); (case h9 => exact HL1.out); (case h10 => omega); intro A3 c3 wc hrc hbc; have hsc : SB Bx tx m cv ii w1 wc := sb_app HS4.out hsb hbc) | fail)
      all_goals
        obtain ⟨A4, c4, hv, hls⟩ := (show ∃ A c, Value.slice A3 (n + 1) c3 = .slice A (ins (tx, m, cv, ii) xs).length c ∧ Ls wc A c (ins (tx, m, cv, ii) xs) by rw [HI.out]; exact hrc.ls)
        have HB := Lib.hid (HSZ.out.trans ((sb_bel hsc).mono HSZ.out.size))
        have HV := Lib.hid hv
        have HL := Lib.hid hls
        clear hv hls hra hba hrb hbb hrc hbc hsa hsb hsc
        go_wp2_with fail
        go_ret
        exact ⟨A4, c4, by rw [← HV.out]; rfl, HL.out, HB.out⟩
end
end Go.Proofs.YtlhhopanegnliaaGreatDoor.Ws
/- Two lists that are alike; whether no number is there twice (by a map). -/
namespace Go.Proofs.YtlhhopanegnliaaGreatDoor.Ws
open Go Go.RowKit Go.Shelf

set_option maxRecDepth 100000 in
@[go_sem ↓] theorem eq24 (n : Nat) (w : World) (x y : Int) (a b : Bool) :
    (Op.equalIn (n + 3) 61 (.agg #[.int .i64 x, .int .i64 y, .bool a, .bool b]) (.agg #[.int .i64 x, .int .i64 y, .bool a, .bool b])).run Tryz.prog w = .ok true w := by
  rw [run_equalIn_struct w (n + 2) 61 _ _ (by kernel_rfl) (by kernel_rfl)]
  simp [go_sem, run_equalIn_int (h := Tryz.underlying3)]
section
variable {W W' : World} {A1 A2 : Option Addr} {c1 c2 : Nat} {xs : List Wt}
set_option maxHeartbeats 1000000 in
theorem same_any (h1 : Ls W A1 c1 xs) (h2 : Ls W A2 c2 xs) (hl : xs.length ≤ 5000) : Calls Tryz.prog 42 #[.slice A1 xs.length c1, .slice A2 xs.length c2] W fun e w' => e = .returned (.bool true) ∧ Below W.heap.size W w' := by
  have H1 := Lib.hid h1
  have H2 := Lib.hid h2
  clear h1 h2
  obtain ⟨n, hn⟩ : ∃ n, xs.length = n := ⟨_, rfl⟩
  rw [hn] at hl ⊢
  have HN := Lib.hid hn
  clear hn
  go_enter Tryz.func42, Tryz.ntmps42
  go_wp2
  go_loopw [13] (fun t wr => ∃ k : Nat, k ≤ n ∧ t = .int .i64 k ∧ ∃ j, wr = W.drewN j) (fun t _ => n - (intOf t).toNat)
  case atStart => exact ⟨0, by omega, rfl, 0, rfl⟩
  case round =>
    obtain ⟨k, hk, rfl, j, rfl⟩ := hrel
    by_cases hlt : k < n
    · have hlt' : k < xs.length := by rw [HN.out]; exact hlt
      obtain ⟨g1, rfl, e1⟩ := (H1.out.drewN j).here hlt'
      obtain ⟨g2, rfl, e2⟩ := (H2.out.drewN j).here hlt'
      generalize xs[k] = x at e1 e2
      obtain ⟨t, m, cv, ii⟩ := x
      obtain ⟨a0, a1, a2, a3⟩ := e1
      obtain ⟨b0, b1, b2, b3⟩ := e2
      simp only at a0 a1 a2 a3 b0 b1 b2 b3
      generalize hX : W.drewN j = X at a0 a1 a2 a3 b0 b1 b2 b3 ⊢
      have HX := Lib.hid hX
      clear hX hlt'
      go_wp2
      go_quiet (fail)
      have HE := Lib.hid (show X.drewN nq = W.drewN (j + nq) by rw [← HX.out]; simp [World.drewN]; omega)
      generalize X.drewN nq = Y at HE ⊢
      clear a0 a1 a2 a3 b0 b1 b2 b3
      go_wp2
      go_roundw
      case rel => exact ⟨k + 1, by omega, by go_num, j + nq, HE.out⟩
      case measure => simp [intOf]; omega
    · obtain rfl : k = n := by omega
      go_wp2
      go_ret
      exact ⟨rfl, drew_below W j⟩
end
/-- a number that fits -/
abbrev wf64 (x : Int) : Prop := (Lit.int .i64 x).wf = true
def RE (_ : Value) : Option (DataW Unit × List MemPlace) := some (.agg [], [])
/-- a map that has these numbers, and no others -/
def MapAt (W : World) (b n : Nat) (ids : List Int) : Prop :=
  ∃ D : DataW Unit, W.ownsMap Tryz.prog 3 RE b n D ∧ Maps.size D = ids.length ∧ ∀ i : Int, Maps.has D (.int .i64 i) = decide (i ∈ ids)
theorem MapAt.made (W : World) : MapAt (W.alloc (.map #[] 0)) W.heap.size 0 [] := ⟨.map [], World.ownsMap_made W Tryz.prog 3 _, rfl, fun _ => rfl⟩
theorem MapAt.keep {W W' : World} {b n : Nat} {ids : List Int} (h : MapAt W b n ids) (hb : W'.heap[b]? = W.heap[b]?) : MapAt W' b n ids := by
  obtain ⟨D, ⟨es, clock, h1, h2⟩, h3⟩ := h
  exact ⟨D, ⟨es, clock, hb.trans h1, h2⟩, h3⟩
theorem MapAt.lt {W : World} {b n : Nat} {ids : List Int} (h : MapAt W b n ids) : b < W.heap.size := by
  obtain ⟨D, h1, _⟩ := h
  exact h1.lt
/-- which numbers have been seen -/
structure Seen (xs : List Wt) (k : Nat) (ids : List Int) : Prop where
  mem : ∀ i, i ∈ ids ↔ i ∈ (xs.take k).map (·.1)
  le : ids.length ≤ k
  all : ids.length = k ↔ ((xs.take k).map (·.1)).Nodup
theorem Seen.start (xs : List Wt) : Seen xs 0 [] := ⟨by simp, Nat.le_refl _, by simp⟩
theorem Seen.next {xs : List Wt} {k : Nat} {ids : List Int} (h : Seen xs k ids) (hk : k < xs.length) : Seen xs (k + 1) (if xs[k].1 ∈ ids then ids else xs[k].1 :: ids) := by
  have e : (xs.take (k + 1)).map (·.1) = (xs.take k).map (·.1) ++ [xs[k].1] := by rw [List.take_succ_eq_append_getElem hk, List.map_append]; rfl
  have hle := h.le
  have hm := h.mem xs[k].1
  by_cases hn : xs[k].1 ∈ ids
  · rw [if_pos hn]
    refine ⟨fun i => ?_, by omega, ?_⟩
    · rw [e, List.mem_append, ← h.mem i]
      constructor
      · exact .inl
      · rintro (hi | hi)
        · exact hi
        · rw [List.mem_singleton.1 hi]; exact hn
    · rw [e]
      constructor
      · intro hl; omega
      · intro hd
        have := (List.nodup_append.1 hd).2.2 _ (hm.1 hn) _ (List.mem_singleton.2 rfl)
        exact absurd rfl this
  · rw [if_neg hn]
    refine ⟨fun i => ?_, by simp; omega, ?_⟩
    · rw [e, List.mem_append, List.mem_cons, ← h.mem i, List.mem_singleton]
      exact Or.comm
    · rw [e, List.length_cons, List.nodup_append]
      constructor
      · intro hl
        refine ⟨h.all.1 (by omega), by simp, ?_⟩
        intro a ha b hb hab
        rw [List.mem_singleton.1 hb] at hab
        subst hab
        exact hn (hm.2 ha)
      · rintro ⟨hd, -, -⟩
        have := h.all.2 hd
        omega
/-- whether no number is there twice -/
def onceB (xs : List Wt) : Bool := decide ((xs.map (·.1)).Nodup)
section
variable {W W' : World} {A : Option Addr} {c : Nat} {xs : List Wt}
end
end Go.Proofs.YtlhhopanegnliaaGreatDoor.Ws
