import Derived.Test.YtlhhopanegnliaaGreatDoorZIl
import Derived.Maps.AppendAt
import Derived.Lib.AppendZeros
import Derived.Lib.SliceRun
import Derived.ArgAppend
import Derived.Deep.RegionLaw
namespace Go.Proofs.YtlhhopanegnliaaGreatDoor.Od
open Go

variable {α : Type} [DecidableEq α] {lt : α → α → Bool} {l a b : List α} {x y : α}
structure Ordr (lt : α → α → Bool) : Prop where
  irr : ∀ a, lt a a = false
  tr : ∀ a b c, lt a b = true → lt b c = true → lt a c = true
  tot : ∀ a b, lt a b = false → lt b a = false → a = b
def Asc (lt : α → α → Bool) (l : List α) : Prop := l.Pairwise fun a b => lt a b = true
def ins (lt : α → α → Bool) (x : α) : List α → List α
  | [] => [x]
  | y :: ys => if lt y x then y :: ins lt x ys else if y = x then y :: ys else x :: y :: ys
def can (lt : α → α → Bool) (l : List α) : List α := l.foldl (fun out x => ins lt x out) []
theorem can_snoc (l : List α) (x : α) : can lt (l ++ [x]) = ins lt x (can lt l) := by simp [can]
theorem ins_mem : y ∈ ins lt x l ↔ y = x ∨ y ∈ l := by
  induction l with
  | nil => simp [ins]
  | cons z zs ih =>
    unfold ins
    split
    · simp only [List.mem_cons, ih]
      constructor
      · rintro (h | h | h)
        · exact .inr (.inl h)
        · exact .inl h
        · exact .inr (.inr h)
      · rintro (h | h | h)
        · exact .inr (.inl h)
        · exact .inl h
        · exact .inr (.inr h)
    · split
      · rename_i h
        subst h
        simp
      · simp
theorem ins_asc (o : Ordr lt) (h : Asc lt l) : Asc lt (ins lt x l) := by
  induction l with
  | nil => exact List.pairwise_singleton _ _
  | cons z zs ih =>
    obtain ⟨h1, h2⟩ := List.pairwise_cons.1 h
    unfold ins
    split
    · rename_i hz
      refine List.pairwise_cons.2 ⟨fun y hy => ?_, ih h2⟩
      rcases ins_mem.1 hy with rfl | hy
      · exact hz
      · exact h1 y hy
    · split
      · exact h
      · rename_i hz hne
        have hxz : lt x z = true := by
          cases e : lt x z
          · exact absurd (o.tot z x (by simpa using hz) e) hne
          · rfl
        refine List.pairwise_cons.2 ⟨fun y hy => ?_, h⟩
        rcases List.mem_cons.1 hy with rfl | hy
        · exact hxz
        · exact o.tr _ _ _ hxz (h1 y hy)
theorem can_asc (o : Ordr lt) (l : List α) : Asc lt (can lt l) := by
  have : ∀ (l s : List α), Asc lt s → Asc lt (l.foldl (fun out x => ins lt x out) s) := by
    intro l
    induction l with
    | nil => exact fun _ h => h
    | cons z zs ih => exact fun s h => ih _ (ins_asc o h)
  exact this l [] List.Pairwise.nil
theorem ins_len (x : α) (l : List α) : (ins lt x l).length ≤ l.length + 1 := by
  induction l with
  | nil => exact Nat.le_refl _
  | cons z zs ih =>
    unfold ins
    split
    · simpa using ih
    · split
      · simp
      · simp
theorem can_len (l : List α) : (can lt l).length ≤ l.length := by
  have : ∀ (l s : List α), (l.foldl (fun out x => ins lt x out) s).length ≤ s.length + l.length := by
    intro l
    induction l with
    | nil => exact fun s => Nat.le_refl _
    | cons z zs ih =>
      intro s
      have h1 := ih (ins lt z s)
      have h2 := ins_len (lt := lt) z s
      rw [List.foldl_cons, List.length_cons]
      omega
  have := this l []
  unfold can
  simpa using this
theorem ins_at (o : Ordr lt) : ∀ {l : List α} {k : Nat}, (∀ j (_ : j < k) (h : j < l.length), lt l[j] x = true) → (h : k < l.length) → l[k] = x → ins lt x l = l
  | y :: ys, 0, _, _, e => by
    simp only [List.getElem_cons_zero] at e
    subst e
    unfold ins
    rw [o.irr]
    simp
  | y :: ys, k + 1, hl, h, e => by
    have h0 := hl 0 (by omega) (by simp)
    simp only [List.getElem_cons_zero] at h0
    simp only [List.getElem_cons_succ] at e
    unfold ins
    rw [if_pos h0, ins_at o (k := k) (fun j hj hjl => by have := hl (j + 1) (by omega) (by simpa using hjl); simpa using this) (by simpa using h) e]
theorem ins_new : ∀ {l : List α} {k : Nat}, k ≤ l.length → (∀ j (_ : j < k) (h : j < l.length), lt l[j] x = true) → (∀ h : k < l.length, lt l[k] x = false ∧ l[k] ≠ x) → ins lt x l = l.take k ++ x :: l.drop k
  | [], k, h0, _, _ => by
    obtain rfl : k = 0 := by simpa using h0
    rfl
  | y :: ys, 0, _, _, h => by
    obtain ⟨h1, h2⟩ := h (by simp)
    simp only [List.getElem_cons_zero] at h1 h2
    unfold ins
    rw [h1, if_neg (by simp), if_neg h2]
    rfl
  | y :: ys, k + 1, hk, hl, h => by
    have h0 := hl 0 (by omega) (by simp)
    simp only [List.getElem_cons_zero] at h0
    unfold ins
    rw [if_pos h0, ins_new (k := k) (by simpa using hk) (fun j hj hjl => by have := hl (j + 1) (by omega) (by simpa using hjl); simpa using this) (fun hh => by have := h (by simpa using hh); simpa using this)]
    simp
def Srt (lt : α → α → Bool) (l : List α) : Prop := l.Pairwise fun a b => lt b a = false
omit [DecidableEq α] in
theorem take_last (xs : List α) {m : Nat} (hm : m < xs.length) : xs.take (m + 1) = xs.take m ++ [xs[m]] := List.take_succ_eq_append_getElem hm
end Go.Proofs.YtlhhopanegnliaaGreatDoor.Od
namespace Go.Proofs.YtlhhopanegnliaaGreatDoor.Is
open Go Go.RowKit Go.Shelf
set_option maxRecDepth 100000

abbrev enc : Int → Value := Value.int .i64
def flat (xs : List Int) : List Value := xs.map enc
theorem flat_length (xs : List Int) : (flat xs).length = xs.length * 1 := by simp [flat]
theorem flat_append (xs ys : List Int) : flat (xs ++ ys) = flat xs ++ flat ys := by simp [flat]
theorem flat_at (xs : List Int) (i : Nat) (h : i < xs.length) : (flat xs)[i]? = some (enc xs[i]) := by simp [flat, h]
theorem flat_one (xs : List Int) : ∀ u ∈ flat xs, u.oneCell' = true := by
  intro u hu
  obtain ⟨x, -, rfl⟩ := List.mem_map.1 hu
  rfl
theorem info3 : (Tryz.prog.info? 3).map (fun i => (i.zero, i.size, i.bytes)) = some (some (.int .i64 0), 1, 8) := by kernel_rfl
structure Ls (W : World) (A : Option Addr) (c : Nat) (xs : List Int) : Prop where
  cap : xs.length ≤ c
  room : c ≤ maxLen
  nil : A = none → c = 0
  at' : ∀ a, A = some a → ∀ j u, (flat xs)[j]? = some u → W.cell? (a.add j) = some u
section
variable {W W' : World} {A : Option Addr} {c K : Nat} {xs ys : List Int}
theorem Ls.empty (h : Ls W none c xs) : xs = [] := by
  have h1 := h.cap
  have h2 := h.nil rfl
  exact List.length_eq_zero_iff.1 (by omega)
theorem Ls.below (h : Ls W A c xs) (hb : Below W.heap.size W W') : Ls W' A c xs :=
  ⟨h.cap, h.room, h.nil, fun a ha j u hj => by
    have := h.at' a ha j u hj
    rw [World.cell?_of_block (w := W) (a := a.add j) (hb.block _ (cell_lt this))]
    exact this⟩
theorem Ls.drewN (h : Ls W A c xs) (k : Nat) : Ls (W.drewN k) A c xs := ⟨h.cap, h.room, h.nil, h.at'⟩
theorem Ls.here (h : Ls W A c xs) {i : Nat} (hi : i < xs.length) : ∃ a, A = some a ∧ W.cell? (a.add i) = some (.int .i64 xs[i]) := by
  cases A with
  | none => have := h.empty; subst this; simp at hi
  | some a => exact ⟨a, rfl, h.at' a rfl _ _ (flat_at xs i hi)⟩
abbrev Row (W : World) (K : Nat) (v : Value) (xs : List Int) : Prop := W.ownsRow K 3 1 v xs.length (flat xs)
theorem Row.ls {v : Value} (h : Row W K v xs) : ∃ A c, v = .slice A xs.length c ∧ Ls W A c xs := by
  rcases h.2 with ⟨rfl, h0⟩ | ⟨g, cap, cur, rfl, hb, hg, h1, h2, h3, h4⟩
  · have := List.length_eq_zero_iff.1 h0
    subst this
    exact ⟨none, 0, rfl, Nat.le_refl _, Nat.zero_le _, fun _ => rfl, by simp⟩
  · refine ⟨_, cap, rfl, by omega, h2, by simp, fun a ha j u hj => ?_⟩
    obtain rfl : (⟨g, 0, none⟩ : Addr) = a := by simpa using ha
    exact h.cells (g := g) rfl j u hj
theorem Ls.src (h : Ls W A c ys) : Src Tryz.prog 1 50 (.slice A ys.length c) ys.length (flat ys) W := by
  cases A with
  | none =>
    have := h.empty; subst this
    exact Src.ofNil W Tryz.underlying50 c
  | some a => exact Src.ofSlice W Tryz.underlying50 a ys.length c (flat ys) (flat_length ys) (h.at' a rfl) (flat_one ys)
theorem Row.app {v : Value} (h : Row W K v xs) (hs : Ls W A c ys) (hl : xs.length + ys.length ≤ 1000000) (hK : K ≤ W.heap.size) (ty : TypeId) :
    ∃ v' W', (Builtin.append_ #[50, 50] ty #[v, .slice A ys.length c]).run Tryz.prog W = .ok v' W' ∧ Row W' K v' (xs ++ ys) ∧ W.grownBy W' v.ownBlock ∧ (v'.ownBlock = v.ownBlock ∨ v'.ownBlock = some W.heap.size) := by
  obtain ⟨i0, hi, hz0, hz1, hz2⟩ := info_parts info3
  cases A with
  | none =>
    have := hs.empty; subst this
    have hc := hs.nil rfl
    subst hc
    obtain ⟨A', c', rfl, hls⟩ := h.ls
    exact ⟨_, W, run_append_nothing (P := Tryz.prog) W 50 50 ty 3 i0 Tryz.underlying50 hi A' xs.length c' hls.cap _ (by rw [hz1]; exact hs.src), by rw [List.append_nil]; exact h, ⟨rfl, rfl, rfl, Nat.le_refl _, fun _ _ _ => rfl⟩, .inl rfl⟩
  | some a =>
    obtain ⟨v', W', h1, h2, h3, -, h5⟩ := run_append_own_at (P := Tryz.prog) W K 50 ty 3 i0 _ 1 8 Tryz.underlying50 hi hz0 hz1 hz2 rfl (by decide) v xs.length (flat xs) h a ys.length c (flat ys) (flat_length ys) (hs.at' a rfl) (flat_one ys) (by unfold maxLen; omega) (by omega) hK
    refine ⟨v', W', h1, ?_, h3, h5⟩
    unfold Row
    rw [flat_append, List.length_append]
    exact h2
theorem Row.app_below {v : Value} (h : Row W K v xs) (hg : W.grownBy W' v.ownBlock) (hK : K ≤ W.heap.size) : Below K W W' :=
  OnlyS.below (S := fun k => v.ownBlock = some k) ((OnlyS.refl _ W).grown hg fun _ hk => .inl hk) (fun k hk => (h.lt k hk).1) hK
theorem box_ls (W : World) (x : Int) : Ls (W.alloc (.cells #[.int .i64 x] 3)) (some ⟨W.heap.size, 0, none⟩) 1 [x] := by
  refine ⟨Nat.le_refl _, by decide, by simp, fun a ha j u hj => ?_⟩
  obtain rfl : (⟨W.heap.size, 0, none⟩ : Addr) = a := by simpa using ha
  rw [add_at]
  match j, hj with
  | 0, hj => simp [flat] at hj; subst hj; simp [go_sem]
  | j + 1, hj => simp [flat] at hj
end
structure Kp (W : World) (l : List Int) (v : Value) (w1 : World) : Prop where
  row : Row w1 W.heap.size v l
  bel : Below W.heap.size W w1
section
variable {W W' : World} {A : Option Addr} {c : Nat} {xs l : List Int} {v : Value}
theorem Kp.nil (W : World) : Kp W [] (.slice none 0 0) W := ⟨World.ownsRow_nil _ _ _ _, Below.refl _ _⟩
theorem Kp.below (h : Kp W l v W') {w2 : World} (hb : Below W'.heap.size W' w2) : Kp W l v w2 := ⟨row_below h.row hb, h.bel.trans (hb.mono h.bel.size)⟩
end
def ltI (a b : Int) : Bool := decide (a < b)
theorem ordI : Od.Ordr ltI where
  irr a := by simp [ltI]
  tr a b c h1 h2 := by simp only [ltI, decide_eq_true_iff] at *; omega
  tot a b h1 h2 := by simp only [ltI, decide_eq_false_iff_not] at *; omega
def Rows (W : World) (xs : List Int) (e : Ending) (w' : World) : Prop := ∃ v, e = .returned v ∧ Row w' W.heap.size v xs ∧ Below W.heap.size W w'
theorem step_append {P : Program} {ops : Array Oper} {o : Oper} {a : Act} {w : World} {K : Act → World → Prop} {Q : Exit → Act → World → Prop} {E : Prop}
    (hg : o.guard = none) (s x : Operand) (t : TypeId) (hop : o.op = Op.call { callee := Callee.builtin Builtin.append, args := #[s, x], argTypes := #[t, t] })
    (vs vx : Value) (hs : a.eval s = vs) (hx : a.eval x = vx) (v' : Value) (w' : World) (hrun : (Builtin.append_ #[t, t] o.type #[vs, vx]).run P w = .ok v' w') (hK : K (a.put o.dst v') w') :
    if Region.wanted o (yielded ops a.tmps) = true then Oper.wp P o a w K Q else E := by
  have hw : Region.wanted o (yielded ops a.tmps) = true := by simp [Region.wanted, hg]
  rw [if_pos hw]
  unfold Oper.wp
  simp [execOp, hop, resolve, invoke, builtin, hs, hx, hrun, Result.andThen]
  exact hK
section
variable {W Y : World} {g c k : Nat} {A : Option Addr} {xs ys : List Int}
theorem Ls.head (h : Ls W A c xs) (k : Nat) : Ls W A c (xs.take k) := by
  refine ⟨by rw [List.length_take]; have := h.cap; omega, h.room, h.nil, fun a ha j u hj => h.at' a ha j u ?_⟩
  have hj1 := (List.getElem?_eq_some_iff.1 hj).1
  have e : flat xs = flat (xs.take k) ++ flat (xs.drop k) := by rw [← flat_append, List.take_append_drop]
  rw [e, List.getElem?_append_left hj1]
  exact hj
theorem Ls.none_left (a : Addr) (hc : c ≤ maxLen) : Ls W (some a) c [] := ⟨Nat.zero_le _, hc, by simp, fun _ _ j u hj => by simp [flat] at hj⟩
theorem Ls.tl0 (h : Ls W (some ⟨g, 0, none⟩) c xs) (hk : k ≤ xs.length) : Ls W (some ⟨g, k, none⟩) (c - k) (xs.drop k) := by
  refine ⟨by rw [List.length_drop]; have := h.cap; omega, Nat.le_trans (Nat.sub_le _ _) h.room, by simp, fun b hb j u hj => ?_⟩
  obtain rfl : (⟨g, k, none⟩ : Addr) = b := by simpa using hb
  have e : flat xs = flat (xs.take k) ++ flat (xs.drop k) := by rw [← flat_append, List.take_append_drop]
  have h1 := h.at' _ rfl (k + j) u (by
    rw [e, List.getElem?_append_right (by rw [flat_length, List.length_take]; omega), flat_length, List.length_take, show k + j - min k xs.length * 1 = j by rw [Nat.min_eq_left hk]; omega]
    exact hj)
  rw [add_at] at h1
  have e2 : (⟨g, k, none⟩ : Addr).add j = ⟨g, k + j, none⟩ := by
    unfold Addr.add
    split
    · rename_i h; subst h; simp
    · simp
  rw [e2]
  exact h1
theorem Ls.grow (h : Ls W (some ⟨g, 0, none⟩) c xs) (hk : k ≤ xs.length) {c2 m q : Nat} (hs : Ls W A c2 ys) (hm : ys.length = m) (h0 : 0 < m) (hq : k + m = q) (hl : q ≤ 1000000) (ty : TypeId) :
    ∃ A' c' w', (Builtin.append_ #[50, 50] ty #[.slice (some ⟨g, 0, none⟩) k k, .slice A m c2]).run Tryz.prog W = .ok (.slice A' q c') w' ∧ Row w' W.heap.size (.slice A' q c') (xs.take k ++ ys) ∧ Below W.heap.size W w' := by
  subst hm
  subst hq
  obtain ⟨i0, hi, hz0, hz1, hz2⟩ := info_parts info3
  have hh := h.head k
  have hlen : (xs.take k).length = k := by rw [List.length_take]; omega
  cases A with
  | none => rw [hs.empty] at h0; simp at h0
  | some a =>
    obtain ⟨v', w', hr, hown, hg⟩ := run_append_arg_grows (P := Tryz.prog) W 50 ty 3 i0 _ 1 8 Tryz.underlying50 hi hz0 hz1 hz2 rfl (by decide) ⟨g, 0, none⟩ k k (flat (xs.take k)) (by rw [flat_length, hlen])
      (hh.at' _ rfl) a ys.length c2 (flat ys) (flat_length ys) (hs.at' a rfl) (by omega) (by unfold maxLen; omega) (by omega)
    rw [← flat_append] at hown
    have hl2 : (xs.take k ++ ys).length = k + ys.length := by rw [List.length_append, hlen]
    have hrow : Row w' W.heap.size v' (xs.take k ++ ys) := by unfold Row; rw [hl2]; exact hown
    obtain ⟨A', c', rfl, -⟩ := hrow.ls
    rw [hl2] at hr hrow
    exact ⟨A', c', w', hr, hrow, ⟨hg.os, hg.tape, hg.output, hg.size, fun j hj => hg.block j hj (by simp)⟩⟩
theorem lit_row (W : World) (e : Int) : Row (W.alloc (.cells #[.int .i64 e] 3)) W.heap.size (.slice (some ⟨W.heap.size, 0, none⟩) 1 1) [e] :=
  ⟨rfl, .inr ⟨W.heap.size, 1, _, rfl, Nat.le_refl _, heap_alloc_new W _, Nat.le_refl _, by decide, rfl, rfl⟩⟩
structure Puts (Y : World) (n : Nat) (zs : List Int) (A6 : Option Addr) (c6 : Nat) (w6 : World) : Prop where
  row : Row w6 Y.heap.size (.slice A6 n c6) zs
  bel : Below Y.heap.size Y w6
theorem put_some (h : Ls Y (some ⟨g, 0, none⟩) c xs) (hk : k ≤ xs.length) {n : Nat} (hn : xs.length = n) (hl : n ≤ 900000) (e : Int) (sa : Addr) (hsa : sa = if c = k then ⟨g, 0, none⟩ else ⟨g, k, none⟩) :
    ∃ A5 c5 w5 A6 c6 w6, (Builtin.append_ #[50, 50] 50 #[.slice (some ⟨Y.heap.size, 0, none⟩) 1 1, .slice (some sa) (n - k) (c - k)]).run Tryz.prog (Y.alloc (.cells #[.int .i64 e] 3)) = .ok (.slice A5 (1 + (n - k)) c5) w5 ∧
      (Builtin.append_ #[50, 50] 50 #[.slice (some ⟨g, 0, none⟩) k k, .slice A5 (1 + (n - k)) c5]).run Tryz.prog w5 = .ok (.slice A6 (n + 1) c6) w6 ∧ Puts Y (n + 1) (xs.take k ++ e :: xs.drop k) A6 c6 w6 := by
  subst hn
  have hx := box_below Y (.cells #[.int .i64 e] 3)
  have hcap := h.cap
  have ht : Ls Y (some sa) (c - k) (xs.drop k) := by
    subst hsa
    split
    · rename_i hck
      have : xs.drop k = [] := by rw [List.drop_eq_nil_iff]; omega
      rw [this]
      exact Ls.none_left _ (Nat.le_trans (Nat.sub_le _ _) h.room)
    · exact h.tl0 hk
  have hd : (xs.drop k).length = xs.length - k := List.length_drop
  obtain ⟨v5, w5, hr5, hrow5, hg5, -⟩ := (lit_row Y e).app (ht.below hx) (by rw [hd]; simp; omega) hx.size 50
  have hb5 := (lit_row Y e).app_below hg5 hx.size
  obtain ⟨A5, c5, rfl, hls5⟩ := hrow5.ls
  have hl5 : ([e] ++ xs.drop k).length = 1 + (xs.length - k) := by rw [List.length_append, hd]; rfl
  have hb05 := hx.trans hb5
  obtain ⟨A6, c6, w6, hr6, hrow6, hb6⟩ := (h.below hb05).grow hk hls5 hl5 (by omega) (q := xs.length + 1) (by omega) (by omega) 50
  rw [hd, hl5] at hr5
  exact ⟨A5, c5, w5, A6, c6, w6, hr5, hr6, row_base hrow6 hb05.size, hb05.trans (hb6.mono hb05.size)⟩
theorem put_none (Y : World) (e : Int) : ∃ A6 c6 w6, (Builtin.append_ #[50, 50] 50 #[.slice (some ⟨Y.heap.size, 0, none⟩) 1 1, .slice none 0 0]).run Tryz.prog (Y.alloc (.cells #[.int .i64 e] 3)) = .ok (.slice (some ⟨Y.heap.size, 0, none⟩) 1 1) (Y.alloc (.cells #[.int .i64 e] 3)) ∧
      (Builtin.append_ #[50, 50] 50 #[.slice none 0 0, .slice (some ⟨Y.heap.size, 0, none⟩) 1 1]).run Tryz.prog (Y.alloc (.cells #[.int .i64 e] 3)) = .ok (.slice A6 1 c6) w6 ∧ Puts Y 1 [e] A6 c6 w6 := by
  obtain ⟨i0, hi, hz0, hz1, hz2⟩ := info_parts info3
  have hx := box_below Y (.cells #[.int .i64 e] 3)
  have h5 := run_append_nothing (P := Tryz.prog) (Y.alloc (.cells #[.int .i64 e] 3)) 50 50 50 3 i0 Tryz.underlying50 hi (some ⟨Y.heap.size, 0, none⟩) 1 1 (Nat.le_refl _) (.slice none 0 0) (by rw [hz1]; exact Src.ofNil _ Tryz.underlying50 0)
  obtain ⟨v6, w6, hr6, hrow6, hg6, -⟩ := (show Row (Y.alloc (.cells #[.int .i64 e] 3)) Y.heap.size (.slice none 0 0) [] from World.ownsRow_nil _ _ _ _).app (box_ls Y e) (by simp) hx.size 50
  have hb6 := (show Row (Y.alloc (.cells #[.int .i64 e] 3)) Y.heap.size (.slice none 0 0) [] from World.ownsRow_nil _ _ _ _).app_below hg6 hx.size
  obtain ⟨A6, c6, rfl, -⟩ := hrow6.ls
  exact ⟨A6, c6, w6, h5, hr6, hrow6, hx.trans hb6⟩
end
theorem can_put {xs : List Int} {j k : Nat} {x : Int} {out : List Int} (hj : j < xs.length) (hx : xs[j] = x) (ho : Od.can ltI (xs.take j) = out) (hk : k ≤ out.length) (hl : ∀ i (_ : i < k) (h : i < out.length), ltI out[i] x = true) (hn : ∀ h : k < out.length, ltI out[k] x = false ∧ out[k] ≠ x) :
    Od.can ltI (xs.take (j + 1)) = out.take k ++ x :: out.drop k := by
  rw [Od.take_last xs hj, Od.can_snoc, ho, hx]
  exact Od.ins_new hk hl hn
theorem can_stays {xs : List Int} {j k : Nat} {x : Int} {out : List Int} (hj : j < xs.length) (hx : xs[j] = x) (ho : Od.can ltI (xs.take j) = out) (hl : ∀ i (_ : i < k) (h : i < out.length), ltI out[i] x = true) (hk : k < out.length) (he : out[k] = x) :
    Od.can ltI (xs.take (j + 1)) = out := by
  rw [Od.take_last xs hj, Od.can_snoc, ho, hx]
  exact Od.ins_at ordI hl hk he

section
variable {W : World} {A : Option Addr} {c : Nat} {xs : List Int}
set_option maxHeartbeats 16000000 in
theorem numbers_any (hr : Ls W A c xs) (hl : xs.length ≤ 700000) : Calls Tryz.prog 21 #[.slice A xs.length c] W (Rows W (Od.can ltI xs)) := by
  have HR := Lib.hid hr
  obtain ⟨n, hn⟩ : ∃ n, xs.length = n := ⟨_, rfl⟩
  rw [hn] at hl ⊢
  have HN := Lib.hid hn
  clear hr hn
  go_enter Tryz.func21, Tryz.ntmps21
  go_wp2_with fail
  go_loopw [9, 3] (fun t v wr => ∃ j : Nat, j ≤ n ∧ t = .int .i64 j ∧ Kp W (Od.can ltI (xs.take j)) v wr) (fun t _ _ => n - (intOf t).toNat)
  case atStart => exact ⟨0, by omega, rfl, Kp.nil W⟩
  case round =>
    obtain ⟨j, hj, rfl, hk⟩ := hrel
    by_cases hjn : j < n
    · have hjl : j < xs.length := by rw [HN.out]; exact hjn
      obtain ⟨a, rfl, d0⟩ := (HR.out.below hk.bel).here hjl
      obtain ⟨x, hx⟩ : ∃ x, xs[j] = x := ⟨_, rfl⟩
      obtain ⟨out, ho⟩ : ∃ out, Od.can ltI (xs.take j) = out := ⟨_, rfl⟩
      have HCp := Lib.hid (fun (k : Nat) => can_put (k := k) hjl hx ho)
      have HCs := Lib.hid (fun (k : Nat) => can_stays (k := k) hjl hx ho)
      have hol : out.length ≤ n := by
        rw [← ho]
        refine Nat.le_trans (Od.can_len _) ?_
        rw [List.length_take]
        omega
      rw [hx] at d0
      rw [ho] at hk
      have K1 := Lib.hid hk
      obtain ⟨m, hm⟩ : ∃ m, out.length = m := ⟨_, rfl⟩
      have HM := Lib.hid hm
      rw [hm] at hol
      obtain ⟨A0, c0', hv, hls⟩ := hk.row.ls
      have HL0 := Lib.hid hls
      have hcap := hls.cap
      have hroom := hls.room
      unfold maxLen at hroom
      rw [hm] at hv hcap
      subst hv
      have hA0 : A0 = none ∨ ∃ g, A0 = some ⟨g, 0, none⟩ := by
        rcases hk.row.2 with ⟨h0, _⟩ | ⟨g, cap, cur, e, _⟩
        · cases h0; exact .inl rfl
        · cases e; exact .inr ⟨g, rfl⟩
      have hA1 : A0 = none → c0' = 0 ∧ m = 0 := fun e => by
        have h1 := hls.nil e
        omega
      have HA0 := Lib.hid (And.intro hA0 hA1)
      have HYb := Lib.hid (show Below W.heap.size W wr.drew from hk.bel.drew)
      clear hx ho hk hjl hm hls hA0 hA1
      go_wp2_with fail
      go_loopw [6] (fun s wk => ∃ k : Nat, k ≤ m ∧ s = .int .i64 k ∧ wk = wr ∧ ∀ i (_ : i < k) (h : i < out.length), ltI out[i] x = true) (fun s _ => m - (intOf s).toNat)
      case atStart => exact ⟨0, Nat.zero_le _, rfl, rfl, fun i hi => by omega⟩
      case round =>
        obtain ⟨k, hkm, rfl, rfl, hall⟩ := hrel
        have HAll := Lib.hid hall
        clear hall d0
        by_cases hlt : k < m
        · have hko : k < out.length := by rw [HM.out]; exact hlt
          obtain ⟨ao, hao, o0⟩ := HL0.out.here hko
          rcases HA0.out.1 with rfl | ⟨g, rfl⟩
          · cases hao
          cases hao
          obtain ⟨y, hy⟩ : ∃ y, out[k] = y := ⟨_, rfl⟩
          have HY := Lib.hid (show ∃ h : k < out.length, out[k] = y from ⟨hko, hy⟩)
          rw [hy] at o0
          simp only [add_at] at o0
          clear hy hko
          by_cases h1 : y < x
          · have HLs := Lib.hid (show ltI y x = true by simp [ltI, h1])
            go_wp2_with fail
            go_roundw
            case rel =>
              refine ⟨k + 1, by omega, by go_num, trivial, fun i hi h => ?_⟩
              rcases Nat.lt_or_ge i k with h' | h'
              · exact HAll.out i h' h
              · obtain rfl : i = k := by omega
                obtain ⟨_, e⟩ := HY.out
                rw [e]
                exact HLs.out
            case measure => simp [intOf]; omega
          · by_cases h2 : y = x
            · subst h2
              have HCan := Lib.hid (HCs.out k HAll.out HY.out.1 HY.out.2)
              have hmk : ((k : Int) == (m : Int)) = false := by simp; omega
              go_wp2_with fail
              go_roundw
              case rel => exact ⟨j + 1, by omega, by go_num, by rw [HCan.out]; exact K1.out⟩
              case measure => simp [intOf]; omega
            · have HCan := Lib.hid (HCp.out k (Nat.le_of_lt HY.out.1) HAll.out (fun h => by rw [HY.out.2]; exact ⟨by simp [ltI, h1], h2⟩))
              have hmk : ((k : Int) == (m : Int)) = false := by simp; omega
              have h2' : (y != x) = true := by simpa using h2
              have hck : ¬ c0' = k := by omega
              have q7 : (k : Int) ≤ (m : Int) := by omega
              have q8 : (k : Int) ≤ (c0' : Int) := by omega
              have q6 : k ≤ c0' := by omega
              have h1d : decide (y < x) = false := by simpa using h1
              clear h1 h2
              obtain ⟨A5, c5, w5, A6, c6, w6, hr5, hr6, hp⟩ := put_some (HL0.out.drewN 1) (by rw [HM.out]; omega) HM.out (by omega) x ⟨g, k, none⟩ (by rw [if_neg (by omega)])
              have HR5 := Lib.hid hr5
              have HR6 := Lib.hid hr6
              have HPt := Lib.hid hp
              clear hr5 hr6 hp
              go_wp2_with fail
              go_region_law (first
                | (refine step_append ?h1 (.tmp 44) (.tmp 47) 50 ?h2 (.slice (some ⟨wr.heap.size, 0, none⟩) 1 1) (.slice (some ⟨g, k, none⟩) (m - k) (c0' - k)) ?h3 ?h4 _ _ HR5.out ?_; rotate_right; (case h1 => rfl); (case h2 => rfl); (case h3 => kernel_rfl); (case h4 => kernel_rfl))
                | (refine step_append ?h1 (.tmp 42) (.tmp 48) 50 ?h2 (.slice (some ⟨g, 0, none⟩) k k) (.slice A5 (1 + (m - k)) c5) ?h3 ?h4 _ _ HR6.out ?_; rotate_right; (case h1 => rfl); (case h2 => rfl); (case h3 => kernel_rfl); (case h4 => kernel_rfl)))
              all_goals
                go_wp2_with fail
                go_roundw
                case rel => exact ⟨j + 1, by omega, by go_num, by rw [HCan.out]; exact ⟨row_base HPt.out.row HYb.out.size, HYb.out.trans ((HPt.out.bel).mono HYb.out.size)⟩⟩
                case measure => simp [intOf]; omega
        · obtain rfl : k = m := by omega
          have HCan := Lib.hid (HCp.out k (by rw [HM.out]; exact Nat.le_refl _) HAll.out (fun h => by have := HM.out; omega))
          rcases HA0.out.1 with rfl | ⟨g, rfl⟩
          · obtain ⟨rfl, rfl⟩ := HA0.out.2 rfl
            have hout : out = [] := List.length_eq_zero_iff.1 HM.out
            rw [hout] at HCan
            simp only [List.take_nil, List.drop_nil, List.nil_append] at HCan
            obtain ⟨A6, c6, w6, hr5, hr6, hp⟩ := put_none wr.drew x
            have HR5 := Lib.hid hr5
            have HR6 := Lib.hid hr6
            have HPt := Lib.hid hp
            clear hr5 hr6 hp
            go_wp2_with fail
            go_region_law (first
              | (refine step_append ?h1 (.tmp 44) (.tmp 47) 50 ?h2 (.slice (some ⟨wr.heap.size, 0, none⟩) 1 1) (.slice none 0 0) ?h3 ?h4 _ _ HR5.out ?_; rotate_right; (case h1 => rfl); (case h2 => rfl); (case h3 => kernel_rfl); (case h4 => kernel_rfl))
              | (refine step_append ?h1 (.tmp 42) (.tmp 48) 50 ?h2 (.slice none 0 0) (.slice (some ⟨wr.heap.size, 0, none⟩) 1 1) ?h3 ?h4 _ _ HR6.out ?_; rotate_right; (case h1 => rfl); (case h2 => rfl); (case h3 => kernel_rfl); (case h4 => kernel_rfl)))
            all_goals
              go_wp2_with fail
              go_roundw
              case rel => exact ⟨j + 1, by omega, by go_num, by rw [HCan.out]; exact ⟨row_base HPt.out.row HYb.out.size, HYb.out.trans ((HPt.out.bel).mono HYb.out.size)⟩⟩
              case measure => simp [intOf]; omega
          · have q8 : (k : Int) ≤ (c0' : Int) := by omega
            have q6 : k ≤ c0' := by omega
            by_cases hck : c0' = k
            · subst hck
              obtain ⟨A5, c5, w5, A6, c6, w6, hr5, hr6, hp⟩ := put_some (HL0.out.drewN 1) (by rw [HM.out]; omega) HM.out (by omega) x ⟨g, 0, none⟩ (by rw [if_pos (by omega)])
              simp only [Nat.sub_self, Nat.add_zero] at hr5 hr6
              have HR5 := Lib.hid hr5
              have HR6 := Lib.hid hr6
              have HPt := Lib.hid hp
              clear hr5 hr6 hp
              go_wp2_with fail
              go_region_law (first
                | (refine step_append ?h1 (.tmp 44) (.tmp 47) 50 ?h2 (.slice (some ⟨wr.heap.size, 0, none⟩) 1 1) (.slice (some ⟨g, 0, none⟩) 0 0) ?h3 ?h4 _ _ HR5.out ?_; rotate_right; (case h1 => rfl); (case h2 => rfl); (case h3 => kernel_rfl); (case h4 => kernel_rfl))
                | (refine step_append ?h1 (.tmp 42) (.tmp 48) 50 ?h2 (.slice (some ⟨g, 0, none⟩) c0' c0') (.slice A5 1 c5) ?h3 ?h4 _ _ HR6.out ?_; rotate_right; (case h1 => rfl); (case h2 => rfl); (case h3 => kernel_rfl); (case h4 => kernel_rfl)))
              all_goals
                go_wp2_with fail
                go_roundw
                case rel => exact ⟨j + 1, by omega, by go_num, by rw [HCan.out]; exact ⟨row_base HPt.out.row HYb.out.size, HYb.out.trans ((HPt.out.bel).mono HYb.out.size)⟩⟩
                case measure => simp [intOf]; omega
            · skip
              obtain ⟨A5, c5, w5, A6, c6, w6, hr5, hr6, hp⟩ := put_some (HL0.out.drewN 1) (by rw [HM.out]; omega) HM.out (by omega) x ⟨g, k, none⟩ (by rw [if_neg (by omega)])
              simp only [Nat.sub_self, Nat.add_zero] at hr5 hr6
              have HR5 := Lib.hid hr5
              have HR6 := Lib.hid hr6
              have HPt := Lib.hid hp
              clear hr5 hr6 hp
              go_wp2_with fail
              go_region_law (first
                | (refine step_append ?h1 (.tmp 44) (.tmp 47) 50 ?h2 (.slice (some ⟨wr.heap.size, 0, none⟩) 1 1) (.slice (some ⟨g, k, none⟩) 0 (c0' - k)) ?h3 ?h4 _ _ HR5.out ?_; rotate_right; (case h1 => rfl); (case h2 => rfl); (case h3 => kernel_rfl); (case h4 => kernel_rfl))
                | (refine step_append ?h1 (.tmp 42) (.tmp 48) 50 ?h2 (.slice (some ⟨g, 0, none⟩) k k) (.slice A5 1 c5) ?h3 ?h4 _ _ HR6.out ?_; rotate_right; (case h1 => rfl); (case h2 => rfl); (case h3 => kernel_rfl); (case h4 => kernel_rfl)))
              all_goals
                go_wp2_with fail
                go_roundw
                case rel => exact ⟨j + 1, by omega, by go_num, by rw [HCan.out]; exact ⟨row_base HPt.out.row HYb.out.size, HYb.out.trans ((HPt.out.bel).mono HYb.out.size)⟩⟩
                case measure => simp [intOf]; omega
    · obtain rfl : j = n := by omega
      have HE := Lib.hid (show Od.can ltI (xs.take j) = Od.can ltI xs by rw [List.take_of_length_le (Nat.le_of_eq HN.out)])
      rw [HE.out] at hk
      have K9 := Lib.hid hk
      obtain ⟨A9, c9, hv, -⟩ := hk.row.ls
      subst hv
      clear hk
      go_wp2_with fail
      go_ret
      exact ⟨_, rfl, K9.out.row, K9.out.bel⟩
end
theorem can_nodup (xs : List Int) : (Od.can ltI xs).Nodup := (Od.can_asc ordI xs).imp fun h e => by rw [e, ordI.irr] at h; cases h
end Go.Proofs.YtlhhopanegnliaaGreatDoor.Is
