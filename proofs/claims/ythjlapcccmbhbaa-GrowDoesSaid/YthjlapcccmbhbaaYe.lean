/- A lock put where it goes among others: what stays, and what the two appends come to. -/
import Derived.Test.YthjlapcccmbhbaaYd
import Derived.Test.YthjlapcccmbhbaaWl
import Derived.Deep.RegionLaw
namespace Go.Proofs.Ythjlapcccmbhbaa.Lk
open Go Go.RowKit Go.Shelf Pa
set_option maxRecDepth 100000

theorem Bk.ins {l ys : List Hd} {x : Hd} {k : Nat} (h : Bk l ys) (hr : ∀ y ∈ ys, rightB y.1 = true) (hx : rightB x.1 = true) (hk : k ≤ ys.length)
    (ha : ∀ j (hj : j < ys.length), k ≤ j → ltU x ys[j] = true) (hb : ∀ hj : k - 1 < ys.length, 0 < k → ltU x ys[k - 1] = false) : Bk (l ++ [x]) (ys.take k ++ ([x] ++ ys.drop k)) := by
  have hd : ∀ y ∈ ys.drop k, ltU x y = true := fun y hy => by
    obtain ⟨i, hi, rfl⟩ := List.mem_iff_getElem.1 hy
    rw [List.getElem_drop]
    rw [List.length_drop] at hi
    exact ha _ (by omega) (by omega)
  have ht : ∀ y ∈ ys.take k, ltU x y = false := fun y hy => by
    obtain ⟨i, hi, rfl⟩ := List.mem_iff_getElem.1 hy
    rw [List.length_take] at hi
    rw [List.getElem_take]
    have h1 := hb (by omega) (by omega)
    by_cases e : i = k - 1
    · subst e; exact h1
    · have h2 := List.pairwise_iff_getElem.1 h.sorted i (k - 1) (by omega) (by omega) (by omega)
      exact leU_tr (hr _ (List.getElem_mem _)) (hr _ (List.getElem_mem _)) hx h2 h1
  have e : ys.take k ++ ys.drop k = ys := List.take_append_drop k ys
  refine ⟨?_, ?_⟩
  · have t : Stb ([x] ++ ys.drop k) (ys.drop k ++ [x]) := stb_turn (b := ys.drop k) (c := [x]) fun a ha' y hy => by
      obtain rfl : y = x := by simpa using hy
      exact fun e => ltU_ne (hd a ha') e.symm
    have t2 : Stb (ys.take k ++ ([x] ++ ys.drop k)) (ys ++ [x]) := by
      have := (Stb.refl (ys.take k)).append t
      rw [← List.append_assoc (ys.take k) (ys.drop k), e] at this
      exact this
    exact t2.trans (h.stb.append (Stb.refl _))
  · have hs := h.sorted
    rw [← e] at hs
    obtain ⟨s1, s2, s3⟩ := List.pairwise_append.1 hs
    refine List.pairwise_append.2 ⟨s1, List.pairwise_append.2 ⟨by simp, s2, fun a ha' b hb' => ?_⟩, fun a ha' b hb' => ?_⟩
    · obtain rfl : a = x := by simpa using ha'
      exact ltU_asym hx (hr _ (List.drop_subset _ _ hb')) (hd b hb')
    · rcases List.mem_append.1 hb' with hb' | hb'
      · obtain rfl : b = x := by simpa using hb'
        exact ht a ha'
      · exact s3 a ha' b hb'
theorem Bk.right {l ys : List Hd} (h : Bk l ys) (hr : ∀ y ∈ l, rightB y.1 = true) : ∀ y ∈ ys, rightB y.1 = true := fun y hy => hr y (h.stb.perm.mem_iff.1 hy)
theorem Bk.len {l ys : List Hd} (h : Bk l ys) : ys.length = l.length := h.stb.perm.length_eq
theorem Bk.one {l ys zs : List Hd} (h : Bk l ys) (k : Bk l zs) (hr : ∀ y ∈ l, rightB y.1 = true) : ys = zs := stb_sorted (h.right hr) (h.stb.trans k.stb.symm) h.sorted k.sorted
theorem Bk.nil : Bk [] [] := ⟨Stb.refl _, List.Pairwise.nil⟩
/-- where a list goes on from a place -/
def tlA (A : Option Addr) (c k : Nat) : Option Addr := if c = k then A else A.map (·.add (k * 6))
section
variable {W W' : World} {A B : Option Addr} {c k m n : Nat} {xs ys : List Hd}
theorem Ls.tl (h : Ls W A c xs) (hk : k ≤ xs.length) : Ls W (tlA A c k) (c - k) (xs.drop k) := by
  have hc := h.cap
  have hm := h.room
  unfold tlA
  by_cases e : c = k
  · rw [if_pos e]
    have e1 : xs.drop k = [] := List.drop_eq_nil_of_le (by omega)
    rw [e1]
    refine ⟨Nat.zero_le _, by omega, fun _ => by omega, fun _ _ j u hj => by simp [flat] at hj⟩
  · rw [if_neg e]
    cases A with
    | none => have := h.nil rfl; omega
    | some a =>
      by_cases e0 : k = 0
      · subst e0
        simpa [Addr.add] using h
      · have := h.tail (k := k) (by omega) hk
        simpa [Addr.add, show ¬ k * 6 = 0 by omega, show ¬ k = 0 by omega] using this
theorem Ls.headk (h : Ls W A c xs) (hk : k ≤ xs.length) : Ls W A k (xs.take k) := by
  have h1 := h.head k
  have hc := h.cap
  have hm := h.room
  exact ⟨by rw [List.length_take]; omega, by omega, fun e => by have := h.nil e; omega, h1.at'⟩
/-- what an append behind a full list comes to -/
theorem Ls.full (h : Ls W A k xs) (hk : xs.length = k) (hs : Ls W B c ys) (hm : ys.length = m) (h0 : 0 < m) (hl : k + m ≤ 1000) (ty : TypeId) :
    ∃ A' c' W', (Builtin.append_ #[22, 22] ty #[.slice A k k, .slice B m c]).run Try.prog W = .ok (.slice A' (k + m) c') W' ∧ Row W' W.heap.size (.slice A' (k + m) c') (xs ++ ys) ∧ Below W.heap.size W W' := by
  subst hk
  subst hm
  obtain ⟨i0, hi, hz0, hz1, hz2⟩ := info_parts info28
  cases A with
  | none =>
    have e := h.empty
    subst e
    obtain ⟨v', w', hrun, hrow, hg, -⟩ := Row.app (show Row W W.heap.size (.slice none 0 0) [] from World.ownsRow_nil _ _ _ _) hs (by simpa using hl) (Nat.le_refl _) ty
    obtain ⟨A', c', rfl, -⟩ := hrow.ls
    rw [List.length_append] at hrun hrow
    exact ⟨A', c', w', hrun, hrow, Row.app_below (show Row W W.heap.size (.slice none 0 0) [] from World.ownsRow_nil _ _ _ _) hg (Nat.le_refl _)⟩
  | some a =>
    obtain ⟨b, rfl⟩ : ∃ b, B = some b := by
      cases B with
      | none => have := hs.empty; subst this; simp at h0
      | some b => exact ⟨b, rfl⟩
    obtain ⟨v', w', h1, h2, h3⟩ := run_append_arg_grows (P := Try.prog) W 22 ty 27 i0 _ 6 48 Try.underlying22 hi hz0 hz1 hz2 rfl (by decide) a xs.length xs.length (flat xs) (flat_length xs) (h.at' a rfl) b ys.length c (flat ys) (flat_length ys) (hs.at' b rfl) (by omega) (by unfold maxLen; omega) (by omega)
    have hrow : Row w' W.heap.size v' (xs ++ ys) := by
      unfold Row
      rw [flat_append, List.length_append]
      exact h2
    obtain ⟨A', c', rfl, -⟩ := hrow.ls
    rw [List.length_append] at h1 hrow
    exact ⟨A', c', w', h1, hrow, ⟨h3.os, h3.tape, h3.output, h3.size, fun k hk => h3.block k hk (by simp)⟩⟩
theorem box_row (W : World) (x : Hd) : Row (W.alloc (.cells #[.int .i64 x.1.a, .int .i64 x.1.b, .int .i64 x.1.c, .int .i64 x.1.d, .int .i64 x.1.e, .int .i64 x.2] 27)) W.heap.size (.slice (some ⟨W.heap.size, 0, none⟩) 1 1) [x] :=
  ⟨by simp [flat, cellsW], .inr ⟨W.heap.size, 1, _, rfl, Nat.le_refl _, heap_alloc_new W _, Nat.le_refl _, by decide, rfl, rfl⟩⟩
/-- what the two appends come to -/
theorem ins_run (h : Ls W A c ys) (hn : ys.length = n) (hk : k ≤ n) (hl : n ≤ 400) (x : Hd) :
    ∃ A5 c5 w5 A6 c6 w6, (Builtin.append_ #[22, 22] 22 #[.slice (some ⟨W.heap.size, 0, none⟩) 1 1, .slice (tlA A c k) (n - k) (c - k)]).run Try.prog (W.drew.alloc (.cells #[.int .i64 x.1.a, .int .i64 x.1.b, .int .i64 x.1.c, .int .i64 x.1.d, .int .i64 x.1.e, .int .i64 x.2] 27)) = .ok (.slice A5 (1 + (n - k)) c5) w5 ∧
      (Builtin.append_ #[22, 22] 22 #[.slice A k k, .slice A5 (1 + (n - k)) c5]).run Try.prog w5 = .ok (.slice A6 (k + (1 + (n - k))) c6) w6 ∧ Row w6 W.heap.size (.slice A6 (k + (1 + (n - k))) c6) (ys.take k ++ ([x] ++ ys.drop k)) ∧ Below W.heap.size W w6 := by
  subst hn
  have b1 : Below W.heap.size W (W.drew.alloc (.cells #[.int .i64 x.1.a, .int .i64 x.1.b, .int .i64 x.1.c, .int .i64 x.1.d, .int .i64 x.1.e, .int .i64 x.2] 27)) := (drew_below W 1).trans (Go.Proofs.Ythjlapcccmbhbaa.box_below W.drew _)
  have hr := box_row W.drew x
  have hle : W.drew.heap.size ≤ (W.drew.alloc (.cells #[.int .i64 x.1.a, .int .i64 x.1.b, .int .i64 x.1.c, .int .i64 x.1.d, .int .i64 x.1.e, .int .i64 x.2] 27)).heap.size := by rw [World.size_alloc]; omega
  have e1 : (ys.drop k).length = ys.length - k := List.length_drop
  have e2 : (ys.take k).length = k := by rw [List.length_take]; omega
  obtain ⟨v5, w5, hrun5, hrow5, hg5, -⟩ := hr.app ((h.tl hk).below b1) (by rw [e1]; simp; omega) hle 22
  have b5 : Below W.heap.size W w5 := b1.trans (hr.app_below hg5 hle)
  obtain ⟨A5, c5, rfl, hls5⟩ := hrow5.ls
  rw [e1] at hrun5
  have e3 : ([x] ++ ys.drop k).length = 1 + (ys.length - k) := by rw [List.length_append, e1]; rfl
  rw [e3] at hrun5
  obtain ⟨A6, c6, w6, hrun6, hrow6, b6⟩ := ((h.headk hk).below b5).full e2 hls5 e3 (by omega) (by omega) 22
  exact ⟨A5, c5, w5, A6, c6, w6, hrun5, hrun6, row_base hrow6 b5.size, b5.trans (b6.mono b5.size)⟩
end
theorem step_append_run {P : Program} {ops : Array Oper} {o : Oper} {a : Act} {w : World} {K : Act → World → Prop} {Q : Exit → Act → World → Prop} {E : Prop}
    (hg : o.guard = none) (s x : Operand) (t : TypeId) (hop : o.op = Op.call { callee := Callee.builtin Builtin.append, args := #[s, x], argTypes := #[t, t] })
    (vs vx : Value) (hs : a.eval s = vs) (hx : a.eval x = vx) (v' : Value) (w' : World) (hrun : (Builtin.append_ #[t, t] o.type #[vs, vx]).run P w = .ok v' w') (hK : K (a.put o.dst v') w') :
    if Region.wanted o (yielded ops a.tmps) = true then Oper.wp P o a w K Q else E := by
  have hw : Region.wanted o (yielded ops a.tmps) = true := by simp [Region.wanted, hg]
  rw [if_pos hw]
  unfold Oper.wp
  simp [execOp, hop, resolve, invoke, builtin, hs, hx, hrun, Result.andThen]
  exact hK
end Go.Proofs.Ythjlapcccmbhbaa.Lk
