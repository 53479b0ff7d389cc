/- Numbers put in order one by one, each once: the document's answer; to whom edges of one go, and all numbers of edges, by the document. -/
import Derived.Test.YtggmnjnigmbooaaGj
import Derived.Test.YtggmnjnigmbooaaK1
import Derived.Deep.RegionLaw
import Derived.ArgAppend
namespace Go.Proofs.Ytggmnjnigmbooaa.Is
open Go Go.RowKit Go.Shelf
set_option maxRecDepth 100000

section
variable {W Y : World} {g c k : Nat} {A : Option Addr} {xs ys : List Int}
theorem Ls.head (h : Ls W A c xs) (k : Nat) : Ls W A c (xs.take k) := by
  refine ⟨by rw [List.length_take]; have := h.cap; omega, h.room, h.nil, fun a ha j u hj => h.at' a ha j u ?_⟩
  have hj1 := (List.getElem?_eq_some_iff.1 hj).1
  have e : flat xs = flat (xs.take k) ++ flat (xs.drop k) := by rw [← flat_append, List.take_append_drop]
  rw [e, List.getElem?_append_left hj1]
  exact hj
theorem Ls.none_left (a : Addr) (hc : c ≤ maxLen) : Ls W (some a) c [] := ⟨Nat.zero_le _, hc, by simp, fun _ _ j u hj => by simp [flat] at hj⟩
theorem Ls.tl0 (h : Ls W (some ⟨g, 0, none⟩) c xs) (hk : k ≤ xs.length) : Ls W (some ⟨g, k, none⟩) (c - k) (xs.drop k) := by
  refine ⟨by rw [List.length_drop]; have := h.cap; omega, Nat.le_trans (Nat.sub_le _ _) h.room, by simp, fun b hb j u hj => ?_⟩
  obtain rfl : (⟨g, k, none⟩ : Addr) = b := by simpa using hb
  have e : flat xs = flat (xs.take k) ++ flat (xs.drop k) := by rw [← flat_append, List.take_append_drop]
  have h1 := h.at' _ rfl (k + j) u (by
    rw [e, List.getElem?_append_right (by rw [flat_length, List.length_take]; omega), flat_length, List.length_take, show k + j - min k xs.length * 1 = j by rw [Nat.min_eq_left hk]; omega]
    exact hj)
  rw [add_at] at h1
  have e2 : (⟨g, k, none⟩ : Addr).add j = ⟨g, k + j, none⟩ := by
    unfold Addr.add
    split
    · rename_i h; subst h; simp
    · simp
  rw [e2]
  exact h1
/-- what is put behind a list that has no room -/
theorem Ls.grow (h : Ls W (some ⟨g, 0, none⟩) c xs) (hk : k ≤ xs.length) {c2 m q : Nat} (hs : Ls W A c2 ys) (hm : ys.length = m) (h0 : 0 < m) (hq : k + m = q) (hl : q ≤ 1000000) (ty : TypeId) :
    ∃ A' c' w', (Builtin.append_ #[23, 23] ty #[.slice (some ⟨g, 0, none⟩) k k, .slice A m c2]).run Try.prog W = .ok (.slice A' q c') w' ∧ Row w' W.heap.size (.slice A' q c') (xs.take k ++ ys) ∧ Below W.heap.size W w' := by
  subst hm
  subst hq
  obtain ⟨i0, hi, hz0, hz1, hz2⟩ := info_parts info3
  have hh := h.head k
  have hlen : (xs.take k).length = k := by rw [List.length_take]; omega
  cases A with
  | none => rw [hs.empty] at h0; simp at h0
  | some a =>
    obtain ⟨v', w', hr, hown, hg⟩ := run_append_arg_grows (P := Try.prog) W 23 ty 3 i0 _ 1 8 Try.underlying23 hi hz0 hz1 hz2 rfl (by decide) ⟨g, 0, none⟩ k k (flat (xs.take k)) (by rw [flat_length, hlen])
      (hh.at' _ rfl) a ys.length c2 (flat ys) (flat_length ys) (hs.at' a rfl) (by omega) (by unfold maxLen; omega) (by omega)
    rw [← flat_append] at hown
    have hl2 : (xs.take k ++ ys).length = k + ys.length := by rw [List.length_append, hlen]
    have hrow : Row w' W.heap.size v' (xs.take k ++ ys) := by unfold Row; rw [hl2]; exact hown
    obtain ⟨A', c', rfl, -⟩ := hrow.ls
    rw [hl2] at hr hrow
    exact ⟨A', c', w', hr, hrow, ⟨hg.os, hg.tape, hg.output, hg.size, fun j hj => hg.block j hj (by simp)⟩⟩
theorem lit_row (W : World) (e : Int) : Row (W.alloc (.cells #[.int .i64 e] 3)) W.heap.size (.slice (some ⟨W.heap.size, 0, none⟩) 1 1) [e] :=
  ⟨rfl, .inr ⟨W.heap.size, 1, _, rfl, Nat.le_refl _, heap_alloc_new W _, Nat.le_refl _, by decide, rfl, rfl⟩⟩
/-- what a number that is put in comes to -/
structure Puts (Y : World) (n : Nat) (zs : List Int) (A6 : Option Addr) (c6 : Nat) (w6 : World) : Prop where
  row : Row w6 Y.heap.size (.slice A6 n c6) zs
  bel : Below Y.heap.size Y w6
theorem put_some (h : Ls Y (some ⟨g, 0, none⟩) c xs) (hk : k ≤ xs.length) {n : Nat} (hn : xs.length = n) (hl : n ≤ 900000) (e : Int) (sa : Addr) (hsa : sa = if c = k then ⟨g, 0, none⟩ else ⟨g, k, none⟩) :
    ∃ A5 c5 w5 A6 c6 w6, (Builtin.append_ #[23, 23] 23 #[.slice (some ⟨Y.heap.size, 0, none⟩) 1 1, .slice (some sa) (n - k) (c - k)]).run Try.prog (Y.alloc (.cells #[.int .i64 e] 3)) = .ok (.slice A5 (1 + (n - k)) c5) w5 ∧
      (Builtin.append_ #[23, 23] 23 #[.slice (some ⟨g, 0, none⟩) k k, .slice A5 (1 + (n - k)) c5]).run Try.prog w5 = .ok (.slice A6 (n + 1) c6) w6 ∧ Puts Y (n + 1) (xs.take k ++ e :: xs.drop k) A6 c6 w6 := by
  subst hn
  have hx := box_below Y (.cells #[.int .i64 e] 3)
  have hcap := h.cap
  have ht : Ls Y (some sa) (c - k) (xs.drop k) := by
    subst hsa
    split
    · rename_i hck
      have : xs.drop k = [] := by rw [List.drop_eq_nil_iff]; omega
      rw [this]
      exact Ls.none_left _ (Nat.le_trans (Nat.sub_le _ _) h.room)
    · exact h.tl0 hk
  have hd : (xs.drop k).length = xs.length - k := List.length_drop
  obtain ⟨v5, w5, hr5, hrow5, hg5⟩ := (lit_row Y e).app (ht.below hx) (by rw [hd]; simp; omega) hx.size 23
  have hb5 := (lit_row Y e).app_below hg5 hx.size
  obtain ⟨A5, c5, rfl, hls5⟩ := hrow5.ls
  have hl5 : ([e] ++ xs.drop k).length = 1 + (xs.length - k) := by rw [List.length_append, hd]; rfl
  have hb05 := hx.trans hb5
  obtain ⟨A6, c6, w6, hr6, hrow6, hb6⟩ := (h.below hb05).grow hk hls5 hl5 (by omega) (q := xs.length + 1) (by omega) (by omega) 23
  rw [hd, hl5] at hr5
  exact ⟨A5, c5, w5, A6, c6, w6, hr5, hr6, row_base hrow6 hb05.size, hb05.trans (hb6.mono hb05.size)⟩
theorem put_none (Y : World) (e : Int) : ∃ A6 c6 w6, (Builtin.append_ #[23, 23] 23 #[.slice (some ⟨Y.heap.size, 0, none⟩) 1 1, .slice none 0 0]).run Try.prog (Y.alloc (.cells #[.int .i64 e] 3)) = .ok (.slice (some ⟨Y.heap.size, 0, none⟩) 1 1) (Y.alloc (.cells #[.int .i64 e] 3)) ∧
      (Builtin.append_ #[23, 23] 23 #[.slice none 0 0, .slice (some ⟨Y.heap.size, 0, none⟩) 1 1]).run Try.prog (Y.alloc (.cells #[.int .i64 e] 3)) = .ok (.slice A6 1 c6) w6 ∧ Puts Y 1 [e] A6 c6 w6 := by
  obtain ⟨i0, hi, hz0, hz1, hz2⟩ := info_parts info3
  have hx := box_below Y (.cells #[.int .i64 e] 3)
  have h5 := run_append_nothing (P := Try.prog) (Y.alloc (.cells #[.int .i64 e] 3)) 23 23 23 3 i0 Try.underlying23 hi (some ⟨Y.heap.size, 0, none⟩) 1 1 (Nat.le_refl _) (.slice none 0 0) (by rw [hz1]; exact Src.ofNil _ Try.underlying23 0)
  obtain ⟨v6, w6, hr6, hrow6, hg6⟩ := (show Row (Y.alloc (.cells #[.int .i64 e] 3)) Y.heap.size (.slice none 0 0) [] from World.ownsRow_nil _ _ _ _).app (box_ls Y e) (by simp) hx.size 23
  have hb6 := (show Row (Y.alloc (.cells #[.int .i64 e] 3)) Y.heap.size (.slice none 0 0) [] from World.ownsRow_nil _ _ _ _).app_below hg6 hx.size
  obtain ⟨A6, c6, rfl, -⟩ := hrow6.ls
  exact ⟨A6, c6, w6, h5, hr6, hrow6, hx.trans hb6⟩
end
theorem can_put {xs : List Int} {j k : Nat} {x : Int} {out : List Int} (hj : j < xs.length) (hx : xs[j] = x) (ho : Od.can ltI (xs.take j) = out) (hk : k ≤ out.length) (hl : ∀ i (_ : i < k) (h : i < out.length), ltI out[i] x = true) (hn : ∀ h : k < out.length, ltI out[k] x = false ∧ out[k] ≠ x) :
    Od.can ltI (xs.take (j + 1)) = out.take k ++ x :: out.drop k := by
  rw [Od.take_last xs hj, Od.can_snoc, ho, hx]
  exact Od.ins_new hk hl hn
theorem can_stays {xs : List Int} {j k : Nat} {x : Int} {out : List Int} (hj : j < xs.length) (hx : xs[j] = x) (ho : Od.can ltI (xs.take j) = out) (hl : ∀ i (_ : i < k) (h : i < out.length), ltI out[i] x = true) (hk : k < out.length) (he : out[k] = x) :
    Od.can ltI (xs.take (j + 1)) = out := by
  rw [Od.take_last xs hj, Od.can_snoc, ho, hx]
  exact Od.ins_at ordI hl hk he

section
variable {W : World} {A : Option Addr} {c : Nat} {xs : List Int}
end
end Go.Proofs.Ytggmnjnigmbooaa.Is
