/- Who waits without converting, in order; a list of numbers that is read, and one of one's own. -/
import Derived.Test.YteaibamkfccplaaDoorM3
import Derived.Maps.AppendAt
namespace Go.Proofs.YteaibamkfccplaaDoor
open Go Go.RowKit Go.Shelf

/-- those that wait without converting -/
def txs (L : List Ws.Wt) : List Int := (L.filter (fun x => !x.2.2.1)).map (·.1)
theorem txs_yes {x : Ws.Wt} {L : List Ws.Wt} (h : x.2.2.1 = true) : txs (x :: L) = txs L := by simp [txs, h]
theorem txs_no {x : Ws.Wt} {L : List Ws.Wt} (h : x.2.2.1 = false) : txs (x :: L) = x.1 :: txs L := by simp [txs, h]
theorem txs_len (L : List Ws.Wt) : (txs L).length ≤ L.length := by
  unfold txs
  rw [List.length_map]
  exact List.length_filter_le _ _
theorem txs_snoc_yes {L : List Ws.Wt} {k : Nat} (hk : k < L.length) (h : L[k].2.2.1 = true) : txs (L.take (k + 1)) = txs (L.take k) := by
  unfold txs
  rw [List.take_succ_eq_append_getElem hk, List.filter_append]
  simp [h]
theorem txs_snoc_no {L : List Ws.Wt} {k : Nat} (hk : k < L.length) (h : L[k].2.2.1 = false) : txs (L.take (k + 1)) = txs (L.take k) ++ [L[k].1] := by
  unfold txs
  rw [List.take_succ_eq_append_getElem hk, List.filter_append]
  simp [h]
/-- where one that doesn't wait goes away, those that are told stood ahead of those that still wait -/
theorem rel_split {tx : Int} {H : List Hs.Hd} {L : List Ws.Wt} (h : Ws.fndI tx L < 0) : L = (rel tx H L).told ++ (rel tx H L).ws := by
  unfold rel
  split
  · rfl
  · rw [Ws.wout_of (fnd_neg h)]
    exact swp_split L _
/-- numbers as values -/
def nums (zs : List Int) : List Value := zs.map (.int .i64 ·)
theorem nums_at {zs : List Int} {i : Nat} (h : i < zs.length) : (nums zs)[i]? = some (.int .i64 zs[i]) := by simp [nums, h]
/-- a list of numbers that is read -/
structure Ni (W : World) (A : Option Addr) (c : Nat) (zs : List Int) : Prop where
  cap : zs.length ≤ c
  room : c ≤ maxLen
  at' : zs = [] ∨ ∃ g off, A = some ⟨g, off, none⟩ ∧ ∀ i (h : i < zs.length), W.cell? ⟨g, off + i, none⟩ = some (.int .i64 zs[i])
section
variable {W W' : World} {A : Option Addr} {b c n K : Nat} {zs : List Int} {z : Int} {v : Value}
theorem Ni.below (h : Ni W A c zs) (hb : Below W.heap.size W W') : Ni W' A c zs := by
  refine ⟨h.cap, h.room, h.at'.imp id ?_⟩
  rintro ⟨g, off, rfl, hc⟩
  exact ⟨g, off, rfl, fun i hi => by
    have := hc i hi
    rw [hb.cell (p := ⟨g, off + i, none⟩) (cell_lt this)]
    exact this⟩
theorem Ni.off (h : Ni W A c zs) (hn : ∀ k (x : Int), W.cell? ⟨b, k, none⟩ ≠ some (.int .i64 x)) (ho : OnlyS (· = b) W W') : Ni W' A c zs := by
  refine ⟨h.cap, h.room, h.at'.imp id ?_⟩
  rintro ⟨g, off, rfl, hc⟩
  exact ⟨g, off, rfl, fun i hi => ho.cell (hc i hi) (fun e => hn (off + i) _ (by rw [← (show g = b from e)]; exact hc i hi))⟩
theorem Ni.head (h : Ni W A c (z :: zs)) : ∃ g off, A = some ⟨g, off, none⟩ ∧ W.cell? ⟨g, off, none⟩ = some (.int .i64 z) := by
  rcases h.at' with q | ⟨g, off, rfl, hc⟩
  · cases q
  · exact ⟨g, off, rfl, by have := hc 0 (by simp); rw [Nat.add_zero] at this; exact this⟩
theorem Ni.tail {g off : Nat} (h : Ni W (some ⟨g, off, none⟩) c (z :: zs)) : Ni W (some ⟨g, off + 1, none⟩) (c - 1) zs := by
  have h1 := h.cap
  simp only [List.length_cons] at h1
  refine ⟨by omega, Nat.le_trans (Nat.sub_le _ _) h.room, .inr ⟨g, off + 1, rfl, fun i hi => ?_⟩⟩
  rcases h.at' with q | ⟨g', off', e, hc⟩
  · cases q
  · cases e
    have := hc (i + 1) (by simpa using hi)
    rw [show off + 1 + i = off + (i + 1) by omega]
    simpa using this
theorem Ni.last {g off : Nat} (h : Ni W (some ⟨g, off, none⟩) 1 (z :: zs)) : zs = [] := by
  have h1 := h.cap
  simp only [List.length_cons] at h1
  exact List.length_eq_zero_iff.1 (by omega)
theorem Ni.nils (A : Option Addr) (hc : c ≤ maxLen) : Ni W A c [] := ⟨Nat.zero_le _, hc, .inl rfl⟩
/-- numbers of one's own -/
abbrev Nr (W : World) (K : Nat) (v : Value) (zs : List Int) : Prop := W.ownsRow K 3 1 v zs.length (nums zs)
theorem nr_lies (h : Nr W K v zs) : ∃ A c, v = .slice A zs.length c ∧ Ni W A c zs := by
  rcases h.2 with ⟨rfl, h0⟩ | ⟨g, cap, cur, rfl, hb, hg, h1, h2, h3, h4⟩
  · have := List.length_eq_zero_iff.1 h0
    subst this
    exact ⟨none, 0, rfl, Nat.le_refl _, by decide, .inl rfl⟩
  · refine ⟨_, cap, rfl, by omega, h2, .inr ⟨g, 0, rfl, fun i hi => ?_⟩⟩
    have := h.cells (g := g) rfl i _ (nums_at hi)
    rw [add_at] at this
    rw [Nat.zero_add]
    exact this
theorem info3 : (Tryd.prog.info? 3).map (fun i => (i.zero, i.size, i.bytes)) = some (some (.int .i64 0), 1, 8) := by kernel_rfl
theorem nums_one (zs : List Int) : ∀ u ∈ nums zs, u.oneCell' = true := by
  intro u hu
  obtain ⟨x, -, rfl⟩ := List.mem_map.1 hu
  rfl
/-- one number is put behind numbers of one's own -/
theorem nr_app (h : Nr W K v zs) (hl : zs.length ≤ 900) (hK : K ≤ W.heap.size) (z : Int) (ty : TypeId) :
    ∃ v' W', (Builtin.append_ #[61, 61] ty #[v, .slice (some ⟨W.heap.size, 0, none⟩) 1 1]).run Tryd.prog (W.alloc (.cells #[.int .i64 z] 3)) = .ok v' W' ∧ Nr W' K v' (zs ++ [z]) ∧ Below K W W' := by
  obtain ⟨i0, hi, hz0, hz1, hz2⟩ := info_parts info3
  have hx := box_below W (.cells #[.int .i64 z] 3)
  have h1 := row_below h hx
  have hcl : ∀ j u, (nums [z])[j]? = some u → (W.alloc (.cells #[.int .i64 z] 3)).cell? ((⟨W.heap.size, 0, none⟩ : Addr).add j) = some u := by
    intro j u hj
    match j, hj with
    | 0, hj =>
      simp [nums] at hj
      subst hj
      rw [add_at]
      simp [go_sem]
    | j + 1, hj => simp [nums] at hj
  obtain ⟨v', W', h2, h3, h4, -, h5⟩ := run_append_own_at (P := Tryd.prog) (W.alloc (.cells #[.int .i64 z] 3)) K 61 ty 3 i0 _ 1 8 Tryd.underlying61 hi hz0 hz1 hz2 rfl (by decide) v zs.length (nums zs) h1 ⟨W.heap.size, 0, none⟩ 1 1 (nums [z]) (by simp [nums]) hcl (nums_one _) (by unfold maxLen; omega) (by omega) (Nat.le_trans hK hx.size)
  refine ⟨v', W', h2, ?_, ?_⟩
  · unfold Nr
    rw [List.length_append]
    unfold nums at h3 ⊢
    rw [List.map_append]
    exact h3
  · exact (hx.mono hK).trans (OnlyS.below (S := fun k => v.ownBlock = some k) ((OnlyS.refl _ _).grown h4 fun _ hk => .inl hk) (fun k hk => (h1.lt k hk).1) (Nat.le_trans hK hx.size))
end
end Go.Proofs.YteaibamkfccplaaDoor
