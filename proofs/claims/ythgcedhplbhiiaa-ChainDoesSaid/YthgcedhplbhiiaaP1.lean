/- The document's own rows in memory; where a place is among them; whether a place is free; a row. -/
import Derived.Test.YthgcedhplbhiiaaA9
import Derived.Deep.RegionLawGrows
import Derived.Deep.RegionLaw
namespace Go.Proofs.Ythgcedhplbhiiaa
open Go Go.RowKit

/-- the document's rows lie in a block -/
structure Rf (W : World) (bx gx K N : Nat) (L : Nat → List Nat) : Prop where
  c0 : W.cell? ⟨bx, 0, none⟩ = some (.int .i64 (N : Int))
  c1 : W.cell? ⟨bx, 1, none⟩ = some (.slice (some ⟨gx, 0, none⟩) N N)
  rows : ∀ r, r < N → ∃ A c, W.cell? ⟨gx, r, none⟩ = some (.slice A (L r).length c) ∧ Rd W K A c (L r)
  fz : ∀ o, W.frozen? ⟨gx, o, none⟩ = false
  gl : gx < W.heap.size
  ne : bx ≠ gx
  kl : bx < K ∧ gx < K
  good : Good N L
  nb : N ≤ 4096
  kw : K ≤ W.heap.size
section
variable {W W' : World} {bx gx K N : Nat} {L L' : Nat → List Nat} {i : Int} {q qa : Spot}
theorem Rf.lt (h : Rf W bx gx K N L) : bx < W.heap.size := cell_lt h.c0
theorem Rf.keep (h : Rf W bx gx K N L) (hs : W.heap.size ≤ W'.heap.size) (hb : W'.heap[bx]? = W.heap[bx]?) (hg : W'.heap[gx]? = W.heap[gx]?) (hk : ∀ k, K ≤ k → k < W.heap.size → W'.heap[k]? = W.heap[k]?) : Rf W' bx gx K N L := by
  refine ⟨(World.cell?_of_block (w := W) (a := ⟨bx, 0, none⟩) hb).trans h.c0, (World.cell?_of_block (w := W) (a := ⟨bx, 1, none⟩) hb).trans h.c1, fun r hr => ?_, fun o => (World.frozen?_of_block (w := W) (a := ⟨gx, o, none⟩) hg).trans (h.fz o), Nat.lt_of_lt_of_le h.gl hs, h.ne, h.kl, h.good, h.nb, Nat.le_trans h.kw hs⟩
  obtain ⟨A, c, h1, h2⟩ := h.rows r hr
  exact ⟨A, c, (World.cell?_of_block (w := W) (a := ⟨gx, r, none⟩) hg).trans h1, h2.keep hs hk⟩
theorem Rf.below (h : Rf W bx gx K N L) (hb : Below W.heap.size W W') : Rf W' bx gx K N L :=
  h.keep hb.size (hb.block bx h.lt) (hb.block gx h.gl) fun k _ hk => hb.block k hk
theorem Rf.only {T : Nat → Prop} (h : Rf W bx gx K N L) (ho : OnlyS T W W') (h1 : ¬ T bx) (h2 : ¬ T gx) (h3 : ∀ k, T k → k < K) : Rf W' bx gx K N L :=
  h.keep ho.size (ho.block bx h.lt h1) (ho.block gx h.gl h2) fun k hk1 hk2 => ho.block k hk2 fun ht => by have := h3 k ht; omega
/-- one row is another -/
theorem Rf.set (h : Rf W bx gx K N L) {r : Nat} (hr : r < N) {A : Option Addr} {c : Nat} {l : List Nat} (hl : Rd W K A c l) (hg : Good N (upd L r l)) :
    Rf (W.setCell ⟨gx, r, none⟩ (.slice A l.length c)) bx gx K N (upd L r l) := by
  have hkl := h.kl
  refine ⟨?_, ?_, fun s hs => ?_, fun o => ?_, by simpa [World.setCell] using h.gl, h.ne, h.kl, hg, h.nb, by simpa [World.setCell] using h.kw⟩
  · rw [World.cell?_of_block (w := W) (a := ⟨bx, 0, none⟩) (set_other h.ne)]; exact h.c0
  · rw [World.cell?_of_block (w := W) (a := ⟨bx, 1, none⟩) (set_other h.ne)]; exact h.c1
  · have hk : ∀ k, K ≤ k → k < W.heap.size → (W.setCell ⟨gx, r, none⟩ (.slice A l.length c)).heap[k]? = W.heap[k]? := fun k hk _ => set_other (by omega)
    obtain ⟨A0, c0, h1, h2⟩ := h.rows r hr
    by_cases e : s = r
    · subst e
      rw [upd_same]
      exact ⟨A, c, cell_near h1, hl.keep (by simp [World.setCell]) hk⟩
    · rw [upd_other e]
      obtain ⟨A1, c1, h3, h4⟩ := h.rows s hs
      exact ⟨A1, c1, by rw [cell_far e]; exact h3, h4.keep (by simp [World.setCell]) hk⟩
  · rw [World.frozen?_setCell]; exact h.fz o
def atV : Spot → Value
  | none => .tuple #[.int .i64 (-1), .int .i64 (-1)]
  | some (r, k) => .tuple #[.int .i64 (r : Int), .int .i64 (k : Int)]
/-- none of these rows has it -/
def NoneIn (L : Nat → List Nat) (i : Int) (r : Nat) : Prop := ∀ s, s < r → ∀ n ∈ L s, (n : Int) ≠ i
theorem at_hit (hg : Good N L) (hq : At N L i q) {r k n : Nat} (hr : r < N) (hn : (L r)[k]? = some n) (e : (n : Int) = i) : q = some (r, k) := by
  cases q with
  | none => exact absurd e (hq r hr n (List.mem_of_getElem? hn))
  | some p =>
    obtain ⟨r', k'⟩ := p
    obtain ⟨rfl, rfl⟩ := hg.uniq hq hr hn e
    rfl
theorem at_miss (hq : At N L i q) (h : NoneIn L i N) : q = none := by
  cases q with
  | none => rfl
  | some p =>
    obtain ⟨r, k⟩ := p
    obtain ⟨hr, n, hn, e⟩ := hq
    exact absurd e.symm (h r hr n (List.mem_of_getElem? hn))
set_option maxHeartbeats 1000000 in
theorem Rf.at (h : Rf W bx gx K N L) (hq : At N L i q) : Calls Try.prog 16 #[wp bx, .int .i64 i] W fun e w' => e = .returned (atV q) ∧ W = w' := by
  have hnb := h.nb
  have q1 := h.c1
  have H := Lib.hid h
  have HQ := Lib.hid hq
  clear h hq
  go_enter Try.func16, Try.ntmps16
  go_wp2
  go_loopw [15] (fun t wr => ∃ r : Nat, r ≤ N ∧ t = .int .i64 r ∧ NoneIn L i r ∧ W = wr) (fun t _ => N - (intOf t).toNat)
  case atStart => exact ⟨0, by omega, rfl, fun s hs => by omega, rfl⟩
  case round =>
    obtain ⟨r, hr, rfl, hni, rfl⟩ := hrel
    have HN := Lib.hid hni
    clear hni
    by_cases hrN : r < N
    · obtain ⟨A, c, q2, hrd⟩ := H.out.rows r hrN
      have HR := Lib.hid hrd
      have hlr := H.out.good.len hrN
      obtain ⟨m, hm⟩ : ∃ m, (L r).length = m := ⟨_, rfl⟩
      have HM := Lib.hid hm
      rw [hm] at q2 hlr
      clear hm hrd
      go_wp2
      go_loopw [22] (fun t wr => ∃ k : Nat, k ≤ m ∧ t = .int .i64 k ∧ (∀ n ∈ (L r).take k, (n : Int) ≠ i) ∧ W = wr) (fun t _ => m - (intOf t).toNat)
      case atStart => exact ⟨0, by omega, rfl, by simp, rfl⟩
      case round =>
        obtain ⟨k, hk, rfl, hnk, rfl⟩ := hrel
        have HNk := Lib.hid hnk
        clear hnk
        by_cases hkm : k < m
        · have hkl : k < (L r).length := by rw [HM.out]; exact hkm
          obtain ⟨g, rfl, q3⟩ := HR.out.cell hkl
          by_cases hx : (((L r)[k]'hkl : Nat) : Int) = i
          · have HE := Lib.hid (at_hit H.out.good HQ.out hrN (List.getElem?_eq_getElem hkl) hx)
            rw [hx] at q3
            clear hx hkl
            go_wp2
            go_ret2
            exact ⟨by rw [HE.out]; rfl, rfl⟩
          · have d : ((((L r)[k]'hkl : Nat) : Int) == i) = false := by simpa using hx
            have HX := Lib.hid (show ∀ n ∈ (L r).take (k + 1), (n : Int) ≠ i from by
              intro n hn
              rw [List.take_succ_eq_append_getElem hkl] at hn
              rcases List.mem_append.1 hn with hn | hn
              · exact HNk.out n hn
              · rw [List.mem_singleton.1 hn]; exact hx)
            generalize (((L r)[k]'hkl : Nat) : Int) = x at q3 d
            clear hx hkl
            go_wp2
            go_roundw
            case rel => exact ⟨k + 1, by omega, by go_num, HX.out, trivial⟩
            case measure => simp [intOf]; omega
        · obtain rfl : k = m := by omega
          have HX := Lib.hid (show NoneIn L i (r + 1) from by
            intro s hs n hn
            by_cases e : s = r
            · subst e
              exact HNk.out n (by rw [List.take_of_length_le (by rw [HM.out]; exact Nat.le_refl _)]; exact hn)
            · exact HN.out s (by omega) n hn)
          clear HNk
          go_wp2
          go_roundw
          case rel => exact ⟨r + 1, by omega, by go_num, HX.out, trivial⟩
          case measure => simp [intOf]; omega
    · obtain rfl : r = N := by omega
      have HE := Lib.hid (at_miss HQ.out HN.out)
      go_wp2
      go_ret2
      exact ⟨by rw [HE.out]; rfl, rfl⟩
theorem backB_is (N : Nat) (q : Spot) (row i : Int) : backB N q row i = (decide (0 ≤ row) && decide (row < (N : Int)) && decide (0 ≤ i) && decide (i < (N : Int)) && q.isNone) := by
  unfold backB hasB
  simp only [Bool.and_assoc]
set_option maxHeartbeats 1000000 in
theorem Rf.free (h : Rf W bx gx K N L) (hq : At N L i q) (row : Int) : Calls Try.prog 27 #[wp bx, .int .i64 row, .int .i64 i] W fun e w' => e = .returned (.bool (backB N q row i)) ∧ W = w' := by
  have HA := Lib.hid (h.at hq)
  have q0 := h.c0
  have hnb := h.nb
  have HB := Lib.hid (backB_is N q row i)
  obtain ⟨x, y, hv, hx⟩ : ∃ x y : Int, atV q = .tuple #[.int .i64 x, .int .i64 y] ∧ decide (x < 0) = q.isNone := by
    cases q with
    | none => exact ⟨-1, -1, rfl, rfl⟩
    | some p => exact ⟨(p.1 : Int), (p.2 : Int), rfl, by simp⟩
  rw [hv] at HA
  rw [← hx] at HB
  clear h hq hv hx
  generalize backB N q row i = z at *
  by_cases a1 : 0 ≤ row
  · have d1 : decide (0 ≤ row) = true := by simpa using a1
    rw [d1] at HB
    by_cases a2 : row < (N : Int)
    · have d2 : decide (row < (N : Int)) = true := by simpa using a2
      rw [d2] at HB
      by_cases a3 : 0 ≤ i
      · have d3 : decide (0 ≤ i) = true := by simpa using a3
        rw [d3] at HB
        by_cases a4 : i < (N : Int)
        · have d4 : decide (i < (N : Int)) = true := by simpa using a4
          rw [d4] at HB
          clear a1 a2 a3 a4
          go_enter Try.func27, Try.ntmps27
          go_wp2_with (go_at_call 16; ((with_reducible refine HA.out.mono ?_); rintro e w' ⟨rfl, rfl⟩))
          go_ret
          exact ⟨by rw [HB.out]; rfl, rfl⟩
        · have d4 : decide (i < (N : Int)) = false := by simpa using a4
          rw [d4] at HB
          clear a1 a2 a3 a4
          go_enter Try.func27, Try.ntmps27
          go_wp2_with (go_at_call 16; ((with_reducible refine HA.out.mono ?_); rintro e w' ⟨rfl, rfl⟩))
          go_ret
          exact ⟨by rw [HB.out]; rfl, rfl⟩
      · have d3 : decide (0 ≤ i) = false := by simpa using a3
        rw [d3] at HB
        clear a1 a2 a3
        go_enter Try.func27, Try.ntmps27
        go_wp2_with (go_at_call 16; ((with_reducible refine HA.out.mono ?_); rintro e w' ⟨rfl, rfl⟩))
        go_ret
        exact ⟨by rw [HB.out]; rfl, rfl⟩
    · have d2 : decide (row < (N : Int)) = false := by simpa using a2
      rw [d2] at HB
      clear a1 a2
      go_enter Try.func27, Try.ntmps27
      go_wp2_with (go_at_call 16; ((with_reducible refine HA.out.mono ?_); rintro e w' ⟨rfl, rfl⟩))
      go_ret
      exact ⟨by rw [HB.out]; rfl, rfl⟩
  · have d1 : decide (0 ≤ row) = false := by simpa using a1
    rw [d1] at HB
    clear a1
    go_enter Try.func27, Try.ntmps27
    go_wp2_with (go_at_call 16; ((with_reducible refine HA.out.mono ?_); rintro e w' ⟨rfl, rfl⟩))
    go_ret
    exact ⟨by rw [HB.out]; rfl, rfl⟩
/-- what a row that is told is -/
def Told (W : World) (K : Nat) (l : List Nat) (e : Ending) (w' : World) : Prop := ∃ A c, e = .returned (.slice A l.length c) ∧ Rd W K A c l ∧ W = w'
theorem Rf.list (h : Rf W bx gx K N L) (row : Int) : Calls Try.prog 18 #[wp bx, .int .i64 row] W (Told W K (listOf N L row)) := by
  have hnb := h.nb
  by_cases a1 : row < 0
  · have d1 : decide (row < 0) = true := by simpa using a1
    rw [show listOf N L row = [] by unfold listOf; rw [has_neg a1]; rfl]
    clear h
    go_enter Try.func18, Try.ntmps18
    go_wp2
    go_ret
    exact ⟨none, 0, rfl, Rd.nilq _ _, rfl⟩
  · have d1 : decide (row < 0) = false := by simpa using a1
    obtain ⟨r, rfl⟩ : ∃ r : Nat, row = r := ⟨row.toNat, by omega⟩
    have q0 := h.c0
    by_cases a2 : r < N
    · have d2 : decide (N ≤ r) = false := by simp; omega
      rw [show listOf N L (r : Int) = L r by unfold listOf; rw [has_is, decide_eq_true a2, if_pos rfl, Int.toNat_natCast]]
      obtain ⟨A, c, q2, hrd⟩ := h.rows r a2
      have q1 := h.c1
      have HR := Lib.hid hrd
      clear h hrd
      obtain ⟨m, hm⟩ : ∃ m, (L r).length = m := ⟨_, rfl⟩
      rw [hm] at q2
      have HM := Lib.hid hm
      clear hm
      go_enter Try.func18, Try.ntmps18
      go_wp2
      go_ret
      exact ⟨A, c, by rw [HM.out]; rfl, HR.out, rfl⟩
    · have d2 : decide (N ≤ r) = true := by simp; omega
      rw [show listOf N L (r : Int) = [] by unfold listOf; rw [has_is, decide_eq_false a2]; rfl]
      clear h
      go_enter Try.func18, Try.ntmps18
      go_wp2
      go_ret
      exact ⟨none, 0, rfl, Rd.nilq _ _, rfl⟩
/-- append in a region that draws, by what it comes to -/
theorem step_append_run {P : Program} {ops : Array Oper} {o : Oper} {a : Act} {w : World} {K : Act → World → Prop} {Q : Exit → Act → World → Prop} {E : Prop}
    (hg : o.guard = none) (s x : Operand) (t : TypeId) (hop : o.op = Op.call { callee := Callee.builtin Builtin.append, args := #[s, x], argTypes := #[t, t] })
    (vs vx : Value) (hs : a.eval s = vs) (hx : a.eval x = vx) (v' : Value) (w' : World) (hrun : (Builtin.append_ #[t, t] o.type #[vs, vx]).run P w = .ok v' w') (hK : K (a.put o.dst v') w') :
    if Region.wanted o (yielded ops a.tmps) = true then Oper.wp P o a w K Q else E := by
  have hw : Region.wanted o (yielded ops a.tmps) = true := by simp [Region.wanted, hg]
  rw [if_pos hw]
  unfold Oper.wp
  simp [execOp, hop, resolve, invoke, builtin, hs, hx, hrun, Result.andThen]
  exact hK
end
end Go.Proofs.Ythgcedhplbhiiaa
