/- The places of a list that have a number from 0 on below n: told one by one. -/
import Derived.Test.YtjaiahnibeieiaaA3
import Derived.Test.YtjaiahnibeieiaaR2
import Derived.OwnWalkIn
import Derived.TacticsInMore
import Derived.LoopNIn
import Derived.LoopIn
import Derived.Scope
import Derived.Shelf.RegionOpen
namespace Go.Proofs.Ytjaiahnibeieiaa
open Go Go.RowKit Go.Shelf
attribute [local go_sem] Oper.semAt_some

/-- a place, as it is told -/
abbrev Told := Nat × Int
abbrev encT (x : Told) : Array Value := #[.int .i64 (x.1 : Int), .int .i64 x.2]
/-- those of the first j places -/
def plN (z : Nat → Int) (n : Int) : Nat → List Told
  | 0 => []
  | j + 1 => plN z n j ++ (if 0 ≤ z j ∧ z j < n then [(j, z j)] else [])
theorem plN_yes {z : Nat → Int} {n : Int} {j : Nat} (h : 0 ≤ z j ∧ z j < n) : plN z n (j + 1) = plN z n j ++ [(j, z j)] := by
  show plN z n j ++ _ = _
  rw [if_pos h]
theorem plN_no {z : Nat → Int} {n : Int} {j : Nat} (h : ¬ (0 ≤ z j ∧ z j < n)) : plN z n (j + 1) = plN z n j := by
  show plN z n j ++ _ = _
  rw [if_neg h, List.append_nil]
theorem plN_split (z : Nat → Int) (n : Int) {i j : Nat} (h : i ≤ j) : ∃ r, plN z n j = plN z n i ++ r := by
  induction j with
  | zero => obtain rfl : i = 0 := by omega
            exact ⟨[], by simp⟩
  | succ j ih =>
    by_cases e : i = j + 1
    · subst e; exact ⟨[], by simp⟩
    · obtain ⟨r, hr⟩ := ih (by omega)
      exact ⟨r ++ (if 0 ≤ z j ∧ z j < n then [(j, z j)] else []), by show plN z n j ++ _ = _; rw [hr, List.append_assoc]⟩
theorem plN_length (z : Nat → Int) (n : Int) (j : Nat) : (plN z n j).length ≤ j := by
  induction j with
  | zero => exact Nat.le_refl _
  | succ j ih =>
    show (plN z n j ++ _).length ≤ _
    rw [List.length_append]
    split <;> simp <;> omega
theorem mem_plN {z : Nat → Int} {n : Int} {j : Nat} {x : Told} (h : x ∈ plN z n j) : x.1 < j ∧ 0 ≤ x.2 ∧ x.2 < n := by
  induction j with
  | zero => cases h
  | succ j ih =>
    have h' : x ∈ plN z n j ++ (if 0 ≤ z j ∧ z j < n then [(j, z j)] else []) := h
    rcases List.mem_append.1 h' with h' | h'
    · obtain ⟨h1, h2⟩ := ih h'
      exact ⟨by omega, h2⟩
    · split at h'
      · rename_i hc
        simp only [List.mem_singleton] at h'
        subst h'
        exact ⟨Nat.lt_succ_self _, hc⟩
      · cases h'
/-- what the iterator reads -/
def Reads (bl bn : Nat) (A : Option Addr) (L : Nat) : Nat → Prop := fun k => k = bl ∨ k = bn ∨ ∃ ad, A = some ad ∧ 0 < L ∧ k = ad.block
theorem reads_lt {w : World} {bl bn L c : Nat} {A : Option Addr} {n : Int} (h1 : w.cell? ⟨bl, 0, none⟩ = some (.slice A L c)) (h2 : w.cell? ⟨bn, 0, none⟩ = some (.int .i64 n)) {z : Nat → Int} (hz : Rf w A L z) : ∀ k, Reads bl bn A L k → k < w.heap.size := by
  rintro k (rfl | rfl | ⟨ad, h, h0, rfl⟩)
  · exact cell_lt h1
  · exact cell_lt h2
  · obtain ⟨ad', e, hl, -⟩ := hz 0 h0
    rw [h] at e
    cases e
    exact hl
theorem places_any (A : Option Addr) (L c : Nat) (n : Int) (W : World) : Calls Try.prog 22 #[.slice A L c, .int .i64 n] W fun e w' => e = .returned (.func (.func 26) #[] #[wp W.heap.size, wp (W.heap.size + 1)]) ∧ w' = (W.alloc (.cells #[.slice A L c] 23)).alloc (.cells #[.int .i64 n] 3) := by
  go_enter Try.func22, Try.ntmps22
  go_wp2
  go_ret
  exact ⟨rfl, rfl⟩
set_option maxRecDepth 100000 in
set_option maxHeartbeats 2000000 in
theorem places_tells {w : World} {bl bn L c : Nat} {A : Option Addr} {n : Int} {z : Nat → Int} (h1 : w.cell? ⟨bl, 0, none⟩ = some (.slice A L c)) (h2 : w.cell? ⟨bn, 0, none⟩ = some (.int .i64 n)) (hz : Rf w A L z) (hL : L ≤ maxLen) :
    Tells Try.prog 26 #[] #[wp bl, wp bn] encT (Reads bl bn A L) (plN z n L) w := by
  intro l J Jx W hW hJ hY h0
  have q1 : W.cell? ⟨bl, 0, none⟩ = some (.slice A L c) := (hW.cell (p := ⟨bl, 0, none⟩) (cell_lt h1)).trans h1
  have HQ2 := Lib.hid ((hW.cell (p := ⟨bn, 0, none⟩) (cell_lt h2)).trans h2)
  have HZ := Lib.hid (hz.below hW)
  have HY := Lib.hid hY
  have hK : Keeps (Reads bl bn A L) W W := Keeps.refl _ _
  clear hY hJ hW h1 h2 hz
  unfold maxLen at hL
  refine callsIn_of_wp Try.func26 rfl trivial ?_ rfl
  simp only [Try.ntmps26, List.size_toArray, List.length_cons, List.length_nil, Nat.reduceAdd, Nat.reduceSub, Array.replicate_succ, Array.replicate_zero, List.push_toArray, List.append_toArray, List.nil_append, List.cons_append]
  gi_wp2
  refine wpIn_wide.2 ?_
  refine wp_scope_straight ?_
  refine (wpIn_wide (n := 8)).1 ?_
  refine wpIn_seq ?_
  refine wpIn_label ?_
  gi_wp2
  gi_loopw [8] (fun t wr => ∃ j : Nat, j ≤ L ∧ t = .int .i64 j ∧ J (plN z n j) wr ∧ Keeps (Reads bl bn A L) W wr) (fun t _ => L - (intOf t).toNat)
  case atStart => exact ⟨0, by omega, rfl, h0, hK⟩
  case round =>
    obtain ⟨j, hj, rfl, hjj, hbj⟩ := hrel
    clear h0 hK q1
    by_cases hjn : j < L
    · have hzr := HZ.out.keep hbj.size (fun ad ha h0 => hbj.block _ (.inr (.inr ⟨ad, ha, h0, rfl⟩)))
      obtain ⟨ad, rfl, -, q3⟩ := hzr j hjn
      have q2 : wr.cell? ⟨bn, 0, none⟩ = some (.int .i64 n) := (World.cell?_of_block (w := W) (a := ⟨bn, 0, none⟩) (hbj.block bn (.inr (.inl rfl)))).trans HQ2.out
      have HB := Lib.hid hbj
      have HJJ := Lib.hid hjj
      clear hzr hbj hjj
      by_cases hu : 0 ≤ z j ∧ z j < n
      · have hU := plN_yes hu
        obtain ⟨r, hr⟩ := plN_split z n (show j + 1 ≤ L from hjn)
        have hpre : plN z n L = plN z n j ++ (j, z j) :: r := by rw [hr, hU]; simp
        obtain ⟨fn, tmps, assign, body, hy, hR⟩ := HY.out _ (j, z j) _ _ hpre HJJ.out
        have HU := Lib.hid hU
        have HP := Lib.hid (show plN z n L = (plN z n j ++ [(j, z j)]) ++ r by rw [hpre]; simp)
        have d1 : ¬ z j < 0 := by omega
        have d2 : ¬ n ≤ z j := by omega
        generalize z j = x at q3 hy hR HU HP d1 d2
        clear hr hpre hU hu
        gi_wp2
        refine hR.mono ?_
        rintro e W3 (⟨rfl, hJ3, hk3⟩ | ⟨rfl, hJx3⟩)
        · have HB3 := Lib.hid (HB.out.trans hk3)
          clear hy hR q2 q3 hk3
          gi_wp2
          go_roundw
          case rel => exact ⟨j + 1, by omega, by go_num, by rw [HU.out]; exact hJ3, HB3.out⟩
          case measure => simp [intOf]; omega
        · gi_wp2
          dsimp only [Exit.noGoto]
          go_end0
          exact ⟨⟨_, rfl⟩, .inr ⟨_, _, HP.out, hJx3⟩⟩
      · have HU := Lib.hid (plN_no hu)
        by_cases d1 : z j < 0
        · generalize z j = x at q3 d1
          clear hu
          gi_wp2
          go_roundw
          case rel => exact ⟨j + 1, by omega, by go_num, by rw [HU.out]; exact HJJ.out, HB.out⟩
          case measure => simp [intOf]; omega
        · have d2 : n ≤ z j := by omega
          generalize z j = x at q3 d1 d2
          clear hu
          gi_wp2
          go_roundw
          case rel => exact ⟨j + 1, by omega, by go_num, by rw [HU.out]; exact HJJ.out, HB.out⟩
          case measure => simp [intOf]; omega
    · obtain rfl : j = L := by omega
      gi_wp2
      dsimp only [Exit.noGoto]
      go_end0
      exact ⟨⟨_, rfl⟩, .inl hjj⟩
end Go.Proofs.Ytjaiahnibeieiaa
