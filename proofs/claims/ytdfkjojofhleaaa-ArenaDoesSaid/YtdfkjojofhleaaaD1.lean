/- An arena tells its used places, one by one. -/
import Derived.Test.YtdfkjojofhleaaaA2
import Derived.OwnWalkIn
import Derived.TacticsInMore
import Derived.LoopNIn
import Derived.LoopIn
import Derived.Shelf.RegionOpen
namespace Go.Proofs.Ytdfkjojofhleaaa
open Go Go.RowKit Go.Shelf
attribute [local go_sem] Oper.semAt_some

/-- a used place, as it is told -/
abbrev Told := Nat × Int
abbrev encT (x : Told) : Array Value := #[.int .i64 (x.1 : Int), .int .i64 x.2]
/-- the used ones of the first n places -/
def usedN (ps : List Pl) : Nat → List Told
  | 0 => []
  | n + 1 => usedN ps n ++ (match ps[n]? with | some x => if x.2 then [(n, x.1)] else [] | none => [])
def usedL (ps : List Pl) : List Told := usedN ps ps.length
theorem usedN_yes {ps : List Pl} {n : Nat} (h : n < ps.length) (hu : ps[n].2 = true) : usedN ps (n + 1) = usedN ps n ++ [(n, ps[n].1)] := by
  show usedN ps n ++ _ = _
  rw [List.getElem?_eq_getElem h]
  simp [hu]
theorem usedN_no {ps : List Pl} {n : Nat} (h : n < ps.length) (hu : ps[n].2 = false) : usedN ps (n + 1) = usedN ps n := by
  show usedN ps n ++ _ = _
  rw [List.getElem?_eq_getElem h]
  simp [hu]
theorem usedN_split (ps : List Pl) {i n : Nat} (h : i ≤ n) : ∃ r, usedN ps n = usedN ps i ++ r := by
  induction n with
  | zero => obtain rfl : i = 0 := by omega
            exact ⟨[], by simp⟩
  | succ n ih =>
    by_cases e : i = n + 1
    · subst e; exact ⟨[], by simp⟩
    · obtain ⟨r, hr⟩ := ih (by omega)
      exact ⟨r ++ (match ps[n]? with | some x => if x.2 then [(n, x.1)] else [] | none => []), by show usedN ps n ++ _ = _; rw [hr, List.append_assoc]⟩
theorem usedN_length (ps : List Pl) (n : Nat) : (usedN ps n).length ≤ n := by
  induction n with
  | zero => exact Nat.le_refl _
  | succ n ih =>
    show (usedN ps n ++ _).length ≤ _
    rw [List.length_append]
    split
    · split <;> simp <;> omega
    · simp; omega
theorem mem_usedN {ps : List Pl} {n : Nat} {x : Told} (h : x ∈ usedN ps n) : x.1 < n ∧ ∃ hx : x.1 < ps.length, ps[x.1] = (x.2, true) := by
  induction n with
  | zero => cases h
  | succ n ih =>
    have h' : x ∈ usedN ps n ++ (match ps[n]? with | some x => if x.2 then [(n, x.1)] else [] | none => []) := h
    rcases List.mem_append.1 h' with h' | h'
    · obtain ⟨h1, h2⟩ := ih h'
      exact ⟨by omega, h2⟩
    · cases hp : ps[n]? with
      | none => rw [hp] at h'; cases h'
      | some y =>
        rw [hp] at h'
        obtain ⟨hn, hy⟩ := List.getElem?_eq_some_iff.1 hp
        cases hu : y.2 with
        | false => simp [hu] at h'
        | true =>
          simp only [hu, if_true, List.mem_singleton] at h'
          subst h'
          refine ⟨Nat.lt_succ_self _, hn, ?_⟩
          show ps[n] = (y.1, true)
          rw [hy]
          cases y
          simp at hu
          rw [hu]

set_option maxRecDepth 100000 in
set_option maxHeartbeats 2000000 in
theorem each_tells {w : World} {b m : Nat} {pv fv : Value} {ps : List Pl} {fs : List Nat} (hw : ArenaAt w b m pv fv ps fs) :
    Tells Try.prog 20 #[wp b] #[] encT (· < w.heap.size) (usedL ps) w := by
  intro l J Jx W hW hJ hY h0
  have hq := (hw.below hW).c1
  have hn4 : ps.length ≤ 4096 := Nat.le_trans hw.ple hw.mle
  obtain ⟨A, c, rfl, hA⟩ := row_slice hw.rp
  have HA := Lib.hid hA
  have HW := Lib.hid hw
  have HJ := Lib.hid hJ
  have HY := Lib.hid hY
  obtain ⟨n, hn⟩ : ∃ n, ps.length = n := ⟨_, rfl⟩
  have HN := Lib.hid hn
  have hz := hW.size
  have hK : Keeps (· < w.heap.size) w W := ⟨hW.size, hW.block⟩
  rw [hn] at hq hn4
  clear hw hJ hY hA hn hW
  refine callsIn_of_wp Try.func20 rfl trivial ?_ rfl
  simp only [Try.ntmps20, List.size_toArray, List.length_cons, List.length_nil, Nat.reduceAdd, Nat.reduceSub, Array.replicate_succ, Array.replicate_zero, List.push_toArray, List.append_toArray, List.nil_append, List.cons_append]
  gi_wp2
  gi_loopw [13] (fun t wr => ∃ j : Nat, j ≤ n ∧ t = .int .i64 j ∧ J (usedN ps j) wr ∧ Keeps (· < w.heap.size) w wr) (fun t _ => n - (intOf t).toNat)
  case atStart => exact ⟨0, by omega, rfl, h0, hK⟩
  case round =>
    obtain ⟨j, hj, rfl, hjj, hbj⟩ := hrel
    clear h0 hK hq
    by_cases hjn : j < n
    · have hjl : j < ps.length := by rw [HN.out]; exact hjn
      rcases HA.out with h' | ⟨g, rfl⟩
      · omega
      have hro := HW.out.keeps hbj
      obtain ⟨c1, c2, _, _⟩ := hro.place hjl
      have hgl := (hro.rp.lt g rfl).2
      have hb1 := box_below wr (.cells #[.int .i64 ps[j].1, .bool ps[j].2] 49)
      have hkb : Keeps (· < w.heap.size) wr (wr.alloc (.cells #[.int .i64 ps[j].1, .bool ps[j].2] 49)) := keeps_of hb1 (fun k hk => Nat.lt_of_lt_of_le hk hbj.size)
      have HB := Lib.hid (hbj.trans hkb)
      have HJJ := Lib.hid (HJ.out _ _ _ hjj hb1)
      cases hu : ps[j].2
      · have HU := Lib.hid (usedN_no hjl hu)
        rw [hu] at c2 HB HJJ
        obtain ⟨x, hx⟩ : ∃ x, ps[j].1 = x := ⟨_, rfl⟩
        rw [hx] at c1 HB HJJ
        clear hu hx hro hb1 hkb hjl hjj hbj
        gi_wp2
        refine ⟨(fun _ hf => by cases hf), ?_⟩
        gi_wp2
        go_roundw
        case rel => exact ⟨j + 1, by omega, by go_num, by rw [HU.out]; exact HJJ.out, HB.out⟩
        case measure => simp [intOf]; omega
      · have hU := usedN_yes hjl hu
        rw [hu] at c2 HB HJJ
        obtain ⟨x, hx⟩ : ∃ x, ps[j].1 = x := ⟨_, rfl⟩
        rw [hx] at c1 HB HJJ hU
        obtain ⟨r, hr⟩ := usedN_split ps (show j + 1 ≤ ps.length from hjl)
        have hpre : usedL ps = usedN ps j ++ (j, x) :: r := by show usedN ps ps.length = _; rw [hr, hU]; simp
        obtain ⟨fn, tmps, assign, body, hy, hR⟩ := HY.out _ (j, x) _ _ hpre HJJ.out
        have HU := Lib.hid hU
        have HP := Lib.hid (show usedL ps = (usedN ps j ++ [(j, x)]) ++ r by rw [hpre]; simp)
        clear hu hx hro hb1 hkb hjl hjj hU hr hpre hbj
        gi_wp2
        refine hR.mono ?_
        rintro e W3 (⟨rfl, hJ3, hk3⟩ | ⟨rfl, hJx3⟩)
        · have HB3 := Lib.hid (HB.out.trans hk3)
          clear hy hR c1 c2 hk3
          gi_wp2
          go_roundw
          case rel => exact ⟨j + 1, by omega, by go_num, by rw [HU.out]; exact hJ3, HB3.out⟩
          case measure => simp [intOf]; omega
        · gi_wp2
          refine bodyPost_ret (results_none rfl _ _ _) rfl ?_
          exact ⟨⟨_, rfl⟩, .inr ⟨_, _, HP.out, hJx3⟩⟩
    · obtain rfl : j = n := by omega
      gi_wp2
      go_end0
      refine ⟨⟨_, rfl⟩, .inl ?_⟩
      show J (usedN ps ps.length) _
      rw [HN.out]
      exact hjj
set_option maxRecDepth 100000 in
theorem none_tells (w : World) : Tells Try.prog 20 #[.pointer none] #[] encT (· < w.heap.size) [] w := by
  intro l J Jx W hW hJ hY h0
  clear hW hJ hY
  refine callsIn_of_wp Try.func20 rfl trivial ?_ rfl
  simp only [Try.ntmps20, List.size_toArray, List.length_cons, List.length_nil, Nat.reduceAdd, Nat.reduceSub, Array.replicate_succ, Array.replicate_zero, List.push_toArray, List.append_toArray, List.nil_append, List.cons_append]
  gi_wp2
  refine bodyPost_ret (results_none rfl _ _ _) rfl ?_
  exact ⟨⟨_, rfl⟩, .inl h0⟩
end Go.Proofs.Ytdfkjojofhleaaa
