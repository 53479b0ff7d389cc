/- The walk of the law that there is no ring where nobody gives way. -/
import Derived.Test.YtggmnjnigmbooaaVe
import Derived.Test.YtggmnjnigmbooaaHi
namespace Go.Proofs.Ytggmnjnigmbooaa
open Go Go.RowKit Go.Shelf
set_option maxRecDepth 100000

theorem foldl_stepL_ne {p : Int} {st : List Int} : ∀ (l out : List Es.Ed), out ≠ [] → l.foldl (stepL p st) out ≠ []
  | [], out, h => h
  | e :: l, out, h => by
    rw [List.foldl_cons]
    refine foldl_stepL_ne l _ ?_
    unfold stepL
    split
    · exact h
    · simp
/-- nobody gives way: by no edge -/
theorem allL_nobody {p : Int} {st : List Int} : ∀ {l : List Es.Ed}, allL p st l = [] → ∀ e ∈ l, judge p (atL st e.1) (atL st e.2) = 0
  | [], _, e, he => by cases he
  | x :: l, h, e, he => by
    unfold allL at h
    rw [List.foldl_cons] at h
    have hx : judge p (atL st x.1) (atL st x.2) = 0 := by
      by_cases q : judge p (atL st x.1) (atL st x.2) = 0
      · exact q
      · refine absurd h (foldl_stepL_ne l _ ?_)
        unfold stepL
        rw [if_neg (fun k => k.elim q (fun k => by simp at k))]
        simp
    have h0 : stepL p st [] x = [] := by unfold stepL; rw [if_pos (.inl hx)]
    rw [h0] at h
    rcases List.mem_cons.1 he with rfl | he
    · exact hx
    · exact allL_nobody (l := l) h e he
/-- where nobody gives way by either policy, and no two stamps are alike, there is no ring -/
theorem no_ring {p : Int} {st : List Int} {l : List Es.Ed} (hp : p = 1 ∨ p = 2) (h : allL p st l = []) (hne : ∀ e ∈ l, atL st e.1 ≠ atL st e.2) : ∀ x, ¬ Cy.Pl (Cy.EI l) x x := by
  rcases hp with rfl | rfl
  · have key : ∀ {a b : Int}, Cy.EI l a b → atL st a < atL st b := fun {a b} he => by
      have h1 : judge 1 (atL st a) (atL st b) = 0 := allL_nobody h _ he
      have h2 : atL st a ≠ atL st b := hne _ he
      unfold judge at h1
      rw [if_pos rfl] at h1
      by_cases q : atL st b < atL st a
      · rw [if_pos q] at h1
        omega
      · omega
    have rc : ∀ {a b : Int}, Cy.Rc (Cy.EI l) a b → atL st a ≤ atL st b := fun {a b} hr => by
      induction hr with
      | here a => exact Int.le_refl _
      | step e _ ih => have := key e; omega
    rintro x ⟨y, e, k⟩
    have := key e
    have := rc k
    omega
  · have key : ∀ {a b : Int}, Cy.EI l a b → atL st b < atL st a := fun {a b} he => by
      have h1 : judge 2 (atL st a) (atL st b) = 0 := allL_nobody h _ he
      have h2 : atL st a ≠ atL st b := hne _ he
      unfold judge at h1
      rw [if_neg (by decide), if_pos rfl] at h1
      by_cases q : atL st a < atL st b
      · rw [if_pos q] at h1
        omega
      · omega
    have rc : ∀ {a b : Int}, Cy.Rc (Cy.EI l) a b → atL st b ≤ atL st a := fun {a b} hr => by
      induction hr with
      | here a => exact Int.le_refl _
      | step e _ ih => have := key e; omega
    rintro x ⟨y, e, k⟩
    have := key e
    have := rc k
    omega
theorem rings_out (A A2 : Option Addr) (n n2 c c2 : Nat) (b : Bool) (w : World) (hn : n ≤ maxLen) (hn2 : n2 ≤ maxLen) (h : 30 < n ∨ 40 < n2) :
    Calls Try.prog 5 #[.slice A n c, .slice A2 n2 c2, .bool b] w fun e w' => e = .returned (.bool true) ∧ Below w.heap.size w w' := by
  have HA := Lib.hid (awake_any w)
  unfold maxLen at hn hn2
  by_cases q0 : (30 : Int) < (n : Int)
  · have d0 : decide ((30 : Int) < (n : Int)) = true := decide_eq_true q0
    clear h
    go_enter Try.func5, Try.ntmps5
    go_wp2_with fail
    refine HA.out.mono ?_
    rintro e w1 ⟨rfl, rfl⟩
    go_wp2_with fail
    go_ret
    exact ⟨rfl, Below.refl _ _⟩
  have d0 : decide ((30 : Int) < (n : Int)) = false := decide_eq_false q0
  have q1 : (40 : Int) < (n2 : Int) := by omega
  have d1 : decide ((40 : Int) < (n2 : Int)) = true := decide_eq_true q1
  clear h
  go_enter Try.func5, Try.ntmps5
  go_wp2_with fail
  refine HA.out.mono ?_
  rintro e w1 ⟨rfl, rfl⟩
  go_wp2_with fail
  go_ret
  exact ⟨rfl, Below.refl _ _⟩
set_option maxHeartbeats 8000000 in
theorem rings_walk (A : Option Addr) (n c : Nat) (st : List Int) (A2 : Option Addr) (n2 c2 : Nat) (l : List Es.Ed) (wound : Bool) (w : World)
    (hm : n ≤ maxLen) (hn : st.length = n) (hs : Is.Ls w A c st) (hm2 : n2 ≤ maxLen) (hn2 : l.length = n2) (hl : Es.Ls w A2 c2 l) (hw : ∀ e ∈ l, wf64 e.1 ∧ wf64 e.2) :
    Calls Try.prog 5 #[.slice A n c, .slice A2 n2 c2, .bool wound] w fun e w' => e = .returned (.bool true) ∧ Below w.heap.size w w' := by
  by_cases hout : 30 < n ∨ 40 < n2
  · exact rings_out A A2 n n2 c c2 wound w hm hm2 hout
  have q0 : ¬ (30 : Int) < (n : Int) := by omega
  have q1 : ¬ (40 : Int) < (n2 : Int) := by omega
  have q0' : decide ((30 : Int) < (n : Int)) = false := decide_eq_false q0
  have q1' : decide ((40 : Int) < (n2 : Int)) = false := decide_eq_false q1
  have hcap : n ≤ c := hn ▸ hs.cap
  have hroom := hs.room
  unfold maxLen at hroom
  have HA := Lib.hid (awake_any w)
  have HS := Lib.hid hs
  have HL := Lib.hid hl
  have HN := Lib.hid hn
  have HN2 := Lib.hid hn2
  have HAll1 := Lib.hid (fun (X : World) (hX : Below w.heap.size w X) => all_any (hl.below hX) hw (hs.below hX) (by omega) 1)
  have HAll2 := Lib.hid (fun (X : World) (hX : Below w.heap.size w X) => all_any (hl.below hX) hw (hs.below hX) (by omega) 2)
  have HOnX := Lib.hid (fun (X : World) (hX : Below w.heap.size w X) => onC_any (hl.below hX) (by omega))
  simp only [hn, hn2] at HAll1 HAll2 HOnX
  clear hs hl hn hn2 hm hm2 hw hout
  go_enter Try.func5, Try.ntmps5
  go_wp2_with fail
  refine HA.out.mono ?_
  rintro e w1 ⟨rfl, rfl⟩
  go_wp2_with fail
  go_loopw [26] (fun t wr => ∃ k : Nat, k ≤ n ∧ t = .int .i64 k ∧ wr = w1 ∧ ∀ i j : Nat, i < k → j < i → atL st i ≠ atL st j) (fun t _ => n - (intOf t).toNat)
  case atStart => exact ⟨0, Nat.zero_le _, rfl, rfl, by omega⟩
  case round =>
    obtain ⟨k, hk, rfl, hwr, hlt⟩ := hrel
    obtain rfl : w1 = wr := hwr.symm
    have HLt := Lib.hid hlt
    clear hlt hwr
    by_cases hkn : k < n
    · have hks : k < st.length := by rw [HN.out]; exact hkn
      obtain ⟨a0, ha0, z1⟩ := HS.out.here hks
      subst ha0
      obtain ⟨s, hs⟩ : ∃ s, st[k] = s := ⟨_, rfl⟩
      have HSk := Lib.hid (show atL st (k : Int) = s by rw [atL_at hks, hs])
      have hkc : k ≤ c := by omega
      rw [hs] at z1
      clear hs hks
      go_wp2_with fail
      go_loopw [35] (fun t wr => ∃ i : Nat, i ≤ k ∧ t = .int .i64 i ∧ wr = w1 ∧ ∀ j : Nat, j < i → s ≠ atL st j) (fun t _ => k - (intOf t).toNat)
      case atStart => exact ⟨0, Nat.zero_le _, rfl, rfl, by omega⟩
      case round =>
        obtain ⟨i, hi, rfl, hwr, hlt⟩ := hrel
        obtain rfl : w1 = wr := hwr.symm
        have HLi := Lib.hid hlt
        clear hlt hwr
        by_cases hik : i < k
        · have his : i < st.length := by rw [HN.out]; omega
          obtain ⟨a1, ha1, z2⟩ := HS.out.here his
          obtain rfl : a0 = a1 := by simpa using ha1
          obtain ⟨t, ht⟩ : ∃ s, st[i] = s := ⟨_, rfl⟩
          have HSi := Lib.hid (show atL st (i : Int) = t by rw [atL_at his, ht])
          rw [ht] at z2
          clear ht his ha1
          by_cases hst : s = t
          · go_wp2_with fail
            go_ret
            exact ⟨rfl, Below.refl _ _⟩
          · have HNe := Lib.hid hst
            have hst' : (s == t) = false := by simpa using hst
            go_wp2_with fail
            go_roundw
            case rel => exact ⟨i + 1, by omega, by go_num, trivial, fun j hj => by
              by_cases e : j < i
              · exact HLi.out j e
              · obtain rfl : j = i := by omega
                rw [HSi.out]; exact HNe.out⟩
            case measure => simp [intOf]; omega
        · obtain rfl : k = i := by omega
          go_wp2_with fail
          go_roundw
          case rel => exact ⟨k + 1, by omega, by go_num, trivial, fun i j hi hj => by
            by_cases e : i < k
            · exact HLt.out i j e hj
            · obtain rfl : i = k := by omega
              rw [HSk.out]; exact HLi.out j hj⟩
          case measure => simp [intOf]; omega
    · obtain rfl : n = k := by omega
      have HUn := Lib.hid (show ∀ x y : Int, 0 ≤ x → 0 ≤ y → x < (n : Int) → y < (n : Int) → x ≠ y → atL st x ≠ atL st y from fun x y h1 h2 h3 h4 h5 => by
        obtain ⟨i, rfl⟩ : ∃ i : Nat, x = (i : Int) := ⟨x.toNat, by omega⟩
        obtain ⟨j, rfl⟩ : ∃ j : Nat, y = (j : Int) := ⟨y.toNat, by omega⟩
        by_cases e : j < i
        · exact HLt.out i j (by omega) e
        · exact fun q => HLt.out j i (by omega) (by omega) q.symm)
      clear hkn hk HLt
      go_wp2_with fail
      go_loopw [46] (fun t wr => ∃ k : Nat, k ≤ n2 ∧ t = .int .i64 k ∧ Below w1.heap.size w1 wr ∧ ∀ e ∈ l.take k, atL st e.1 ≠ atL st e.2) (fun t _ => n2 - (intOf t).toNat)
      case atStart => exact ⟨0, Nat.zero_le _, rfl, Below.refl _ _, by simp⟩
      case round =>
        obtain ⟨k, hk, rfl, hb, hlt⟩ := hrel
        have HLt := Lib.hid hlt
        have HB := Lib.hid hb
        clear hlt hb
        by_cases hkn : k < n2
        · have hkl : k < l.length := by rw [HN2.out]; exact hkn
          obtain ⟨a1, ha1, c0, c1⟩ := (HL.out.below HB.out).here hkl
          subst ha1
          obtain ⟨⟨y, z⟩, hyz⟩ : ∃ x, l[k] = x := ⟨_, rfl⟩
          have HT := Lib.hid (show l.take (k + 1) = l.take k ++ [(y, z)] by rw [List.take_succ_eq_append_getElem hkl, hyz])
          rw [hyz] at c0 c1
          simp only at c0 c1
          have hbx := box_below wr (.cells #[.int .i64 y, .int .i64 z] 34)
          have HBx := Lib.hid (HB.out.trans (hbx.mono HB.out.size))
          clear hbx hyz hkl
          by_cases r0 : y < 0
          · go_wp2_with fail
            go_ret
            exact ⟨rfl, HBx.out⟩
          by_cases r1 : z < 0
          · go_wp2_with fail
            go_ret
            exact ⟨rfl, HBx.out⟩
          by_cases r2 : (n : Int) ≤ y
          · go_wp2_with fail
            go_ret
            exact ⟨rfl, HBx.out⟩
          by_cases r3 : (n : Int) ≤ z
          · go_wp2_with fail
            go_ret
            exact ⟨rfl, HBx.out⟩
          by_cases r4 : y = z
          · subst r4
            go_wp2_with fail
            go_ret
            exact ⟨rfl, HBx.out⟩
          have HOk := Lib.hid (HUn.out y z (by omega) (by omega) (by omega) (by omega) r4)
          have r4' : (y == z) = false := by simpa using r4
          clear r4
          go_wp2_with fail
          go_roundw
          case rel => exact ⟨k + 1, by omega, by go_num, HBx.out, fun e he => by
            rw [HT.out] at he
            rcases List.mem_append.1 he with he | he
            · exact HLt.out e he
            · rw [List.mem_singleton.1 he]; exact HOk.out⟩
          case measure => simp [intOf]; omega
        · obtain rfl : n2 = k := by omega
          obtain ⟨w8, rfl⟩ : ∃ w8, w8 = wr := ⟨_, rfl⟩
          have HNe := Lib.hid (show ∀ e ∈ l, atL st e.1 ≠ atL st e.2 from fun e he => HLt.out e (by rw [List.take_of_length_le (Nat.le_of_eq HN2.out)]; exact he))
          clear hkn hk HLt HUn
          cases wound with
          | false =>
            have HCall := Lib.hid (HAll1.out w8 HB.out)
            have HNr := Lib.hid (fun h => no_ring (p := 1) (st := st) (l := l) (.inl rfl) h HNe.out)
            clear HAll1 HAll2
            go_wp2_with fail
            refine HCall.out.mono ?_
            rintro e w7 ⟨v7, rfl, hr7, hb7⟩
            obtain ⟨A7, c7, rfl, -⟩ := hr7.ls
            have HB7 := Lib.hid (HB.out.trans (hb7.mono HB.out.size))
            obtain ⟨q, hq⟩ : ∃ q, (allL 1 st l).length = q := ⟨_, rfl⟩
            have HQ := Lib.hid hq
            have hql : q ≤ 40 := by have := allL_len (p := 1) (st := st) (l := l) l.length (Nat.le_refl _); rw [List.take_length, HN2.out, hq] at this; omega
            rw [hq]
            clear hr7 hb7 hq HCall
            by_cases h0 : 0 < q
            · have h0' : (0 : Int) < (q : Int) := by omega
              have h0d : decide (0 < q) = true := decide_eq_true h0
              go_wp2_with fail
              go_ret
              exact ⟨rfl, HB7.out⟩
            · obtain rfl : q = 0 := by omega
              have HOn := Lib.hid (HOnX.out w7 HB7.out)
              have HNo := Lib.hid (HNr.out (List.length_eq_zero_iff.1 HQ.out))
              clear HOnX HNr h0 hql
              go_wp2_with fail
              refine HOn.out.mono ?_
              rintro e w6 ⟨v6, on, rfl, hr6, hos, hb6⟩
              obtain ⟨A6, c6, rfl, -⟩ := hr6.ls
              have hon : on = [] := List.eq_nil_iff_forall_not_mem.2 fun y hy => HNo.out y ((hos.mem y).1 hy)
              subst hon
              have HB6 := Lib.hid (HB7.out.trans (hb6.mono HB7.out.size))
              clear hr6 hos hb6
              simp only [List.length_nil]
              go_wp2_with fail
              go_ret
              exact ⟨rfl, HB6.out⟩
          | true =>
            have HCall := Lib.hid (HAll2.out w8 HB.out)
            have HNr := Lib.hid (fun h => no_ring (p := 2) (st := st) (l := l) (.inr rfl) h HNe.out)
            clear HAll1 HAll2
            go_wp2_with fail
            refine HCall.out.mono ?_
            rintro e w7 ⟨v7, rfl, hr7, hb7⟩
            obtain ⟨A7, c7, rfl, -⟩ := hr7.ls
            have HB7 := Lib.hid (HB.out.trans (hb7.mono HB.out.size))
            obtain ⟨q, hq⟩ : ∃ q, (allL 2 st l).length = q := ⟨_, rfl⟩
            have HQ := Lib.hid hq
            have hql : q ≤ 40 := by have := allL_len (p := 2) (st := st) (l := l) l.length (Nat.le_refl _); rw [List.take_length, HN2.out, hq] at this; omega
            rw [hq]
            clear hr7 hb7 hq HCall
            by_cases h0 : 0 < q
            · have h0' : (0 : Int) < (q : Int) := by omega
              have h0d : decide (0 < q) = true := decide_eq_true h0
              go_wp2_with fail
              go_ret
              exact ⟨rfl, HB7.out⟩
            · obtain rfl : q = 0 := by omega
              have HOn := Lib.hid (HOnX.out w7 HB7.out)
              have HNo := Lib.hid (HNr.out (List.length_eq_zero_iff.1 HQ.out))
              clear HOnX HNr h0 hql
              go_wp2_with fail
              refine HOn.out.mono ?_
              rintro e w6 ⟨v6, on, rfl, hr6, hos, hb6⟩
              obtain ⟨A6, c6, rfl, -⟩ := hr6.ls
              have hon : on = [] := List.eq_nil_iff_forall_not_mem.2 fun y hy => HNo.out y ((hos.mem y).1 hy)
              subst hon
              have HB6 := Lib.hid (HB7.out.trans (hb6.mono HB7.out.size))
              clear hr6 hos hb6
              simp only [List.length_nil]
              go_wp2_with fail
              go_ret
              exact ⟨rfl, HB6.out⟩
end Go.Proofs.Ytggmnjnigmbooaa
