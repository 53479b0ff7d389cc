/- The walk of the law that the oldest never gives way: its rounds. -/
import Derived.Test.YtggmnjnigmbooaaVg
namespace Go.Proofs.Ytggmnjnigmbooaa
open Go Go.RowKit Go.Shelf
set_option maxRecDepth 100000

set_option maxHeartbeats 8000000 in
theorem oldest_walk (A : Option Addr) (n c : Nat) (st : List Int) (A2 : Option Addr) (n2 c2 : Nat) (l : List Es.Ed) (p x : Int) (A3 : Option Addr) (n3 c3 : Nat) (lk : List Int) (w : World)
    (hm : n ≤ maxLen) (hn : st.length = n) (hs : Is.Ls w A c st) (hm2 : n2 ≤ maxLen) (hn2 : l.length = n2) (hl : Es.Ls w A2 c2 l) (hw : ∀ e ∈ l, wf64 e.1 ∧ wf64 e.2) (hm3 : n3 ≤ maxLen) (hn3 : lk.length = n3) (hk : Is.Ls w A3 c3 lk) :
    Calls Try.prog 4 #[.slice A n c, .slice A2 n2 c2, .int .i64 p, .int .i64 x, .slice A3 n3 c3] w fun e w' => e = .returned (.bool true) ∧ Below w.heap.size w w' := by
  by_cases hout : 30 < n ∨ 40 < n2 ∨ x < 0 ∨ (n : Int) ≤ x ∨ 40 < n3
  · exact oldest_out A A2 A3 n n2 n3 c c2 c3 p x w hm hm2 hm3 hout
  obtain ⟨m, rfl⟩ : ∃ m : Nat, x = (m : Int) := ⟨x.toNat, by omega⟩
  have hmn : m < n := by omega
  have hms : m < st.length := by omega
  have q0 : ¬ (30 : Int) < (n : Int) := by omega
  have q1 : ¬ (40 : Int) < (n2 : Int) := by omega
  have q2 : ¬ (40 : Int) < (n3 : Int) := by omega
  have q3 : ¬ (n : Int) ≤ (m : Int) := by omega
  have q0' : decide ((30 : Int) < (n : Int)) = false := decide_eq_false q0
  have q1' : decide ((40 : Int) < (n2 : Int)) = false := decide_eq_false q1
  have q2' : decide ((40 : Int) < (n3 : Int)) = false := decide_eq_false q2
  have q3' : decide ((n : Int) ≤ (m : Int)) = false := decide_eq_false q3
  have HA := Lib.hid (awake_any w)
  have HS := Lib.hid hs
  have HL := Lib.hid hl
  have HN := Lib.hid hn
  have HN2 := Lib.hid hn2
  have HAll := Lib.hid (fun (X : World) (hX : Below w.heap.size w X) => all_any (hl.below hX) hw (hs.below hX) (by omega) p)
  have HCh := Lib.hid (fun (X : World) (hX : Below w.heap.size w X) => choose_any (hs.below hX) (hk.below hX) 0)
  simp only [hn, hn2, hn3] at HAll HCh
  obtain ⟨a0, ha0, zm⟩ := hs.here hms
  subst ha0
  obtain ⟨sm, hsm⟩ : ∃ s, st[m] = s := ⟨_, rfl⟩
  rw [hsm] at zm
  have HSm := Lib.hid (show atL st (m : Int) = sm by rw [atL_at hms, hsm])
  clear hs hl hk hn hn2 hn3 hm hm2 hm3 hw hout hsm
  go_enter Try.func4, Try.ntmps4
  go_wp2_with fail
  refine HA.out.mono ?_
  rintro e w1 ⟨rfl, rfl⟩
  go_wp2_with fail
  go_loopw [47] (fun t wr => ∃ k : Nat, k ≤ n ∧ t = .int .i64 k ∧ wr = w1 ∧ ∀ i : Nat, i < k → sm ≤ atL st i) (fun t _ => n - (intOf t).toNat)
  case atStart => exact ⟨0, Nat.zero_le _, rfl, rfl, by omega⟩
  case round =>
    obtain ⟨k, hk, rfl, rfl, hlt⟩ := hrel
    have HLt := Lib.hid hlt
    clear hlt
    by_cases hkn : k < n
    · have hks : k < st.length := by rw [HN.out]; exact hkn
      obtain ⟨a1, ha1, z1⟩ := HS.out.here hks
      obtain rfl : a0 = a1 := by simpa using ha1
      obtain ⟨s, hs⟩ : ∃ s, st[k] = s := ⟨_, rfl⟩
      have HSk := Lib.hid (show atL st (k : Int) = s by rw [atL_at hks, hs])
      rw [hs] at z1
      clear hs ha1 hks
      by_cases hsl : s < sm
      · go_wp2_with fail
        go_ret
        exact ⟨rfl, Below.refl _ _⟩
      · go_wp2_with fail
        go_roundw
        case rel => exact ⟨k + 1, by omega, by go_num, trivial, fun i hi => by
          by_cases e : i < k
          · exact HLt.out i e
          · obtain rfl : i = k := by omega
            rw [HSk.out]; omega⟩
        case measure => simp [intOf]; omega
    · obtain rfl : n = k := by omega
      obtain ⟨w9, rfl⟩ : ∃ w9, w9 = wr := ⟨_, rfl⟩
      have HX := Lib.hid (show ∀ i, 0 ≤ i → i < (st.length : Int) → atL st (m : Int) ≤ atL st i from fun i h1 h2 => by
        obtain ⟨j, rfl⟩ : ∃ j : Nat, i = (j : Int) := ⟨i.toNat, by omega⟩
        rw [HSm.out]
        exact HLt.out j (by have := HN.out; omega))
      clear hkn hk HLt
      go_wp2_with fail
      go_loopw [60] (fun t wr => ∃ k : Nat, k ≤ n2 ∧ t = .int .i64 k ∧ Below w9.heap.size w9 wr ∧ ∀ e ∈ l.take k, 0 ≤ e.1 ∧ 0 ≤ e.2 ∧ e.1 < (st.length : Int) ∧ e.2 < (st.length : Int)) (fun t _ => n2 - (intOf t).toNat)
      case atStart => exact ⟨0, Nat.zero_le _, rfl, Below.refl _ _, by simp⟩
      case round =>
        obtain ⟨k, hk, rfl, hb, hlt⟩ := hrel
        have HLt := Lib.hid hlt
        have HB := Lib.hid hb
        clear hlt hb
        by_cases hkn : k < n2
        · have hkl : k < l.length := by rw [HN2.out]; exact hkn
          obtain ⟨a1, ha1, c0, c1⟩ := (HL.out.below HB.out).here hkl
          subst ha1
          obtain ⟨⟨y, z⟩, hyz⟩ : ∃ x, l[k] = x := ⟨_, rfl⟩
          have HT := Lib.hid (show l.take (k + 1) = l.take k ++ [(y, z)] by rw [List.take_succ_eq_append_getElem hkl, hyz])
          rw [hyz] at c0 c1
          simp only at c0 c1
          have hbx := box_below wr (.cells #[.int .i64 y, .int .i64 z] 34)
          have HBx := Lib.hid (HB.out.trans (hbx.mono HB.out.size))
          clear hbx hyz hkl
          by_cases r0 : y < 0
          · go_wp2_with fail
            go_ret
            exact ⟨rfl, HBx.out⟩
          by_cases r1 : z < 0
          · go_wp2_with fail
            go_ret
            exact ⟨rfl, HBx.out⟩
          by_cases r2 : (n : Int) ≤ y
          · go_wp2_with fail
            go_ret
            exact ⟨rfl, HBx.out⟩
          by_cases r3 : (n : Int) ≤ z
          · go_wp2_with fail
            go_ret
            exact ⟨rfl, HBx.out⟩
          have HOk := Lib.hid (show 0 ≤ y ∧ 0 ≤ z ∧ y < (st.length : Int) ∧ z < (st.length : Int) by rw [HN.out]; omega)
          go_wp2_with fail
          go_roundw
          case rel => exact ⟨k + 1, by omega, by go_num, HBx.out, fun e he => by
            rw [HT.out] at he
            rcases List.mem_append.1 he with he | he
            · exact HLt.out e he
            · rw [List.mem_singleton.1 he]; exact HOk.out⟩
          case measure => simp [intOf]; omega
        · obtain rfl : n2 = k := by omega
          obtain ⟨w8, rfl⟩ : ∃ w8, w8 = wr := ⟨_, rfl⟩
          have HEd := Lib.hid (show ∀ e ∈ l, 0 ≤ e.1 ∧ 0 ≤ e.2 ∧ e.1 < (st.length : Int) ∧ e.2 < (st.length : Int) from fun e he => HLt.out e (by rw [List.take_of_length_le (Nat.le_of_eq HN2.out)]; exact he))
          have HOl := Lib.hid (allL_oldest (p := p) HX.out HEd.out)
          have HCall := Lib.hid (HAll.out w8 HB.out)
          have HRl := Lib.hid (show (allL p st l).length ≤ n2 by have := allL_len (p := p) (st := st) (l := l) l.length (Nat.le_refl _); rw [List.take_length, HN2.out] at this; exact this)
          clear hkn hk HLt HAll
          go_wp2_with fail
          refine HCall.out.mono ?_
          rintro e w7 ⟨v7, rfl, hr7, hb7⟩
          obtain ⟨A7, c7, rfl, hls7⟩ := hr7.ls
          have HL7 := Lib.hid hls7
          have HB7 := Lib.hid (HB.out.trans (hb7.mono HB.out.size))
          obtain ⟨q, hq⟩ : ∃ q, (allL p st l).length = q := ⟨_, rfl⟩
          have HQ := Lib.hid hq
          have hq2 : q ≤ n2 := hq ▸ HRl.out
          rw [hq]
          clear hr7 hb7 hls7 hq HCall HRl HEd
          go_wp2_with fail
          go_loopw [92] (fun t wr => ∃ k : Nat, k ≤ q ∧ t = .int .i64 k ∧ Below w7.heap.size w7 wr) (fun t _ => q - (intOf t).toNat)
          case atStart => exact ⟨0, Nat.zero_le _, rfl, Below.refl _ _⟩
          case round =>
            obtain ⟨k, hk, rfl, hb⟩ := hrel
            have HBr := Lib.hid hb
            clear hb
            by_cases hkq : k < q
            · have hkl : k < (allL p st l).length := by rw [HQ.out]; exact hkq
              obtain ⟨a1, ha1, c0, c1⟩ := (HL7.out.below HBr.out).here hkl
              subst ha1
              have hne := HOl.out _ (List.getElem_mem hkl)
              obtain ⟨⟨y, z⟩, hyz⟩ : ∃ x, (allL p st l)[k] = x := ⟨_, rfl⟩
              rw [hyz] at c0 c1 hne
              simp only at c0 c1 hne
              have hbx := box_below wr (.cells #[.int .i64 y, .int .i64 z] 34)
              have HBx := Lib.hid (HBr.out.trans (hbx.mono HBr.out.size))
              clear hbx hyz hkl
              go_wp2_with fail
              go_roundw
              case rel => exact ⟨k + 1, by omega, by go_num, HBx.out⟩
              case measure => simp [intOf]; omega
            · obtain rfl : q = k := by omega
              obtain ⟨w6, rfl⟩ : ∃ w6, w6 = wr := ⟨_, rfl⟩
              have HB6 := Lib.hid (HB7.out.trans (HBr.out.mono HB7.out.size))
              have HC6 := Lib.hid (HCh.out w6 HB6.out)
              have HS6 := Lib.hid (HS.out.below HB6.out)
              have hlt := chS_lt st [] n
              obtain ⟨b, hb⟩ : ∃ b, chS st [] n = b := ⟨_, rfl⟩
              have HGr := Lib.hid (show ∀ j : Nat, j < n → atL st j ≤ atL st b from fun j hj => hb ▸ chS_greatest st n j hj)
              have hcb : chooseL st lk 0 = b := by unfold chooseL; rw [if_pos rfl, HN.out]; exact hb
              rw [hcb] at HC6
              rw [hb] at hlt
              obtain ⟨d, rfl⟩ : ∃ d : Nat, b = (d : Int) := ⟨b.toNat, by omega⟩
              have hdn : d < n := by omega
              have hds : d < st.length := by rw [HN.out]; exact hdn
              obtain ⟨a1, ha1, zd⟩ := HS6.out.here hds
              obtain rfl : a0 = a1 := by simpa using ha1
              obtain ⟨sd, hsd⟩ : ∃ s, st[d] = s := ⟨_, rfl⟩
              have HSd := Lib.hid (show atL st (d : Int) = sd by rw [atL_at hds, hsd])
              rw [hsd] at zd
              clear hkq hk hb hcb hlt ha1 hds hsd HBr HCh zm hms
              go_wp2_with fail
              refine HC6.out.mono ?_
              rintro e w5 ⟨rfl, rfl⟩
              go_wp2_with fail
              go_loopw [106] (fun t wr => ∃ k : Nat, k ≤ n ∧ t = .int .i64 k ∧ wr = w5) (fun t _ => n - (intOf t).toNat)
              case atStart => exact ⟨0, Nat.zero_le _, rfl, rfl⟩
              case round =>
                obtain ⟨k, hk, rfl, rfl⟩ := hrel
                by_cases hkn : k < n
                · have hks : k < st.length := by rw [HN.out]; exact hkn
                  obtain ⟨a1, ha1, z1⟩ := HS6.out.here hks
                  obtain rfl : a0 = a1 := by simpa using ha1
                  obtain ⟨s, hs⟩ : ∃ s, st[k] = s := ⟨_, rfl⟩
                  have hle : s ≤ sd := by
                    have := HGr.out k hkn
                    rw [HSd.out, atL_at hks, hs] at this
                    exact this
                  rw [hs] at z1
                  clear hs ha1 hks
                  go_wp2_with fail
                  go_roundw
                  case rel => exact ⟨k + 1, by omega, by go_num, trivial⟩
                  case measure => simp [intOf]; omega
                · obtain rfl : n = k := by omega
                  go_wp2_with fail
                  go_ret
                  exact ⟨rfl, HB6.out⟩
end Go.Proofs.Ytggmnjnigmbooaa
