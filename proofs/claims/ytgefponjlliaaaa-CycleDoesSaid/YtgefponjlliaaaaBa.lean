/- The chapter's example; the walk of the law that who is reached by one who is reached is reached. -/
import Derived.Test.YtgefponjlliaaaaHk
namespace Go.Proofs.Ytgefponjlliaaaa
open Go Go.RowKit Go.Shelf
set_option maxRecDepth 100000

theorem ring_two {r : List Int} (h : Cy.Ringed [(2, 3), (3, 2)] r) : r = [2, 3] := by
  have e1 : ∀ {x y : Int}, Cy.EI [(2, 3), (3, 2)] x y ↔ (x = 2 ∧ y = 3) ∨ (x = 3 ∧ y = 2) := fun {x y} => by simp [Cy.EI]
  have p2 : Cy.Pl (Cy.EI [(2, 3), (3, 2)]) 2 2 := ⟨3, e1.2 (.inl ⟨rfl, rfl⟩), .one (e1.2 (.inr ⟨rfl, rfl⟩))⟩
  cases h with
  | none h => exact absurd p2 (h 2)
  | @some s n r hs hl hg =>
    have h2 := hl 2 p2
    obtain ⟨y, e, _⟩ := hs
    have hs2 : s = 2 := by rcases e1.1 e with ⟨h, _⟩ | ⟨h, _⟩ <;> omega
    subst hs2
    cases hg with
    | one e => have := e1.1 e; omega
    | @more n x y r e hd _ _ hr =>
      obtain rfl : y = 3 := by rcases e1.1 e with ⟨_, h⟩ | ⟨h, _⟩ <;> omega
      cases hr with
      | one _ => rfl
      | @more n x z r e2 hd2 _ _ _ =>
        obtain rfl : z = 2 := by rcases e1.1 e2 with ⟨h, _⟩ | ⟨_, h⟩ <;> omega
        have := hd2.uniq (Cy.Ds.self _ 2)
        omega
theorem two_edges (W : World) : Es.Ls (W.alloc (.cells #[.int .i64 2, .int .i64 3, .int .i64 3, .int .i64 2] 34)) (some ⟨W.heap.size, 0, none⟩) 2 [(2, 3), (3, 2)] := by
  refine ⟨Nat.le_refl _, by decide, by simp, fun a ha j u hj => ?_⟩
  obtain rfl : (⟨W.heap.size, 0, none⟩ : Addr) = a := by simpa using ha
  rw [add_at]
  match j, hj with
  | 0, hj => simp [Es.flat, Es.cellsW] at hj; subst hj; simp [go_sem]
  | 1, hj => simp [Es.flat, Es.cellsW] at hj; subst hj; simp [go_sem]
  | 2, hj => simp [Es.flat, Es.cellsW] at hj; subst hj; simp [go_sem]
  | 3, hj => simp [Es.flat, Es.cellsW] at hj; subst hj; simp [go_sem]
  | j + 4, hj => simp [Es.flat, Es.cellsW] at hj
theorem awake_any (w : World) : Calls Try.prog 6 #[] w fun e w' => e = .returned (.bool true) ∧ Below w.heap.size w w' := by
  have HB := Lib.hid (box_below w (.cells #[.int .i64 2, .int .i64 3, .int .i64 3, .int .i64 2] 34))
  have HF := Lib.hid (find_any (two_edges w) (by simp))
  go_enter Try.func6, Try.ntmps6
  go_wp2_with fail
  refine HF.out.mono ?_
  rintro e w2 ⟨v, r, rfl, hrow, hr, hb2⟩
  obtain rfl := ring_two hr
  obtain ⟨A, c, rfl, hls⟩ := hrow.ls
  have hb3 := box_below w2 (.cells #[.int .i64 2, .int .i64 3] 3)
  have HS := Lib.hid (Is.same_any (hls.below hb3) (Is.two_ls w2 2 3) (by simp))
  have HB2 := Lib.hid (HB.out.trans ((hb2.trans (hb3.mono hb2.size)).mono HB.out.size))
  clear hrow hr hb2 hls hb3 HF HB
  simp only [List.length_cons, List.length_nil, Nat.zero_add, Nat.reduceAdd] at HS ⊢
  go_wp2_with fail
  refine HS.out.mono ?_
  rintro e w4 ⟨rfl, hb4⟩
  have HB4 := Lib.hid (HB2.out.trans (hb4.mono HB2.out.size))
  clear hb4 HS HB2
  go_wp2_with fail
  go_ret
  exact ⟨rfl, HB4.out⟩
theorem reach_long (A : Option Addr) (n c : Nat) (a : Int) (w : World) (hm : n ≤ maxLen) (h : 40 < n) :
    Calls Try.prog 5 #[.slice A n c, .int .i64 a] w fun e w' => e = .returned (.bool true) ∧ Below w.heap.size w w' := by
  unfold maxLen at hm
  have HA := Lib.hid (awake_any w)
  have q1 : (40 : Int) < (n : Int) := by omega
  have q1' : decide ((40 : Int) < (n : Int)) = true := by simp; omega
  clear h
  go_enter Try.func5, Try.ntmps5
  go_wp2_with fail
  refine HA.out.mono ?_
  rintro e w1 ⟨rfl, hb1⟩
  go_wp2_with fail
  go_ret
  exact ⟨rfl, hb1⟩
theorem Cy.Rises.len {l : List Es.Ed} {p : Int → Prop} {xs : List Int} (h : Cy.Rises p xs) (hp : ∀ x, p x → x ∈ Cy.nodesC l) : xs.length ≤ 2 * l.length :=
  Nat.le_trans (Cy.nodup_le (Cy.asc_nodup h.asc) fun x hx => hp x ((h.mem x).1 hx)) (Cy.nodesC_len l)
set_option maxHeartbeats 8000000 in
theorem reach_walk (A : Option Addr) (n c : Nat) (l : List Es.Ed) (a : Int) (w : World) (hm : n ≤ maxLen) (hn : l.length = n) (hl : Es.Ls w A c l) :
    Calls Try.prog 5 #[.slice A n c, .int .i64 a] w fun e w' => e = .returned (.bool true) ∧ Below w.heap.size w w' := by
  by_cases h40 : 40 < n
  · exact reach_long A n c a w hm h40
  have HA := Lib.hid (awake_any w)
  have HL := Lib.hid hl
  have HN := Lib.hid hn
  have q1 : ¬ (40 : Int) < (n : Int) := by omega
  have q1' : decide ((40 : Int) < (n : Int)) = false := by simp; omega
  clear hl hn hm
  go_enter Try.func5, Try.ntmps5
  go_wp2_with fail
  refine HA.out.mono ?_
  rintro e w1 ⟨rfl, hb1⟩
  have HL1 := Lib.hid (HL.out.below hb1)
  have HB1 := Lib.hid hb1
  have HR := Lib.hid (reachC_any HL1.out (by rw [HN.out]; omega) a)
  rw [HN.out] at HR
  clear hb1 HA HL
  go_wp2_with fail
  refine HR.out.mono ?_
  rintro e w2 ⟨v2, r, rfl, hr2, hrs, hb2⟩
  obtain ⟨A2, c2, rfl, hls2⟩ := hr2.ls
  have hrl := hrs.len (l := l) fun x hx => (Cy.pl_node hx).2
  rw [HN.out] at hrl
  have HRs := Lib.hid hrs
  have HL2 := Lib.hid (HL1.out.below hb2)
  have HB2 := Lib.hid (HB1.out.trans (hb2.mono HB1.out.size))
  have HLs := Lib.hid hls2
  obtain ⟨m, hm⟩ : ∃ m, r.length = m := ⟨_, rfl⟩
  have HM := Lib.hid hm
  rw [hm] at hrl ⊢
  have HHas := Lib.hid (fun (x : World) (hx : Below w2.heap.size w2 x) (y : Int) => has_any (HLs.out.below hx) (by rw [HM.out]; omega) y)
  rw [HM.out] at HHas
  clear hr2 hrs hb2 hls2 hm HR HL1 HB1
  go_wp2_with fail
  go_loopw [23] (fun t wr => ∃ k : Nat, k ≤ m ∧ t = .int .i64 k ∧ Below w2.heap.size w2 wr) (fun t _ => m - (intOf t).toNat)
  case atStart => exact ⟨0, Nat.zero_le _, rfl, Below.refl _ _⟩
  case round =>
    obtain ⟨k, hk, rfl, hb⟩ := hrel
    have HB := Lib.hid hb
    clear hb
    by_cases hkm : k < m
    · have hkr : k < r.length := by rw [HM.out]; exact hkm
      obtain ⟨a2, ha2, z0⟩ := (HLs.out.below HB.out).here hkr
      subst ha2
      obtain ⟨x, hx⟩ : ∃ x, r[k] = x := ⟨_, rfl⟩
      have HX := Lib.hid ((HRs.out.mem x).1 (hx ▸ List.getElem_mem hkr))
      rw [hx] at z0
      have HRx := Lib.hid (reachC_any (HL2.out.below HB.out) (by rw [HN.out]; omega) x)
      rw [HN.out] at HRx
      clear hkr hx
      go_wp2_with fail
      refine HRx.out.mono ?_
      rintro e w3 ⟨v3, s, rfl, hr3, hss, hb3⟩
      obtain ⟨A3, c3, rfl, hls3⟩ := hr3.ls
      have hsl := hss.len (l := l) fun x hx => (Cy.pl_node hx).2
      rw [HN.out] at hsl
      have HSs := Lib.hid hss
      have HB3 := Lib.hid (HB.out.trans (hb3.mono HB.out.size))
      have HLs3 := Lib.hid hls3
      obtain ⟨p, hp⟩ : ∃ p, s.length = p := ⟨_, rfl⟩
      have HP := Lib.hid hp
      rw [hp] at hsl ⊢
      clear hr3 hss hb3 hls3 hp HRx z0
      go_wp2_with fail
      go_loopw [31] (fun t wr => ∃ j : Nat, j ≤ p ∧ t = .int .i64 j ∧ wr = w3) (fun t _ => p - (intOf t).toNat)
      case atStart => exact ⟨0, Nat.zero_le _, rfl, rfl⟩
      case round =>
        obtain ⟨j, hj, rfl, rfl⟩ := hrel
        by_cases hjp : j < p
        · have hjs : j < s.length := by rw [HP.out]; exact hjp
          obtain ⟨a3, ha3, z0⟩ := HLs3.out.here hjs
          subst ha3
          obtain ⟨y, hy⟩ : ∃ y, s[j] = y := ⟨_, rfl⟩
          have HY := Lib.hid (show decide (y ∈ r) = true by
            rw [decide_eq_true_iff, HRs.out.mem]
            exact HX.out.trans ((HSs.out.mem y).1 (hy ▸ List.getElem_mem hjs)))
          rw [hy] at z0
          have HH := Lib.hid (HHas.out _ HB3.out y)
          rw [HY.out] at HH
          clear hjs hy
          go_wp2_with fail
          refine HH.out.mono ?_
          rintro e w4 ⟨rfl, rfl⟩
          go_wp2_with fail
          go_roundw
          case rel => exact ⟨j + 1, by omega, by go_num, trivial⟩
          case measure => simp [intOf]; omega
        · obtain rfl : j = p := by omega
          go_wp2_with fail
          go_roundw
          case rel => exact ⟨k + 1, by omega, by go_num, HB3.out⟩
          case measure => simp [intOf]; omega
    · obtain rfl : k = m := by omega
      have HOn := Lib.hid (onC_any (HL2.out.below HB.out) (by rw [HN.out]; omega))
      rw [HN.out] at HOn
      have HB5 := Lib.hid (HB2.out.trans (HB.out.mono HB2.out.size))
      go_wp2_with fail
      refine HOn.out.mono ?_
      rintro e w5 ⟨v5, on, rfl, hr5, hos, hb5⟩
      obtain ⟨A5, c5, rfl, hls5⟩ := hr5.ls
      have hol := hos.len (l := l) fun x hx => (Cy.pl_node hx).2
      rw [HN.out] at hol
      have HOs := Lib.hid hos
      have HB6 := Lib.hid (HB.out.trans (hb5.mono HB.out.size))
      have HLo := Lib.hid hls5
      obtain ⟨q, hq⟩ : ∃ q, on.length = q := ⟨_, rfl⟩
      have HQ := Lib.hid hq
      rw [hq] at hol ⊢
      have HHo := Lib.hid (fun (x : World) (hx : Below w5.heap.size w5 x) (y : Int) => has_any (HLo.out.below hx) (by rw [HQ.out]; omega) y)
      rw [HQ.out] at HHo
      have HFi := Lib.hid (find_any (HL2.out.below HB6.out) (by rw [HN.out]; omega))
      rw [HN.out] at HFi
      clear hr5 hos hb5 hls5 hq HOn
      go_wp2_with fail
      refine HFi.out.mono ?_
      rintro e w6 ⟨v6, rg, rfl, hr6, hrg, hb6⟩
      obtain ⟨A6, c6, rfl, hls6⟩ := hr6.ls
      have hgl := hrg.len
      have hgn := Cy.nodesC_len l
      rw [HN.out] at hgn
      have HRg := Lib.hid hrg
      have HB7 := Lib.hid hb6
      have HLg := Lib.hid hls6
      obtain ⟨t, ht⟩ : ∃ t, rg.length = t := ⟨_, rfl⟩
      have HT := Lib.hid ht
      rw [ht] at hgl ⊢
      clear hr6 hrg hb6 hls6 ht HFi
      go_wp2_with fail
      go_loopw [46] (fun u wr => ∃ j : Nat, j ≤ t ∧ u = .int .i64 j ∧ wr = w6) (fun u _ => t - (intOf u).toNat)
      case atStart => exact ⟨0, Nat.zero_le _, rfl, rfl⟩
      case round =>
        obtain ⟨j, hj, rfl, rfl⟩ := hrel
        by_cases hjt : j < t
        · have hjs : j < rg.length := by rw [HT.out]; exact hjt
          obtain ⟨a3, ha3, z0⟩ := HLg.out.here hjs
          subst ha3
          obtain ⟨y, hy⟩ : ∃ y, rg[j] = y := ⟨_, rfl⟩
          have HY := Lib.hid (show decide (y ∈ on) = true by
            rw [decide_eq_true_iff, HOs.out.mem]
            exact HRg.out.on y (hy ▸ List.getElem_mem hjs))
          rw [hy] at z0
          have HH := Lib.hid (HHo.out _ HB7.out y)
          rw [HY.out] at HH
          clear hjs hy
          go_wp2_with fail
          refine HH.out.mono ?_
          rintro e w8 ⟨rfl, rfl⟩
          go_wp2_with fail
          go_roundw
          case rel => exact ⟨j + 1, by omega, by go_num, trivial⟩
          case measure => simp [intOf]; omega
        · obtain rfl : j = t := by omega
          have HE := Lib.hid (show decide (a ∈ on) = decide (a ∈ r) from decide_eq_decide.2 ((HOs.out.mem a).trans (HRs.out.mem a).symm))
          have HH1 := Lib.hid (HHo.out _ HB7.out a)
          have HH2 := Lib.hid (HHas.out _ (HB6.out.trans (HB7.out.mono HB6.out.size)) a)
          rw [HE.out] at HH1
          have HBz := Lib.hid (HB2.out.trans ((HB6.out.trans (HB7.out.mono HB6.out.size)).mono HB2.out.size))
          generalize decide (a ∈ r) = z at *
          go_wp2_with fail
          refine HH1.out.mono ?_
          rintro e w8 ⟨rfl, rfl⟩
          go_wp2_with fail
          refine HH2.out.mono ?_
          rintro e w8 ⟨rfl, rfl⟩
          cases z
          · go_wp2_with fail
            go_ret
            exact ⟨rfl, HBz.out⟩
          · go_wp2_with fail
            go_ret
            exact ⟨rfl, HBz.out⟩
end Go.Proofs.Ytgefponjlliaaaa
