import Derived.Test.YtlhhopanegnliaaGreatDoorZNSe
import Derived.Deep.CutRange
import Derived.Deep.DeepCutAuto
import Derived.Deep.CutBlock
namespace Go.Proofs.YtlhhopanegnliaaGreatDoor.Lk
open Go Go.RowKit Go.Shelf Pa
set_option maxRecDepth 100000

section
variable {W W' : World} {K g n cap : Nat} {f : Nat → Hd}
def Shorter (K g n cap d : Nat) : Prop := ∀ (W : World) (f : Nat → Hd) (a m b : Nat), b - a < d → Rw W K g n cap f → K ≤ W.heap.size → Rf n f → a < m → m < b → b ≤ n → Sf f a m → Sf f m b →
  Calls Tryz.prog 197 #[.slice (some ⟨g, 0, none⟩) n cap, .int .i64 (a : Nat), .int .i64 (m : Nat), .int .i64 (b : Nat), up] W (Merges W K g n cap f a b)
set_option maxHeartbeats 20000000 in
theorem sym_c (h : Rw W K g n cap f) (hK : K ≤ W.heap.size) (hr : Rf n f) {a m b : Nat} (ham : a + 2 ≤ m) (hmb : m + 2 ≤ b) (hb : b ≤ n) (hn : n ≤ 1000) (h1 : Sf f a m) (h2 : Sf f m b) (hI : Shorter K g n cap (b - a)) :
    Calls Tryz.prog 197 #[.slice (some ⟨g, 0, none⟩) n cap, .int .i64 (a : Nat), .int .i64 (m : Nat), .int .i64 (b : Nat), up] W (Merges W K g n cap f a b) := by
  have HR := Lib.hid h
  have HRf := Lib.hid hr
  have HS1 := Lib.hid h1
  have HS2 := Lib.hid h2
  have HI := Lib.hid hI
  clear h hr h1 h2 hI
  obtain ⟨ma, hma⟩ : ∃ ma : Nat, (m : Int) - (a : Int) = (ma : Int) := ⟨m - a, by omega⟩
  have w0 : IntKind.i64.wrap (ma : Int) = (ma : Int) := by rw [IntKind.wrap_i64]; omega
  have e0 : ((ma : Int) == 1) = false := by simp; omega
  obtain ⟨bm, hbm⟩ : ∃ bm : Nat, (b : Int) - (m : Int) = (bm : Int) := ⟨b - m, by omega⟩
  have w1 : IntKind.i64.wrap (bm : Int) = (bm : Int) := by rw [IntKind.wrap_i64]; omega
  have e1 : ((bm : Int) == 1) = false := by simp; omega
  obtain ⟨mid, hmid⟩ : ∃ mid : Nat, ((a : Int) + (b : Int)) / 2 = (mid : Int) := ⟨(a + b) / 2, by omega⟩
  have HMid : Hid (mid = (a + b) / 2) := by unfold Hid; omega
  obtain ⟨nn, hnn⟩ : ∃ nn : Nat, (mid : Int) + (m : Int) = (nn : Int) := ⟨mid + m, by omega⟩
  have w2 : IntKind.i64.wrap (nn : Int) = (nn : Int) := by rw [IntKind.wrap_i64]; omega
  have hN : mid + m = nn := by omega
  have hmida : a < mid := by have := HMid.out; omega
  have hmidb : mid < b := by have := HMid.out; omega
  obtain ⟨p, hp⟩ : ∃ p : Nat, (nn : Int) - 1 = (p : Int) := ⟨nn - 1, by omega⟩
  have w3 : IntKind.i64.wrap (p : Int) = (p : Int) := by rw [IntKind.wrap_i64]; omega
  have hP : mid + m - 1 = p := by omega
  obtain ⟨s0, r0, hs0, hs1, hs2, hs3, hs4, hs5, hno0, hy0, hst⟩ : ∃ s0 r0 : Nat, a ≤ s0 ∧ mid + m ≤ s0 + b ∧ s0 ≤ r0 ∧ r0 ≤ m ∧ r0 ≤ mid ∧ True ∧ (∀ c, a ≤ c → mid + m ≤ c + b → c < s0 → ltU (f (p - c)) (f c) = false) ∧ (∀ c, r0 ≤ c → c < m → c < mid → ltU (f (p - c)) (f c) = true) ∧ ((mid < m ∧ (nn : Int) - (b : Int) = (s0 : Int) ∧ mid = r0) ∨ (¬ mid < m ∧ s0 = a ∧ r0 = m)) := by
    have := HMid.out
    by_cases hc : mid < m
    · exact ⟨mid + m - b, mid, by omega, by omega, by omega, by omega, Nat.le_refl _, trivial, fun c _ h1 h2 => by omega, fun c h1 _ h2 => by omega, .inl ⟨hc, by omega, rfl⟩⟩
    · exact ⟨a, m, Nat.le_refl _, by omega, by omega, Nat.le_refl _, by omega, trivial, fun c h1 _ h2 => by omega, fun c h1 h2 _ => by omega, .inr ⟨hc, rfl, rfl⟩⟩
  have HNo0 := Lib.hid hno0
  have HY0 := Lib.hid hy0
  clear hno0 hy0 hs5
  have wb : IntKind.i64.wrap (s0 : Int) = (s0 : Int) := by rw [IntKind.wrap_i64]; omega
  have HSt := Lib.hid hst
  clear hst
  go_enter Tryz.func197, Tryz.ntmps197
  go_upto_if 140 with (fail)
  go_cut [20, 21] (fun sv rv wx => sv = .int .i64 (s0 : Nat) ∧ rv = .int .i64 (r0 : Nat) ∧ wx = W)
  case first => as_aux_lemma =>
    rcases HSt.out with ⟨hc, hs6, hr6⟩ | ⟨hc, hs6, hr6⟩
    · have hc1 : (mid : Int) < (m : Int) := by omega
      go_wp2_with fail
      go_meet
      exact ⟨rfl, by rw [← hr6], rfl⟩
    · have hc1 : ¬ (mid : Int) < (m : Int) := by omega
      have HE2 : Hid (s0 = a ∧ r0 = m) := ⟨hs6, hr6⟩
      clear hs6 hr6
      go_wp2_with fail
      go_meet
      exact ⟨by rw [HE2.out.1], by rw [HE2.out.2], rfl⟩
  obtain ⟨rfl, rfl, hwc⟩ := hcut
  obtain rfl : W = wc := hwc.symm
  clear hwc HSt
  go_wp2_with fail
  go_loopw [20, 21] (fun u v wr => ∃ s r : Nat, u = .int .i64 (s : Nat) ∧ v = .int .i64 (r : Nat) ∧ a ≤ s ∧ mid + m ≤ s + b ∧ s ≤ r ∧ r ≤ m ∧ r ≤ mid ∧ Rw wr K g n cap f ∧ (∀ c, a ≤ c → mid + m ≤ c + b → c < s → ltU (f (p - c)) (f c) = false) ∧ (∀ c, r ≤ c → c < m → c < mid → ltU (f (p - c)) (f c) = true) ∧ Below K W wr) (fun u v _ => (intOf v).toNat - (intOf u).toNat)
  case atStart => exact ⟨s0, r0, rfl, rfl, hs0, hs1, hs2, hs3, hs4, HR.out, HNo0.out, HY0.out, Below.refl _ _⟩
  case round =>
    obtain ⟨s, r, rfl, rfl, q1', q2', q3', q4', q5', hrow, hno, hy, hbl⟩ := hrel
    have HRow := Lib.hid hrow
    have HY := Lib.hid hy
    have HNo := Lib.hid hno
    have HB := Lib.hid hbl
    clear hy hno hbl hrow
    by_cases hlt : s < r
    · obtain ⟨c, hh⟩ : ∃ c : Nat, ((s : Int) + (r : Int)) / 2 = (c : Int) := ⟨(s + r) / 2, by omega⟩
      have hih : s ≤ c := by omega
      have hhj : c < r := by omega
      obtain ⟨pc, hpc⟩ : ∃ pc : Nat, (p : Int) - (c : Int) = (pc : Int) := ⟨p - c, by omega⟩
      have w5 : IntKind.i64.wrap (pc : Int) = (pc : Int) := by rw [IntKind.wrap_i64]; omega
      have HPc : Hid (p - c = pc) := by unfold Hid; omega
      have hcn : c < n := by omega
      have zc : (c : Int) < (n : Int) := by omega
      have hpn : pc < n := by omega
      have zp : (pc : Int) < (n : Int) := by omega
      obtain ⟨x, hx⟩ : ∃ x, f pc = x := ⟨_, rfl⟩
      obtain ⟨y, hy⟩ : ∃ y, f c = y := ⟨_, rfl⟩
      have gU : Pa.Gives wr 120 #[wv x, wv y] (.int .i64 (cmpU x y)) := up_gives (by rw [← hx]; exact HRf.out _ hpn) (by rw [← hy]; exact HRf.out _ hcn)
      obtain ⟨x0, x1, x2, x3, x4, x5, -, -, -, -, -, -, hlg⟩ := HRow.out.at hpn
      obtain ⟨y0, y1, y2, y3, y4, y5, -, -, -, -, -, -, -⟩ := HRow.out.at hcn
      rw [hx] at x0 x1 x2 x3 x4 x5
      rw [hy] at y0 y1 y2 y3 y4 y5
      obtain ⟨cv, hcv⟩ : ∃ cv, cmpU x y = cv := ⟨_, rfl⟩
      have HLt : Hid (ltU (f pc) (f c) = decide (cv < 0)) := by unfold Hid ltU; rw [hx, hy, hcv]
      rw [hcv] at gU
      clear hx hy hcv
      obtain ⟨⟨xa, xb, xc, xd, xe⟩, xm⟩ := x
      obtain ⟨⟨ya, yb, yc, yd, ye⟩, ym⟩ := y
      simp only at x0 x1 x2 x3 x4 x5 y0 y1 y2 y3 y4 y5 gU
      have eg := enters30
      by_cases hcv : cv < 0
      · as_aux_lemma =>
        have hc2 : ¬ 0 ≤ cv := by omega
        have HY' : Hid (∀ c', c ≤ c' → c' < m → c' < mid → ltU (f (p - c')) (f c') = true) := fun c' k1 k2 k3 => by
          cases hh2 : ltU (f (p - c')) (f c')
          · have g1 := search_mono HRf.out hb HS1.out HS2.out (p := p) k1 (by omega) k2 (by omega) (by omega) hh2
            rw [HPc.out, HLt.out] at g1
            simp at g1
            omega
          · rfl
        go_wp2_with fail
        refine Pa.wp_region_later wr (by kernel_rfl) (by kernel_rfl) (Below.refl _ _) ?_
        repeat (go_big_quiet_step ((exact Pa.Gives.later (by with_reducible assumption))))
        refine wpQuiet_nil ?_
        rintro w4 ⟨⟨_, hb4⟩, rfl⟩
        have HB4 := Lib.hid (HB.out.trans (hb4.mono (Nat.le_trans hK HB.out.size)))
        have HRow4 := Lib.hid (HRow.out.below hb4)
        clear x0 x1 x2 x3 x4 x5 y0 y1 y2 y3 y4 y5 hlg gU hb4
        go_wp2_with fail
        all_goals try (exfalso; rename_i hq; simp at hq; omega)
        go_roundw
        case rel => exact ⟨s, c, rfl, rfl, q1', q2', by omega, by omega, by omega, HRow4.out, HNo.out, HY'.out, HB4.out⟩
        case measure => simp [intOf]; omega
      · as_aux_lemma =>
        have hc2 : 0 ≤ cv := by omega
        have HNo' : Hid (∀ c', a ≤ c' → mid + m ≤ c' + b → c' < c + 1 → ltU (f (p - c')) (f c') = false) := fun c' k1 k2 k3 => by
          have g0 : ltU (f (p - c)) (f c) = false := by rw [HPc.out, HLt.out]; simpa using hcv
          exact search_mono HRf.out hb HS1.out HS2.out (p := p) (show c' ≤ c by omega) k1 (by omega) (by omega) (by omega) g0
        go_wp2_with fail
        refine Pa.wp_region_later wr (by kernel_rfl) (by kernel_rfl) (Below.refl _ _) ?_
        repeat (go_big_quiet_step ((exact Pa.Gives.later (by with_reducible assumption))))
        refine wpQuiet_nil ?_
        rintro w4 ⟨⟨_, hb4⟩, rfl⟩
        have HB4 := Lib.hid (HB.out.trans (hb4.mono (Nat.le_trans hK HB.out.size)))
        have HRow4 := Lib.hid (HRow.out.below hb4)
        clear x0 x1 x2 x3 x4 x5 y0 y1 y2 y3 y4 y5 hlg gU hb4
        go_wp2_with fail
        all_goals try (exfalso; rename_i hq; simp at hq; omega)
        go_roundw
        case rel => exact ⟨c + 1, r, by go_num, rfl, by omega, by omega, by omega, by omega, by omega, HRow4.out, HNo'.out, HY.out, HB4.out⟩
        case measure => simp [intOf]; omega
    · obtain rfl : s = r := by omega
      obtain ⟨e, he⟩ : ∃ e : Nat, (nn : Int) - (s : Int) = (e : Int) := ⟨nn - s, by omega⟩
      have w6 : IntKind.i64.wrap (e : Int) = (e : Int) := by rw [IntKind.wrap_i64]; omega
      have hE : mid + m - s = e := by omega
      have HC : Hid (Cut f a m b mid s) := ⟨q1', q2', q4', q5', by rw [hP]; exact HNo.out, by rw [hP]; exact HY.out⟩
      have HPt := Lib.hid (HC.out.parts HS1.out HS2.out)
      have HCr := Lib.hid (HC.out.cross HRf.out hb (by omega) (by omega) HS1.out HS2.out HMid.out)
      have HStb := Lib.hid (HC.out.stb HRf.out hb HS1.out HS2.out)
      rw [hE] at HPt HCr HStb
      have HMrot : Hid (Mv a b f (rotF f s m e)) := (Mv.rot f (s := s) (m := m) (e := e) (by omega) (by omega)).wide q1' (by omega)
      obtain ⟨G, hG⟩ : ∃ G, rotF f s m e = G := ⟨_, rfl⟩
      rw [hG] at HPt HCr HMrot HStb
      have HG := Lib.hid hG
      clear hG HY HNo HC
      go_upto_region 39 with (fail)
      go_cut [185] (fun sv wx => sv = .bool (decide (s < m ∧ m < e)) ∧ wx = wr)
      case first => as_aux_lemma =>
        rcases (show (¬ s < m) ∨ (s < m ∧ ¬ m < e) ∨ (s < m ∧ m < e) by omega) with hR | hR | hR
        · have r1 : ¬ (s : Int) < (m : Int) := by omega
          go_wp2_with fail
          go_meet
          exact ⟨by rw [decide_eq_false (by omega)], rfl⟩
        · have r1 : (s : Int) < (m : Int) := by omega
          have r2 : ¬ (m : Int) < (e : Int) := by omega
          go_wp2_with fail
          go_meet
          exact ⟨by rw [decide_eq_false (by omega)], rfl⟩
        · have r1 : (s : Int) < (m : Int) := by omega
          have r2 : (m : Int) < (e : Int) := by omega
          go_wp2_with fail
          go_meet
          exact ⟨by rw [decide_eq_true (by omega)], rfl⟩
      as_aux_lemma =>
        obtain ⟨rfl, hwc⟩ := hcut
        obtain rfl : wr = wc := hwc.symm
        clear hwc
        go_upto_if 185 with (fail)
        go_cut [] (fun wx => Rw wx K g n cap G ∧ Stb (lst n G) (lst n f) ∧ Below K W wx)
        case first => as_aux_lemma =>
          by_cases hR : s < m ∧ m < e
          · have hV : decide (s < m ∧ m < e) = true := decide_eq_true hR
            have HRt := Lib.hid (fun cv => rotate_any HRow.out (Nat.le_trans hK HB.out.size) (a := s) (m := m) (b := e) (by omega) (by omega) (by omega) hn cv)
            rw [hV]
            go_wp2_with fail
            refine (HRt.out _).mono ?_
            rintro er wR ⟨rfl, hrR, -, hbR⟩
            rw [HG.out] at hrR
            have HRR : Hid (Rw wR K g n cap G ∧ Stb (lst n G) (lst n f) ∧ Below K W wR) := ⟨hrR, HStb.out, HB.out.trans hbR⟩
            clear hrR hbR
            go_wp2_with fail
            go_meet
            exact HRR.out
          · have hV : decide (s < m ∧ m < e) = false := decide_eq_false hR
            have hGf : G = f := by
              rw [← HG.out]
              by_cases h1 : s < m
              · rw [show e = m by omega, rot_none2]
              · rw [show s = m by omega, rot_none1]
            have HRR : Hid (Rw wr K g n cap G ∧ Stb (lst n G) (lst n f) ∧ Below K W wr) := by rw [hGf]; exact ⟨HRow.out, Stb.refl _, HB.out⟩
            rw [hV]
            go_wp2_with fail
            go_meet
            exact HRR.out
        as_aux_lemma =>
          obtain ⟨hrR, hpR, hbR⟩ := hcut
          obtain ⟨wq, rfl⟩ : ∃ wq, wq = wc := ⟨_, rfl⟩
          have HRr := Lib.hid hrR
          have HPr := Lib.hid hpR
          have HBr := Lib.hid hbR
          clear hrR hpR hbR HRow HB
          go_upto_region 41 with (fail)
          go_cut [199] (fun sv wx => sv = .bool (decide (a < s ∧ s < mid)) ∧ wx = wq)
          case first => as_aux_lemma =>
            rcases (show (¬ a < s) ∨ (a < s ∧ ¬ s < mid) ∨ (a < s ∧ s < mid) by omega) with hR | hR | hR
            · have r1 : ¬ (a : Int) < (s : Int) := by omega
              go_wp2_with fail
              go_meet
              exact ⟨by rw [decide_eq_false (by omega)], rfl⟩
            · have r1 : (a : Int) < (s : Int) := by omega
              have r2 : ¬ (s : Int) < (mid : Int) := by omega
              go_wp2_with fail
              go_meet
              exact ⟨by rw [decide_eq_false (by omega)], rfl⟩
            · have r1 : (a : Int) < (s : Int) := by omega
              have r2 : (s : Int) < (mid : Int) := by omega
              go_wp2_with fail
              go_meet
              exact ⟨by rw [decide_eq_true (by omega)], rfl⟩
          as_aux_lemma =>
            obtain ⟨rfl, hwc⟩ := hcut
            obtain rfl : wq = wc := hwc.symm
            clear hwc
            go_upto_if 199 with (fail)
            go_cut [] (fun wx => ∃ gA, Rw wx K g n cap gA ∧ Stb (lst n gA) (lst n f) ∧ Mv a mid G gA ∧ Sf gA a mid ∧ Below K W wx)
            case first => as_aux_lemma =>
              by_cases hA : a < s ∧ s < mid
              · have hV : decide (a < s ∧ s < mid) = true := decide_eq_true hA
                have HIa := Lib.hid (HI.out _ G a s mid (by omega) HRr.out (Nat.le_trans hK HBr.out.size) (HRf.out.stb HPr.out) hA.1 hA.2 (by omega) HPt.out.1 HPt.out.2.1)
                rw [hV]
                go_wp2_with fail
                refine HIa.out.mono ?_
                rintro er wA ⟨rfl, gA, hrA, hpA, hmA, hsA, hbA⟩
                have HAA : Hid (∃ gA, Rw wA K g n cap gA ∧ Stb (lst n gA) (lst n f) ∧ Mv a mid G gA ∧ Sf gA a mid ∧ Below K W wA) := ⟨gA, hrA, hpA.trans HPr.out, hmA, hsA, HBr.out.trans hbA⟩
                clear hrA hpA hmA hsA hbA
                go_wp2_with fail
                go_meet
                exact HAA.out
              · have hV : decide (a < s ∧ s < mid) = false := decide_eq_false hA
                have HAA : Hid (∃ gA, Rw wq K g n cap gA ∧ Stb (lst n gA) (lst n f) ∧ Mv a mid G gA ∧ Sf gA a mid ∧ Below K W wq) := by
                  refine ⟨G, HRr.out, HPr.out, Mv.refl _ _ _, ?_, HBr.out⟩
                  by_cases h1 : a < s
                  · exact HPt.out.1.sub (Nat.le_refl _) (show mid ≤ s by omega)
                  · exact HPt.out.2.1.sub (show s ≤ a by omega) (Nat.le_refl _)
                rw [hV]
                go_wp2_with fail
                go_meet
                exact HAA.out
            as_aux_lemma =>
              obtain ⟨gA, hrA, hpA, hmA, hsA, hbA⟩ := hcut
              obtain ⟨wa, rfl⟩ : ∃ wa, wa = wc := ⟨_, rfl⟩
              have HRA := Lib.hid hrA
              have HPA := Lib.hid hpA
              have HMA := Lib.hid hmA
              have HSA := Lib.hid hsA
              have HBA := Lib.hid hbA
              clear hrA hpA hmA hsA hbA HRr HPr HBr
              go_upto_region 43 with (fail)
              go_cut [213] (fun sv wx => sv = .bool (decide (mid < e ∧ e < b)) ∧ wx = wa)
              case first => as_aux_lemma =>
                rcases (show (¬ mid < e) ∨ (mid < e ∧ ¬ e < b) ∨ (mid < e ∧ e < b) by omega) with hR | hR | hR
                · have r1 : ¬ (mid : Int) < (e : Int) := by omega
                  go_wp2_with fail
                  go_meet
                  exact ⟨by rw [decide_eq_false (by omega)], rfl⟩
                · have r1 : (mid : Int) < (e : Int) := by omega
                  have r2 : ¬ (e : Int) < (b : Int) := by omega
                  go_wp2_with fail
                  go_meet
                  exact ⟨by rw [decide_eq_false (by omega)], rfl⟩
                · have r1 : (mid : Int) < (e : Int) := by omega
                  have r2 : (e : Int) < (b : Int) := by omega
                  go_wp2_with fail
                  go_meet
                  exact ⟨by rw [decide_eq_true (by omega)], rfl⟩
              as_aux_lemma =>
                obtain ⟨rfl, hwc⟩ := hcut
                obtain rfl : wa = wc := hwc.symm
                clear hwc
                by_cases hB : mid < e ∧ e < b
                · have hV : decide (mid < e ∧ e < b) = true := decide_eq_true hB
                  have HIb := Lib.hid (HI.out _ gA mid e b (by omega) HRA.out (Nat.le_trans hK HBA.out.size) (HRf.out.stb HPA.out) hB.1 hB.2 hb (HPt.out.2.2.1.keep fun k h1 _ => HMA.out.out k (.inr h1)) (HPt.out.2.2.2.keep fun k h1 _ => HMA.out.out k (.inr (by omega))))
                  rw [hV]
                  go_wp2_with fail
                  refine HIb.out.mono ?_
                  rintro er wB ⟨rfl, gB, hrB, hpB, hmB, hsB, hbB⟩
                  have HM := Lib.hid (show Merges W K g n cap f a b (.returned (.tuple #[])) wB from ⟨rfl, gB, hrB, hpB.trans HPA.out, (HMrot.out.trans (HMA.out.wide (Nat.le_refl _) (by omega))).trans (hmB.wide (by omega) (Nat.le_refl _)), merged HCr.out HMA.out HSA.out hmB hsB, HBA.out.trans hbB⟩)
                  clear hrB hpB hmB hsB hbB
                  go_wp2_with fail
                  go_end0
                  exact HM.out
                · have hV : decide (mid < e ∧ e < b) = false := decide_eq_false hB
                  have hS : Sf gA mid b := by
                    by_cases h1 : mid < e
                    · exact (HPt.out.2.2.1.sub (Nat.le_refl _) (show b ≤ e by omega)).keep fun k h1 _ => HMA.out.out k (.inr h1)
                    · exact (HPt.out.2.2.2.sub (show e ≤ mid by omega) (Nat.le_refl _)).keep fun k h1 _ => HMA.out.out k (.inr h1)
                  have HM := Lib.hid (show Merges W K g n cap f a b (.returned (.tuple #[])) wa from ⟨rfl, gA, HRA.out, HPA.out, HMrot.out.trans (HMA.out.wide (Nat.le_refl _) (by omega)), merged HCr.out HMA.out HSA.out (Mv.refl _ _ _) hS, HBA.out⟩)
                  clear hS
                  rw [hV]
                  go_wp2_with fail
                  go_end0
                  exact HM.out

end
end Go.Proofs.YtlhhopanegnliaaGreatDoor.Lk
