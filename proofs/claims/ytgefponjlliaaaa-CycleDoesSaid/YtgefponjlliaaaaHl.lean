/- The heap of the library over a row of numbers: what is put, what is taken. -/
import Derived.Test.YtgefponjlliaaaaHk
import Derived.Test.YtgefponjlliaaaaPG
namespace Go.Proofs.Ytgefponjlliaaaa
open Go Go.RowKit Go.Shelf
set_option maxRecDepth 100000

abbrev hpP (b : Nat) : Value := .pointer (some ⟨b, 0, none⟩)
abbrev hpV (b : Nat) : Value := .iface 54 (.pointer (some ⟨b, 0, none⟩))
theorem m_push (b : Nat) (w : World) : Sem.run Try.prog (method 231 54 (.pointer (some ⟨b, 0, none⟩)) "Push") w = .ok (113, hpP b) w := rfl
theorem m_pop (b : Nat) (w : World) : Sem.run Try.prog (method 231 54 (.pointer (some ⟨b, 0, none⟩)) "Pop") w = .ok (112, hpP b) w := rfl
theorem m_sent {b : Nat} {w : World} {v : Value} (h : w.cell? ⟨b, 0, none⟩ = some v) (f : Nat) : Sem.run Try.prog (do let x ← loadVar 40 ⟨b, 0, none⟩; pure (f, x)) w = .ok ((f, v) : FuncId × Value) w := by
  have h1 : Sem.run Try.prog (loadVar 40 ⟨b, 0, none⟩) w = .ok v w := by
    simp [go_sem, h]
  rw [Sem.run_bind, h1]
  rfl
theorem m_len {b : Nat} {w : World} {v : Value} (h : w.cell? ⟨b, 0, none⟩ = some v) : Sem.run Try.prog (method 231 54 (.pointer (some ⟨b, 0, none⟩)) "Len") w = .ok (22, v) w := (rfl : _ = _).trans (m_sent h 22)
theorem m_less {b : Nat} {w : World} {v : Value} (h : w.cell? ⟨b, 0, none⟩ = some v) : Sem.run Try.prog (method 231 54 (.pointer (some ⟨b, 0, none⟩)) "Less") w = .ok (109, v) w := (rfl : _ = _).trans (m_sent h 109)
theorem m_swap {b : Nat} {w : World} {v : Value} (h : w.cell? ⟨b, 0, none⟩ = some v) : Sem.run Try.prog (method 231 54 (.pointer (some ⟨b, 0, none⟩)) "Swap") w = .ok (111, v) w := (rfl : _ = _).trans (m_sent h 111)
section
variable {W : World} {A : Option Addr} {n c : Nat} {xs : List Int}
theorem len_any (A : Option Addr) (n c : Nat) (W : World) : Calls Try.prog 22 #[.slice A n c] W fun e w' => e = .returned (.int .i64 (n : Int)) ∧ W = w' := by
  go_enter Try.func22, Try.ntmps22
  go_wp2
  go_ret
  exact ⟨rfl, rfl⟩
theorem lessQ_any (hl : Is.Ls W A c xs) (hn : xs.length = n) {i j : Nat} (hi : i < xs.length) (hj : j < xs.length) :
    Calls Try.prog 109 #[.slice A n c, .int .i64 (i : Int), .int .i64 (j : Int)] W fun e w' => e = .returned (.bool (decide (xs[i] < xs[j]))) ∧ ∃ q, w' = W.drewN q := by
  obtain ⟨a, ha, z0⟩ := hl.here hi
  obtain ⟨a2, ha2, z1⟩ := hl.here hj
  subst ha
  cases ha2
  have hin : i < n := by omega
  have hjn : j < n := by omega
  generalize xs[i] = x at *
  generalize xs[j] = y at *
  clear hl hi hj hn
  go_enter Try.func109, Try.ntmps109
  go_wp2
  go_quiet (skip)
  go_wp2
  go_ret
  exact ⟨rfl, _, rfl⟩
theorem swapQ_any {K g : Nat} {L : List Nat} (hr : Is.Row W K (.slice (some ⟨g, 0, none⟩) n c) (ints L)) (hn : L.length = n) {i j : Nat} (hi : i < n) (hj : j < n) :
    Calls Try.prog 111 #[.slice (some ⟨g, 0, none⟩) n c, .int .i64 (i : Int), .int .i64 (j : Int)] W fun e w' => e = .returned (.tuple #[]) ∧ ∃ q, w' = ((W.setCell ⟨g, i, none⟩ (.int .i64 (Cy.at0 L j))).setCell ⟨g, j, none⟩ (.int .i64 (Cy.at0 L i))).drewN q := by
  obtain ⟨A, c', hv, hl⟩ := hr.ls
  have hn' : (ints L).length = n := by rw [ints_length]; exact hn
  rw [hn'] at hv
  cases hv
  have hf : ∀ o, W.frozen? ⟨g, o, none⟩ = false := fun o => by
    rcases hr.2 with ⟨h0, _⟩ | ⟨g', cap', cur, e, _, hb, _⟩
    · cases h0
    · cases e
      unfold World.frozen?; simp [hb]
  obtain ⟨a, ha, z0⟩ := hl.here (i := i) (by omega)
  cases ha
  obtain ⟨a2, ha2, z1⟩ := hl.here (i := j) (by omega)
  cases ha2
  rw [ints_get, ← Cy.at0_get] at z0 z1
  have f0 := hf i
  have f1 := hf j
  rw [add_at] at z0 z1
  have hg : g < W.heap.size := cell_lt z0
  generalize Cy.at0 L i = x at *
  generalize Cy.at0 L j = y at *
  obtain ⟨vj, zj⟩ : ∃ vj, (W.setCell ⟨g, i, none⟩ (.int .i64 (y : Int))).cell? ⟨g, j, none⟩ = some vj := by
    by_cases e : j = i
    · subst e; exact ⟨_, cell_near z0⟩
    · exact ⟨_, (cell_far e).trans z1⟩
  have fj : (W.setCell ⟨g, i, none⟩ (.int .i64 (y : Int))).frozen? ⟨g, j, none⟩ = false := by rw [World.frozen?_setCell]; exact f1
  clear hl hr hf hn hn'
  go_enter Try.func111, Try.ntmps111
  go_wp2
  go_region
  exact bodyPost_end (results_none rfl _ _ _) rfl ⟨rfl, 1, rfl⟩
end
theorem flat_set (xs : List Int) (i : Nat) (x : Int) : Is.flat (xs.set i x) = (Is.flat xs).set i (.int .i64 x) := by
  unfold Is.flat; rw [List.map_set]
theorem ints_set (L : List Nat) (i x : Nat) : ints (L.set i x) = (ints L).set i (x : Int) := by
  unfold ints; rw [List.map_set]
theorem Is.Row.putI {W : World} {K g n c : Nat} {xs : List Int} (h : Is.Row W K (.slice (some ⟨g, 0, none⟩) n c) xs) (i : Nat) (x : Int) : Is.Row (W.setCell ⟨g, i, none⟩ (.int .i64 x)) K (.slice (some ⟨g, 0, none⟩) n c) (xs.set i x) := by
  obtain ⟨A, c', hv, -⟩ := h.ls
  have hn : n = xs.length := by injection hv
  subst hn
  have h1 := row_store h i (.int .i64 x)
  unfold Is.Row
  rw [flat_set, List.length_set]
  exact h1
theorem swapR_any {W : World} {n c K g : Nat} {L : List Nat} (hr : Is.Row W K (.slice (some ⟨g, 0, none⟩) n c) (ints L)) (hn : L.length = n) {i j : Nat} (hi : i < n) (hj : j < n) :
    Calls Try.prog 111 #[.slice (some ⟨g, 0, none⟩) n c, .int .i64 (i : Int), .int .i64 (j : Int)] W fun e w' => e = .returned (.tuple #[]) ∧ Is.Row w' K (.slice (some ⟨g, 0, none⟩) n c) (ints (Cy.swp L i j)) ∧ OnlyS (· = g) W w' := by
  refine (swapQ_any hr hn hi hj).mono ?_
  rintro e w' ⟨rfl, q, rfl⟩
  refine ⟨rfl, ?_, ((OnlyS.set g i W _).trans (OnlyS.set g j _ _)).drewN q⟩
  unfold Cy.swp
  rw [ints_set, ints_set]
  exact row_keep ((hr.putI i _).putI j _) fun _ _ => rfl
/-- the heap as a variable of one's own: the variable's block lies ahead of the row's -/
structure Hq (W : World) (K b : Nat) (v : Value) (L : List Nat) : Prop where
  cell : W.cell? ⟨b, 0, none⟩ = some v
  fz : W.frozen? ⟨b, 0, none⟩ = false
  row : Is.Row W K v (ints L)
  bK : b < K
  KW : K ≤ W.heap.size
theorem Hq.only {W W' : World} {K b : Nat} {v : Value} {L L' : List Nat} (h : Hq W K b v L) {T : Nat → Prop} (ho : OnlyS T W W') (hb : ¬ T b) (hr : Is.Row W' K v (ints L')) : Hq W' K b v L' :=
  ⟨ho.cell h.cell hb, (World.frozen?_of_block (w := W) (a := ⟨b, 0, none⟩) (ho.block b (World.block_lt_of_cell? W _ h.cell) hb)).trans h.fz, hr, h.bK, Nat.le_trans h.KW ho.size⟩
section
variable {W : World} {K b : Nat} {v : Value} {L : List Nat}
set_option maxHeartbeats 4000000 in
theorem up_any {g n c : Nat} {j : Nat} (h : Hq W K b (.slice (some ⟨g, 0, none⟩) n c) L) (hu : Cy.UpI L j) (hL : L.length ≤ 1000) : Calls Try.prog 50 #[hpV b, .int .i64 (j : Int)] W fun e w' => e = .returned (.tuple #[]) ∧ ∃ L', L'.Perm L ∧ Cy.Hp L' ∧ Hq w' K b (.slice (some ⟨g, 0, none⟩) n c) L' ∧ OnlyS (· = g) W w' := by
  have H := Lib.hid h
  have HU := Lib.hid hu
  have hjl := hu.lt
  have HL := Lib.hid hL
  clear h hu
  go_enter Try.func50, Try.ntmps50
  go_wp2
  go_loopw [1] (fun t wr => ∃ (L' : List Nat) (i : Nat), t = .int .i64 i ∧ i ≤ j ∧ Cy.UpI L' i ∧ L'.Perm L ∧ Hq wr K b (.slice (some ⟨g, 0, none⟩) n c) L' ∧ OnlyS (· = g) W wr) (fun t _ => (intOf t).toNat)
  case atStart => exact ⟨L, j, rfl, Nat.le_refl _, HU.out, .refl _, H.out, OnlyS.refl _ _⟩
  case round =>
    obtain ⟨L', i, rfl, hij, hu, hp, hq, ho⟩ := hrel
    have HU' := Lib.hid hu
    have HP' := Lib.hid hp
    have HQ' := Lib.hid hq
    have HO' := Lib.hid ho
    have z0 := hq.cell
    have hls : Is.Ls wr (some ⟨g, 0, none⟩) c (ints L') ∧ L'.length = n := by
      obtain ⟨A, c', hv, hls⟩ := hq.row.ls
      injection hv with h1 h2 h3
      subst h1; subst h3
      exact ⟨hls, by rw [h2, ints_length]⟩
    obtain ⟨hls, hln⟩ := hls
    by_cases h0 : i = 0
    · subst h0
      have HF := Lib.hid (show ∃ L', L'.Perm L ∧ Cy.Hp L' ∧ Hq wr K b (.slice (some ⟨g, 0, none⟩) n c) L' ∧ OnlyS (· = g) W wr from ⟨L', HP'.out, HU'.out.end' (.inl rfl), HQ'.out, HO'.out⟩)
      clear hu hp hq ho
      go_wp2_with fail
      exact bodyPost_end (results_none rfl _ _ _) rfl ⟨rfl, HF.out⟩
    · obtain ⟨p, hp2⟩ : ∃ p, (i - 1) / 2 = p := ⟨_, rfl⟩
      have e : ((i : Int) - 1).tdiv 2 = (p : Int) := by
        rw [← hp2, show (i : Int) - 1 = ((i - 1 : Nat) : Int) by omega]
        rfl
      have hpi : ((p : Int) == (i : Int)) = false := by simp; omega
      have hil := hu.lt
      have hL1 : L'.length ≤ 1000 := by rw [hp.length_eq]; exact hL
      have HLess := Lib.hid (lessQ_any (W := wr) (n := n) (i := i) (j := p) hls (by rw [ints_length]; exact hln) (by rw [ints_length]; exact hil) (by rw [ints_length]; omega))
      simp only [ints_get] at HLess
      rw [← Cy.at0_get hil, ← Cy.at0_get (show p < L'.length by omega)] at HLess
      have hin : i < n := by omega
      have hpn : p < n := by omega
      have HSwap := Lib.hid (fun q => swapR_any (W := wr.drewN q) (K := K) (c := c) (i := p) (j := i) (row_keep hq.row fun _ _ => rfl) hln (by omega) (by omega))
      have hi1000 : i ≤ 1000 := by omega
      clear hq ho hls hL1
      by_cases hlt : Cy.at0 L' i < Cy.at0 L' p
      · have hu2 := hu.step (by omega) (by rw [hp2]; exact hlt)
        rw [hp2] at hu2
        have HU2 := Lib.hid hu2
        have hlt' : decide ((Cy.at0 L' i : Int) < (Cy.at0 L' p : Int)) = true := by simp; exact hlt
        have hP2 := Lib.hid ((Cy.swp_perm (L := L') (i := p) (j := i) (by omega) hil).trans hp)
        rw [hlt'] at HLess
        have hpi2 : p < i := by omega
        clear hu hu2 hlt' hil hp2
        go_wp2_with (rw [m_less z0])
        refine HLess.out.mono ?_
        rintro e1 w1 ⟨rfl, q, rfl⟩
        have z1 : (wr.drewN q).cell? ⟨b, 0, none⟩ = some (.slice (some ⟨g, 0, none⟩) n c) := z0
        go_wp2_with (rw [m_swap z1])
        refine (HSwap.out q).mono ?_
        rintro e2 w2 ⟨rfl, hrow, ho2⟩
        have HQ2 := Lib.hid (show Hq w2 K b (.slice (some ⟨g, 0, none⟩) n c) (Cy.swp L' p i) from HQ'.out.only ((OnlyS.drewN (OnlyS.refl _ _) q).trans ho2) (by
          have := (HQ'.out.row.lt g rfl).1
          have := HQ'.out.bK
          show ¬ b = g; omega) hrow)
        have HO2 := Lib.hid ((HO'.out.drewN q).trans ho2)
        clear hrow ho2
        go_wp2_with fail
        go_roundw
        case rel => exact ⟨_, p, by go_num, by omega, HU2.out, hP2.out, HQ2.out, HO2.out⟩
        case measure => simp [intOf]; omega
      · have hle : Cy.at0 L' p ≤ Cy.at0 L' i := by omega
        have HF := Lib.hid (fun q => show ∃ L', L'.Perm L ∧ Cy.Hp L' ∧ Hq (wr.drewN q) K b (.slice (some ⟨g, 0, none⟩) n c) L' ∧ OnlyS (· = g) W (wr.drewN q) from ⟨L', HP'.out, HU'.out.end' (.inr (by rw [hp2]; exact hle)), HQ'.out.only (OnlyS.drewN (OnlyS.refl (fun _ => False) _) q) (fun h => h) (row_keep HQ'.out.row fun _ _ => rfl), HO'.out.drewN q⟩)
        have hlt' : decide ((Cy.at0 L' i : Int) < (Cy.at0 L' p : Int)) = false := by simp; exact hle
        rw [hlt'] at HLess
        have hpi2 : p < i := by omega
        clear hu hlt' hil hp2 hlt hle hp
        go_wp2_with (rw [m_less z0])
        refine HLess.out.mono ?_
        rintro e1 w1 ⟨rfl, q, rfl⟩
        go_wp2_with fail
        exact bodyPost_end (results_none rfl _ _ _) rfl ⟨rfl, HF.out q⟩
/-- how it stands when one has gone down -/
def Downs (W : World) (K b g n c m : Nat) (L : List Nat) (w' : World) : Prop := ∃ L' i, Cy.Dn L m L' i ∧ Cy.HpN L' m ∧ Hq w' K b (.slice (some ⟨g, 0, none⟩) n c) L' ∧ OnlyS (· = g) W w'
def DownE (W : World) (K b g n c m : Nat) (L : List Nat) (e : Ending) (w' : World) : Prop := (∃ r, e = .returned (.bool r)) ∧ Downs W K b g n c m L w'
set_option maxHeartbeats 4000000 in
theorem down_any {g n c m : Nat} (h : Hq W K b (.slice (some ⟨g, 0, none⟩) n c) (Cy.swp L 0 m)) (hh : Cy.Hp L) (hm : L.length = m + 1) (hmn : m + 1 = n) (hL : m ≤ 1000) : Calls Try.prog 51 #[hpV b, .int .i64 0, .int .i64 (m : Int)] W (DownE W K b g n c m L) := by
  have H := Lib.hid h
  have HDs := Lib.hid (Cy.Dn.start hh hm)
  have hmn := hm.trans hmn
  clear h hh
  go_enter Try.func51, Try.ntmps51
  go_wp2
  go_loopw [7] (fun t wr => ∃ (L' : List Nat) (i : Nat), t = .int .i64 i ∧ i ≤ m ∧ Cy.Dn L m L' i ∧ Hq wr K b (.slice (some ⟨g, 0, none⟩) n c) L' ∧ OnlyS (· = g) W wr) (fun t _ => m - (intOf t).toNat)
  case atStart => exact ⟨_, 0, rfl, Nat.zero_le _, HDs.out, H.out, OnlyS.refl _ _⟩
  case round =>
    obtain ⟨L', i, rfl, him, hD, hq, ho⟩ := hrel
    have HD := Lib.hid hD
    have HQ' := Lib.hid hq
    have HO' := Lib.hid ho
    have z0 := hq.cell
    have hls : Is.Ls wr (some ⟨g, 0, none⟩) c (ints L') ∧ L'.length = n := by
      obtain ⟨A, c', hv, hls⟩ := hq.row.ls
      injection hv with h1 h2 h3
      subst h1; subst h3
      exact ⟨hls, by rw [h2, ints_length]⟩
    obtain ⟨hls, hln⟩ := hls
    have HLs := Lib.hid hls
    have HLn := Lib.hid (show (ints L').length = n by rw [ints_length]; exact hln)
    by_cases h1 : 2 * i + 1 < m
    · by_cases h2 : 2 * i + 2 < m
      · have HLess1 := Lib.hid (lessQ_any (W := wr) (n := n) (i := 2 * i + 2) (j := 2 * i + 1) hls HLn.out (by rw [ints_length]; omega) (by rw [ints_length]; omega))
        simp only [ints_get] at HLess1
        rw [← Cy.at0_get (show 2 * i + 2 < L'.length by omega), ← Cy.at0_get (show 2 * i + 1 < L'.length by omega)] at HLess1
        obtain ⟨d1, hd1⟩ : ∃ d, 2 * i + 1 = d := ⟨_, rfl⟩
        have e1 : 2 * (i : Int) + 1 = (d1 : Int) := by omega
        obtain ⟨d2, hd2⟩ : ∃ d, 2 * i + 2 = d := ⟨_, rfl⟩
        have e2 : (d1 : Int) + 1 = (d2 : Int) := by omega
        rw [hd1, hd2] at HLess1
        by_cases h3 : Cy.at0 L' d2 < Cy.at0 L' d1
        · obtain ⟨d, hd⟩ : ∃ d, d = d2 := ⟨_, rfl⟩
          subst hd
          have hcm : d < m := by omega
          have hcp : (d - 1) / 2 = i := by omega
          have hcl : ∀ k, 0 < k → k < m → (k - 1) / 2 = i → Cy.at0 L' d ≤ Cy.at0 L' k := fun k k0 hk hkp => by
            rcases (by omega : k = d1 ∨ k = d) with rfl | rfl
            · omega
            · exact Nat.le_refl _
          have h3' : decide ((Cy.at0 L' d : Int) < (Cy.at0 L' d1 : Int)) = true := by simp; exact h3
          rw [h3'] at HLess1
          clear h3 h3'
          have HLess2 := Lib.hid (fun q => lessQ_any (W := wr.drewN q) (n := n) (i := d) (j := i) (xs := ints L') (HLs.out.drewN q) HLn.out (by rw [ints_length]; omega) (by rw [ints_length]; omega))
          simp only [ints_get] at HLess2
          rw [← Cy.at0_get (show d < L'.length by omega), ← Cy.at0_get (show i < L'.length by omega)] at HLess2
          by_cases hlt : Cy.at0 L' d < Cy.at0 L' i
          · have hlt' : decide ((Cy.at0 L' d : Int) < (Cy.at0 L' i : Int)) = true := by simp; exact hlt
            have HD2 := Lib.hid (HD.out.step hm (by omega) hcm (by omega) hcp hcl hlt)
            rw [hlt'] at HLess2
            have HSwap := Lib.hid (fun q => swapR_any (W := wr.drewN q) (K := K) (c := c) (i := i) (j := d) (row_keep HQ'.out.row fun _ _ => rfl) (by rw [hD.len]; exact hmn) (by omega) (by omega))
            clear hlt hlt' hcl hcp hls hD
            go_wp2_with (rw [m_less z0])
            refine HLess1.out.mono ?_
            rintro e0 w0 ⟨rfl, q0, rfl⟩
            have y0 : (wr.drewN q0).cell? ⟨b, 0, none⟩ = some (.slice (some ⟨g, 0, none⟩) n c) := z0
            go_wp2_with (rw [m_less y0])
            refine (HLess2.out q0).mono ?_
            rintro e1 w1 ⟨rfl, q1, rfl⟩
            have hdd : (wr.drewN q0).drewN q1 = wr.drewN (q0 + q1) := World.drewN_drewN ..
            rw [hdd]
            have z1 : (wr.drewN (q0 + q1)).cell? ⟨b, 0, none⟩ = some (.slice (some ⟨g, 0, none⟩) n c) := z0
            go_wp2_with (rw [m_swap z1])
            refine (HSwap.out (q0 + q1)).mono ?_
            rintro e2 w2 ⟨rfl, hrow, ho2⟩
            have HQ2 := Lib.hid (show Hq w2 K b (.slice (some ⟨g, 0, none⟩) n c) (Cy.swp L' i d) from HQ'.out.only ((OnlyS.drewN (OnlyS.refl _ _) (q0 + q1)).trans ho2) (by
              have := (HQ'.out.row.lt g rfl).1
              have := HQ'.out.bK
              show ¬ b = g; omega) hrow)
            have HO2 := Lib.hid ((HO'.out.drewN (q0 + q1)).trans ho2)
            clear hrow ho2
            go_wp2_with fail
            go_roundw
            case rel => exact ⟨_, d, by go_num, by omega, HD2.out, HQ2.out, HO2.out⟩
            case measure => simp [intOf]; omega
          · have hle : Cy.at0 L' i ≤ Cy.at0 L' d := by omega
            have HF := Lib.hid (fun q => show Downs W K b g n c m L (wr.drewN q) from ⟨L', i, HD.out, HD.out.dn.end' fun k k0 hk hkp => Nat.le_trans hle (hcl k k0 hk hkp), HQ'.out.only (OnlyS.drewN (OnlyS.refl (fun _ => False) _) q) (fun h => h) (row_keep HQ'.out.row fun _ _ => rfl), HO'.out.drewN q⟩)
            have hlt' : decide ((Cy.at0 L' d : Int) < (Cy.at0 L' i : Int)) = false := by simp; exact hle
            rw [hlt'] at HLess2
            clear hlt hlt' hcl hcp hle hls hD
            go_wp2_with (rw [m_less z0])
            refine HLess1.out.mono ?_
            rintro e0 w0 ⟨rfl, q0, rfl⟩
            have y0 : (wr.drewN q0).cell? ⟨b, 0, none⟩ = some (.slice (some ⟨g, 0, none⟩) n c) := z0
            go_wp2_with (rw [m_less y0])
            refine (HLess2.out q0).mono ?_
            rintro e1 w1 ⟨rfl, q1, rfl⟩
            have hdd : (wr.drewN q0).drewN q1 = wr.drewN (q0 + q1) := World.drewN_drewN ..
            rw [hdd]
            go_wp2_with fail
            go_ret
            exact ⟨⟨_, rfl⟩, HF.out (q0 + q1)⟩
        · obtain ⟨d, hd⟩ : ∃ d, d = d1 := ⟨_, rfl⟩
          subst hd
          have hcm : d < m := by omega
          have hcp : (d - 1) / 2 = i := by omega
          have hcl : ∀ k, 0 < k → k < m → (k - 1) / 2 = i → Cy.at0 L' d ≤ Cy.at0 L' k := fun k k0 hk hkp => by
            rcases (by omega : k = d2 ∨ k = d) with rfl | rfl
            · omega
            · exact Nat.le_refl _
          have h3' : decide ((Cy.at0 L' d2 : Int) < (Cy.at0 L' d : Int)) = false := by simp; omega
          rw [h3'] at HLess1
          clear h3 h3'
          have HLess2 := Lib.hid (fun q => lessQ_any (W := wr.drewN q) (n := n) (i := d) (j := i) (xs := ints L') (HLs.out.drewN q) HLn.out (by rw [ints_length]; omega) (by rw [ints_length]; omega))
          simp only [ints_get] at HLess2
          rw [← Cy.at0_get (show d < L'.length by omega), ← Cy.at0_get (show i < L'.length by omega)] at HLess2
          by_cases hlt : Cy.at0 L' d < Cy.at0 L' i
          · have hlt' : decide ((Cy.at0 L' d : Int) < (Cy.at0 L' i : Int)) = true := by simp; exact hlt
            have HD2 := Lib.hid (HD.out.step hm (by omega) hcm (by omega) hcp hcl hlt)
            rw [hlt'] at HLess2
            have HSwap := Lib.hid (fun q => swapR_any (W := wr.drewN q) (K := K) (c := c) (i := i) (j := d) (row_keep HQ'.out.row fun _ _ => rfl) (by rw [hD.len]; exact hmn) (by omega) (by omega))
            clear hlt hlt' hcl hcp hls hD
            go_wp2_with (rw [m_less z0])
            refine HLess1.out.mono ?_
            rintro e0 w0 ⟨rfl, q0, rfl⟩
            have y0 : (wr.drewN q0).cell? ⟨b, 0, none⟩ = some (.slice (some ⟨g, 0, none⟩) n c) := z0
            go_wp2_with (rw [m_less y0])
            refine (HLess2.out q0).mono ?_
            rintro e1 w1 ⟨rfl, q1, rfl⟩
            have hdd : (wr.drewN q0).drewN q1 = wr.drewN (q0 + q1) := World.drewN_drewN ..
            rw [hdd]
            have z1 : (wr.drewN (q0 + q1)).cell? ⟨b, 0, none⟩ = some (.slice (some ⟨g, 0, none⟩) n c) := z0
            go_wp2_with (rw [m_swap z1])
            refine (HSwap.out (q0 + q1)).mono ?_
            rintro e2 w2 ⟨rfl, hrow, ho2⟩
            have HQ2 := Lib.hid (show Hq w2 K b (.slice (some ⟨g, 0, none⟩) n c) (Cy.swp L' i d) from HQ'.out.only ((OnlyS.drewN (OnlyS.refl _ _) (q0 + q1)).trans ho2) (by
              have := (HQ'.out.row.lt g rfl).1
              have := HQ'.out.bK
              show ¬ b = g; omega) hrow)
            have HO2 := Lib.hid ((HO'.out.drewN (q0 + q1)).trans ho2)
            clear hrow ho2
            go_wp2_with fail
            go_roundw
            case rel => exact ⟨_, d, by go_num, by omega, HD2.out, HQ2.out, HO2.out⟩
            case measure => simp [intOf]; omega
          · have hle : Cy.at0 L' i ≤ Cy.at0 L' d := by omega
            have HF := Lib.hid (fun q => show Downs W K b g n c m L (wr.drewN q) from ⟨L', i, HD.out, HD.out.dn.end' fun k k0 hk hkp => Nat.le_trans hle (hcl k k0 hk hkp), HQ'.out.only (OnlyS.drewN (OnlyS.refl (fun _ => False) _) q) (fun h => h) (row_keep HQ'.out.row fun _ _ => rfl), HO'.out.drewN q⟩)
            have hlt' : decide ((Cy.at0 L' d : Int) < (Cy.at0 L' i : Int)) = false := by simp; exact hle
            rw [hlt'] at HLess2
            clear hlt hlt' hcl hcp hle hls hD
            go_wp2_with (rw [m_less z0])
            refine HLess1.out.mono ?_
            rintro e0 w0 ⟨rfl, q0, rfl⟩
            have y0 : (wr.drewN q0).cell? ⟨b, 0, none⟩ = some (.slice (some ⟨g, 0, none⟩) n c) := z0
            go_wp2_with (rw [m_less y0])
            refine (HLess2.out q0).mono ?_
            rintro e1 w1 ⟨rfl, q1, rfl⟩
            have hdd : (wr.drewN q0).drewN q1 = wr.drewN (q0 + q1) := World.drewN_drewN ..
            rw [hdd]
            go_wp2_with fail
            go_ret
            exact ⟨⟨_, rfl⟩, HF.out (q0 + q1)⟩
      · obtain ⟨d, hd⟩ : ∃ d, 2 * i + 1 = d := ⟨_, rfl⟩
        have e1 : 2 * (i : Int) + 1 = (d : Int) := by omega
        have hcm : d < m := by omega
        have hcp : (d - 1) / 2 = i := by omega
        have hcl : ∀ k, 0 < k → k < m → (k - 1) / 2 = i → Cy.at0 L' d ≤ Cy.at0 L' k := fun k k0 hk hkp => by
          obtain rfl : k = d := by omega
          exact Nat.le_refl _
        have HLess2 := Lib.hid (fun q => lessQ_any (W := wr.drewN q) (n := n) (i := d) (j := i) (xs := ints L') (HLs.out.drewN q) HLn.out (by rw [ints_length]; omega) (by rw [ints_length]; omega))
        simp only [ints_get] at HLess2
        rw [← Cy.at0_get (show d < L'.length by omega), ← Cy.at0_get (show i < L'.length by omega)] at HLess2
        by_cases hlt : Cy.at0 L' d < Cy.at0 L' i
        · have hlt' : decide ((Cy.at0 L' d : Int) < (Cy.at0 L' i : Int)) = true := by simp; exact hlt
          have HD2 := Lib.hid (HD.out.step hm (by omega) hcm (by omega) hcp hcl hlt)
          rw [hlt'] at HLess2
          have HSwap := Lib.hid (fun q => swapR_any (W := wr.drewN q) (K := K) (c := c) (i := i) (j := d) (row_keep HQ'.out.row fun _ _ => rfl) (by rw [hD.len]; exact hmn) (by omega) (by omega))
          clear hlt hlt' hcl hcp hls hD
          go_wp2_with (rw [m_less z0])
          refine (HLess2.out 0).mono ?_
          rintro e1 w1 ⟨rfl, q1, rfl⟩
          have z1 : (wr.drewN q1).cell? ⟨b, 0, none⟩ = some (.slice (some ⟨g, 0, none⟩) n c) := z0
          go_wp2_with (rw [m_swap z1])
          refine (HSwap.out q1).mono ?_
          rintro e2 w2 ⟨rfl, hrow, ho2⟩
          have HQ2 := Lib.hid (show Hq w2 K b (.slice (some ⟨g, 0, none⟩) n c) (Cy.swp L' i d) from HQ'.out.only ((OnlyS.drewN (OnlyS.refl _ _) q1).trans ho2) (by
            have := (HQ'.out.row.lt g rfl).1
            have := HQ'.out.bK
            show ¬ b = g; omega) hrow)
          have HO2 := Lib.hid ((HO'.out.drewN q1).trans ho2)
          clear hrow ho2
          go_wp2_with fail
          go_roundw
          case rel => exact ⟨_, d, by go_num, by omega, HD2.out, HQ2.out, HO2.out⟩
          case measure => simp [intOf]; omega
        · have hle : Cy.at0 L' i ≤ Cy.at0 L' d := by omega
          have HF := Lib.hid (fun q => show Downs W K b g n c m L (wr.drewN q) from ⟨L', i, HD.out, HD.out.dn.end' fun k k0 hk hkp => Nat.le_trans hle (hcl k k0 hk hkp), HQ'.out.only (OnlyS.drewN (OnlyS.refl (fun _ => False) _) q) (fun h => h) (row_keep HQ'.out.row fun _ _ => rfl), HO'.out.drewN q⟩)
          have hlt' : decide ((Cy.at0 L' d : Int) < (Cy.at0 L' i : Int)) = false := by simp; exact hle
          rw [hlt'] at HLess2
          clear hlt hlt' hcl hcp hle hls hD
          go_wp2_with (rw [m_less z0])
          refine (HLess2.out 0).mono ?_
          rintro e1 w1 ⟨rfl, q1, rfl⟩
          go_wp2_with fail
          go_ret
          exact ⟨⟨_, rfl⟩, HF.out q1⟩
    · have HF := Lib.hid (show Downs W K b g n c m L wr from ⟨L', i, HD.out, HD.out.dn.end' fun k k0 hk hkp => by omega, HQ'.out, HO'.out⟩)
      clear hls hq ho hD
      go_wp2_with fail
      go_ret
      exact ⟨⟨_, rfl⟩, HF.out⟩
end
end Go.Proofs.Ytgefponjlliaaaa
