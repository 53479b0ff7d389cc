/- Ways with each edge the other way round, built in memory. -/
import Derived.Test.YtggmnjnigmbooaaHc
import Derived.Deep.Cut
namespace Go.Proofs.Ytggmnjnigmbooaa.Cy
set_option maxRecDepth 10000
/-- how often a place stands in a row of the ways that are turned, when so much has been gone through -/
def cnt (to : Tos) (j m x y : Nat) : Nat := if y < j then (nx to y).count x else if y = j then ((nx to j).take m).count x else 0
/-- the ways turned, as far as that has gone -/
structure Bk (to : Tos) (j m : Nat) (bt : Tos) : Prop where
  len : bt.length = to.length
  cnt : ∀ x y, (nx bt x).count y = cnt to j m x y
  most : ∀ x, (nx bt x).length ≤ j * 400 + m
/-- the ways turned -/
structure Trn (to bt : Tos) : Prop where
  len : bt.length = to.length
  cnt : ∀ x y, (nx bt x).count y = (nx to y).count x
  most : ∀ x, (nx bt x).length ≤ to.length * 400
theorem Trn.turned {to bt : Tos} (h : Trn to bt) : Turned to bt := ⟨h.len, fun x y => by
  unfold Ed
  rw [← List.count_pos_iff, ← List.count_pos_iff, h.cnt]⟩
theorem Turned.inn {to bt : Tos} (h : Turned to bt) : Inn bt := fun a b hb => by
  have := (h.2 a b).1 hb
  rw [h.1]; exact this.src
theorem nx_set {to : Tos} {i : Nat} (hi : i < to.length) (l : List Nat) (x : Nat) : nx (to.set i l) x = if x = i then l else nx to x := by
  unfold nx
  rw [List.getD_eq_getElem?_getD, List.getD_eq_getElem?_getD, List.getElem?_set]
  by_cases e : i = x
  · subst e; simp [hi]
  · rw [if_neg e, if_neg (by omega)]
theorem Bk.start {to bt : Tos} (hl : bt.length = to.length) (h0 : ∀ i (h : i < bt.length), bt[i] = []) : Bk to 0 0 bt := by
  have h1 : ∀ x, nx bt x = [] := fun x => by
    rcases Nat.lt_or_ge x bt.length with q | q
    · rw [nx_get q, h0 x q]
    · exact nx_out q
  refine ⟨hl, fun x y => ?_, fun x => by rw [h1]; simp⟩
  rw [h1]
  unfold Cy.cnt
  simp
theorem Bk.put {to bt : Tos} {j m i : Nat} (h : Bk to j m bt) (hm : m < (nx to j).length) (hI : (nx to j)[m] = i) (hi : i < bt.length) : Bk to j (m + 1) (bt.set i (bt[i] ++ [j])) := by
  have h0 := h.cnt
  have h2 := h.most
  refine ⟨by rw [List.length_set]; exact h.len, fun x y => ?_, fun x => ?_⟩
  · rw [nx_set hi]
    have h1 := h0 x y
    unfold Cy.cnt at h1 ⊢
    rw [List.take_succ_eq_append_getElem hm, hI, List.count_append]
    by_cases e : x = i
    · subst e
      rw [if_pos rfl, List.count_append, ← nx_get hi, h1]
      by_cases e2 : y < j
      · rw [if_pos e2, if_pos e2]
        have : y ≠ j := by omega
        simp [List.count_cons]; omega
      · rw [if_neg e2, if_neg e2]
        by_cases e3 : y = j
        · subst e3; simp
        · rw [if_neg e3, if_neg e3]
          simp [List.count_cons]; omega
    · rw [if_neg e, h1]
      have : List.count x [i] = 0 := by simp [List.count_cons]; omega
      rw [this]
      rfl
  · rw [nx_set hi]
    split
    · rw [List.length_append, ← nx_get hi]
      have := h2 i
      simp; omega
    · have := h2 x
      omega
theorem Bk.next {to bt : Tos} {j : Nat} (h : Bk to j (nx to j).length bt) (hd : (nx to j).length ≤ 400) : Bk to (j + 1) 0 bt := by
  refine ⟨h.len, fun x y => ?_, fun x => ?_⟩
  · have h1 := h.cnt x y
    unfold Cy.cnt at h1 ⊢
    rw [h1, List.take_length]
    by_cases e : y < j
    · rw [if_pos e, if_pos (by omega)]
    · rw [if_neg e]
      by_cases e2 : y = j
      · rw [if_pos e2, if_pos (by omega), e2]
      · rw [if_neg e2, if_neg (by omega)]
        simp
  · have := h.most x
    omega
theorem Bk.done {to bt : Tos} (h : Bk to to.length 0 bt) : Trn to bt := by
  refine ⟨h.len, fun x y => ?_, fun x => by have := h.most x; omega⟩
  have h1 := h.cnt x y
  unfold Cy.cnt at h1
  rw [h1]
  by_cases e : y < to.length
  · rw [if_pos e]
  · rw [if_neg e, nx_out (a := y) (by omega)]
    simp
end Go.Proofs.Ytggmnjnigmbooaa.Cy
namespace Go.Proofs.Ytggmnjnigmbooaa
open Go Go.RowKit Go.Shelf
set_option maxRecDepth 100000

theorem Tl.row {W : World} {A : Option Addr} {c : Nat} {to : Cy.Tos} (h : Tl W A c to) {i : Nat} (hi : i < to.length) : ∃ a Ai ci, A = some a ∧ W.cell? (a.add i) = some (.slice Ai (Cy.nx to i).length ci) ∧ Is.Ls W Ai ci (ints (Cy.nx to i)) := by
  rw [Cy.nx_get hi]
  exact h.here hi
/-- rows of places that are read, whatever becomes of block g -/
structure Ta (W : World) (g : Nat) (A : Option Addr) (c : Nat) (to : Cy.Tos) : Prop where
  cap : to.length ≤ c
  room : c ≤ maxLen
  nil : A = none → c = 0
  at' : ∀ a, A = some a → ∀ i (_ : i < to.length), ∃ Ai ci, ∀ W', OnlyS (· = g) W W' → W'.cell? (a.add i) = some (.slice Ai (Cy.nx to i).length ci) ∧ Is.Ls W' Ai ci (ints (Cy.nx to i))
section
variable {W W' : World} {A : Option Addr} {c g : Nat} {to : Cy.Tos}
theorem Ta.only (h : Ta W g A c to) (ho : OnlyS (· = g) W W') : Ta W' g A c to :=
  ⟨h.cap, h.room, h.nil, fun a ha i hi => by
    obtain ⟨Ai, ci, h1⟩ := h.at' a ha i hi
    exact ⟨Ai, ci, fun W2 ho2 => h1 W2 (ho.trans (ho2.mono fun _ _ h => h))⟩⟩
theorem Ta.below (h : Ta W g A c to) (hb : Below W.heap.size W W') : Ta W' g A c to := h.only (OnlyS.of_below hb)
theorem Ta.row (h : Ta W g A c to) {i : Nat} (hi : i < to.length) : ∃ a Ai ci, A = some a ∧ ∀ W', OnlyS (· = g) W W' → W'.cell? (a.add i) = some (.slice Ai (Cy.nx to i).length ci) ∧ Is.Ls W' Ai ci (ints (Cy.nx to i)) := by
  cases A with
  | none =>
    have := h.cap
    have := h.nil rfl
    omega
  | some a =>
    obtain ⟨Ai, ci, h1⟩ := h.at' a rfl i hi
    exact ⟨a, Ai, ci, rfl, h1⟩
theorem Tl.ta (h : Tl W A c to) (hg : W.heap.size ≤ g) : Ta W g A c to :=
  ⟨h.cap, h.room, h.nil, fun a ha i hi => by
    obtain ⟨a', Ai, ci, ha', h1, h2⟩ := h.row hi
    rw [ha] at ha'
    cases ha'
    refine ⟨Ai, ci, fun W' ho => ?_⟩
    have hb : Below W.heap.size W W' := ho.below (by intro k hk; omega) (Nat.le_refl _)
    exact ⟨(hb.cell (p := a.add i) (cell_lt h1)).trans h1, h2.below hb⟩⟩
theorem Tw.ta {K g' : Nat} {vs : List Value} (h : Tw W K g' to vs) (hm : to.length ≤ maxLen) (hg : g ≠ g') (hK : g < K) : Ta W g (some ⟨g', 0, none⟩) to.length to :=
  ⟨Nat.le_refl _, hm, by simp, fun a ha i hi => by
    obtain rfl : (⟨g', 0, none⟩ : Addr) = a := by simpa using ha
    obtain ⟨A, c, hc, e⟩ := h.cell hi
    refine ⟨A, c, fun W' ho => ?_⟩
    have h2 := h.only ho (Ne.symm hg) (by intro k hk; omega)
    obtain ⟨A', c', hc', e'⟩ := h2.cell hi
    rw [e] at e'
    injection e' with e1 _ e2
    subst e1
    subst e2
    obtain ⟨A'', c'', e3, hls⟩ := (h2.row i (by rw [h.len]; exact hi) hi).ls
    rw [e, ints_length] at e3
    injection e3 with e4 _ e5
    subst e4
    subst e5
    rw [Cy.nx_get hi]
    exact ⟨by rw [add_at]; exact hc', hls⟩⟩
end
/-- ways that are read: bounds that all of them keep -/
structure Okw (to : Cy.Tos) : Prop where
  inn : Cy.Inn to
  len : to.length ≤ 800
  deg : ∀ i, (Cy.nx to i).length ≤ 400
theorem Cy.Wy.okw {l : List Es.Ed} {nums : List Int} {to : Cy.Tos} (h : Cy.Wy l nums to) (hl : l.length ≤ 400) : Okw to := by
  refine ⟨h.inn, ?_, fun i => ?_⟩
  · rw [h.len, h.nums']
    have := Cy.nodesC_len l
    omega
  · rcases Nat.lt_or_ge i nums.length with q | q
    · have := congrArg List.length (h.rows i q)
      rw [List.length_map] at this
      rw [this]
      exact Nat.le_trans (Cy.fromC_len _ _) hl
    · rw [Cy.nx_out (by rw [h.len]; exact q)]
      simp
/-- ways turned, handed back -/
def Turns (W : World) (A1 : Option Addr) (n1 c1 n : Nat) (to : Cy.Tos) (e : Ending) (w' : World) : Prop :=
  ∃ g bt, e = .returned (wayV A1 n1 c1 (some ⟨g, 0, none⟩) n n) ∧ Tl w' (some ⟨g, 0, none⟩) n bt ∧ (∀ k, k < W.heap.size → Ta w' k (some ⟨g, 0, none⟩) n bt) ∧ Cy.Trn to bt ∧ Below W.heap.size W w'
/-- new rows, and a value's cells that hold them -/
structure Made (X : World) (n : Nat) (A1 : Option Addr) (n1 c1 b g : Nat) (w : World) : Prop where
  bel : Below X.heap.size X w
  row : w.heap[g]? = some (.cells (madeCells #[.slice none 0 0] n) 23)
  box : w.heap[b]? = some (.cells #[.slice A1 n1 c1, .slice (some ⟨g, 0, none⟩) n n] 48)
  ge : X.heap.size ≤ g ∧ X.heap.size ≤ b ∧ b ≠ g
def MadeS (X : World) (n : Nat) (A1 : Option Addr) (n1 c1 : Nat) (v : Value) (w : World) : Prop := ∃ b g, v = .pointer (some ⟨b, 0, none⟩) ∧ Made X n A1 n1 c1 b g w
theorem made_one (X : World) {n : Nat} {A1 : Option Addr} {n1 c1 : Nat} : Made X n A1 n1 c1 (X.heap.size + 1) X.heap.size ((X.alloc (.cells (madeCells #[.slice none 0 0] n) 23)).alloc (.cells #[.slice A1 n1 c1, .slice (some ⟨X.heap.size, 0, none⟩) n n] 48)).drew := by
  refine ⟨((box_below X _).trans ((box_below (X.alloc _) _).mono (by simp))).drew, heap_alloc2_old X _ _, ?_, by omega⟩
  have := heap_new' (X.alloc (.cells (madeCells #[.slice none 0 0] n) 23)) (.cells #[.slice A1 n1 c1, .slice (some ⟨X.heap.size, 0, none⟩) n n] 48)
  rw [show (X.alloc (.cells (madeCells #[.slice none 0 0] n) 23)).heap.size = X.heap.size + 1 by simp] at this
  exact this
theorem made_two (X : World) {n : Nat} {A1 : Option Addr} {n1 c1 : Nat} : Made X n A1 n1 c1 X.heap.size (X.heap.size + 1) ((X.alloc (.cells #[.slice A1 n1 c1, .slice (some ⟨X.heap.size + 1, 0, none⟩) n n] 48)).alloc (.cells (madeCells #[.slice none 0 0] n) 23)).drew := by
  refine ⟨((box_below X _).trans ((box_below (X.alloc _) _).mono (by simp))).drew, ?_, heap_alloc2_old X _ _, by omega⟩
  have := heap_new' (X.alloc (.cells #[.slice A1 n1 c1, .slice (some ⟨X.heap.size + 1, 0, none⟩) n n] 48)) (.cells (madeCells #[.slice none 0 0] n) 23)
  rw [show (X.alloc (.cells #[.slice A1 n1 c1, .slice (some ⟨X.heap.size + 1, 0, none⟩) n n] 48)).heap.size = X.heap.size + 1 by simp] at this
  exact this
set_option maxHeartbeats 8000000 in
theorem back_any {W : World} {A1 A2 : Option Addr} {n1 c1 c2 : Nat} {to : Cy.Tos} (ht : Tl W A2 c2 to) (ho : Okw to) : Calls Try.prog 34 #[wayV A1 n1 c1 A2 to.length c2] W (Turns W A1 n1 c1 to.length to) := by
  have HT := Lib.hid ht
  have HO := Lib.hid ho
  obtain ⟨n, hn⟩ : ∃ n, to.length = n := ⟨_, rfl⟩
  have hnl : n ≤ 800 := hn ▸ ho.len
  rw [hn]
  have HN := Lib.hid hn
  have hmk := fun w => mk_rows w n (by omega)
  clear hn ht ho
  go_enter Try.func34, Try.ntmps34
  go_wp2_with fail
  have hX := (box_below W (.cells #[.slice A1 n1 c1, .slice A2 n c2] 48)).trans ((box_below (W.alloc (.cells #[.slice A1 n1 c1, .slice A2 n c2] 48)) (.cells #[.slice none 0 0, .slice none 0 0] 48)).mono (by simp))
  have x0 : ((W.alloc (.cells #[.slice A1 n1 c1, .slice A2 n c2] 48)).alloc (.cells #[.slice none 0 0, .slice none 0 0] 48)).cell? ⟨W.heap.size, 0, none⟩ = some (.slice A1 n1 c1) := by simp [go_sem]
  have x1 : ((W.alloc (.cells #[.slice A1 n1 c1, .slice A2 n c2] 48)).alloc (.cells #[.slice none 0 0, .slice none 0 0] 48)).cell? ⟨W.heap.size, 1, none⟩ = some (.slice A2 n c2) := by simp [go_sem]
  have r0 : ((W.alloc (.cells #[.slice A1 n1 c1, .slice A2 n c2] 48)).alloc (.cells #[.slice none 0 0, .slice none 0 0] 48)).heap[W.heap.size + 1]? = some (.cells #[.slice none 0 0, .slice none 0 0] 48) := by
    have := heap_new' (W.alloc (.cells #[.slice A1 n1 c1, .slice A2 n c2] 48)) (.cells #[.slice none 0 0, .slice none 0 0] 48)
    simpa using this
  have hxs : ((W.alloc (.cells #[.slice A1 n1 c1, .slice A2 n c2] 48)).alloc (.cells #[.slice none 0 0, .slice none 0 0] 48)).heap.size = W.heap.size + 2 := by simp
  generalize (W.alloc (.cells #[.slice A1 n1 c1, .slice A2 n c2] 48)).alloc (.cells #[.slice none 0 0, .slice none 0 0] 48) = X at *
  have HX := Lib.hid hX
  have HR0 := Lib.hid r0
  have HXs := Lib.hid hxs
  have hlt : W.heap.size < X.heap.size := by omega
  clear hX r0 hxs
  go_upto_region 1 with (fail)
  go_cut [3] from 4 (fun s3 wx => MadeS X n A1 n1 c1 s3 wx)
  case first =>
    go_region_law (first | fail)
    all_goals
      go_wp2_with fail
      go_meet
      case rel =>
        first
          | exact ⟨_, _, rfl, made_one X⟩
          | exact ⟨_, _, rfl, made_two X⟩
  case rest =>
    obtain ⟨b, g, rfl, hm⟩ := hcut
    have hge := hm.ge
    have hbl := hm.bel
    have hxz := HXs.out
    have y0 := (hbl.cell (p := ⟨W.heap.size, 0, none⟩) (by show W.heap.size < _; omega)).trans x0
    have y1 := (hbl.cell (p := ⟨W.heap.size, 1, none⟩) (by show W.heap.size < _; omega)).trans x1
    have hr1 := (hbl.block (W.heap.size + 1) (by omega)).trans HR0.out
    have hbs := (Array.getElem?_eq_some_iff.1 hm.box).1
    have hgs := (Array.getElem?_eq_some_iff.1 hm.row).1
    have HB := Lib.hid (HX.out.trans (hbl.mono HX.out.size))
    have HT1 := Lib.hid (HT.out.below HB.out)
    have HTw := Lib.hid (show Tw wc wc.heap.size g (List.replicate n []) (List.replicate (List.replicate n ([] : List Nat)).length (.slice none 0 0)) from
      Tw.start (by rw [hm.row, made_none, List.length_replicate]) hgs (fun i h => by simp))
    have HBk := Lib.hid (show Cy.Bk to 0 0 (List.replicate n []) from Cy.Bk.start (by rw [List.length_replicate, HN.out]) (fun i h => by simp))
    have HBox := Lib.hid hm.box
    have HR1 := Lib.hid hr1
    have HK := Lib.hid (show W.heap.size + 2 ≤ g ∧ W.heap.size + 2 ≤ b ∧ b ≠ g ∧ g < wc.heap.size ∧ b < wc.heap.size from ⟨by omega, by omega, by omega, hgs, hbs⟩)
    have HY1 := Lib.hid y1
    clear HX HXs HR0 hm hge hbl hxz hr1 hbs hgs x0 x1 y0 hlt HT1
    go_wp2_with fail
    go_loopw [18] (fun t wr => ∃ (k : Nat) (bt : Cy.Tos) (vs : List Value), k ≤ n ∧ t = .int .i64 k ∧ Tw wr wc.heap.size g bt vs ∧ Cy.Bk to k 0 bt ∧ OnlyS (· = g) wc wr) (fun t _ => n - (intOf t).toNat)
    case atStart => exact ⟨0, _, _, Nat.zero_le _, rfl, HTw.out, HBk.out, OnlyS.refl _ _⟩
    case round =>
      obtain ⟨k, bt, vs, hk, rfl, htw, hbk, hon⟩ := hrel
      clear HTw HBk
      have HTw := Lib.hid htw
      have HBk := Lib.hid hbk
      have HOn := Lib.hid hon
      clear htw hbk hon
      by_cases hkn : k < n
      · have hkt : k < to.length := by rw [HN.out]; exact hkn
        obtain ⟨a, Ak, ck, ha, z0, hls⟩ := HT.out.row hkt
        subst ha
        have hB : Below W.heap.size W wr := HB.out.trans (HOn.out.below (by intro j hj; have := HK.out; omega) (by have := HK.out; omega))
        have z1 := (hB.cell (p := a.add k) (cell_lt z0)).trans z0
        have HLs := Lib.hid hls
        obtain ⟨L, hL⟩ : ∃ L, Cy.nx to k = L := ⟨_, rfl⟩
        have HL := Lib.hid hL
        have hq4 : L.length ≤ 400 := by rw [← hL]; exact HO.out.deg k
        rw [hL] at z1 HLs
        obtain ⟨q, hq⟩ : ∃ q, L.length = q := ⟨_, rfl⟩
        have HQ := Lib.hid hq
        rw [hq] at z1 hq4
        clear hls z0 hq hB hkt hL
        go_wp2_with fail
        go_loopw [25] (fun t wi => ∃ (m : Nat) (bt : Cy.Tos) (vs : List Value), m ≤ q ∧ t = .int .i64 m ∧ Tw wi wc.heap.size g bt vs ∧ Cy.Bk to k m bt ∧ OnlyS (· = g) wc wi) (fun t _ => q - (intOf t).toNat)
        case atStart => exact ⟨0, _, _, Nat.zero_le _, rfl, HTw.out, HBk.out, HOn.out⟩
        case round =>
          obtain ⟨m, bt2, vs2, hm, rfl, htw, hbk, hon⟩ := hrel
          clear HTw HBk HOn
          have HTw := Lib.hid htw
          have HBk := Lib.hid hbk
          have HOn := Lib.hid hon
          clear htw hbk hon
          by_cases hmq : m < q
          · have hml : m < L.length := by rw [HQ.out]; exact hmq
            have hB : Below W.heap.size W wr := HB.out.trans (HOn.out.below (by intro j hj; have := HK.out; omega) (by have := HK.out; omega))
            obtain ⟨a2, ha2, z2⟩ := (HLs.out.below hB).here (i := m) (by rw [ints_length]; exact hml)
            subst ha2
            rw [ints_get] at z2
            obtain ⟨i, hi⟩ : ∃ i, L[m] = i := ⟨_, rfl⟩
            rw [hi] at z2
            have hin : i < n := by
              rw [← HN.out]
              refine HO.out.inn k i ?_
              rw [HL.out, ← hi]
              exact List.getElem_mem hml
            have hib : i < bt2.length := by rw [HBk.out.len, HN.out]; exact hin
            have HBk2 := Lib.hid (HBk.out.put (i := i) (by rw [HL.out]; exact hml) (by simp only [HL.out]; exact hi) hib)
            obtain ⟨A7, q7, c7, A8, c8, w8, v1, v2, hrun, v3, v4, v5, v6, v7⟩ := (HTw.out.drewN 1).put (i := i) HOn.out.size hib (by
              have h1 := HBk.out.most i
              rw [Cy.nx_get hib] at h1
              omega) k
            have HV6 := Lib.hid v6
            have HV7 := Lib.hid (show OnlyS (· = g) wc (w8.setCell ⟨g, i, none⟩ (.slice A8 (q7 + 1) c8)) from ((HOn.out.drewN 1).mono (T := fun k => k = g ∨ wc.heap.size ≤ k) (fun _ _ h => .inl h) |>.trans v7).mono fun k hk h => by
              rcases h with h | h
              · exact h
              · omega)
            have u1 : wc.cell? ⟨b, 1, none⟩ = some (.slice (some ⟨g, 0, none⟩) n n) := by unfold World.cell?; simp [HBox.out]
            have y2 := HOn.out.cell u1 (by have := HK.out; show ¬ b = g; omega)
            have y2' : (wr.drewN 1).cell? ⟨b, 1, none⟩ = some (.slice (some ⟨g, 0, none⟩) n n) := y2
            have y3 : w8.cell? ⟨b, 1, none⟩ = some (.slice (some ⟨g, 0, none⟩) n n) := v5.cell y2' (by have := HK.out; show ¬ wc.heap.size ≤ b; omega)
            have v1' : wr.cell? ⟨g, i, none⟩ = some (.slice A7 q7 c7) := v1
            have y4 : b < wr.heap.size := cell_lt y2
            have y5 : g < wr.heap.size := cell_lt v1'
            have HRun := Lib.hid hrun
            clear hml hB hi v1 v5 v6 v7 hrun u1 y2'
            go_wp2_with fail
            go_region_law (first
              | (refine step_append ?h1 (.tmp 36) (.tmp 38) 23 ?h2 (.slice A7 q7 c7) (.slice (some ⟨wr.heap.size, 0, none⟩) 1 1) ?h3 ?h4 _ _ HRun.out ?_; rotate_right; (case h1 => rfl); (case h2 => rfl); (case h3 => kernel_rfl); (case h4 => kernel_rfl)))
            all_goals
              go_wp2_with fail
              go_roundw
              case rel => exact ⟨m + 1, _, _, by omega, by go_num, HV6.out, HBk2.out, HV7.out⟩
              case measure => simp [intOf]; omega
          · obtain rfl : m = q := by omega
            have HBk2 := Lib.hid ((show Cy.Bk to k (Cy.nx to k).length bt2 by rw [HL.out, HQ.out]; exact HBk.out).next (HO.out.deg k))
            go_wp2_with fail
            go_roundw
            case rel => exact ⟨k + 1, bt2, vs2, by omega, by go_num, HTw.out, HBk2.out, HOn.out⟩
            case measure => simp [intOf]; omega
      · obtain rfl : k = n := by omega
        have hKs := HK.out
        have hTr := (show Cy.Bk to to.length 0 bt by rw [HN.out]; exact HBk.out).done
        have u0 : wc.cell? ⟨b, 0, none⟩ = some (.slice A1 n1 c1) := by unfold World.cell?; simp [HBox.out]
        have u1 : wc.cell? ⟨b, 1, none⟩ = some (.slice (some ⟨g, 0, none⟩) k k) := by unfold World.cell?; simp [HBox.out]
        have d0 := HOn.out.cell u0 (by show ¬ b = g; omega)
        have d1 := HOn.out.cell u1 (by show ¬ b = g; omega)
        have hr := (HOn.out.block (W.heap.size + 1) (Array.getElem?_eq_some_iff.1 HR1.out).1 (by omega)).trans HR1.out
        have s0 : wr.cell? ⟨W.heap.size + 1, 0, none⟩ = some (.slice none 0 0) := by unfold World.cell?; simp [hr]
        have s1 : wr.cell? ⟨W.heap.size + 1, 1, none⟩ = some (.slice none 0 0) := by unfold World.cell?; simp [hr]
        have t0 : wr.frozen? ⟨W.heap.size + 1, 0, none⟩ = false := by unfold World.frozen?; simp [hr]
        have t1 : wr.frozen? ⟨W.heap.size + 1, 1, none⟩ = false := by unfold World.frozen?; simp [hr]
        have hTw := HTw.out
        have hwc := HB.out.size
        have HFin := Lib.hid (fun (w : World) (ho : OnlyS (· = W.heap.size + 1) wr w) => show Turns W A1 n1 c1 k to (.returned (wayV A1 n1 c1 (some ⟨g, 0, none⟩) k k)) w by
          have hlen := hTr.len
          rw [HN.out] at hlen
          have h1 := (hTw.only ho (by omega) (by intro k hk; omega)).tl (by rw [hlen]; unfold maxLen; omega)
          have h2 := fun k (hk : k < W.heap.size) => (hTw.only ho (by omega) (by intro k hk; omega)).ta (g := k) (by rw [hlen]; unfold maxLen; omega) (by omega) (by omega)
          rw [hlen] at h1 h2
          refine ⟨g, bt, rfl, h1, h2, hTr, ?_⟩
          have h3 : Below W.heap.size W wr := HB.out.trans (OnlyS.below HOn.out (by intro k hk; omega) (by omega))
          exact h3.trans (ho.below (by intro k hk; omega) h3.size))
        clear hKs hTr u0 u1 hr hTw hwc HK HBox HR1 HTw HOn HBk
        go_wp2_with fail
        exact bodyPost_ret (results_ways rfl rfl (by simp [go_sem, s0]) (by simp [go_sem, s1])) rfl (HFin.out _ ((OnlyS.set _ _ _ _).trans (OnlyS.set _ _ _ _)))
end Go.Proofs.Ytggmnjnigmbooaa
