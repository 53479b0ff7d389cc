/- Who is nearest, by the library; the ring that is told: the program's answer. -/
import Derived.Test.YtgefponjlliaaaaHj
import Derived.Test.YtgefponjlliaaaaPF
namespace Go.Proofs.Ytgefponjlliaaaa
open Go Go.RowKit Go.Shelf
set_option maxRecDepth 100000

/-- how two numbers compare -/
def cmpI (x y : Int) : Int := if x < y then -1 else if x > y then 1 else 0
theorem cmpI_neg {x y : Int} : cmpI x y < 0 ↔ x < y := by
  unfold cmpI
  split
  · simp; assumption
  · split <;> simp <;> omega
theorem compI_any (x y : Int) (W : World) : Calls Try.prog 29 #[.int .i64 x, .int .i64 y] W fun e w' => e = .returned (.int .i64 (cmpI x y)) ∧ W = w' := by
  have HN := Lib.hid (fun x W => nan_any x W)
  by_cases h1 : x < y
  · have HV := Lib.hid (show cmpI x y = -1 by unfold cmpI; rw [if_pos h1])
    go_enter Try.func29, Try.ntmps29
    go_wp2_with (go_at_call 42; refine (HN.out _ _).mono ?_; rintro e w1 ⟨rfl, rfl⟩)
    go_ret
    exact ⟨by rw [HV.out]; rfl, rfl⟩
  · by_cases h2 : y < x
    · have HV := Lib.hid (show cmpI x y = 1 by unfold cmpI; rw [if_neg h1, if_pos h2])
      go_enter Try.func29, Try.ntmps29
      go_wp2_with (go_at_call 42; refine (HN.out _ _).mono ?_; rintro e w1 ⟨rfl, rfl⟩)
      go_ret
      exact ⟨by rw [HV.out]; rfl, rfl⟩
    · have HV := Lib.hid (show cmpI x y = 0 by unfold cmpI; rw [if_neg h1, if_neg h2])
      go_enter Try.func29, Try.ntmps29
      go_wp2_with (go_at_call 42; refine (HN.out _ _).mono ?_; rintro e w1 ⟨rfl, rfl⟩)
      go_ret
      exact ⟨by rw [HV.out]; rfl, rfl⟩
section
variable {W : World} {A : Option Addr} {b g n c : Nat} {f : Nat → Int} {L : List Nat}
theorem nearer_any (hb : W.cell? ⟨b, 0, none⟩ = some (.slice (some ⟨g, 0, none⟩) n n)) (hf : Arr W g n f) {x y : Nat} (hx : x < n) (hy : y < n) :
    Calls Try.prog 28 #[.int .i64 (x : Int), .int .i64 (y : Int), .pointer (some ⟨b, 0, none⟩)] W fun e w' => e = .returned (.int .i64 (cmpI (f x) (f y))) ∧ ∃ q, w' = W.drewN q := by
  have c0 := hf.at' x hx
  have c1 := hf.at' y hy
  have HC := Lib.hid (fun w => compI_any (f x) (f y) w)
  generalize f x = u at *
  generalize f y = v at *
  clear hf
  go_enter Try.func28, Try.ntmps28
  go_wp2
  go_quiet ((go_at_call 29; refine Calls.mono (HC.out _) ?_; rintro e w' ⟨rfl, rfl⟩; exact ⟨rfl, _, rfl⟩))
  go_wp2
  go_ret
  exact ⟨rfl, _, rfl⟩
end
/-- where the least value stands first -/
def Least (f : Nat → Int) (L : List Nat) (W : World) (e : Ending) (w' : World) : Prop :=
  ∃ k, ∃ h : k < L.length, e = .returned (.int .i64 (L[k] : Int)) ∧ (∀ j (hj : j < L.length), f L[k] ≤ f L[j]) ∧ (∀ j (hj : j < L.length), j < k → f L[k] < f L[j]) ∧ ∃ q, w' = W.drewN q
/-- of the first i -/
def Best (f : Nat → Int) (L : List Nat) (i k : Nat) : Prop := k < i ∧ ∃ h : k < L.length, (∀ j (hj : j < L.length), j < i → f L[k] ≤ f L[j]) ∧ (∀ j (hj : j < L.length), j < k → f L[k] < f L[j])
set_option maxHeartbeats 4000000 in
theorem min_any {W : World} {A : Option Addr} {b g n c : Nat} {f : Nat → Int} {L : List Nat} (hl : Is.Ls W A c (ints L)) (hL : L.length ≤ 1000) (h0 : 0 < L.length) (hi : ∀ y ∈ L, y < n) (hb : W.cell? ⟨b, 0, none⟩ = some (.slice (some ⟨g, 0, none⟩) n n)) (hf : Arr W g n f) :
    Calls Try.prog 30 #[.slice A L.length c, .func (.func 28) #[] #[.pointer (some ⟨b, 0, none⟩)]] W (Least f L W) := by
  have HL := Lib.hid hl
  have HC := Lib.hid (fun (q x y : Nat) (hx : x < n) (hy : y < n) => nearer_any (W := W.drewN q) hb ⟨hf.at', hf.fz, hf.lt⟩ hx hy)
  have HI := Lib.hid hi
  obtain ⟨m, hm⟩ : ∃ m, L.length = m := ⟨_, rfl⟩
  have HM := Lib.hid hm
  obtain ⟨ad, had, z0⟩ := hl.here (i := 0) (by rw [ints_length]; exact h0)
  subst had
  rw [ints_get] at z0
  have HB := Lib.hid (show Best f L 1 0 from by
    refine ⟨by omega, h0, fun j hj hj1 => ?_, fun j hj hj1 => by omega⟩
    obtain rfl : j = 0 := by omega
    exact Int.le_refl _)
  obtain ⟨y0, hy0⟩ : ∃ y, L[0] = y := ⟨_, rfl⟩
  have HY0 := Lib.hid (show ∃ h : 0 < L.length, L[0] = y0 from ⟨h0, hy0⟩)
  rw [hy0] at z0
  have z0' : W.cell? ad = some (.int .i64 (y0 : Int)) := by simpa [Addr.add] using z0
  rw [hm] at hL ⊢
  have h1 : ¬ (m : Int) < 1 := by omega
  have h2 : decide ((m : Int) < 1) = false := by simpa using h1
  have h3 : 0 < m := by omega
  clear hl hb hf hi hm h0 hy0
  go_enter Try.func30, Try.ntmps30
  go_wp2_with fail
  go_loopw [5, 6] (fun u t wr => ∃ (i k y : Nat), i ≤ m ∧ t = .int .i64 i ∧ u = .int .i64 y ∧ Best f L i k ∧ (∃ h : k < L.length, L[k] = y) ∧ ∃ q, wr = W.drewN q) (fun _ t _ => m - (intOf t).toNat)
  case atStart => exact ⟨1, 0, y0, by omega, rfl, rfl, HB.out, HY0.out, 0, rfl⟩
  case round =>
    obtain ⟨i, k, y, him, rfl, rfl, hbest, hyk, q, rfl⟩ := hrel
    have HBe := Lib.hid hbest
    have HYk := Lib.hid hyk
    clear hbest hyk z0 z0'
    by_cases hlt : i < m
    · have hil : i < L.length := by rw [HM.out]; exact hlt
      obtain ⟨a2, ha2, z1⟩ := HL.out.here (i := i) (by rw [ints_length]; exact hil)
      cases ha2
      rw [ints_get] at z1
      obtain ⟨x, hx⟩ : ∃ x, L[i] = x := ⟨_, rfl⟩
      rw [hx] at z1
      have hyn : y < n := by obtain ⟨h1, h2⟩ := HYk.out; exact HI.out y (h2 ▸ List.getElem_mem h1)
      have HCx := Lib.hid (HC.out q x y (HI.out x (hx ▸ List.getElem_mem hil)) hyn)
      have HX := Lib.hid (show ∃ h : i < L.length, L[i] = x from ⟨hil, hx⟩)
      clear hil hx
      go_wp2_with fail
      refine HCx.out.mono ?_
      rintro e w2 ⟨rfl, q2, rfl⟩
      by_cases hlt2 : f x < f y
      · have hc := cmpI_neg.2 hlt2
        have hc' : decide (cmpI (f x) (f y) < 0) = true := by simpa using hc
        have HB2 := Lib.hid (show Best f L (i + 1) i from by
          obtain ⟨h1, hk, h3, h4⟩ := HBe.out
          obtain ⟨hk', e1⟩ := HYk.out
          obtain ⟨hi', e2⟩ := HX.out
          rw [e1] at h3 h4
          refine ⟨by omega, hi', fun j hj hj1 => ?_, fun j hj hj1 => ?_⟩
          · rw [e2]
            rcases Nat.lt_or_ge j i with q | q
            · have := h3 j hj q; omega
            · obtain rfl : j = i := by omega
              rw [e2]; exact Int.le_refl _
          · rw [e2]
            have := h3 j hj hj1
            omega)
        generalize cmpI (f x) (f y) = r at hc hc' ⊢
        clear hlt2
        go_wp2_with fail
        go_roundw
        case rel => exact ⟨i + 1, i, x, by omega, by go_num, rfl, HB2.out, HX.out, q + q2, rfl⟩
        case measure => simp [intOf]; omega
      · have hc : ¬ cmpI (f x) (f y) < 0 := fun h => hlt2 (cmpI_neg.1 h)
        have hc' : decide (cmpI (f x) (f y) < 0) = false := by simpa using hc
        have HB2 := Lib.hid (show Best f L (i + 1) k from by
          obtain ⟨h1, hk, h3, h4⟩ := HBe.out
          obtain ⟨hk', e1⟩ := HYk.out
          obtain ⟨hi', e2⟩ := HX.out
          refine ⟨by omega, hk, fun j hj hj1 => ?_, h4⟩
          rcases Nat.lt_or_ge j i with q | q
          · exact h3 j hj q
          · obtain rfl : j = i := by omega
            rw [e1, e2]; omega)
        generalize cmpI (f x) (f y) = r at hc hc' ⊢
        clear hlt2
        go_wp2_with fail
        go_roundw
        case rel => exact ⟨i + 1, k, y, by omega, by go_num, rfl, HB2.out, HYk.out, q + q2, rfl⟩
        case measure => simp [intOf]; omega
    · obtain rfl : i = m := by omega
      have HF := Lib.hid (show Least f L W (.returned (.int .i64 (y : Int))) (W.drewN q) from by
        obtain ⟨h1, hk, h3, h4⟩ := HBe.out
        obtain ⟨hk', e1⟩ := HYk.out
        exact ⟨k, hk, by rw [e1], fun j hj => h3 j hj (by rw [← HM.out]; exact hj), h4, q, rfl⟩)
      clear HBe HYk
      go_wp2_with fail
      go_ret
      exact HF.out
/-- .. the ways turned, the distance back -/
theorem Cy.Turned.ds {to bt : Cy.Tos} (h : Cy.Turned to bt) {s x n : Nat} : Cy.Ds (Cy.Ed bt) s x n ↔ Cy.Ds (Cy.Ed to) x s n := by
  have h1 : ∀ {m a b}, Cy.Wk (Cy.Ed bt) m a b → Cy.Wk (Cy.Ed to) m b a := fun {m a b} hw => by
    induction hw with
    | nil => exact .nil _
    | cons e _ ih => exact ih.snoc ((h.2 _ _).1 e)
  have h2 : ∀ {m a b}, Cy.Wk (Cy.Ed to) m a b → Cy.Wk (Cy.Ed bt) m b a := fun {m a b} hw => by
    induction hw with
    | nil => exact .nil _
    | cons e _ ih => exact ih.snoc ((h.2 _ _).2 e)
  exact ⟨fun d => ⟨h1 d.wk, fun m hm => d.le m (h2 hm)⟩, fun d => ⟨h2 d.wk, fun m hm => d.le m (h1 hm)⟩⟩
/-- one step of the ring: to the first one of those to whom an edge goes from which it is least far back -/
theorem Cy.ring_step {l : List Es.Ed} {nums : List Int} {to bt : Cy.Tos} {f : Nat → Nat} {st a m k : Nat} {s : Int} {r : List Int} (hw : Cy.Wy l nums to) (ht : Cy.Turned to bt) (hf : Cy.Far bt st f) (hst : st < nums.length) (hs : nums.getD st 0 = s) (ha : a < nums.length)
    (hg : Cy.Gr l s m (nums.getD a 0) r) (hk : k < (Cy.nx to a).length) (h1 : ∀ j (hj : j < (Cy.nx to a).length), f (Cy.nx to a)[k] ≤ f (Cy.nx to a)[j]) (h2 : ∀ j (hj : j < (Cy.nx to a).length), j < k → f (Cy.nx to a)[k] < f (Cy.nx to a)[j]) :
    (m = 0 ∧ r = [nums.getD a 0] ∧ (Cy.nx to a)[k] = st) ∨ ∃ m' r', m = m' + 1 ∧ r = nums.getD a 0 :: r' ∧ Cy.Gr l s m' (nums.getD (Cy.nx to a)[k] 0) r' ∧ (Cy.nx to a)[k] ≠ st := by
  have hmem : (Cy.nx to a)[k] ∈ Cy.nx to a := List.getElem_mem hk
  have hE : Cy.Ed to a (Cy.nx to a)[k] := hmem
  have hxl := hw.lt hE
  -- what is known of distances
  have hds : ∀ x, f x < bt.length → Cy.Ds (Cy.Ed to) x st (f x) := fun x hx => ht.ds.1 (hf.yes x hx)
  have hlt : ∀ {x n}, x < nums.length → Cy.Ds (Cy.EI l) (nums.getD x 0) s n → f x = n ∧ f x < bt.length := fun {x n} hx d => by
    have d' : Cy.Ds (Cy.Ed to) x st n := (hw.ds_iff hx hst).2 (by rw [hs]; exact d)
    have d2 := ht.ds.2 d'
    have h3 := hf.no x d2.wk.rc
    exact ⟨(hf.yes x h3).uniq d2, h3⟩
  cases hg with
  | one e =>
    left
    obtain ⟨j, hj, ej⟩ := hw.ei ha (by rw [← hw.num ha]; exact e)
    have hjst : j = st := hw.inj (hw.lt hj) hst (by rw [ej, hs])
    subst hjst
    have h0 : f j = 0 := (hlt hst (by rw [hs]; exact Cy.Ds.self _ _)).1
    obtain ⟨i, hi, ei⟩ := List.getElem_of_mem (show j ∈ Cy.nx to a from hj)
    have h3 := h1 i hi
    rw [ei, h0] at h3
    have h4 : f (Cy.nx to a)[k] = 0 := by omega
    have h5 := hds (Cy.nx to a)[k] (by rw [h4, ht.1, hw.len]; omega)
    rw [h4] at h5
    exact ⟨rfl, rfl, h5.zero⟩
  | @more m' x y r' e hd hmin hle hr =>
    right
    obtain ⟨j, hj, ej⟩ := hw.ei ha (by rw [← hw.num ha]; exact e)
    have hjl := hw.lt hj
    obtain ⟨h3, h4⟩ := hlt hjl (by rw [ej]; exact hd)
    obtain ⟨i, hi, ei⟩ := List.getElem_of_mem (show j ∈ Cy.nx to a from hj)
    have h5 := h1 i hi
    rw [ei, h3] at h5
    have h6 := hds (Cy.nx to a)[k] (by omega)
    have h7 : Cy.Wk (Cy.EI l) (f (Cy.nx to a)[k]) (nums.getD (Cy.nx to a)[k] 0) s := by
      have := hw.wk h6.wk
      rwa [hs] at this
    have h8 := hmin _ _ (hw.ed hE) h7
    have h9 : f (Cy.nx to a)[k] = m' + 1 := by omega
    rw [h9] at h7
    have h10 := hle _ (hw.ed hE) h7
    have hki : k ≤ i := by
      rcases Nat.lt_or_ge i k with q | q
      · have := h2 i hi q
        rw [ei] at this
        omega
      · exact q
    have hasc : nums.getD (Cy.nx to a)[k] 0 ≤ nums.getD j 0 := by
      rcases Nat.eq_or_lt_of_le hki with q | q
      · subst q; rw [ei]; exact Int.le_refl _
      · have hrow := hw.rows a ha
        have hlen : ((Cy.nx to a).map fun j => nums.getD j 0).length = (Cy.nx to a).length := by simp
        have hA : Od.Asc Is.ltI ((Cy.nx to a).map fun j => nums.getD j 0) := by rw [hrow]; exact Cy.fromC_asc _ _
        have := Cy.asc_lt hA (i := k) (j := i) (by rw [hlen]; exact hk) (by rw [hlen]; exact hi) q
        simp only [List.getElem_map, ei] at this
        omega
    rw [ej] at hasc
    have hey : nums.getD (Cy.nx to a)[k] 0 = y := Int.le_antisymm hasc h10
    refine ⟨m', r', rfl, rfl, by rw [hey]; exact hr, fun e => ?_⟩
    have h11 := (hlt hst (by rw [hs]; exact Cy.Ds.self _ _)).1
    rw [e] at h9
    omega
/-- the ring on its way, in memory -/
structure Rg (W6 : World) (l : List Es.Ed) (nums : List Int) (s : Int) (full : List Int) (n N : Nat) (pre r : List Int) (a : Nat) (v : Value) (w : World) : Prop where
  kp : Is.Kp W6 pre v w
  lt : a < n
  gr : ∃ m, N = m + 1 ∧ Cy.Gr l s m (nums.getD a 0) r
  is : pre ++ r = full
def Rj (W6 : World) (l : List Es.Ed) (nums : List Int) (s : Int) (full : List Int) (n : Nat) (V0 V4 : Value) (b3 st b6 : Nat) (N : Nat) (a' : Act) (w' : World) : Prop :=
  ∃ (pre r : List Int) (at9 : Nat) (v : Value) (u1 u10 u11 u12 u13 u14 u15 u16 u17 u18 u19 u20 u21 u22 u23 u24 u25 u26 u27 u28 u29 u30 u31 u32 u33 u34 u35 u36 u37 u38 u39 u40 u41 u42 u43 u44 : Value), a' = { tmps := #[V0, u1, .slice none 0 0, .pointer (some ⟨b3, 0, none⟩), V4, .int .i64 st, .pointer (some ⟨b6, 0, none⟩), .func (.func 28) #[] #[.pointer (some ⟨b6, 0, none⟩)], v, .int .i64 at9, u10, u11, u12, u13, u14, u15, u16, u17, u18, u19, u20, u21, u22, u23, u24, u25, u26, u27, u28, u29, u30, u31, u32, u33, u34, u35, u36, u37, u38, u39, u40, u41, u42, u43, u44], defers := [] } ∧ Rg W6 l nums s full n N pre r at9 v w'
theorem Rj.mk' {W6 : World} {l : List Es.Ed} {nums : List Int} {s : Int} {full : List Int} {n : Nat} {V0 V4 : Value} {b3 st b6 : Nat} {pre r : List Int} {at9 : Nat} {v : Value} {u1 u10 u11 u12 u13 u14 u15 u16 u17 u18 u19 u20 u21 u22 u23 u24 u25 u26 u27 u28 u29 u30 u31 u32 u33 u34 u35 u36 u37 u38 u39 u40 u41 u42 u43 u44 : Value} {N : Nat} {w' : World} (h : Rg W6 l nums s full n N pre r at9 v w') :
    Rj W6 l nums s full n V0 V4 b3 st b6 N { tmps := #[V0, u1, .slice none 0 0, .pointer (some ⟨b3, 0, none⟩), V4, .int .i64 st, .pointer (some ⟨b6, 0, none⟩), .func (.func 28) #[] #[.pointer (some ⟨b6, 0, none⟩)], v, .int .i64 at9, u10, u11, u12, u13, u14, u15, u16, u17, u18, u19, u20, u21, u22, u23, u24, u25, u26, u27, u28, u29, u30, u31, u32, u33, u34, u35, u36, u37, u38, u39, u40, u41, u42, u43, u44], defers := [] } w' := ⟨pre, r, at9, v, u1, u10, u11, u12, u13, u14, u15, u16, u17, u18, u19, u20, u21, u22, u23, u24, u25, u26, u27, u28, u29, u30, u31, u32, u33, u34, u35, u36, u37, u38, u39, u40, u41, u42, u43, u44, rfl, h⟩
/-- the ring, handed back -/
def Rings (l : List Es.Ed) (W : World) (e : Ending) (w' : World) : Prop := ∃ v r, e = .returned v ∧ Is.Row w' W.heap.size v r ∧ Cy.Ringed l r ∧ Below W.heap.size W w'
theorem Cy.Ringed.len {l : List Es.Ed} {r : List Int} (h : Cy.Ringed l r) : r.length ≤ (Cy.nodesC l).length := by
  cases h with
  | none _ => simp
  | some _ _ hg => exact Cy.nodup_le hg.nodup fun x hx => (Cy.pl_node (hg.on x hx)).1
/-- what the ring is told from: ways, distances back, where the ring begins -/
structure Fw (W6 : World) (l : List Es.Ed) (nums : List Int) (to bt : Cy.Tos) (f : Nat → Nat) (s : Int) (full : List Int) (n b3 st b6 : Nat) : Prop where
  mem : ∃ A1 c1 A2 c2 gf, W6.cell? ⟨b3, 0, none⟩ = some (.slice A1 n c1) ∧ W6.cell? ⟨b3, 1, none⟩ = some (.slice A2 n c2) ∧ Is.Ls W6 A1 c1 nums ∧ Tl W6 A2 c2 to ∧ W6.cell? ⟨b6, 0, none⟩ = some (.slice (some ⟨gf, 0, none⟩) n n) ∧ Arr W6 gf n fun i => (f i : Int)
  n1 : n = nums.length
  n2 : n = to.length
  wy : Cy.Wy l nums to
  ok : Okw to
  tr : Cy.Turned to bt
  far : Cy.Far bt st f
  stl : st < nums.length
  is : nums.getD st 0 = s
  rg : Cy.Ringed l full
set_option maxHeartbeats 8000000 in
theorem find_any {W : World} {A : Option Addr} {c : Nat} {l : List Es.Ed} (hr : Es.Ls W A c l) (hl : l.length ≤ 400) : Calls Try.prog 12 #[.slice A l.length c] W (Rings l W) := by
  have HW := Lib.hid (ways_any hr (by omega))
  have HL := Lib.hid hl
  obtain ⟨ln, hln⟩ : ∃ ln, l.length = ln := ⟨_, rfl⟩
  rw [hln] at HW ⊢
  clear hr hl hln
  go_enter Try.func12, Try.ntmps12
  go_wp2_with fail
  refine scope_ranked 0 (fun N a' w' => ∃ W6 nums to bt f s full n b3 st b6 V4, Fw W6 l nums to bt f s full n b3 st b6 ∧ Below W.heap.size W W6 ∧ Rj W6 l nums s full n (.slice A ln c) V4 b3 st b6 N a' w') rfl ?_ ?_
  · intro hpass
    have HQ := Lib.hid hpass
    clear hpass
    go_wp2_with fail
    refine HW.out.mono ?_
    rintro e w1 ⟨A1, n1, c1, A2, n2, c2, nums, to, rfl, hn1, hn2, hls, htl, hwy, hb1⟩
    obtain rfl : n2 = n1 := by rw [hn1, hn2]; exact hwy.len
    have hx := box_below w1 (.cells #[.slice A1 n2 c1, .slice A2 n2 c2] 37)
    have HO := Lib.hid (hwy.okw HL.out)
    have HOn := Lib.hid (on_any (A1 := A1) (n1 := n2) (c1 := c1) (htl.below hx) HO.out hn2.symm)
    have HLs := Lib.hid (hls.below hx)
    have HTl := Lib.hid (htl.below hx)
    have HWy := Lib.hid hwy
    have HB1 := Lib.hid (hb1.trans (hx.mono hb1.size))
    have HN := Lib.hid hn1
    have HN2 := Lib.hid hn2
    have HC := Lib.hid (show (w1.alloc (.cells #[.slice A1 n2 c1, .slice A2 n2 c2] 37)).cell? ⟨w1.heap.size, 0, none⟩ = some (.slice A1 n2 c1) ∧ (w1.alloc (.cells #[.slice A1 n2 c1, .slice A2 n2 c2] 37)).cell? ⟨w1.heap.size, 1, none⟩ = some (.slice A2 n2 c2) ∧ w1.heap.size < (w1.alloc (.cells #[.slice A1 n2 c1, .slice A2 n2 c2] 37)).heap.size from ⟨by simp [go_sem], by simp [go_sem], by simp⟩)
    have hnl : n2 ≤ 800 := by rw [hn2]; exact HO.out.len
    clear hls htl hwy hb1 hn1 hn2 hx HW
    go_wp2_with fail
    generalize w1.alloc (.cells #[.slice A1 n2 c1, .slice A2 n2 c2] 37) = w2 at *
    refine HOn.out.mono ?_
    rintro e w3 ⟨v3, on, rfl, hr3, hp3, hm3, hb3⟩
    obtain ⟨A3, c3, hv, hls3⟩ := hr3.ls
    rw [ints_length] at hv
    subst hv
    have z0 := (hb3.cell (p := ⟨w1.heap.size, 0, none⟩) HC.out.2.2).trans HC.out.1
    have z1 := (hb3.cell (p := ⟨w1.heap.size, 1, none⟩) HC.out.2.2).trans HC.out.2.1
    have HB3 := Lib.hid (HB1.out.trans (hb3.mono HB1.out.size))
    have HM := Lib.hid hm3
    have HP := Lib.hid hp3
    cases on with
    | nil =>
      have HF := Lib.hid (show Rings l W (.returned (.slice none 0 0)) w3 from ⟨_, [], rfl, World.ownsRow_nil _ _ _ _, .none fun x hx => by
        have hxn := (Cy.pl_node hx).1
        rw [← HWy.out.nums'] at hxn
        obtain ⟨i, hi, e⟩ := List.getElem_of_mem hxn
        have := (HM.out i).2 ⟨by rw [HWy.out.len]; exact hi, (HWy.out.pl_iff hi hi).2 (by rw [HWy.out.num hi, e]; exact hx)⟩
        simp at this, HB3.out⟩)
      simp only [List.length_nil]
      clear hr3 hls3 hp3 hm3 hb3 HM HP
      go_wp2_with fail
      simp only [Exit.jump]
      go_ret
      exact HF.out
    | cons st on =>
      obtain ⟨a3, ha3, y0⟩ := hls3.here (i := 0) (by rw [ints_length]; simp)
      subst ha3
      rw [ints_get] at y0
      simp only [List.getElem_cons_zero] at y0
      have y0' : w3.cell? a3 = some (.int .i64 (st : Int)) := by simpa [Addr.add] using y0
      have hst := (HM.out st).1 (by simp)
      have hstn : st < n2 := by rw [HN2.out]; exact hst.1
      have HSt := Lib.hid hst
      have HBk := Lib.hid (back_any (A1 := A1) (n1 := n2) (c1 := c1) (HTl.out.below hb3) HO.out)
      rw [← HN2.out] at HBk
      obtain ⟨p, hp⟩ : ∃ p, on.length = p := ⟨_, rfl⟩
      simp only [List.length_cons]
      rw [hp]
      have hp0 : ((p : Int) + 1 == 0) = false := by simp; omega
      have HLs3 := Lib.hid (HLs.out.below hb3)
      have HTl3 := Lib.hid (HTl.out.below hb3)
      have zlt := cell_lt z0
      simp only at zlt
      have HZ := Lib.hid (And.intro z0 (And.intro z1 zlt))
      clear hr3 hls3 hp3 hm3 hb3 hst hp y0 HLs HTl HOn
      go_wp2_with fail
      refine HBk.out.mono ?_
      rintro e w4 ⟨gb, bt, rfl, htb, -, htr, hb4⟩
      have HTr := Lib.hid htr
      have HFr := Lib.hid (far_any (A1 := A1) (n1 := n2) (c1 := c1) (s := st) htb (HO.out.back htr) (by rw [htr.len, ← HN2.out]) hstn)
      have HB4 := Lib.hid hb4
      clear htb htr hb4 HBk y0'
      go_wp2_with fail
      refine HFr.out.mono ?_
      rintro e w5 ⟨gf, f, rfl, har, hfar, hfm, hb5, -⟩
      have hbx := box_below w5 (.cells #[.slice (some ⟨gf, 0, none⟩) n2 n2] 24)
      have hb35 := HB4.out.trans ((hb5.trans (hbx.mono hb5.size)).mono HB4.out.size)
      have HB6 := Lib.hid (HB3.out.trans (hb35.mono HB3.out.size))
      obtain ⟨m, full, hgr⟩ := Cy.Gr.exists (l := l) (s := nums.getD st 0) (x := nums.getD st 0) ((HWy.out.pl_iff (by rw [← HWy.out.len]; exact HSt.out.1) (by rw [← HWy.out.len]; exact HSt.out.1)).1 HSt.out.2)
      have hstl : st < nums.length := by rw [← HWy.out.len]; exact HSt.out.1
      have HFw := Lib.hid (show Fw (w5.alloc (.cells #[.slice (some ⟨gf, 0, none⟩) n2 n2] 24)) l nums to bt f (nums.getD st 0) full n2 w1.heap.size st w5.heap.size from
        ⟨⟨A1, c1, A2, c2, gf, (hb35.cell (p := ⟨w1.heap.size, 0, none⟩) HZ.out.2.2).trans HZ.out.1, (hb35.cell (p := ⟨w1.heap.size, 1, none⟩) HZ.out.2.2).trans HZ.out.2.1, HLs3.out.below hb35, HTl3.out.below hb35, by simp [go_sem], har.below hbx⟩, HN.out, HN2.out, HWy.out, HO.out, HTr.out.turned, hfar, hstl, rfl,
          .some ((HWy.out.pl_iff hstl hstl).1 HSt.out.2) (fun x hx => by
            have hxn := (Cy.pl_node hx).1
            rw [← HWy.out.nums'] at hxn
            obtain ⟨i, hi, e⟩ := List.getElem_of_mem hxn
            have h1 := (HM.out i).2 ⟨by rw [HWy.out.len]; exact hi, (HWy.out.pl_iff hi hi).2 (by rw [HWy.out.num hi, e]; exact hx)⟩
            rcases List.mem_cons.1 h1 with h2 | h2
            · rw [← e, ← HWy.out.num hi, h2]; exact Int.le_refl _
            · have h3 := (List.pairwise_cons.1 HP.out).1 i h2
              have h4 := Cy.asc_lt HWy.out.asc hstl hi h3
              rw [HWy.out.num hstl, ← e]
              omega) hgr⟩)
      have HRg := Lib.hid (show Rg (w5.alloc (.cells #[.slice (some ⟨gf, 0, none⟩) n2 n2] 24)) l nums (nums.getD st 0) full n2 (m + 1) [] full st (.slice none 0 0) (w5.alloc (.cells #[.slice (some ⟨gf, 0, none⟩) n2 n2] 24)) from
        ⟨Is.Kp.nil _, hstn, ⟨m, rfl, hgr⟩, by simp⟩)
      clear har hfar hfm hb5 hbx hb35 hgr hstl HFr
      go_wp2
      rename_i hK
      refine wp_label ?_
      refine hK _ _ ?_
      exact HQ.out _ _ _ ⟨_, nums, to, bt, f, _, full, n2, _, st, _, _, HFw.out, HB6.out, Rj.mk' HRg.out⟩
  · rintro N a' wr ⟨W6, nums, to, bt, f, s, full, n, b3, st, b6, V4, hfw, hB6, pre, r, a, v, u1, u10, u11, u12, u13, u14, u15, u16, u17, u18, u19, u20, u21, u22, u23, u24, u25, u26, u27, u28, u29, u30, u31, u32, u33, u34, u35, u36, u37, u38, u39, u40, u41, u42, u43, u44, rfl, hg⟩
    have HFw := Lib.hid hfw
    have HRg := Lib.hid hg
    have HB6 := Lib.hid hB6
    obtain ⟨A1, c1, A2, c2, gf, x0, x1, hls, htl, x6, har⟩ := hfw.mem
    have hb := hg.kp.bel
    obtain ⟨A4, c4, hv, -⟩ := hg.kp.row.ls
    subst hv
    have han := hg.lt
    have hal : a < nums.length := by rw [← hfw.n1]; exact han
    have z0 := (hb.cell (p := ⟨b3, 0, none⟩) (cell_lt x0)).trans x0
    obtain ⟨an, ha1, y1⟩ := (hls.below hb).here hal
    subst ha1
    obtain ⟨x, hx⟩ : ∃ x, nums[a] = x := ⟨_, rfl⟩
    rw [hx] at y1
    have HX := Lib.hid (show nums.getD a 0 = x by rw [hfw.wy.num hal]; exact hx)
    have hnl : n ≤ 800 := by rw [hfw.n2]; exact hfw.ok.len
    have hfl := hfw.rg.len
    rw [← hfw.wy.nums', ← hfw.n1, ← hg.is, List.length_append] at hfl
    have hr0 : 0 < r.length := by obtain ⟨m, -, hgr⟩ := hg.gr; rw [hgr.length]; omega
    obtain ⟨q, hq⟩ : ∃ q, pre.length = q := ⟨_, rfl⟩
    have HQ := Lib.hid hq
    rw [hq] at hfl ⊢
    obtain ⟨A', c', w6, hrun, hk6⟩ := (hg.kp.below (box_below wr (.cells #[.int .i64 x] 3))).join (Is.box_ls wr x) (n := q) (m := 1) (q := q + 1) hq rfl rfl (by omega) 24
    rw [hq] at hrun
    have hb6 := hk6.bel
    have z1 := (hb6.cell (p := ⟨b3, 1, none⟩) (cell_lt x1)).trans x1
    have z6 := (hb6.cell (p := ⟨b6, 0, none⟩) (cell_lt x6)).trans x6
    obtain ⟨a2, A3, c3, ha2, y2, hls3⟩ := (htl.below hb6).row (i := a) (by rw [← hfw.n2]; exact han)
    subst ha2
    obtain ⟨L, hL⟩ : ∃ L, Cy.nx to a = L := ⟨_, rfl⟩
    have HLL := Lib.hid hL
    have hL4 : L.length ≤ 400 := by rw [← hL]; exact hfw.ok.deg a
    have hL0 : 0 < L.length := by
      rw [← hL]
      obtain ⟨m, -, hgr⟩ := hg.gr
      have he : ∃ y, Cy.EI l (nums.getD a 0) y := by
        cases hgr with
        | one e => exact ⟨_, e⟩
        | more e _ _ _ _ => exact ⟨_, e⟩
      obtain ⟨y, e⟩ := he
      rw [hfw.wy.num hal] at e
      obtain ⟨j, hj, -⟩ := hfw.wy.ei hal e
      exact List.length_pos_of_mem hj
    rw [hL] at y2 hls3
    have hlt9 : ∀ y ∈ L, y < n := fun y hy => by
      rw [hfw.n2]
      exact hfw.ok.inn a y (by rw [hL]; exact hy)
    have HMin := Lib.hid (min_any hls3 (by omega) hL0 hlt9 z6 (har.below hb6))
    have HK6 := Lib.hid hk6
    have HLt9 := Lib.hid hlt9
    obtain ⟨p, hp⟩ : ∃ p, L.length = p := ⟨_, rfl⟩
    rw [hp] at y2 HMin
    clear hfw hg hB6 x0 hls htl x6 har hb hal hx hfl hr0 hq hk6 hb6 hL hL4 hL0 hls3 hlt9 hp z6 x1
    go_wp2_with (at_builtin; refine Lib.wpList_append_run _ rfl _ _ _ _ rfl _ _ rfl rfl _ _ hrun ?_)
    refine HMin.out.mono ?_
    rintro e w7 ⟨k, hk, rfl, h1, h2, q7, rfl⟩
    have hk7 : Is.Kp W6 (pre ++ [x]) (.slice A' (q + 1) c') (w6.drewN q7) := HK6.out.below (drew_below _ _)
    have HK7 := Lib.hid hk7
    have hstep := Cy.ring_step (to := to) (a := a) (k := k) HFw.out.wy HFw.out.tr HFw.out.far HFw.out.stl HFw.out.is (by rw [← HFw.out.n1]; exact han) (HRg.out.gr.choose_spec.2) (by rw [HLL.out]; exact hk) (by
      intro j hj
      have := h1 j (by rw [← HLL.out]; exact hj)
      simp only [HLL.out]
      exact Int.ofNat_le.1 this) (by
      intro j hj hjk
      have := h2 j (by rw [← HLL.out]; exact hj) hjk
      simp only [HLL.out]
      exact Int.ofNat_lt.1 this)
    simp only [HLL.out] at hstep
    have hN := HRg.out.gr.choose_spec.1
    obtain ⟨y, hy⟩ : ∃ y, L[k] = y := ⟨_, rfl⟩
    have hyn := HLt9.out y (hy ▸ List.getElem_mem hk)
    rw [hy] at hstep ⊢
    rcases hstep with ⟨hm, hr, hyst⟩ | ⟨m', r', hm, hr, hgr, hne⟩
    · have HF := Lib.hid (show Rings l W (.returned (.slice A' (q + 1) c')) (w6.drewN q7) from ⟨_, full, rfl, by
        have h3 := HRg.out.is
        rw [hr, HX.out] at h3
        rw [← h3]
        exact row_base HK7.out.row HB6.out.size, HFw.out.rg, HB6.out.trans (HK7.out.bel.mono HB6.out.size)⟩)
      have hyb : ((y : Int) != (st : Int)) = false := by simp [hyst]
      clear h1 h2 hk7 hm hr hN hk hy hyst
      go_wp2_with fail
      simp only [Exit.jump]
      go_ret
      exact HF.out
    · have HRg2 := Lib.hid (show Rg W6 l nums s full n (N - 1) (pre ++ [x]) r' y (.slice A' (q + 1) c') (w6.drewN q7) from ⟨HK7.out, hyn, ⟨m', by omega, hgr⟩, by
        have h3 := HRg.out.is
        rw [hr, HX.out] at h3
        rw [← h3]
        simp⟩)
      have hyb : ((y : Int) != (st : Int)) = true := by simp; omega
      have hN1 : N - 1 < N := by omega
      clear h1 h2 hk7 hm hr hN hk hy hne hgr
      go_wp2_with fail
      refine wp_goto ?_
      exact ⟨rfl, N - 1, hN1, W6, nums, to, bt, f, s, full, n, b3, st, b6, V4, HFw.out, HB6.out, Rj.mk' HRg2.out⟩
end Go.Proofs.Ytgefponjlliaaaa
