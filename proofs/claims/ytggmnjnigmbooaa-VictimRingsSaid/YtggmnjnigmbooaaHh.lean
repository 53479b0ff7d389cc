/- The places that lead to themselves, in memory. -/
import Derived.Test.YtggmnjnigmbooaaHg
import Derived.Deep.QuietTactic
namespace Go.Proofs.Ytggmnjnigmbooaa
open Go Go.RowKit Go.Shelf
set_option maxRecDepth 100000

section
variable {W : World} {A : Option Addr} {b3 b5 g n a c : Nat} {P : Nat → Int} {L : List Nat}
theorem same_part (h3 : W.cell? ⟨b3, 0, none⟩ = some (.slice (some ⟨g, 0, none⟩) n n)) (h5 : W.cell? ⟨b5, 0, none⟩ = some (.int .i64 (a : Int))) (ha : Arr W g n P) (han : a < n) {t : Nat} (htn : t < n) :
    Calls Try.prog 27 #[.int .i64 (t : Int), .pointer (some ⟨b3, 0, none⟩), .pointer (some ⟨b5, 0, none⟩)] W fun e w' => e = .returned (.bool (P t == P a)) ∧ ∃ q, w' = W.drewN q := by
  have c0 := ha.at' t htn
  have c1 := ha.at' a han
  generalize P t = x at *
  generalize P a = y at *
  clear ha
  go_enter Try.func27, Try.ntmps27
  go_wp2
  go_quiet (fail)
  go_wp2
  go_ret
  exact ⟨rfl, _, rfl⟩
/-- where the first one stands that is of one part with a; -1 -/
def Idx (P : Nat → Int) (a : Nat) (L : List Nat) (W : World) (e : Ending) (w' : World) : Prop := ∃ r : Int, e = .returned (.int .i64 r) ∧ ((L.any fun b => P b == P a) = decide (0 ≤ r)) ∧ ∃ q, w' = W.drewN q
theorem index_any (hl : Is.Ls W A c (ints L)) (hL : L.length ≤ 1000) (hi : ∀ b ∈ L, b < n) (h3 : W.cell? ⟨b3, 0, none⟩ = some (.slice (some ⟨g, 0, none⟩) n n)) (h5 : W.cell? ⟨b5, 0, none⟩ = some (.int .i64 (a : Int))) (ha : Arr W g n P) (han : a < n) :
    Calls Try.prog 38 #[.slice A L.length c, .func (.func 27) #[] #[.pointer (some ⟨b3, 0, none⟩), .pointer (some ⟨b5, 0, none⟩)]] W (Idx P a L W) := by
  have HL := Lib.hid hl
  have HI := Lib.hid hi
  have HC := Lib.hid (fun (q t : Nat) (htn : t < n) => same_part (W := W.drewN q) h3 h5 ⟨ha.at', ha.fz, ha.lt⟩ han htn)
  obtain ⟨m, hm⟩ : ∃ m, L.length = m := ⟨_, rfl⟩
  have HM := Lib.hid hm
  rw [hm] at hL ⊢
  clear hl hi h3 h5 ha han hm
  go_enter Try.func38, Try.ntmps38
  go_wp2
  go_loopw [8] (fun t wr => ∃ k : Nat, k ≤ m ∧ t = .int .i64 k ∧ (∃ q, wr = W.drewN q) ∧ ((L.take k).any fun b => P b == P a) = false) (fun t _ => m - (intOf t).toNat)
  case atStart => exact ⟨0, by omega, rfl, ⟨0, rfl⟩, by simp⟩
  case round =>
    obtain ⟨k, hk, rfl, ⟨q, rfl⟩, hx⟩ := hrel
    have HX := Lib.hid hx
    clear hx
    by_cases hkm : k < m
    · have hkl : k < L.length := by rw [HM.out]; exact hkm
      obtain ⟨ad, had, z0⟩ := (HL.out.drewN q).here (i := k) (by rw [ints_length]; exact hkl)
      subst had
      rw [ints_get] at z0
      obtain ⟨b, hb⟩ : ∃ b, L[k] = b := ⟨_, rfl⟩
      rw [hb] at z0
      have HB := Lib.hid (show ∃ h : k < L.length, L[k] = b from ⟨hkl, hb⟩)
      have HCb := Lib.hid (HC.out q b (HI.out b (hb ▸ List.getElem_mem hkl)))
      clear hkl hb
      go_wp2_with fail
      refine HCb.out.mono ?_
      rintro e w2 ⟨rfl, q2, rfl⟩
      cases hp : (P b == P a) with
      | true =>
        have HF := Lib.hid (show Idx P a L W (.returned (.int .i64 (k : Int))) (W.drewN (q + q2)) from ⟨k, rfl, by
          obtain ⟨h1, h2⟩ := HB.out
          have : (L.any fun b => P b == P a) = true := List.any_eq_true.2 ⟨b, h2 ▸ List.getElem_mem h1, hp⟩
          rw [this]; simp, q + q2, rfl⟩)
        clear hp z0
        go_wp2_with fail
        go_ret
        exact HF.out
      | false =>
        have HE := Lib.hid (show ((L.take (k + 1)).any fun b => P b == P a) = false by
          obtain ⟨h1, h2⟩ := HB.out
          rw [List.take_succ_eq_append_getElem h1, List.any_append, HX.out, h2]
          simp [hp])
        clear hp z0
        go_wp2_with fail
        go_roundw
        case rel => exact ⟨k + 1, by omega, by go_num, ⟨q + q2, rfl⟩, HE.out⟩
        case measure => simp [intOf]; omega
    · obtain rfl : k = m := by omega
      have HF := Lib.hid (show Idx P a L W (.returned (.int .i64 (-1))) (W.drewN q) from ⟨-1, rfl, by
        have := HX.out
        rw [List.take_of_length_le (Nat.le_of_eq HM.out)] at this
        rw [this]; rfl, q, rfl⟩)
      go_wp2
      go_ret
      exact HF.out
theorem contains_any (hl : Is.Ls W A c (ints L)) (hL : L.length ≤ 1000) (hi : ∀ b ∈ L, b < n) (h3 : W.cell? ⟨b3, 0, none⟩ = some (.slice (some ⟨g, 0, none⟩) n n)) (h5 : W.cell? ⟨b5, 0, none⟩ = some (.int .i64 (a : Int))) (ha : Arr W g n P) (han : a < n) :
    Calls Try.prog 26 #[.slice A L.length c, .func (.func 27) #[] #[.pointer (some ⟨b3, 0, none⟩), .pointer (some ⟨b5, 0, none⟩)]] W fun e w' => e = .returned (.bool (L.any fun b => P b == P a)) ∧ Below W.heap.size W w' := by
  have HC := Lib.hid (index_any hl hL hi h3 h5 ha han)
  obtain ⟨m, hm⟩ : ∃ m, L.length = m := ⟨_, rfl⟩
  rw [hm] at HC ⊢
  clear hl hi h3 h5 ha han hm hL
  go_enter Try.func26, Try.ntmps26
  go_wp2_with fail
  refine HC.out.mono ?_
  rintro e w2 ⟨r, rfl, hr, q, rfl⟩
  have HB := Lib.hid (drew_below W q)
  have HR := Lib.hid hr
  by_cases hd : 0 ≤ r
  · have hd' : decide (0 ≤ r) = true := by simpa using hd
    rw [hd'] at HR
    clear hr
    go_wp2_with fail
    go_ret
    exact ⟨by rw [HR.out]; rfl, HB.out⟩
  · have hd' : decide (0 ≤ r) = false := by simpa using hd
    rw [hd'] at HR
    clear hr
    go_wp2_with fail
    go_ret
    exact ⟨by rw [HR.out]; rfl, HB.out⟩
end
/-- the places that lead to themselves, handed back -/
def Ons (to : Cy.Tos) (W : World) (e : Ending) (w' : World) : Prop := ∃ v on, e = .returned v ∧ Is.Row w' W.heap.size v (ints on) ∧ on.Pairwise (· < ·) ∧ (∀ a, a ∈ on ↔ a < to.length ∧ Cy.Pl (Cy.Ed to) a a) ∧ Below W.heap.size W w'
/-- of the first k places -/
def onL (to : Cy.Tos) (P : Nat → Int) (k : Nat) : List Nat := (List.range k).filter fun a => (Cy.nx to a).any fun b => P b == P a
theorem onL_yes {to : Cy.Tos} {P : Nat → Int} {k : Nat} (h : ((Cy.nx to k).any fun b => P b == P k) = true) : onL to P (k + 1) = onL to P k ++ [k] := by
  unfold onL
  rw [List.range_succ, List.filter_append]
  simp [h]
theorem onL_no {to : Cy.Tos} {P : Nat → Int} {k : Nat} (h : ((Cy.nx to k).any fun b => P b == P k) = false) : onL to P (k + 1) = onL to P k := by
  unfold onL
  rw [List.range_succ, List.filter_append]
  simp [h]
theorem onL_len (to : Cy.Tos) (P : Nat → Int) (k : Nat) : (onL to P k).length ≤ k := by
  refine Nat.le_trans (List.length_filter_le _ _) ?_
  simp
theorem onL_is {to : Cy.Tos} {P : Nat → Int} (hi : Cy.Inn to) (hp : Cy.Parts to P) : (onL to P to.length).Pairwise (· < ·) ∧ ∀ a, a ∈ onL to P to.length ↔ a < to.length ∧ Cy.Pl (Cy.Ed to) a a := by
  refine ⟨List.Pairwise.filter _ List.pairwise_lt_range, fun a => ?_⟩
  unfold onL
  rw [List.mem_filter, List.mem_range, ← hp.on hi]
  simp
set_option maxHeartbeats 8000000 in
theorem on_any {W : World} {A1 A2 : Option Addr} {n1 c1 c2 n : Nat} {to : Cy.Tos} (ht : Tl W A2 c2 to) (ho : Okw to) (hn : to.length = n) :
    Calls Try.prog 21 #[wayV A1 n1 c1 A2 n c2] W (Ons to W) := by
  have HT := Lib.hid ht
  have HO := Lib.hid ho
  have HN := Lib.hid hn
  have hnl : n ≤ 800 := hn ▸ ho.len
  have hX := box_below W (.cells #[.slice A1 n1 c1, .slice A2 n c2] 48)
  have HX := Lib.hid hX
  have HP := Lib.hid (parts_any (A1 := A1) (n1 := n1) (c1 := c1) (ht.below hX) ho hn)
  have HB1 := Lib.hid (show (W.alloc (.cells #[.slice A1 n1 c1, .slice A2 n c2] 48)).cell? ⟨W.heap.size, 1, none⟩ = some (.slice A2 n c2) ∧ W.heap.size < (W.alloc (.cells #[.slice A1 n1 c1, .slice A2 n c2] 48)).heap.size from ⟨by simp [go_sem], by simp⟩)
  clear ht ho hn hX
  go_enter Try.func21, Try.ntmps21
  go_wp2_with fail
  generalize W.alloc (.cells #[.slice A1 n1 c1, .slice A2 n c2] 48) = W1 at *
  refine HP.out.mono ?_
  rintro e w2 ⟨g, P, rfl, har, hpt, hb2, hg⟩
  have hb3 := hb2.trans ((box_below w2 (.cells #[.slice (some ⟨g, 0, none⟩) n n] 23)).mono hb2.size)
  have HAr := Lib.hid (har.below (box_below w2 (.cells #[.slice (some ⟨g, 0, none⟩) n n] 23)))
  have HPt := Lib.hid hpt
  have z1 := (hb3.cell (p := ⟨W.heap.size, 1, none⟩) HB1.out.2).trans HB1.out.1
  have HB3 := Lib.hid (HX.out.trans (hb3.mono HX.out.size))
  have HTb := Lib.hid (HT.out.below HB3.out)
  have q0 : (w2.alloc (.cells #[.slice (some ⟨g, 0, none⟩) n n] 23)).cell? ⟨w2.heap.size, 0, none⟩ = some (.slice (some ⟨g, 0, none⟩) n n) := by simp [go_sem]
  have HQ0 := Lib.hid q0
  have hlt : w2.heap.size < (w2.alloc (.cells #[.slice (some ⟨g, 0, none⟩) n n] 23)).heap.size := by simp
  have HLt := Lib.hid hlt
  clear har hpt hb2 hb3 hg HP hlt
  go_wp2_with fail
  generalize w2.alloc (.cells #[.slice (some ⟨g, 0, none⟩) n n] 23) = w3 at *
  go_wp2_with fail
  go_loopw [12, 4] (fun t v wr => ∃ k : Nat, k ≤ n ∧ t = .int .i64 k ∧ Is.Kp w3 (ints (onL to P k)) v wr) (fun t _ _ => n - (intOf t).toNat)
  case atStart => exact ⟨0, Nat.zero_le _, rfl, Is.Kp.nil w3⟩
  case round =>
    obtain ⟨k, hk, rfl, hkp⟩ := hrel
    have HK := Lib.hid hkp
    obtain ⟨A4, c4, hv, -⟩ := hkp.row.ls
    subst hv
    obtain ⟨q, hq⟩ : ∃ q, (ints (onL to P k)).length = q := ⟨_, rfl⟩
    have hqn : q ≤ n := by rw [← hq, ints_length]; exact Nat.le_trans (onL_len _ _ _) hk
    have HQ := Lib.hid hq
    rw [hq] at HK ⊢
    clear hkp hq q0
    by_cases hkn : k < n
    · obtain ⟨a, Ak, ck, ha, y0, hls⟩ := (HTb.out.below HK.out.bel).row (i := k) (by rw [HN.out]; exact hkn)
      subst ha
      have hbx := box_below wr (.cells #[.int .i64 (k : Int)] 3)
      have hb4 := HK.out.bel.trans (hbx.mono HK.out.bel.size)
      have h3 := (hb4.cell (p := ⟨w2.heap.size, 0, none⟩) HLt.out).trans HQ0.out
      have h5 : (wr.alloc (.cells #[.int .i64 (k : Int)] 3)).cell? ⟨wr.heap.size, 0, none⟩ = some (.int .i64 (k : Int)) := by simp [go_sem]
      have HC := Lib.hid (contains_any (hls.below hbx) (Nat.le_trans (HO.out.deg k) (by omega)) (fun b hb => by rw [← HN.out]; exact HO.out.inn k b hb) h3 h5 (HAr.out.below hb4) hkn)
      have HK4 := Lib.hid (HK.out.below hbx)
      have HOy := Lib.hid (fun h => onL_yes (to := to) (P := P) (k := k) h)
      have HOn := Lib.hid (fun h => onL_no (to := to) (P := P) (k := k) h)
      generalize ((Cy.nx to k).any fun b => P b == P k) = t at *
      obtain ⟨p, hp⟩ : ∃ p, (Cy.nx to k).length = p := ⟨_, rfl⟩
      rw [hp] at y0 HC
      clear hls hbx hb4 h3 hp
      have H5 := Lib.hid (And.intro h5 (show wr.heap.size < (wr.alloc (.cells #[.int .i64 (k : Int)] 3)).heap.size by simp))
      clear h5
      go_wp2_with fail
      refine HC.out.mono ?_
      rintro e w5 ⟨rfl, hb5⟩
      have h5 := (hb5.cell (p := ⟨wr.heap.size, 0, none⟩) H5.out.2).trans H5.out.1
      cases t with
      | true =>
        obtain ⟨A', c', w6, hrun, hk6⟩ := ((HK4.out.below hb5).below (box_below w5 (.cells #[.int .i64 (k : Int)] 3))).join (Is.box_ls w5 k) (n := q) (m := 1) (q := q + 1) HQ.out rfl rfl (by omega) 23
        have HK6 := Lib.hid (show Is.Kp w3 (ints (onL to P (k + 1))) (.slice A' (q + 1) c') w6 by
          rw [HOy.out rfl, ints_append]
          exact hk6)
        clear hk6 hb5 HK4 HC HOy HOn y0
        go_wp2_with (at_builtin; refine Lib.wpList_append_run _ rfl _ _ _ _ rfl _ _ rfl rfl _ _ hrun ?_)
        go_roundw
        case rel => exact ⟨k + 1, by omega, by go_num, HK6.out⟩
        case measure => simp [intOf]; omega
      | false =>
        have HK5 := Lib.hid (show Is.Kp w3 (ints (onL to P (k + 1))) (.slice A4 q c4) w5 by
          rw [HOn.out rfl]
          exact HK4.out.below hb5)
        clear hb5 HK4 HC HOy HOn y0
        go_wp2_with fail
        go_roundw
        case rel => exact ⟨k + 1, by omega, by go_num, HK5.out⟩
        case measure => simp [intOf]; omega
    · obtain rfl : k = n := by omega
      have HF := Lib.hid (show Ons to W (.returned (.slice A4 q c4)) wr by
        have h := onL_is HO.out.inn HPt.out
        rw [HN.out] at h
        refine ⟨_, onL to P k, rfl, row_base HK.out.row HB3.out.size, h.1, by rw [HN.out]; exact h.2, HB3.out.trans (HK.out.bel.mono HB3.out.size)⟩)
      clear HK
      go_wp2_with fail
      go_ret
      exact HF.out
end Go.Proofs.Ytggmnjnigmbooaa
