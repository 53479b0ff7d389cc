/- Who is on a ring; who is reached: the program's answers. -/
import Derived.Test.YtggmnjnigmbooaaHh
namespace Go.Proofs.Ytggmnjnigmbooaa
open Go Go.RowKit Go.Shelf
set_option maxRecDepth 100000

/-- numbers of one's own, rising, just those of which a condition holds, handed back -/
def Risn (p : Int → Prop) (W : World) (e : Ending) (w' : World) : Prop := ∃ v xs, e = .returned v ∧ Is.Row w' W.heap.size v xs ∧ Cy.Rises p xs ∧ Below W.heap.size W w'
/-- the numbers of places -/
def numsOf (nums : List Int) (on : List Nat) : List Int := on.map fun i => nums.getD i 0
theorem numsOf_succ {nums : List Int} {on : List Nat} {k : Nat} (h : k < on.length) : numsOf nums (on.take (k + 1)) = numsOf nums (on.take k) ++ [nums.getD on[k] 0] := by
  unfold numsOf
  rw [List.take_succ_eq_append_getElem h, List.map_append]
  rfl
theorem numsOf_len (nums : List Int) (on : List Nat) : (numsOf nums on).length = on.length := by simp [numsOf]
theorem pw_len {on : List Nat} {n : Nat} (hp : on.Pairwise (· < ·)) (hl : ∀ a ∈ on, a < n) : on.length ≤ n :=
  Cy.nodup_lt (hp.imp fun {a b} h => by omega) hl
set_option maxHeartbeats 8000000 in
theorem onC_any {W : World} {A : Option Addr} {c : Nat} {l : List Es.Ed} (hr : Es.Ls W A c l) (hl : l.length ≤ 400) : Calls Try.prog 16 #[.slice A l.length c] W (Risn (fun x => Cy.Pl (Cy.EI l) x x) W) := by
  have HW := Lib.hid (ways_any hr (by omega))
  have HL := Lib.hid hl
  obtain ⟨ln, hln⟩ : ∃ ln, l.length = ln := ⟨_, rfl⟩
  rw [hln] at HW ⊢
  clear hr hl hln
  go_enter Try.func16, Try.ntmps16
  go_wp2_with fail
  refine HW.out.mono ?_
  rintro e w1 ⟨A1, n1, c1, A2, n2, c2, nums, to, rfl, hn1, hn2, hls, htl, hwy, hb1⟩
  obtain rfl : n2 = n1 := by rw [hn1, hn2]; exact hwy.len
  have hx := box_below w1 (.cells #[.slice A1 n2 c1, .slice A2 n2 c2] 48)
  have HO := Lib.hid (hwy.okw HL.out)
  have HOn := Lib.hid (on_any (A1 := A1) (n1 := n2) (c1 := c1) (htl.below hx) HO.out hn2.symm)
  have HLs := Lib.hid (hls.below hx)
  have HWy := Lib.hid hwy
  have HB1 := Lib.hid (hb1.trans (hx.mono hb1.size))
  have HN := Lib.hid hn1
  have HN2 := Lib.hid hn2
  have HC := Lib.hid (show (w1.alloc (.cells #[.slice A1 n2 c1, .slice A2 n2 c2] 48)).cell? ⟨w1.heap.size, 0, none⟩ = some (.slice A1 n2 c1) ∧ w1.heap.size < (w1.alloc (.cells #[.slice A1 n2 c1, .slice A2 n2 c2] 48)).heap.size from ⟨by simp [go_sem], by simp⟩)
  have hnl : n2 ≤ 800 := by rw [hn2]; exact HO.out.len
  clear hls htl hwy hb1 hn1 hn2 hx HW
  go_wp2_with fail
  generalize w1.alloc (.cells #[.slice A1 n2 c1, .slice A2 n2 c2] 48) = w2 at *
  refine HOn.out.mono ?_
  rintro e w3 ⟨v3, on, rfl, hr3, hp3, hm3, hb3⟩
  obtain ⟨A3, c3, hv, hls3⟩ := hr3.ls
  rw [ints_length] at hv
  subst hv
  have z0 := (hb3.cell (p := ⟨w1.heap.size, 0, none⟩) HC.out.2).trans HC.out.1
  have hol := pw_len hp3 fun a ha => ((hm3 a).1 ha).1
  have HM := Lib.hid hm3
  have HP := Lib.hid hp3
  have HL3 := Lib.hid hls3
  have HLn := Lib.hid (HLs.out.below hb3)
  have HB3 := Lib.hid (HB1.out.trans (hb3.mono HB1.out.size))
  have HZ := Lib.hid (And.intro z0 (cell_lt z0))
  rw [← HN2.out] at hol
  obtain ⟨m, hm⟩ : ∃ m, on.length = m := ⟨_, rfl⟩
  have HMm := Lib.hid hm
  rw [hm] at hol ⊢
  clear hr3 hp3 hm3 hb3 hls3 HOn HLs hm z0
  go_wp2_with fail
  go_loopw [12, 4] (fun t v wr => ∃ k : Nat, k ≤ m ∧ t = .int .i64 k ∧ Is.Kp w3 (numsOf nums (on.take k)) v wr) (fun t _ _ => m - (intOf t).toNat)
  case atStart => exact ⟨0, Nat.zero_le _, rfl, Is.Kp.nil w3⟩
  case round =>
    obtain ⟨k, hk, rfl, hkp⟩ := hrel
    have HK := Lib.hid hkp
    obtain ⟨A4, c4, hv, -⟩ := hkp.row.ls
    have hq : (numsOf nums (on.take k)).length = k := by rw [numsOf_len, List.length_take, HMm.out]; omega
    have HQ := Lib.hid hq
    rw [hq] at hv
    subst hv
    clear hkp hq
    by_cases hkm : k < m
    · have hko : k < on.length := by rw [HMm.out]; exact hkm
      obtain ⟨ad, had, y0⟩ := (HL3.out.below HK.out.bel).here (i := k) (by rw [ints_length]; exact hko)
      subst had
      rw [ints_get] at y0
      obtain ⟨a, ha⟩ : ∃ a, on[k] = a := ⟨_, rfl⟩
      have hat := ((HM.out a).1 (ha ▸ List.getElem_mem hko)).1
      have hal : a < nums.length := by rw [← HWy.out.len]; exact hat
      obtain ⟨an, han, y1⟩ := (HLn.out.below HK.out.bel).here hal
      subst han
      have z1 := (HK.out.bel.cell (p := ⟨w1.heap.size, 0, none⟩) HZ.out.2).trans HZ.out.1
      have hE := numsOf_succ (nums := nums) hko
      rw [ha, HWy.out.num hal] at hE
      rw [ha] at y0
      obtain ⟨x, hx⟩ : ∃ x, nums[a] = x := ⟨_, rfl⟩
      rw [hx] at y1 hE
      have han2 : a < n2 := by rw [HN2.out]; exact hat
      obtain ⟨A', c', w6, hrun, hk6⟩ := (HK.out.below (box_below wr (.cells #[.int .i64 x] 3))).join (Is.box_ls wr x) (n := k) (m := 1) (q := k + 1) HQ.out rfl rfl (by omega) 23
      have HK6 := Lib.hid (show Is.Kp w3 (numsOf nums (on.take (k + 1))) (.slice A' (k + 1) c') w6 by rw [hE]; exact hk6)
      clear hko ha hat hal hE hx hk6
      go_wp2_with (at_builtin; refine Lib.wpList_append_run _ rfl _ _ _ _ rfl _ _ rfl rfl _ _ hrun ?_)
      go_roundw
      case rel => exact ⟨k + 1, by omega, by go_num, HK6.out⟩
      case measure => simp [intOf]; omega
    · obtain rfl : k = m := by omega
      have HF := Lib.hid (show Risn (fun x => Cy.Pl (Cy.EI l) x x) W (.returned (.slice A4 k c4)) wr by
        have h1 := HK.out.row
        rw [List.take_of_length_le (Nat.le_of_eq HMm.out)] at h1
        have hkl : (numsOf nums on).length = k := by rw [numsOf_len, HMm.out]
        refine ⟨_, numsOf nums on, rfl, row_base h1 HB3.out.size, ?_, HB3.out.trans (HK.out.bel.mono HB3.out.size)⟩
        refine Cy.rises_of HWy.out HP.out (fun i => ?_) fun x hx => (Cy.pl_node hx).1
        rw [HM.out i, HWy.out.len]
        exact and_congr_right fun hi => HWy.out.pl_iff hi hi)
      clear HK
      go_wp2_with fail
      go_ret
      exact HF.out
/-- with no marks ahead, what is reached bears one -/
theorem Cy.spr_zero {to : Cy.Tos} {s x : Nat} : Cy.Spr to (fun _ => 0) s x ↔ Cy.Pl (Cy.Ed to) s x := by
  constructor
  · intro h
    induction h with
    | one e _ => exact .one e
    | more _ e _ ih => exact ih.snoc e
  · rintro ⟨y, e, hr⟩
    have key : ∀ a b, Cy.Rc (Cy.Ed to) a b → Cy.Spr to (fun _ => 0) s a → Cy.Spr to (fun _ => 0) s b := by
      intro a b hab
      induction hab with
      | here => exact id
      | step e _ ih => exact fun h => ih (.more h e rfl)
    exact key y x hr (.one e rfl)
/-- the places that bear a mark, of the first k -/
def mkL (f : Nat → Int) (k : Nat) : List Nat := (List.range k).filter fun a => f a != 0
theorem mkL_yes {f : Nat → Int} {k : Nat} (h : f k ≠ 0) : mkL f (k + 1) = mkL f k ++ [k] := by
  unfold mkL
  rw [List.range_succ, List.filter_append]
  simp [h]
theorem mkL_no {f : Nat → Int} {k : Nat} (h : f k = 0) : mkL f (k + 1) = mkL f k := by
  unfold mkL
  rw [List.range_succ, List.filter_append]
  simp [h]
theorem mkL_len (f : Nat → Int) (k : Nat) : (mkL f k).length ≤ k := by
  refine Nat.le_trans (List.length_filter_le _ _) ?_
  simp
end Go.Proofs.Ytggmnjnigmbooaa
