/- The walk of the law that each that waits somewhere waits for somebody else, and who waits nowhere for nobody. -/
import Derived.Test.YtjhkejkdnjogiaaGreatDoorDn
import Derived.Test.YtjhkejkdnjogiaaGreatDoorAw
import Derived.Test.YtjhkejkdnjogiaaGreatDoorWv
namespace Go.Proofs.YtjhkejkdnjogiaaGreatDoor
open Go Go.RowKit Go.Shelf
set_option maxRecDepth 100000

section
variable {w W W' : World} {b t m c : Nat} {mr : Int} {C : Pa.Pt → Cx} {es : List Nd} {K : (Nat → Prop) → World → Prop}
theorem Rt.Rel.paths (R : Rt.Rel C es) : (es.map (·.p)).Pairwise (fun p q => Pa.lessB p q = true) ∧ ∀ p, p ∈ es.map (·.p) ↔ 0 < szC (C p) :=
  ⟨by rw [List.pairwise_map]; exact R.srt, fun p => by rw [R.mem, List.mem_map]⟩
theorem Du.all (h : Du w W b t m mr c C es K) (ht : TabG w) (hm : m ≤ 1000) (hc : c ≤ 300) (R : Rt.Rel C es) : Calls Tryz.prog 13 #[tp b] W (Es.Rows W (edgesP C (es.map (·.p)))) ∧ (edgesP C (es.map (·.p))).length ≤ 90000 := by
  obtain ⟨T, B0, u, r, K0, A, D, cc, h1, -⟩ := h.is
  obtain ⟨p1, p2⟩ := R.paths
  exact ⟨h1.all (ht.later h.bel) hm hc p1 p2, Nat.le_trans (Od.can_len _) (h1.flat hc R.nodup p2)⟩
theorem Du.inv (h : Du w W b t m mr c C es K) (p : Pa.Pt) : Inv (C p).1 (C p).2 := by
  obtain ⟨T, B0, u, r, K0, A, D, cc, h1, -⟩ := h.is
  exact h1.inv p
theorem Du.waits (h : Du w W b t m mr c C es K) (hm : m ≤ 1000) (hc : c ≤ 300) (R : Rt.Rel C es) (tx : Int) : Calls Tryz.prog 23 #[tp b, .int .i64 tx] W fun e w' => e = .returned (waitV (hitP (fun p => hitL tx (C p).2) (es.map (·.p)))) ∧ Below W.heap.size W w' := by
  obtain ⟨T, B0, u, r, K0, A, D, cc, h1, -⟩ := h.is
  obtain ⟨p1, p2⟩ := R.paths
  exact h1.waits hm hc p1 p2 tx
end
theorem waits_long (A : Option Addr) (n c : Nat) (tx : Int) (w : World) (ht : TabG w) (hm : n ≤ maxLen) (h : 60 < n) :
    Calls Tryz.prog 5 #[.slice A n c, .int .i64 tx] w fun e w' => e = .returned (.bool true) ∧ Below w.heap.size w w' := by
  unfold maxLen at hm
  have HA := Lib.hid (awake_any w ht)
  have q1 : (60 : Int) < (n : Int) := by omega
  have q1' : decide ((60 : Int) < (n : Int)) = true := by simp; omega
  clear ht h
  go_enter Tryz.func5, Tryz.ntmps5
  go_wp2_with fail
  refine HA.out.mono ?_
  rintro e w1 ⟨rfl, hb1⟩
  go_wp2_with fail
  go_ret
  exact ⟨rfl, hb1⟩
set_option maxHeartbeats 8000000 in
theorem waits_walk (A : Option Addr) (n c : Nat) (g : Nat → Dd) (tx : Int) (w : World) (ht : TabG w) (hm : n ≤ maxLen) (hi : InD w A n g) :
    Calls Tryz.prog 5 #[.slice A n c, .int .i64 tx] w fun e w' => e = .returned (.bool true) ∧ Below w.heap.size w w' := by
  by_cases h60 : 60 < n
  · exact waits_long A n c tx w ht hm h60
  have HA := Lib.hid (awake_any w ht)
  have HT := Lib.hid ht
  have D := Lib.hid hi
  have q1 : ¬ (60 : Int) < (n : Int) := by omega
  have q1' : decide ((60 : Int) < (n : Int)) = false := by simp; omega
  clear ht hi hm
  go_enter Tryz.func5, Tryz.ntmps5
  go_wp2_with fail
  refine HA.out.mono ?_
  rintro e w1 ⟨rfl, hb1⟩
  have HDn := Lib.hid (done_any 40 200 A n c g w w1 HT.out (by omega) D.out hb1)
  clear hb1 HA
  go_wp2_with fail
  refine HDn.out.mono ?_
  rintro e w2 ⟨b, t, C, es, rfl, hdu, hR⟩
  have HD := Lib.hid hdu
  have R := Lib.hid hR
  have HW := Lib.hid (hdu.waits (by decide) (by omega) hR tx)
  have hse := some_edge (C := C) (ps := es.map (·.p)) (fun p => hdu.inv p) (tx := tx)
  have HNs := Lib.hid (fun (x : Int) => not_self (C := C) (ps := es.map (·.p)) (fun p => hdu.inv p) (tx := tx) (x := x))
  obtain ⟨pw, xw, hwv⟩ := wait_some (hitP (fun p => hitL tx (C p).2) (es.map (·.p)))
  rw [hwv] at HW
  generalize (hitP (fun p => hitL tx (C p).2) (es.map (·.p))).isSome = bw at *
  have HSe := Lib.hid hse
  clear hdu hR hse hwv HDn
  go_wp2_with fail
  refine HW.out.mono ?_
  rintro e w3 ⟨rfl, hb3⟩
  have h3 := HD.out.below nil_stays hb3
  have hx1 := box_below w3 (.cells (pcs pw) 25)
  have hx2 := box_below (w3.alloc (.cells (pcs pw) 25)) (.cells #[.int .i64 xw.1, .int .i64 xw.2.1, .bool xw.2.2.1, .bool xw.2.2.2] 54)
  have h4 := h3.below nil_stays (hx1.trans (hx2.mono hx1.size))
  obtain ⟨ha, hal⟩ := h4.all HT.out (by decide) (by omega) R.out
  have HAll := Lib.hid ha
  have HAl := Lib.hid hal
  have HB4 := Lib.hid h4.bel
  generalize edgesP C (es.map (·.p)) = E at *
  obtain ⟨pa, pb, pc, pd, pe⟩ := pw
  obtain ⟨x1, x2, x3, x4⟩ := xw
  simp only at HAll HB4
  clear hb3 h3 hx1 hx2 h4 ha hal HW HD
  go_wp2_with fail
  refine HAll.out.mono ?_
  rintro e w5 ⟨v5, rfl, hrow, hb5⟩
  obtain ⟨A5, c5, rfl, hls5⟩ := hrow.ls
  have HF := Lib.hid (from_any hls5 (by have := HAl.out; omega) tx)
  have HB5 := Lib.hid (HB4.out.trans (hb5.mono HB4.out.size))
  obtain ⟨n5, hn5⟩ : ∃ k, E.length = k := ⟨_, rfl⟩
  rw [hn5] at HF ⊢
  clear hrow hls5 hb5 hn5 HAll HB4
  go_wp2_with fail
  refine HF.out.mono ?_
  rintro e w6 ⟨v6, rfl, hrow6, hb6⟩
  obtain ⟨A6, c6, rfl, hls6⟩ := hrow6.ls
  have HL6 := Lib.hid hls6
  have HB6 := Lib.hid (HB5.out.trans (hb6.mono HB5.out.size))
  obtain ⟨to, hto⟩ : ∃ to, Od.can Is.ltI (fromL tx E) = to := ⟨_, rfl⟩
  rw [hto] at HL6 HNs HSe ⊢
  have hkb : to.length ≤ 90000 := by
    rw [← hto]
    exact Nat.le_trans (Od.can_len _) (Nat.le_trans (fromL_len _ _) HAl.out)
  obtain ⟨k, hk⟩ : ∃ k, to.length = k := ⟨_, rfl⟩
  have HK := Lib.hid hk
  rw [hk] at HSe hkb ⊢
  have hcap := HL6.out.cap
  clear hrow6 hls6 hb6 hto hk HF HB5
  go_wp2_with fail
  go_loopw [36] (fun s wr => ∃ i : Nat, i ≤ k ∧ s = .int .i64 i ∧ wr = w6) (fun s _ => k - (intOf s).toNat)
  case atStart => exact ⟨0, Nat.zero_le _, rfl, rfl⟩
  case round =>
    obtain ⟨i, hik, rfl, rfl⟩ := hrel
    by_cases hlt : i < k
    · have hit : i < to.length := by rw [HK.out]; exact hlt
      obtain ⟨a, rfl, e0⟩ := HL6.out.here hit
      have hne := HNs.out to[i] (List.getElem_mem hit)
      obtain ⟨y, hy⟩ : ∃ y, to[i] = y := ⟨_, rfl⟩
      rw [hy] at e0 hne
      have hne' : (y == tx) = false := by simpa using hne
      clear hy hit hcap hne
      go_wp2_with fail
      go_roundw
      case rel => exact ⟨i + 1, by omega, by go_num, trivial⟩
      case measure => simp [intOf]; omega
    · obtain rfl : i = k := by omega
      have hv : (bw == decide (0 < i)) = true := by
        have := HSe.out
        cases bw
        · have h0 : ¬ 0 < i := fun h => by have := this.2 h; cases this
          simp [h0]
        · have h0 := this.1 rfl
          simp [h0]
      have HV := Lib.hid hv
      clear hv
      go_wp2_with fail
      go_ret
      exact ⟨congrArg (fun b => Ending.returned (Value.bool b)) HV.out, HB6.out⟩
end Go.Proofs.YtjhkejkdnjogiaaGreatDoor
