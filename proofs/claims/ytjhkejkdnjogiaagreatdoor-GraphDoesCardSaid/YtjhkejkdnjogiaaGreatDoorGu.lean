/- The document's table: who waits for whom at all its nodes; both tables, beside each other. -/
import Derived.Test.YtjhkejkdnjogiaaGreatDoorGt
import Derived.Test.YtjhkejkdnjogiaaGreatDoorGg
import Derived.Test.YtjhkejkdnjogiaaGreatDoorDn
namespace Go.Proofs.YtjhkejkdnjogiaaGreatDoor.Rt
open Go Go.RowKit Go.Shelf
set_option maxRecDepth 100000

/-- the edges at an entry -/
abbrev edE (e : Nd) : List Es.Ed := Es.ofL e.H e.L
theorem edE_len {es : List Nd} (h : totE es ≤ 300) (i : Nat) : ((es.take i).flatMap edE).length ≤ 90000 := by
  have h1 := flat_le (E := edE) (f := fun e => e.H.length + e.L.length) (ps := es.take i) fun e he => by
    have := totE_ge (List.mem_of_mem_take he)
    exact edgesC_len (e.H, e.L) (by simp only; omega)
  have h2 := totE_le (es := es) i
  unfold totE at h2 h
  have h3 : ((es.take i).map fun e => e.H.length + e.L.length).sum * 300 ≤ 300 * 300 := Nat.mul_le_mul_right _ (by omega)
  omega
theorem edE_succ {es : List Nd} {i : Nat} (hi : i < es.length) : (es.take (i + 1)).flatMap edE = (es.take i).flatMap edE ++ edE es[i] := by
  rw [List.take_succ_eq_append_getElem hi, List.flatMap_append]
  simp
section
variable {W W' : World} {t K m c : Nat} {mr : Int} {es : List Nd} {D : Nat → Prop} {A : Option Addr}
theorem Di.queueEdges (h : Di W t K m mr es D A c) (hs : totE es ≤ 300) (ho : ∀ e, e ∈ es → Once e.L) {i : Nat} (hi : i < es.length) (hb : Below W.heap.size W W') : Calls Tryz.prog 12 #[qp es[i].q] W' (Es.Rows W' (edE es[i])) := by
  have he := List.getElem_mem hi
  obtain ⟨A1, c1, A2, c2, h1, -⟩ := (h.below hb).ent _ he
  have := totE_ge he
  exact redges_any h1 (by omega) (by omega) (ho _ he)
set_option maxHeartbeats 4000000 in
theorem Di.edges (h : Di W t K m mr es D A c) (hn : es.length ≤ 300) (hs : totE es ≤ 300) (ho : ∀ e, e ∈ es → Once e.L) : Calls Tryz.prog 14 #[qp t] W (Es.Rows W (Od.can Es.lessE (es.flatMap edE))) := by
  have HD := Lib.hid h
  have HS := Lib.hid hs
  have HO := Lib.hid ho
  obtain ⟨n, hnn⟩ : ∃ n, es.length = n := ⟨_, rfl⟩
  have HN := Lib.hid hnn
  have e0 := h.e0 hnn
  have hlt := h.lt
  rw [hnn] at hn
  clear h hs ho hnn
  go_enter Tryz.func14, Tryz.ntmps14
  go_wp2_with fail
  clear e0
  go_loopw [11, 3] (fun s v wr => ∃ i : Nat, i ≤ n ∧ s = .int .i64 i ∧ Es.Kp W ((es.take i).flatMap edE) v wr) (fun s _ _ => n - (intOf s).toNat)
  case atStart => exact ⟨0, by omega, rfl, Es.Kp.nil W⟩
  case round =>
    obtain ⟨i, hi, rfl, hk⟩ := hrel
    obtain ⟨q, hq⟩ : ∃ q, ((es.take i).flatMap edE).length = q := ⟨_, rfl⟩
    have hq1 : q ≤ 90000 := by rw [← hq]; exact edE_len HS.out i
    have HQ := Lib.hid hq
    have K0 := Lib.hid hk
    obtain ⟨A0, c0', ev, -⟩ := hk.row.ls
    subst ev
    rw [hq] at K0 ⊢
    clear hq hk
    by_cases hin : i < n
    · have hil : i < es.length := by rw [HN.out]; exact hin
      obtain ⟨g, rfl, g0, -⟩ := (HD.out.below K0.out.bel).at hil
      have HC := Lib.hid (HD.out.queueEdges HS.out HO.out hil K0.out.bel)
      have HE := Lib.hid (edE_succ hil)
      obtain ⟨Z, hZ⟩ : ∃ Z, edE es[i] = Z := ⟨_, rfl⟩
      rw [hZ] at HC HE
      have HZ := Lib.hid (show Z.length ≤ 90000 by
        have h1 := edE_len HS.out (i + 1)
        rw [HE.out, List.length_append] at h1
        omega)
      generalize es[i].q = Q at *
      clear hZ hil
      go_wp2_with fail
      refine HC.out.mono ?_
      rintro e w5 ⟨v5, rfl, hrow5, hb5⟩
      obtain ⟨A5, c5, rfl, hls5⟩ := hrow5.ls
      obtain ⟨m5, hm5⟩ : ∃ k, Z.length = k := ⟨_, rfl⟩
      obtain ⟨A6, c6, w6, hrun, hk6⟩ := (K0.out.below hb5).join hls5 HQ.out hm5 rfl (by have := HZ.out; omega) 35
      have K6 := Lib.hid hk6
      rw [hm5] at ⊢
      clear hrow5 hb5 hls5 hm5 hk6 HC g0 K0
      go_wp2_with (at_builtin; refine Lib.wpList_append_run _ rfl _ _ _ _ rfl _ _ rfl rfl _ _ hrun ?_)
      go_roundw
      case rel => exact ⟨i + 1, by omega, by go_num, by rw [HE.out]; exact K6.out⟩
      case measure => simp [intOf]; omega
    · obtain rfl : i = n := by omega
      obtain ⟨A9, c9, hv, hls9⟩ := K0.out.row.ls
      rw [HQ.out] at hv
      cases hv
      have HF := Lib.hid (Es.rsort_any hls9 (by rw [HQ.out]; omega))
      rw [HQ.out] at HF
      have HE := Lib.hid (show (es.take i).flatMap edE = es.flatMap edE by rw [List.take_of_length_le (Nat.le_of_eq HN.out)])
      have HB := Lib.hid K0.out.bel
      clear hls9 K0
      go_wp2_with fail
      refine HF.out.mono ?_
      rintro e w7 ⟨v7, rfl, hrow7, hb7⟩
      rw [HE.out] at hrow7
      have HR := Lib.hid (show Es.Rows W (Od.can Es.lessE (es.flatMap edE)) (.returned v7) w7 from ⟨v7, rfl, row_base hrow7 HB.out.size, HB.out.trans (hb7.mono HB.out.size)⟩)
      clear hrow7 hb7
      go_wp2_with fail
      go_ret
      exact HR.out
end
theorem Rel.flat {C : Pa.Pt → Cx} {es : List Nd} (R : Rel C es) : edgesP C (es.map (·.p)) = Od.can Es.lessE (es.flatMap edE) := by
  unfold edgesP
  have : (es.map (·.p)).flatMap (fun p => edgesC (C p)) = es.flatMap edE := by
    rw [List.flatMap_def, List.flatMap_def, List.map_map]
    congr 1
    refine List.map_congr_left fun e he => ?_
    show edgesC (C e.p) = _
    rw [R.cy e he]
    rfl
  rw [this]
end Go.Proofs.YtjhkejkdnjogiaaGreatDoor.Rt
