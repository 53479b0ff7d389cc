/- The document's table: Find, Used, its making. -/
import Derived.Test.YtjhkejkdnjogiaaGreatDoorEa
import Derived.Test.YtjhkejkdnjogiaaGreatDoorTg
import Derived.BigQuiet
namespace Go.Proofs.YtjhkejkdnjogiaaGreatDoor.Rt
open Go Go.RowKit Go.Shelf
set_option maxRecDepth 100000

/-- holds and waits in all -/
def totE (es : List Nd) : Nat := (es.map fun e => e.H.length + e.L.length).sum
theorem totE_app (a b : List Nd) : totE (a ++ b) = totE a + totE b := by simp [totE]
theorem totE_one (e : Nd) : totE [e] = e.H.length + e.L.length := by simp [totE]
theorem totE_take {es : List Nd} {i : Nat} (hi : i < es.length) : totE (es.take (i + 1)) = totE (es.take i) + (es[i].H.length + es[i].L.length) := by
  rw [List.take_succ_eq_append_getElem hi, totE_app, totE_one]
theorem totE_le {es : List Nd} (i : Nat) : totE (es.take i) ≤ totE es := by
  have := totE_app (es.take i) (es.drop i)
  rw [List.take_append_drop] at this
  omega
theorem totE_ge {es : List Nd} {e : Nd} (h : e ∈ es) : e.H.length + e.L.length ≤ totE es := by
  obtain ⟨i, hi, rfl⟩ := List.mem_iff_getElem.1 h
  have h1 := totE_take hi
  have h2 := totE_le (es := es) (i + 1)
  omega
/-- where a node stands -/
def Fd (es : List Nd) (p : Pa.Pt) (r : Int) : Prop := (∃ i : Nat, ∃ hi : i < es.length, r = i ∧ es[i].p = p ∧ ∀ (j : Nat) (hj : j < i), (es[j]'(by omega)).p ≠ p) ∨ (r = -1 ∧ ∀ e, e ∈ es → e.p ≠ p)
section
variable {W W' w : World} {t K m c : Nat} {mr : Int} {es es' : List Nd} {D D' T : Nat → Prop} {A : Option Addr} {e : Nd} {A1 A2 : Option Addr} {c1 c2 : Nat}
theorem Fd.hit {p : Pa.Pt} {r : Int} (h : Fd es p r) {j : Nat} (hj : j < es.length) (hp : es[j].p = p) (hno : ∀ (i : Nat) (hi : i < j), (es[i]'(by omega)).p ≠ p) : r = j := by
  rcases h with ⟨i, hi, rfl, h1, h2⟩ | ⟨-, h1⟩
  · rcases Nat.lt_trichotomy i j with q | q | q
    · exact absurd h1 (hno i q)
    · rw [q]
    · exact absurd hp (h2 j q)
  · exact absurd hp (h1 _ (List.getElem_mem hj))
theorem Fd.miss {p : Pa.Pt} {r : Int} (h : Fd es p r) (hno : ∀ (i : Nat) (hi : i < es.length), es[i].p ≠ p) : r = -1 := by
  rcases h with ⟨i, hi, rfl, h1, h2⟩ | ⟨h0, h1⟩
  · exact absurd h1 (hno i hi)
  · exact h0
theorem Fd.is (es : List Nd) (p : Pa.Pt) : ∃ r, Fd es p r := by
  by_cases h : ∃ e, e ∈ es ∧ e.p = p
  · have : ∃ n : Nat, ∃ hn : n < es.length, es[n].p = p := by
      obtain ⟨e, he, hp⟩ := h
      obtain ⟨i, hi, rfl⟩ := List.mem_iff_getElem.1 he
      exact ⟨i, hi, hp⟩
    obtain ⟨n, hn, hp⟩ := this
    induction n using Nat.strongRecOn with
    | ind n ih =>
      by_cases hm : ∃ j : Nat, ∃ hj : j < n, (es[j]'(by omega)).p = p
      · obtain ⟨j, hj, hq⟩ := hm
        exact ih j hj (by omega) hq
      · exact ⟨n, .inl ⟨n, hn, rfl, hp, fun j hj e => hm ⟨j, hj, e⟩⟩⟩
  · exact ⟨-1, .inr ⟨rfl, fun e he hp => h ⟨e, he, hp⟩⟩⟩
set_option maxHeartbeats 1000000 in
theorem Di.find (h : Di W t K m mr es D A c) (hl : es.length ≤ 500) {p : Pa.Pt} {r : Int} (hr : Fd es p r) : Calls Tryz.prog 9 #[qp t, p.v] W fun e w' => e = .returned (.int .i64 r) ∧ Below W.heap.size W w' := by
  have HR := Lib.hid hr
  obtain ⟨n, hn⟩ : ∃ n, es.length = n := ⟨_, rfl⟩
  rw [hn] at hl
  have HN := Lib.hid hn
  have HX := Lib.hid (box_below W (.cells (pcs p) 25))
  have HB := Lib.hid (Pbx.new W p 25)
  have h1 := h.below HX.out
  have e0 := h1.e0 hn
  have hlt := h1.lt
  have H1 := Lib.hid h1
  clear h hr hn h1
  obtain ⟨pa, pb, pc, pd, pe⟩ := p
  go_enter Tryz.func9, Tryz.ntmps9
  go_wp2_with fail
  generalize W.alloc (.cells #[.int .i64 pa, .int .i64 pb, .int .i64 pc, .int .i64 pd, .int .i64 pe] 25) = W1 at *
  go_loopw [12] (fun v wr => ∃ j : Nat, j ≤ n ∧ v = .int .i64 j ∧ (∀ (i : Nat) (_ : i < j) (h : i < es.length), es[i].p ≠ ⟨pa, pb, pc, pd, pe⟩) ∧ Below W1.heap.size W1 wr) (fun v _ => n - (intOf v).toNat)
  case atStart => exact ⟨0, by omega, rfl, fun i hi => by omega, Below.refl _ _⟩
  case round =>
    obtain ⟨j, hj, rfl, hall, hb⟩ := hrel
    have HA := Lib.hid hall
    have HB1 := Lib.hid hb
    clear hall
    by_cases hjn : j < n
    · have hjl : j < es.length := by rw [HN.out]; exact hjn
      obtain ⟨g, rfl, c0, -⟩ := (H1.out.below hb).at hjl
      obtain ⟨A1, c1, A2, c2, hR, -⟩ := (H1.out.below hb).ent _ (List.getElem_mem hjl)
      obtain ⟨x, hx⟩ : ∃ x, es[j] = x := ⟨_, rfl⟩
      have HXx := Lib.hid hx
      rw [hx] at c0 hR
      obtain ⟨⟨qa, qb, qc, qd, qe⟩, Q, H, L⟩ := x
      have r0 := hR.e0
      have r1 := hR.e1
      have r2 := hR.e2
      have r3 := hR.e3
      have r4 := hR.e4
      simp only at c0 r0 r1 r2 r3 r4
      have hB2 := HB.out.below hb
      have b0 := hB2.c0
      have b1 := hB2.c1
      have b2 := hB2.c2
      have b3 := hB2.c3
      have b4 := hB2.c4
      simp only at b0 b1 b2 b3 b4
      clear hR hB2 hx hb
      by_cases hq : (⟨qa, qb, qc, qd, qe⟩ : Pa.Pt) = ⟨pa, pb, pc, pd, pe⟩
      · have hE := Lib.hid (HR.out.hit hjl (by rw [HXx.out]; exact hq) (fun i hi => HA.out i hi (by omega)))
        have he : Pa.eqP ⟨qa, qb, qc, qd, qe⟩ ⟨pa, pb, pc, pd, pe⟩ = true := (Pa.eqP_iff _ _).2 hq
        clear hq
        go_wp2_with fail
        go_quiet (fail)
        go_wp2_with fail
        go_ret
        exact ⟨by rw [hE.out]; rfl, HX.out.trans ((HB1.out.trans ((drew_below _ _).mono HB1.out.size)).mono HX.out.size)⟩
      · have he : Pa.eqP ⟨qa, qb, qc, qd, qe⟩ ⟨pa, pb, pc, pd, pe⟩ = false := Pa.eqP_ne hq
        have HQ := Lib.hid hq
        clear hq
        go_wp2_with fail
        go_quiet (fail)
        go_wp2_with fail
        go_roundw
        case rel =>
          refine ⟨j + 1, by omega, by go_num, fun i hi h => ?_, HB1.out.trans ((drew_below _ _).mono HB1.out.size)⟩
          rcases Nat.lt_or_ge i j with h' | h'
          · exact HA.out i h' h
          · obtain rfl : i = j := by omega
            rw [HXx.out]; exact HQ.out
        case measure => simp [intOf]; omega
    · obtain rfl : j = n := by omega
      have hE := Lib.hid (HR.out.miss (fun i hi => HA.out i (by have := HN.out; omega) hi))
      clear hb
      go_wp2_with fail
      go_ret
      exact ⟨by rw [hE.out]; rfl, HX.out.trans (HB1.out.mono HX.out.size)⟩
set_option maxHeartbeats 1000000 in
theorem Di.used (h : Di W t K m mr es D A c) (hl : es.length ≤ 500) (hs : totE es ≤ 1000) : Calls Tryz.prog 64 #[qp t] W fun e w' => e = .returned (.int .i64 (totE es : Nat)) ∧ Below W.heap.size W w' := by
  obtain ⟨n, hn⟩ : ∃ n, es.length = n := ⟨_, rfl⟩
  rw [hn] at hl
  have HN := Lib.hid hn
  have e0 := h.e0 hn
  have hlt := h.lt
  have H1 := Lib.hid h
  clear h hn
  go_enter Tryz.func64, Tryz.ntmps64
  go_wp2_with fail
  go_loopw [3, 11] (fun s v wr => ∃ j : Nat, j ≤ n ∧ v = .int .i64 j ∧ s = .int .i64 (totE (es.take j) : Nat) ∧ Below W.heap.size W wr) (fun _ v _ => n - (intOf v).toNat)
  case atStart => exact ⟨0, by omega, rfl, rfl, Below.refl _ _⟩
  case round =>
    obtain ⟨j, hj, rfl, rfl, hb⟩ := hrel
    have HB1 := Lib.hid hb
    have hle := totE_le (es := es) j
    by_cases hjn : j < n
    · have hjl : j < es.length := by rw [HN.out]; exact hjn
      obtain ⟨g, rfl, c0, -⟩ := (H1.out.below hb).at hjl
      obtain ⟨A1, c1, A2, c2, hR, -⟩ := (H1.out.below hb).ent _ (List.getElem_mem hjl)
      have hT := totE_take hjl
      have hT2 := totE_le (es := es) (j + 1)
      have HT := Lib.hid hT
      obtain ⟨x, hx⟩ : ∃ x, es[j] = x := ⟨_, rfl⟩
      rw [hx] at c0 hR hT HT
      obtain ⟨P, Q, H, L⟩ := x
      simp only at c0 hR hT HT
      obtain ⟨z, hz⟩ : ∃ z, H.length + L.length = z := ⟨_, rfl⟩
      have HSz := Lib.hid (rsize_any hR (by omega) (by omega))
      rw [hz] at HSz HT hT
      obtain ⟨s, hs0⟩ : ∃ s, totE (es.take j) = s := ⟨_, rfl⟩
      rw [hs0] at HT hle hT
      rw [hs0]
      have hz2 : s + z ≤ 1000 := by omega
      clear hR hx hb hT hT2 hz hs0
      go_wp2_with fail
      refine HSz.out.mono ?_
      rintro e w2 ⟨rfl, hb2⟩
      have HB2 := Lib.hid (HB1.out.trans (hb2.mono HB1.out.size))
      clear hb2 HSz HB1
      go_wp2_with fail
      go_roundw
      case rel => exact ⟨j + 1, by omega, by go_num, by rw [HT.out]; go_num, HB2.out⟩
      case measure => simp [intOf]; omega
    · obtain rfl : j = n := by omega
      have HT := Lib.hid (show totE (es.take j) = totE es by rw [List.take_of_length_le (Nat.le_of_eq HN.out)])
      obtain ⟨s, hs0⟩ : ∃ s, totE (es.take j) = s := ⟨_, rfl⟩
      have HS := Lib.hid hs0
      rw [hs0]
      clear hle hb hs0 hs
      go_wp2_with fail
      go_ret
      exact ⟨by rw [← HT.out, HS.out]; rfl, HB1.out⟩
theorem bound_any (n : Int) (k : Nat) (W : World) : Calls Tryz.prog 53 #[.int .i64 n, .int .i64 k] W fun e w' => e = .returned (.int .i64 ((clamp n k : Nat) : Int)) ∧ w' = W := by
  unfold clamp
  by_cases h1 : n < 0
  · rw [if_pos h1]
    go_enter Tryz.func53, Tryz.ntmps53
    go_wp2
    go_ret
    exact ⟨rfl, rfl⟩
  · rw [if_neg h1]
    by_cases h2 : (k : Int) < n
    · rw [if_pos h2]
      go_enter Tryz.func53, Tryz.ntmps53
      go_wp2
      go_ret
      exact ⟨rfl, rfl⟩
    · rw [if_neg h2]
      obtain ⟨j, rfl⟩ : ∃ j : Nat, n = j := ⟨n.toNat, by omega⟩
      go_enter Tryz.func53, Tryz.ntmps53
      go_wp2
      go_ret
      exact ⟨by simp, rfl⟩
theorem di_new (W : World) (m : Nat) (mr : Int) : Di (W.alloc (.cells #[.slice none 0 0, .int .i64 (m : Int), .int .i64 mr] 40)) W.heap.size W.heap.size m mr [] (fun k => k = W.heap.size) none 0 := by
  refine ⟨heap_alloc_new W _, Rd.nilq _ _, (by simp), List.nodup_nil, rfl, (fun _ h => by cases h), (by simp), (fun k hk => by simp; omega), (fun _ h => by cases h), (by simp), Nat.le_refl _, by simp⟩
theorem new_any (hd rq : Int) (W : World) : Calls Tryz.prog 26 #[.int .i64 hd, .int .i64 rq] W fun e w' => ∃ W1, Below W.heap.size W W1 ∧ e = .returned (qp W1.heap.size) ∧ w' = W1.alloc (.cells #[.slice none 0 0, .int .i64 ((clamp hd 256 : Nat) : Int), .int .i64 ((clamp rq 1024 : Nat) : Int)] 40) := by
  have H1 := Lib.hid (fun w => (show Calls Tryz.prog 53 #[.int .i64 hd, .int .i64 256] w fun e w' => e = .returned (.int .i64 ((clamp hd 256 : Nat) : Int)) ∧ w' = w from bound_any hd 256 w))
  have H2 := Lib.hid (fun w => (show Calls Tryz.prog 53 #[.int .i64 rq, .int .i64 1024] w fun e w' => e = .returned (.int .i64 ((clamp rq 1024 : Nat) : Int)) ∧ w' = w from bound_any rq 1024 w))
  generalize ((clamp hd 256 : Nat) : Int) = x at *
  generalize ((clamp rq 1024 : Nat) : Int) = y at *
  go_enter Tryz.func26, Tryz.ntmps26
  go_wp2_with (go_at_call 53; first | ((with_reducible refine (H1.out _).mono ?_); rintro e w' ⟨rfl, rfl⟩) | ((with_reducible refine (H2.out _).mono ?_); rintro e w' ⟨rfl, rfl⟩))
  go_ret
  exact ⟨_, Below.refl _ _, rfl, rfl⟩
end
end Go.Proofs.YtjhkejkdnjogiaaGreatDoor.Rt
