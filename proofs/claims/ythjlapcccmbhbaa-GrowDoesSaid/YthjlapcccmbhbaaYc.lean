/- The document's answers: the node above, what is held at a node, whether lists are alike, the mode in the place of some; the program's. -/
import Derived.Test.YthjlapcccmbhbaaWf
import Derived.Test.YthjlapcccmbhbaaXz
namespace Go.Proofs.Ythjlapcccmbhbaa.Pa
open Go Go.RowKit
set_option maxRecDepth 100000
set_option maxHeartbeats 2000000 in
theorem rup_any (p : Pt) (w : World) :
    Calls Try.prog 32 #[p.v] w fun e w' => e = .returned (upV p) ∧ Below w.heap.size w w' := by
  obtain ⟨a, b, c, d, e⟩ := p
  cases hr : rightB ⟨a, b, c, d, e⟩
  · have HV := Lib.hid (show upV ⟨a, b, c, d, e⟩ = .tuple #[Pt.v ⟨0, 0, 0, 0, 0⟩, .bool false] by simp [upV, hr])
    go_enter Try.func32, Try.ntmps32
    go_wp2_with (go_at_call 61; ((with_reducible refine (rright_any ⟨a, b, c, d, e⟩ _).mono ?_); rintro e1 w1 ⟨rfl, hb1⟩; rw [hr]; obtain ⟨hc1, hf1⟩ := kept hb1))
    exact bodyPost_ret (v := .tuple #[Pt.v ⟨0, 0, 0, 0, 0⟩, .bool false]) (by simp [results, Try.results32, go_sem, hc1]) rfl ⟨by rw [HV.out], below_set5 (below_past hb1) (by omega) _ _ _ _ _⟩
  · have hd := right_depth hr
    simp only at hd
    by_cases h1 : e = 1
    · have HV := Lib.hid (show upV ⟨a, b, c, d, e⟩ = .tuple #[Pt.v ⟨0, 0, 0, 0, 0⟩, .bool false] by simp [upV, h1])
      have h1' : (e == 1) = true := by simp [h1]
      clear h1
      go_enter Try.func32, Try.ntmps32
      go_wp2_with (go_at_call 61; ((with_reducible refine (rright_any ⟨a, b, c, d, e⟩ _).mono ?_); rintro e1 w1 ⟨rfl, hb1⟩; rw [hr]; obtain ⟨hc1, hf1⟩ := kept hb1))
      exact bodyPost_ret (v := .tuple #[Pt.v ⟨0, 0, 0, 0, 0⟩, .bool false]) (by simp [results, Try.results32, go_sem, hc1]) rfl ⟨by rw [HV.out], below_set5 (below_past hb1) (by omega) _ _ _ _ _⟩
    · have HV := Lib.hid (show upV ⟨a, b, c, d, e⟩ = .tuple #[(cutP ⟨a, b, c, d, e⟩ (e - 1)).v, .bool true] by simp [upV, h1, hr])
      have h1' : (e == 1) = false := by simp [h1]
      have h2 : 2 ≤ e := by omega
      have h4 : e ≤ 4 := hd.2
      clear h1 hd
      go_enter Try.func32, Try.ntmps32
      go_wp2_with (first | (go_at_call 61; ((with_reducible refine (rright_any ⟨a, b, c, d, e⟩ _).mono ?_); rintro e1 w1 ⟨rfl, hb1⟩; rw [hr]; obtain ⟨hc1, hf1⟩ := kept hb1; have hz1 : w.heap.size + 1 < w1.heap.size := lt_two hb1)) | (go_at_call 62; ((with_reducible refine (front_any ⟨a, b, c, d, e⟩ (e - 1) _ (by omega) (by omega)).mono ?_); rintro e2 w2 ⟨rfl, hb2⟩; obtain ⟨hc2, hf2⟩ := kept hb2)))
      exact bodyPost_ret (v := .tuple #[(cutP ⟨a, b, c, d, e⟩ (e - 1)).v, .bool true]) (by simp [results, Try.results32, go_sem, hc2, hc1, hz1]) rfl ⟨by rw [HV.out], below_set5 ((below_past hb1).trans (hb2.mono (by omega))) (by omega) _ _ _ _ _⟩
end Go.Proofs.Ythjlapcccmbhbaa.Pa
namespace Go.Proofs.Ythjlapcccmbhbaa.Lk
open Go Go.RowKit Go.Shelf Pa
set_option maxRecDepth 100000

theorem of_drop {xs : List Hd} {k : Nat} (h : k < xs.length) (p : Pt) : ofL (xs.drop k) p = if eqP xs[k].1 p then xs[k].2 else ofL (xs.drop (k + 1)) p := by
  rw [List.drop_eq_getElem_cons h]
  rfl
set_option maxHeartbeats 2000000 in
theorem rof_any {W : World} {A : Option Addr} {c : Nat} {xs : List Hd} (hr : Ls W A c xs) (hl : xs.length ≤ 1000) (q : Pt) :
    Calls Try.prog 33 #[.slice A xs.length c, q.v] W fun e w' => e = .returned (.int .i64 (ofL xs q)) ∧ Below W.heap.size W w' := by
  have hx := Go.Proofs.Ythjlapcccmbhbaa.box_below W (.cells #[.int .i64 q.a, .int .i64 q.b, .int .i64 q.c, .int .i64 q.d, .int .i64 q.e] 25)
  have HX := Lib.hid hx
  have HR := Lib.hid (hr.below hx)
  have HP := Lib.hid (PtAt.new W q.a q.b q.c q.d q.e)
  obtain ⟨n, hn⟩ : ∃ n, xs.length = n := ⟨_, rfl⟩
  have HN := Lib.hid hn
  rw [hn] at hl ⊢
  clear hr hx hn
  obtain ⟨qa, qb, qc, qd, qe⟩ := q
  simp only at HX HP HR
  go_enter Try.func33, Try.ntmps33
  go_wp2_with fail
  unfold boxed at HP
  generalize W.alloc (.cells #[.int .i64 qa, .int .i64 qb, .int .i64 qc, .int .i64 qd, .int .i64 qe] 25) = W1 at *
  go_loopw [9] (fun i wr => ∃ k : Nat, k ≤ n ∧ i = .int .i64 (k : Nat) ∧ ofL (xs.drop k) ⟨qa, qb, qc, qd, qe⟩ = ofL xs ⟨qa, qb, qc, qd, qe⟩ ∧ Below W1.heap.size W1 wr) (fun i _ => n - (intOf i).toNat)
  case atStart => exact ⟨0, by omega, rfl, rfl, Below.refl _ _⟩
  case round =>
    obtain ⟨k, hk, rfl, ho, hb⟩ := hrel
    have HB := Lib.hid hb
    have HO := Lib.hid ho
    clear hb ho
    by_cases hlt : k < n
    · have i1 : (0 : Int) ≤ (k : Int) := by omega
      have i2 : (k : Int) < (n : Int) := by omega
      have hkl : k < xs.length := by rw [HN.out]; exact hlt
      obtain ⟨a, rfl, hh⟩ := (HR.out.below HB.out).here hkl
      have HD := Lib.hid (of_drop hkl)
      obtain ⟨x, hx⟩ : ∃ x, xs[k] = x := ⟨_, rfl⟩
      rw [hx] at hh HD
      clear hx
      obtain ⟨c0, c1, c2, c3, c4, c5⟩ := hh
      have HBx := Lib.hid (Go.Proofs.Ythjlapcccmbhbaa.box_below wr (.cells #[.int .i64 x.1.a, .int .i64 x.1.b, .int .i64 x.1.c, .int .i64 x.1.d, .int .i64 x.1.e, .int .i64 x.2] 27))
      obtain ⟨p0, p1, p2, p3, p4, hlp⟩ := HP.out.later HB.out
      simp only at p0 p1 p2 p3 p4 hlp
      have hne : ¬ W.heap.size = wr.heap.size := Nat.ne_of_lt hlp
      obtain ⟨⟨xa, xb, xc, xd, xe⟩, xm⟩ := x
      simp only at c0 c1 c2 c3 c4 c5 HBx
      cases he : eqP ⟨xa, xb, xc, xd, xe⟩ ⟨qa, qb, qc, qd, qe⟩
      · have HE := Lib.hid he
        go_wp2_with fail
        go_roundw
        case rel =>
          refine ⟨k + 1, by omega, by go_num, ?_, thenCall HB.out HBx.out⟩
          have h := HD.out ⟨qa, qb, qc, qd, qe⟩
          rw [HE.out] at h
          rw [← HO.out, h]
          rfl
        case measure => simp [intOf]; omega
      · have HE := Lib.hid he
        go_wp2_with fail
        go_ret
        have h := HD.out ⟨qa, qb, qc, qd, qe⟩
        rw [HE.out, if_pos rfl, HO.out] at h
        exact ⟨by rw [h]; rfl, HX.out.trans ((thenCall HB.out HBx.out).mono HX.out.size)⟩
    · obtain rfl : k = n := by omega
      go_wp2_with fail
      go_ret
      have h := HO.out
      rw [List.drop_of_length_le (Nat.le_of_eq HN.out)] at h
      exact ⟨by rw [← h]; rfl, HX.out.trans (HB.out.mono HX.out.size)⟩
set_option maxHeartbeats 2000000 in
theorem same_true {W : World} {A B : Option Addr} {c d : Nat} {xs : List Hd} (hr : Ls W A c xs) (hs : Ls W B d xs) (hl : xs.length ≤ 1000) :
    Calls Try.prog 10 #[.slice A xs.length c, .slice B xs.length d] W fun e w' => e = .returned (.bool true) ∧ Below W.heap.size W w' := by
  have HR := Lib.hid hr
  have HS := Lib.hid hs
  obtain ⟨n, hn⟩ : ∃ n, xs.length = n := ⟨_, rfl⟩
  have HN := Lib.hid hn
  rw [hn] at hl ⊢
  clear hr hs hn
  go_enter Try.func10, Try.ntmps10
  go_wp2_with fail
  go_loopw [13] (fun i wr => ∃ k : Nat, k ≤ n ∧ i = .int .i64 (k : Nat) ∧ Below W.heap.size W wr) (fun i _ => n - (intOf i).toNat)
  case atStart => exact ⟨0, by omega, rfl, Below.refl _ _⟩
  case round =>
    obtain ⟨k, hk, rfl, hb⟩ := hrel
    have HB := Lib.hid hb
    clear hb
    by_cases hlt : k < n
    · have i1 : (0 : Int) ≤ (k : Int) := by omega
      have i2 : (k : Int) < (n : Int) := by omega
      have hkl : k < xs.length := by rw [HN.out]; exact hlt
      obtain ⟨a, rfl, hh⟩ := (HR.out.below HB.out).here hkl
      obtain ⟨b, rfl, hh2⟩ := (HS.out.below HB.out).here hkl
      obtain ⟨x, hx⟩ : ∃ x, xs[k] = x := ⟨_, rfl⟩
      rw [hx] at hh hh2
      clear hx
      obtain ⟨c0, c1, c2, c3, c4, c5⟩ := hh
      obtain ⟨d0, d1, d2, d3, d4, d5⟩ := hh2
      obtain ⟨⟨xa, xb, xc, xd, xe⟩, xm⟩ := x
      simp only at c0 c1 c2 c3 c4 c5 d0 d1 d2 d3 d4 d5
      have hself : eqH ((⟨xa, xb, xc, xd, xe⟩, xm) : Hd) (⟨xa, xb, xc, xd, xe⟩, xm) = true := eqH_self _
      go_wp2_with fail
      go_region
      go_wp2_with fail
      go_roundw
      case rel => exact ⟨k + 1, by omega, by go_num, HB.out.trans ⟨rfl, rfl, rfl, Nat.le_refl _, fun _ _ => rfl⟩⟩
      case measure => simp [intOf]; omega
    · obtain rfl : k = n := by omega
      go_wp2_with fail
      go_ret
      exact ⟨rfl, HB.out⟩
theorem top_next {xs : List Hd} {k : Nat} (h : k < xs.length) : topL (xs.take (k + 1)) = max (topL (xs.take k)) (reN (kn xs[k].2)) := by rw [List.take_succ_eq_append_getElem h, top_snoc]
set_option maxHeartbeats 2000000 in
theorem mode_any {W : World} {A : Option Addr} {c : Nat} {xs : List Hd} (hr : Ls W A c xs) (hl : xs.length ≤ 1000) :
    Calls Try.prog 15 #[.slice A xs.length c] W fun e w' => e = .returned (.int .i64 (doN (topL xs) : Nat)) ∧ Below W.heap.size W w' := by
  have HR := Lib.hid hr
  obtain ⟨n, hn⟩ : ∃ n, xs.length = n := ⟨_, rfl⟩
  have HN := Lib.hid hn
  rw [hn] at hl ⊢
  clear hr hn
  go_enter Try.func15, Try.ntmps15
  go_wp2_with fail
  go_loopw [3, 8] (fun l i wr => ∃ k : Nat, k ≤ n ∧ i = .int .i64 (k : Nat) ∧ l = .int .i64 (topL (xs.take k) : Nat) ∧ Below W.heap.size W wr) (fun _ i _ => n - (intOf i).toNat)
  case atStart => exact ⟨0, by omega, rfl, rfl, Below.refl _ _⟩
  case round =>
    obtain ⟨k, hk, rfl, rfl, hb⟩ := hrel
    have HB := Lib.hid hb
    clear hb
    by_cases hlt : k < n
    · have i1 : (0 : Int) ≤ (k : Int) := by omega
      have i2 : (k : Int) < (n : Int) := by omega
      have hkl : k < xs.length := by rw [HN.out]; exact hlt
      obtain ⟨a, rfl, hh⟩ := (HR.out.below HB.out).here hkl
      have HT := Lib.hid (top_next hkl)
      obtain ⟨x, hx⟩ : ∃ x, xs[k] = x := ⟨_, rfl⟩
      rw [hx] at hh HT
      clear hx
      obtain ⟨c0, c1, c2, c3, c4, c5⟩ := hh
      have HBx := Lib.hid (Go.Proofs.Ythjlapcccmbhbaa.box_below wr (.cells #[.int .i64 x.1.a, .int .i64 x.1.b, .int .i64 x.1.c, .int .i64 x.1.d, .int .i64 x.1.e, .int .i64 x.2] 27))
      obtain ⟨l, hl'⟩ : ∃ l, topL (xs.take k) = l := ⟨_, rfl⟩
      rw [hl'] at HT ⊢
      clear hl'
      obtain ⟨⟨xa, xb, xc, xd, xe⟩, xm⟩ := x
      simp only at c0 c1 c2 c3 c4 c5 HBx
      go_wp2_with fail
      refine (gdoes_any xm _).mono ?_
      rintro e3 w3 ⟨rfl, hb3⟩
      have HB3 := Lib.hid (thenCall (thenCall HB.out HBx.out) hb3)
      have hm := fun ts t => run_max_int Try.prog ts t l (reN (kn xm))
      clear hb3
      go_wp2_with fail
      go_roundw
      case rel => exact ⟨k + 1, by omega, by go_num, by rw [HT.out], HB3.out⟩
      case measure => simp [intOf]; omega
    · obtain rfl : k = n := by omega
      have HTk : Hid (xs.take k = xs) := List.take_of_length_le (Nat.le_of_eq HN.out)
      rw [HTk.out]
      have h3 := top_le xs
      obtain ⟨l, hl'⟩ : ∃ l, topL xs = l := ⟨_, rfl⟩
      have HL' := Lib.hid hl'
      rw [hl'] at h3 ⊢
      clear hl'
      go_wp2_with fail
      refine (doing_any l h3 _).mono ?_
      rintro e3 w3 ⟨rfl, hb3⟩
      have HB3 := Lib.hid (thenCall HB.out hb3)
      clear hb3
      go_wp2_with fail
      go_ret
      exact ⟨by rw [HL'.out]; rfl, HB3.out⟩
set_option maxHeartbeats 2000000 in
theorem rone_any {W : World} {A : Option Addr} {c : Nat} {xs : List Hd} (hr : Ls W A c xs) (hl : xs.length ≤ 1000) :
    Calls Try.prog 16 #[.slice A xs.length c] W fun e w' => e = .returned (.int .i64 (doN (topL xs) : Nat)) ∧ Below W.heap.size W w' := by
  have HR := Lib.hid hr
  obtain ⟨n, hn⟩ : ∃ n, xs.length = n := ⟨_, rfl⟩
  have HN := Lib.hid hn
  rw [hn] at hl ⊢
  clear hr hn
  go_enter Try.func16, Try.ntmps16
  go_wp2_with fail
  go_loopw [3, 9] (fun l i wr => ∃ k : Nat, k ≤ n ∧ i = .int .i64 (k : Nat) ∧ l = .int .i64 (topL (xs.take k) : Nat) ∧ Below W.heap.size W wr) (fun _ i _ => n - (intOf i).toNat)
  case atStart => exact ⟨0, by omega, rfl, rfl, Below.refl _ _⟩
  case round =>
    obtain ⟨k, hk, rfl, rfl, hb⟩ := hrel
    have HB := Lib.hid hb
    clear hb
    by_cases hlt : k < n
    · have i1 : (0 : Int) ≤ (k : Int) := by omega
      have i2 : (k : Int) < (n : Int) := by omega
      have hkl : k < xs.length := by rw [HN.out]; exact hlt
      obtain ⟨a, rfl, hh⟩ := (HR.out.below HB.out).here hkl
      have HT := Lib.hid (top_next hkl)
      obtain ⟨x, hx⟩ : ∃ x, xs[k] = x := ⟨_, rfl⟩
      rw [hx] at hh HT
      clear hx
      obtain ⟨c0, c1, c2, c3, c4, c5⟩ := hh
      have HBx := Lib.hid (Go.Proofs.Ythjlapcccmbhbaa.box_below wr (.cells #[.int .i64 x.1.a, .int .i64 x.1.b, .int .i64 x.1.c, .int .i64 x.1.d, .int .i64 x.1.e, .int .i64 x.2] 27))
      obtain ⟨l, hl'⟩ : ∃ l, topL (xs.take k) = l := ⟨_, rfl⟩
      rw [hl'] at HT ⊢
      clear hl'
      obtain ⟨⟨xa, xb, xc, xd, xe⟩, xm⟩ := x
      simp only at c0 c1 c2 c3 c4 c5 HBx
      have HRe := Lib.hid (fun w => rre_any xm w)
      obtain ⟨r, hr⟩ : ∃ r, reN (kn xm) = r := ⟨_, rfl⟩
      simp only [hr] at HRe HT
      clear hr
      by_cases hrl : l < r
      · have hrl' : decide ((l : Int) < (r : Int)) = true := by simp; omega
        go_wp2_with fail
        refine (HRe.out _).mono ?_
        rintro e3 w3 ⟨rfl, hb3⟩
        have HB3 := Lib.hid (thenCall (thenCall HB.out HBx.out) hb3)
        clear hb3
        go_wp2_with fail
        go_roundw
        case rel => exact ⟨k + 1, by omega, by go_num, by rw [HT.out, Nat.max_eq_right (Nat.le_of_lt hrl)], HB3.out⟩
        case measure => simp [intOf]; omega
      · have hrl' : decide ((l : Int) < (r : Int)) = false := by simp; omega
        go_wp2_with fail
        refine (HRe.out _).mono ?_
        rintro e3 w3 ⟨rfl, hb3⟩
        have HB3 := Lib.hid (thenCall (thenCall HB.out HBx.out) hb3)
        clear hb3
        go_wp2_with fail
        go_roundw
        case rel => exact ⟨k + 1, by omega, by go_num, by rw [HT.out, Nat.max_eq_left (by omega)], HB3.out⟩
        case measure => simp [intOf]; omega
    · obtain rfl : k = n := by omega
      have HTk : Hid (xs.take k = xs) := List.take_of_length_le (Nat.le_of_eq HN.out)
      rw [HTk.out]
      have h3 := top_le xs
      obtain ⟨l, hl'⟩ : ∃ l, topL xs = l := ⟨_, rfl⟩
      rw [hl'] at h3 ⊢
      have hc : l = 0 ∨ l = 1 ∨ l = 2 ∨ l = 3 := by omega
      have HL' := Lib.hid hl'
      clear h3 hl'
      rcases hc with rfl | rfl | rfl | rfl
      all_goals
        go_wp2_with fail
        go_ret
        exact ⟨by rw [HL'.out]; rfl, thenCall HB.out (Go.Proofs.Ythjlapcccmbhbaa.box_below _ _)⟩
end Go.Proofs.Ythjlapcccmbhbaa.Lk
