/- Where none is picked: nothing is handed out. -/
import Derived.Test.YthjlapcccmbhbaaWd
namespace Go.Proofs.Ythjlapcccmbhbaa.Lk
open Go Go.RowKit Go.Shelf Pa
set_option maxRecDepth 100000

theorem clone_nil (W : World) : Calls Try.prog 58 #[.slice none 0 0] W fun e w' => e = .returned (.slice none 0 0) ∧ Below W.heap.size W w' := by
  go_enter Try.func58, Try.ntmps58
  go_wp2
  go_ret
  exact ⟨rfl, Below.refl _ _⟩
theorem back_nil (W : World) : Calls Try.prog 31 #[.slice none 0 0] W fun e w' => e = .returned (.slice none 0 0) ∧ Below W.heap.size W w' := by
  go_enter Try.func31, Try.ntmps31
  go_wp2_with fail
  refine (clone_nil _).mono ?_
  rintro e w1 ⟨rfl, hb⟩
  have HB := Lib.hid hb
  clear hb
  go_wp2_with fail
  refine (sort_none none 0 _).mono ?_
  rintro e w2 ⟨rfl, rfl⟩
  go_wp2_with fail
  go_ret
  exact ⟨rfl, HB.out⟩
section
variable {W W' : World} {A : Option Addr} {c : Nat} {xs : List Hd}
set_option maxHeartbeats 4000000 in
theorem gback_none {gf : Nat} {cs : Array Value} {f : Pt → Bool} (hp : PrdP (fun _ => False) W gf cs f) (hr : Ls W A c xs) (hl : xs.length ≤ 100) (hno : ∀ x ∈ xs, f x.1 = false) :
    Calls Try.prog 36 #[.slice A xs.length c, .func (.func gf) #[] cs] W fun e w' => e = .returned (.slice none 0 0) ∧ Below W.heap.size W w' := by
  obtain ⟨eg, hp⟩ := hp
  have HP := Lib.hid hp
  have HR := Lib.hid hr
  have HNo := Lib.hid hno
  obtain ⟨n, hn⟩ : ∃ n, xs.length = n := ⟨_, rfl⟩
  have HN := Lib.hid hn
  rw [hn] at hl ⊢
  clear hr hn hp hno
  go_enter Try.func36, Try.ntmps36
  go_wp2_with fail
  go_loopw [5, 10] (fun l i wr => ∃ k : Nat, k ≤ n ∧ i = .int .i64 (k : Nat) ∧ l = .slice none 0 0 ∧ Below W.heap.size W wr) (fun _ i _ => n - (intOf i).toNat)
  case atStart => exact ⟨0, by omega, rfl, rfl, Below.refl _ _⟩
  case round =>
    obtain ⟨k, hk, rfl, rfl, hb⟩ := hrel
    have HB := Lib.hid hb
    clear hb
    by_cases hlt : k < n
    · have i1 : (0 : Int) ≤ (k : Int) := by omega
      have i2 : (k : Int) < (n : Int) := by omega
      have hkl : k < xs.length := by rw [HN.out]; exact hlt
      obtain ⟨a, rfl, hh⟩ := (HR.out.below HB.out).here hkl
      have hfx := HNo.out _ (List.getElem_mem hkl)
      obtain ⟨x, hx⟩ : ∃ x, xs[k] = x := ⟨_, rfl⟩
      rw [hx] at hh hfx
      clear hx
      obtain ⟨c0, c1, c2, c3, c4, c5⟩ := hh
      have HBx := Lib.hid (Go.Proofs.Ythjlapcccmbhbaa.box_below wr (.cells #[.int .i64 x.1.a, .int .i64 x.1.b, .int .i64 x.1.c, .int .i64 x.1.d, .int .i64 x.1.e, .int .i64 x.2] 27))
      have HC := Lib.hid (HP.out _ x.1 (OnlyS.of_below (thenCall HB.out HBx.out)))
      rw [hfx] at HC
      clear hfx
      obtain ⟨⟨xa, xb, xc, xd, xe⟩, xm⟩ := x
      simp only at c0 c1 c2 c3 c4 c5 HBx HC
      go_wp2_with fail
      refine HC.out.mono ?_
      rintro e1 w1 ⟨rfl, hb1⟩
      have HB1 := Lib.hid (thenCall (thenCall HB.out HBx.out) hb1)
      clear hb1 c0 c1 c2 c3 c4 c5 HBx HC
      go_wp2_with fail
      go_roundw
      case rel => exact ⟨k + 1, by omega, by go_num, rfl, HB1.out⟩
      case measure => simp [intOf]; omega
    · obtain rfl : k = n := by omega
      go_wp2_with fail
      refine (back_nil _).mono ?_
      rintro e2 w2 ⟨rfl, hb2⟩
      have HE := Lib.hid (thenCall HB.out hb2)
      clear hb2
      go_wp2_with fail
      go_ret
      exact ⟨rfl, HE.out⟩
theorem gbelow_none (hr : Ls W A c xs) (hl : xs.length ≤ 100) (q : Pt) (hno : fitL (fun p => belB p q) xs = []) : Calls Try.prog 13 #[.slice A xs.length c, q.v] W fun e w' => e = .returned (.slice none 0 0) ∧ Below W.heap.size W w' := by
  have hx := Go.Proofs.Ythjlapcccmbhbaa.box_below W (.cells #[.int .i64 q.a, .int .i64 q.b, .int .i64 q.c, .int .i64 q.d, .int .i64 q.e] 25)
  have HG := Lib.hid (gback_none (bel_at (PtAt.new W q.a q.b q.c q.d q.e) (fun h => h)) (hr.below hx) hl (fun x hx => by
    have := List.filter_eq_nil_iff.1 hno x hx
    simpa using this))
  have HX := Lib.hid hx
  obtain ⟨n, hn⟩ : ∃ n, xs.length = n := ⟨_, rfl⟩
  rw [hn] at HG ⊢
  clear hr hx hl hn hno
  obtain ⟨qa, qb, qc, qd, qe⟩ := q
  simp only at HG HX
  go_enter Try.func13, Try.ntmps13
  go_wp2_with fail
  refine HG.out.mono ?_
  rintro e2 w2 ⟨rfl, hb2⟩
  have HE := Lib.hid (thenCall HX.out hb2)
  clear hb2
  go_wp2_with fail
  go_ret
  exact ⟨rfl, HE.out⟩
end
end Go.Proofs.Ythjlapcccmbhbaa.Lk
