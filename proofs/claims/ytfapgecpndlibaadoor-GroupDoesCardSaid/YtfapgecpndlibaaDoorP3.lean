/- Whether holds are right: the document's answer. -/
import Derived.Test.YtfapgecpndlibaaDoorP2
namespace Go.Proofs.YtfapgecpndlibaaDoor
open Go Go.RowKit Go.Shelf

/-- one of them beside another one -/
def Pr (xs : List Hd) (i : Nat) (h : i < xs.length) (k : Nat) (hk : k < xs.length) : Prop := i ≠ k → xs[i].1 ≠ xs[k].1 ∧ symB (kn xs[i].2) (kn xs[k].2) = true
section
variable {W W' : World} {A : Option Addr} {c : Nat} {xs : List Hd}
set_option maxRecDepth 100000 in
set_option maxHeartbeats 4000000 in
theorem rright_any (h : Ls W A c xs) (hl : xs.length ≤ 5000) : Calls Tryd.prog 22 #[.slice A xs.length c] W fun e w' => e = .returned (.bool (rightB xs)) ∧ Below W.heap.size W w' := by
  have H := Lib.hid h
  obtain ⟨n, hn⟩ : ∃ n, xs.length = n := ⟨_, rfl⟩
  rw [hn] at hl ⊢
  have HN := Lib.hid hn
  clear h hn
  obtain ⟨R, hR⟩ : ∃ R, rightB xs = R := ⟨_, rfl⟩
  have HRR := Lib.hid hR
  rw [hR]
  clear hR
  go_enter Tryd.func22, Tryd.ntmps22
  go_wp2
  go_loopw [9] (fun t wr => ∃ k : Nat, k ≤ n ∧ t = .int .i64 k ∧ (∀ i (_ : i < k) (h : i < xs.length), Gd xs i h) ∧ Below W.heap.size W wr) (fun t _ => n - (intOf t).toNat)
  case atStart => exact ⟨0, by omega, rfl, fun i hi => by omega, Below.refl _ _⟩
  case round =>
    obtain ⟨i, hi, rfl, hall, hb⟩ := hrel
    have HA := Lib.hid hall
    clear hall
    by_cases hlt : i < n
    · have hil : i < xs.length := by rw [HN.out]; exact hlt
      have HIL : i < xs.length := hil
      obtain ⟨a, rfl, c0, c1⟩ := (H.out.below hb).here hil
      have HX : ∃ x, xs[i]'hil = x := ⟨_, rfl⟩
      obtain ⟨x, hx0⟩ := HX
      have HX0 := Lib.hid hx0
      rw [hx0] at c0 c1
      obtain ⟨t, m⟩ := x
      simp only at c0 c1
      have hx1 := box_below wr (.cells #[.int .i64 t, .int .i64 m] 28)
      have HB1 := Lib.hid (hb.trans (hx1.mono hb.size))
      have hbad := Lib.hid (fun (q : ¬ (1 ≤ t ∧ 1 ≤ m ∧ m ≤ 6)) => gd_not hil (fun g => q (by have := g.1; rw [hx0] at this; exact this)))
      clear hx0 hx1 hb
      by_cases ht : t < 1
      · have HE := Lib.hid (hbad.out (by omega))
        rw [HRR.out] at HE
        clear hbad
        go_wp2
        go_ret
        exact ⟨by rw [HE.out]; rfl, HB1.out⟩
      · by_cases hm1 : m < 1
        · have HE := Lib.hid (hbad.out (by omega))
          rw [HRR.out] at HE
          clear hbad
          go_wp2
          go_ret
          exact ⟨by rw [HE.out]; rfl, HB1.out⟩
        · by_cases hm6 : 6 < m
          · have HE := Lib.hid (hbad.out (by omega))
            rw [HRR.out] at HE
            clear hbad
            go_wp2
            go_ret
            exact ⟨by rw [HE.out]; rfl, HB1.out⟩
          · have HG0 := Lib.hid (show 1 ≤ t ∧ 1 ≤ m ∧ m ≤ 6 from ⟨by omega, by omega, by omega⟩)
            clear hbad
            go_wp2
            generalize hW1 : wr.alloc (.cells #[.int .i64 t, .int .i64 m] 28) = W1 at *
            have e0 : W1.cell? ⟨wr.heap.size, 0, none⟩ = some (.int .i64 t) := by rw [← hW1]; simp [go_sem]
            have e1 : W1.cell? ⟨wr.heap.size, 1, none⟩ = some (.int .i64 m) := by rw [← hW1]; simp [go_sem]
            have E0 := Lib.hid e0
            have E1 := Lib.hid e1
            generalize wr.heap.size = Ba at *
            clear hW1 e0 e1 c0 c1
            go_loopw [29] (fun t wi => ∃ k : Nat, k ≤ n ∧ t = .int .i64 k ∧ (∀ j (_ : j < k) (h : j < xs.length), Pr xs i HIL j h) ∧ Below W1.heap.size W1 wi) (fun t _ => n - (intOf t).toNat)
            case atStart => exact ⟨0, by omega, rfl, fun j hj => by omega, Below.refl _ _⟩
            case round =>
              obtain ⟨k, hk, rfl, hall2, hb2⟩ := hrel
              have HA2 := Lib.hid hall2
              clear hall2
              have HB2 := Lib.hid (HB1.out.trans (hb2.mono HB1.out.size))
              by_cases hkn : k < n
              · have hkl : k < xs.length := by rw [HN.out]; exact hkn
                obtain ⟨a', ha', d0, d1⟩ := (H.out.below HB2.out).here hkl
                cases ha'
                have e0 := (hb2.cell (p := ⟨Ba, 0, none⟩) (cell_lt E0.out)).trans E0.out
                have e1 := (hb2.cell (p := ⟨Ba, 1, none⟩) (cell_lt E1.out)).trans E1.out
                have hlt0 := cell_lt e0
                have HP := Lib.hid (show Pr xs i HIL k hkl ↔ (i ≠ k → t ≠ (xs[k]'hkl).1 ∧ symB (kn m) (kn (xs[k]'hkl).2) = true) by unfold Pr; rw [HX0.out])
                have HGd := Lib.hid (fun (q : ¬ Pr xs i HIL k hkl) => gd_not HIL (fun g => q (g.2 k hkl)))
                have HNX := Lib.hid (fun (q : Pr xs i HIL k hkl) => (show ∀ j (_ : j < k + 1) (h : j < xs.length), Pr xs i HIL j h from fun j hj h => by
                  rcases Nat.lt_or_ge j k with h' | h'
                  · exact HA2.out j h' h
                  · obtain rfl : j = k := by omega
                    exact q))
                rw [HRR.out] at HGd
                generalize Pr xs i HIL k hkl = PP at *
                generalize xs[k]'hkl = y at d0 d1 HP
                obtain ⟨u, o⟩ := y
                simp only at d0 d1 HP
                have hx2 := box_below wr (.cells #[.int .i64 u, .int .i64 o] 28)
                have HB3 := Lib.hid (hb2.trans (hx2.mono hb2.size))
                have HB4 := Lib.hid (HB2.out.trans (hx2.mono HB2.out.size))
                have HS := Lib.hid (rsym_any m o W1 (wr.alloc (.cells #[.int .i64 u, .int .i64 o] 28)) HB3.out)
                generalize symB (kn m) (kn o) = sb at *
                clear hb2 hx2
                by_cases hik : i = k
                · have HQ := Lib.hid (HNX.out (HP.out.2 (fun q => absurd hik q)))
                  subst hik
                  clear HGd HNX HP
                  go_wp2
                  go_roundw
                  case rel => exact ⟨i + 1, by omega, by go_num, HQ.out, HB3.out⟩
                  case measure => simp [intOf]; omega
                · have hne : ((i : Int) != (k : Int)) = true := by simp; omega
                  by_cases htu : t = u
                  · have HE := Lib.hid (HGd.out (fun q => (HP.out.1 q hik).1 htu))
                    subst htu
                    clear HGd HNX HP hik
                    go_wp2
                    go_ret
                    exact ⟨by rw [HE.out]; rfl, HB4.out⟩
                  · have htu' : (t == u) = false := by simpa using htu
                    cases sb
                    · have HE := Lib.hid (HGd.out (fun q => by have := (HP.out.1 q hik).2; cases this))
                      clear HGd HNX HP hik htu
                      go_wp2_with fail
                      refine HS.out.mono ?_
                      rintro e w4 ⟨rfl, hb4⟩
                      have HB5 := Lib.hid (HB1.out.trans (hb4.mono HB1.out.size))
                      clear hb4
                      go_wp2_with fail
                      go_ret
                      exact ⟨by rw [HE.out]; rfl, HB5.out⟩
                    · have HQ := Lib.hid (HNX.out (HP.out.2 (fun _ => ⟨htu, rfl⟩)))
                      clear HGd HNX HP hik htu
                      go_wp2_with fail
                      refine HS.out.mono ?_
                      rintro e w4 ⟨rfl, hb4⟩
                      have HB5 := Lib.hid hb4
                      clear hb4
                      go_wp2_with fail
                      go_roundw
                      case rel => exact ⟨k + 1, by omega, by go_num, HQ.out, HB5.out⟩
                      case measure => simp [intOf]; omega
              · obtain rfl : k = n := by omega
                have HQ := Lib.hid (show ∀ j (_ : j < i + 1) (h : j < xs.length), Gd xs j h from fun j hj h => by
                  rcases Nat.lt_or_ge j i with h' | h'
                  · exact HA.out j h' h
                  · obtain rfl : j = i := by omega
                    exact ⟨by rw [HX0.out]; exact HG0.out, fun k' hk' => HA2.out k' (by have := HN.out; omega) hk'⟩)
                clear hb2
                go_wp2
                go_roundw
                case rel => exact ⟨i + 1, by omega, by go_num, HQ.out, HB2.out⟩
                case measure => simp [intOf]; omega
    · obtain rfl : i = n := by omega
      have HE := Lib.hid ((right_gd xs).2 (fun j hj => HA.out j (by have := HN.out; omega) hj))
      rw [HRR.out] at HE
      go_wp2
      go_ret
      exact ⟨by rw [HE.out]; rfl, hb⟩
end
end Go.Proofs.YtfapgecpndlibaaDoor
