/- The library's stable sort, of at most thirty locks; the order in which locks go. -/
import Derived.Test.YthjlapcccmbhbaaSh
namespace Go.Proofs.Ythjlapcccmbhbaa.Lk
open Go Go.RowKit Go.Shelf Pa
set_option maxRecDepth 100000

section
variable {W W' : World} {K g n cap : Nat} {f : Nat → Hd}
theorem sym_any (hn : n ≤ 1000) : ∀ d, Shorter K g n cap d
  | 0 => fun W f a m b h => by omega
  | d + 1 => fun W f a m b h hrow hK hr ham hmb hb h1 h2 => by
    by_cases c1 : m = a + 1
    · exact sym_a hrow hK hr c1 hmb hb hn h2
    · by_cases c2 : b = m + 1
      · exact sym_b hrow hK hr (by omega) c2 hb hn h1
      · exact sym_c hrow hK hr (by omega) (by omega) hb hn h1 h2 (fun W f a' m' b' h' => sym_any hn d W f a' m' b' (by omega))
set_option maxHeartbeats 4000000 in
theorem stable_any (h : Rw W K g n cap f) (hK : K ≤ W.heap.size) (hr : Rf n f) (hn : n ≤ 30) :
    Calls Try.prog 72 #[.slice (some ⟨g, 0, none⟩) n cap, .int .i64 (n : Nat), up] W (Merges W K g n cap f 0 n) := by
  have HR := Lib.hid h
  have HRf := Lib.hid hr
  clear h hr
  go_enter Try.func72, Try.ntmps72
  go_wp2
  go_loopw [7, 8] (fun u v wr => (u = .int .i64 0 ∧ v = .int .i64 20 ∧ wr = W) ∨ (20 ≤ n ∧ u = .int .i64 20 ∧ v = .int .i64 40 ∧ Merges W K g n cap f 0 20 (.returned (.tuple #[])) wr)) (fun _ v _ => 60 - (intOf v).toNat)
  case atStart => exact .inl ⟨rfl, rfl, rfl⟩
  case round =>
    rcases hrel with ⟨rfl, rfl, rfl⟩ | ⟨h20, rfl, rfl, hM⟩
    · by_cases h20 : 20 ≤ n
      · have z1 : (20 : Int) ≤ (n : Int) := by omega
        have HI := Lib.hid (insertion_any HR.out hK HRf.out (a := 0) (b := 20) (by omega) h20 (by omega))
        go_wp2_with fail
        refine HI.out.mono ?_
        rintro e w1 ⟨rfl, hm⟩
        have HM : Hid (Merges wr K g n cap f 0 20 (.returned (.tuple #[])) w1) := ⟨rfl, hm⟩
        clear hm
        go_wp2_with fail
        go_roundw
        case rel => exact .inr ⟨h20, rfl, rfl, HM.out⟩
        case measure => simp [intOf]
      · have z1 : ¬ (20 : Int) ≤ (n : Int) := by omega
        have HI := Lib.hid (insertion_any HR.out hK HRf.out (a := 0) (b := n) (by omega) (Nat.le_refl _) (by omega))
        go_wp2_with fail
        refine HI.out.mono ?_
        rintro e w1 ⟨rfl, hm⟩
        have HM : Hid (Merges wr K g n cap f 0 n (.returned (.tuple #[])) w1) := ⟨rfl, hm⟩
        have z2 : ¬ (20 : Int) < (n : Int) := by omega
        clear hm
        go_wp2_with fail
        refine wp_loop_rounds 1 ?_
        rw [rounds_succ]
        go_wp2_with fail
        go_end0
        exact HM.out
    · obtain ⟨-, f1, hr1, hp1, hm1, hs1, hb1⟩ := hM
      have HR1 := Lib.hid hr1
      have HP1 := Lib.hid hp1
      have HM1 := Lib.hid hm1
      have HS1 := Lib.hid hs1
      have HB1 := Lib.hid hb1
      clear hr1 hp1 hm1 hs1 hb1
      have HI := Lib.hid (insertion_any HR1.out (Nat.le_trans hK HB1.out.size) (HRf.out.stb HP1.out) (a := 20) (b := n) h20 (Nat.le_refl _) (by omega))
      have z1 : ¬ (40 : Int) ≤ (n : Int) := by omega
      go_wp2_with fail
      refine HI.out.mono ?_
      rintro e w1 ⟨rfl, f2, hr2, hp2, hm2, hs2, hb2⟩
      have HR2 := Lib.hid hr2
      have HP2 := Lib.hid (hp2.trans HP1.out)
      have HM2 := Lib.hid ((HM1.out.wide (Nat.le_refl _) h20).trans (hm2.wide (Nat.zero_le _) (Nat.le_refl _)))
      have HS2 := Lib.hid hs2
      have HS1' : Hid (Sf f2 0 20) := HS1.out.keep fun k _ h2 => hm2.out k (.inl h2)
      have HB2 := Lib.hid (HB1.out.trans hb2)
      clear hr2 hp2 hm2 hs2 hb2
      by_cases hn20 : n = 20
      · have z2 : ¬ (20 : Int) < (n : Int) := by omega
        have HF : Hid (Merges W K g n cap f 0 n (.returned (.tuple #[])) w1) := ⟨rfl, f2, HR2.out, HP2.out, HM2.out, by rw [hn20]; exact HS1'.out, HB2.out⟩
        clear hn20
        go_wp2_with fail
        refine wp_loop_rounds 1 ?_
        rw [rounds_succ]
        go_wp2_with fail
        go_end0
        exact HF.out
      · have z2 : (20 : Int) < (n : Int) := by omega
        have HSy := Lib.hid (sym_any (K := K) (g := g) (cap := cap) (show n ≤ 1000 by omega) (n + 1) w1 f2 0 20 n (by omega) HR2.out (Nat.le_trans hK HB2.out.size) (HRf.out.stb HP2.out) (by omega) (by omega) (Nat.le_refl _) HS1'.out HS2.out)
        go_wp2_with fail
        go_loopw [6] (fun u wr => (u = .int .i64 20 ∧ wr = w1) ∨ (u = .int .i64 40 ∧ Merges W K g n cap f 0 n (.returned (.tuple #[])) wr)) (fun u _ => 80 - (intOf u).toNat)
        case atStart => exact .inl ⟨rfl, rfl⟩
        case round =>
          rcases hrel with ⟨rfl, rfl⟩ | ⟨rfl, hM⟩
          · go_wp2_with fail
            refine wp_loop_rounds 1 ?_
            rw [rounds_succ]
            go_wp2_with fail
            refine HSy.out.mono ?_
            rintro e w3 ⟨rfl, f3, hr3, hp3, hm3, hs3, hb3⟩
            have HF : Hid (Merges W K g n cap f 0 n (.returned (.tuple #[])) w3) := ⟨rfl, f3, hr3, hp3.trans HP2.out, HM2.out.trans hm3, hs3, HB2.out.trans hb3⟩
            clear hr3 hp3 hm3 hs3 hb3
            go_wp2_with fail
            go_roundw
            case rel => exact .inr ⟨rfl, HF.out⟩
            case measure => simp [intOf]
          · have z3 : ¬ (40 : Int) < (n : Int) := by omega
            have HM := Lib.hid hM
            clear hM
            go_wp2_with fail
            go_end0
            exact HM.out
theorem sort_any (h : Rw W K g n cap f) (hK : K ≤ W.heap.size) (hr : Rf n f) (hn : n ≤ 30) :
    Calls Try.prog 59 #[.slice (some ⟨g, 0, none⟩) n cap, up] W (Merges W K g n cap f 0 n) := by
  have H := Lib.hid (stable_any h hK hr hn)
  clear h hr
  go_enter Try.func59, Try.ntmps59
  go_wp2_with fail
  refine H.out.mono ?_
  rintro e w1 ⟨rfl, hm⟩
  have HM : Hid (Merges W K g n cap f 0 n (.returned (.tuple #[])) w1) := ⟨rfl, hm⟩
  clear hm
  go_wp2_with fail
  go_end0
  exact HM.out
theorem insertion_none (A : Option Addr) (c : Nat) (W : World) : Calls Try.prog 76 #[.slice A 0 c, .int .i64 0, .int .i64 0, up] W fun e w' => e = .returned (.tuple #[]) ∧ W = w' := by
  go_enter Try.func76, Try.ntmps76
  go_wp2
  refine wp_loop_rounds 1 ?_
  rw [rounds_succ]
  go_wp2
  go_end0
  exact ⟨rfl, rfl⟩
theorem stable_none (A : Option Addr) (c : Nat) (W : World) : Calls Try.prog 72 #[.slice A 0 c, .int .i64 0, up] W fun e w' => e = .returned (.tuple #[]) ∧ W = w' := by
  go_enter Try.func72, Try.ntmps72
  go_wp2
  refine wp_loop_rounds 1 ?_
  rw [rounds_succ]
  go_wp2_with fail
  refine (insertion_none A c _).mono ?_
  rintro e w1 ⟨rfl, rfl⟩
  go_wp2_with fail
  refine wp_loop_rounds 1 ?_
  rw [rounds_succ]
  go_wp2_with fail
  go_end0
  exact ⟨rfl, rfl⟩
theorem sort_none (A : Option Addr) (c : Nat) (W : World) : Calls Try.prog 59 #[.slice A 0 c, up] W fun e w' => e = .returned (.tuple #[]) ∧ W = w' := by
  go_enter Try.func59, Try.ntmps59
  go_wp2_with fail
  refine (stable_none A c _).mono ?_
  rintro e w1 ⟨rfl, rfl⟩
  go_wp2_with fail
  go_end0
  exact ⟨rfl, rfl⟩
end
/-- the deepest first, then by the order of the nodes; those of one node as they stood -/
structure Bk (xs ys : List Hd) : Prop where
  stb : Stb ys xs
  sorted : ys.Pairwise (fun a b => ltU b a = false)
section
variable {W : World} {A : Option Addr} {c : Nat} {xs : List Hd}
theorem back_any (hr : Ls W A c xs) (hl : xs.length ≤ 30) (hg : ∀ x ∈ xs, rightB x.1 = true) :
    Calls Try.prog 31 #[.slice A xs.length c] W fun e w' => ∃ ys, Bk xs ys ∧ Lists W ys e w' := by
  have H := Lib.hid (clone_any hr (by omega))
  clear hr
  obtain ⟨n, hn⟩ : ∃ n, xs.length = n := ⟨_, rfl⟩
  rw [hn] at H ⊢
  by_cases h0 : n = 0
  · have hx : xs = [] := List.length_eq_zero_iff.1 (hn.trans h0)
    subst h0
    go_enter Try.func31, Try.ntmps31
    go_wp2_with fail
    refine H.out.mono ?_
    rintro e w1 ⟨v, rfl, hrow, hb⟩
    obtain ⟨A1, c1, rfl, hls⟩ := hrow.ls
    rw [hn]
    have HL := Lib.hid hls
    have HB := Lib.hid hb
    clear hrow hb hls
    go_wp2_with fail
    refine (sort_none A1 c1 _).mono ?_
    rintro e w2 ⟨rfl, rfl⟩
    go_wp2_with fail
    go_ret
    refine ⟨[], ⟨by rw [hx]; exact Stb.refl _, by simp⟩, A1, c1, rfl, ?_, HB.out⟩
    have := HL.out
    rw [hx] at this
    exact this
  · go_enter Try.func31, Try.ntmps31
    go_wp2_with fail
    refine H.out.mono ?_
    rintro e w1 ⟨v, rfl, hrow, hb⟩
    have HB := Lib.hid hb
    rcases hrow.2 with ⟨-, h1⟩ | ⟨g, cap, cur, ev, hbg, hg1, -⟩
    · exact absurd (h1.symm.trans hn).symm h0
    have hf : lst n (fun k => xs.getD k (⟨0, 0, 0, 0, 0⟩, 0)) = xs := by
      apply List.ext_getElem
      · rw [lst_len, hn]
      · intro k h1 h2
        rw [lst_get]
        simp [List.getD_eq_getElem?_getD, List.getElem?_eq_getElem h2]
    rw [hn] at ev
    subst ev
    have hrow' : Rw w1 W.heap.size g n cap (fun k => xs.getD k (⟨0, 0, 0, 0, 0⟩, 0)) := by
      unfold Rw
      rw [hf]
      exact hrow
    have hrf : Rf n (fun k => xs.getD k (⟨0, 0, 0, 0, 0⟩, 0)) := fun k hk => by
      have hk' : k < xs.length := by rw [hn]; exact hk
      simp only [List.getD_eq_getElem?_getD, List.getElem?_eq_getElem hk', Option.getD_some]
      exact hg _ (List.getElem_mem hk')
    have HS := Lib.hid (sort_any hrow' hb.size hrf (by omega))
    have HF := Lib.hid hf
    clear hrow hb hbg hg1 hrow' hrf hf
    go_wp2_with fail
    refine HS.out.mono ?_
    rintro e w2 ⟨rfl, f', hr', hp', -, hs', hb'⟩
    have HD : Hid (Bk xs (lst n f')) := by
      refine ⟨by rw [HF.out] at hp'; exact hp', List.pairwise_iff_getElem.2 fun i j h1 h2 hij => ?_⟩
      rw [lst_get, lst_get]
      rw [lst_len] at h1 h2
      exact hs' i j (Nat.zero_le _) hij h2
    obtain ⟨A2, c2, e2, hls⟩ := Row.ls hr'
    rw [lst_len] at e2
    have HLs := Lib.hid hls
    have HB2 : Hid (Below W.heap.size W w2) := HB.out.trans hb'
    injection e2 with g1 g2 g3
    subst g1 g3
    clear hr' hp' hs' hb' hls
    go_wp2_with fail
    go_ret
    exact ⟨_, HD.out, _, _, by rw [lst_len]; rfl, HLs.out, HB2.out⟩
end
end Go.Proofs.Ythjlapcccmbhbaa.Lk
