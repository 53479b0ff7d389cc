import Derived.Test.YtlhhopanegnliaaGreatDoorZNSh
namespace Go.Proofs.YtlhhopanegnliaaGreatDoor.Lk
open Go Go.RowKit Go.Shelf Pa
set_option maxRecDepth 100000

section
variable {W W' : World} {K g n cap : Nat} {f : Nat → Hd}
theorem sym_any (hn : n ≤ 1000) : ∀ d, Shorter K g n cap d
  | 0 => fun W f a m b h => by omega
  | d + 1 => fun W f a m b h hrow hK hr ham hmb hb h1 h2 => by
    by_cases c1 : m = a + 1
    · exact sym_a hrow hK hr c1 hmb hb hn h2
    · by_cases c2 : b = m + 1
      · exact sym_b hrow hK hr (by omega) c2 hb hn h1
      · exact sym_c hrow hK hr (by omega) (by omega) hb hn h1 h2 (fun W f a' m' b' h' => sym_any hn d W f a' m' b' (by omega))
def Sorting (W : World) (K g n cap : Nat) (f : Nat → Hd) (P : (Nat → Hd) → Prop) (wr : World) : Prop :=
  ∃ f', Rw wr K g n cap f' ∧ Stb (lst n f') (lst n f) ∧ Mv 0 n f f' ∧ P f' ∧ Below K W wr
def P1 (k : Nat) (f : Nat → Hd) : Prop := ∀ j, j < k → Sf f (20 * j) (20 * j + 20)
def AllB (n s : Nat) (f : Nat → Hd) : Prop := ∀ j, Sf f (s * j) (min (s * j + s) n)
def P2 (n s k : Nat) (f : Nat → Hd) : Prop := (∀ j, j < k → Sf f (2 * s * j) (2 * s * j + 2 * s)) ∧ ∀ j, 2 * k ≤ j → Sf f (s * j) (min (s * j + s) n)
theorem Sorting.imp {P Q : (Nat → Hd) → Prop} {wr : World} (h : Sorting W K g n cap f P wr) (hi : ∀ f', P f' → Q f') : Sorting W K g n cap f Q wr := by
  obtain ⟨f', h1, h2, h3, h4, h5⟩ := h
  exact ⟨f', h1, h2, h3, hi f' h4, h5⟩
theorem Sorting.ins {P Q : (Nat → Hd) → Prop} {wr : World} (hr : Rf n f) (hn : n ≤ 1000) (hK : K ≤ W.heap.size) (h : Sorting W K g n cap f P wr) {a b : Nat} (hab : a ≤ b) (hb : b ≤ n) (hi : ∀ f' f'', P f' → Mv a b f' f'' → Sf f'' a b → Q f'') :
    Calls Tryz.prog 196 #[.slice (some ⟨g, 0, none⟩) n cap, .int .i64 (a : Nat), .int .i64 (b : Nat), up] wr fun e w' => e = .returned (.tuple #[]) ∧ Sorting W K g n cap f Q w' := by
  obtain ⟨f', h1, h2, h3, h4, h5⟩ := h
  refine (insertion_any h1 (Nat.le_trans hK h5.size) (hr.stb h2) hab hb hn).mono ?_
  rintro e w' ⟨rfl, f2, k1, k2, k3, k4, k5⟩
  exact ⟨rfl, f2, k1, k2.trans h2, h3.trans (k3.wide (Nat.zero_le _) hb), hi f' f2 h4 k3 k4, h5.trans k5⟩
theorem Sorting.sym {P Q : (Nat → Hd) → Prop} {wr : World} (hr : Rf n f) (hn : n ≤ 1000) (hK : K ≤ W.heap.size) (h : Sorting W K g n cap f P wr) {a m b : Nat} (ham : a < m) (hmb : m < b) (hb : b ≤ n) (h1 : ∀ f', P f' → Sf f' a m ∧ Sf f' m b) (hi : ∀ f' f'', P f' → Mv a b f' f'' → Sf f'' a b → Q f'') :
    Calls Tryz.prog 197 #[.slice (some ⟨g, 0, none⟩) n cap, .int .i64 (a : Nat), .int .i64 (m : Nat), .int .i64 (b : Nat), up] wr fun e w' => e = .returned (.tuple #[]) ∧ Sorting W K g n cap f Q w' := by
  obtain ⟨f', k1, h2, h3, h4, h5⟩ := h
  refine (sym_any (K := K) (g := g) (cap := cap) hn (b - a + 1) wr f' a m b (by omega) k1 (Nat.le_trans hK h5.size) (hr.stb h2) ham hmb hb (h1 f' h4).1 (h1 f' h4).2).mono ?_
  rintro e w' ⟨rfl, f2, g1, g2, g3, g4, g5⟩
  exact ⟨rfl, f2, g1, g2.trans h2, h3.trans (g3.wide (Nat.zero_le _) hb), hi f' f2 h4 g3 g4, h5.trans g5⟩
theorem p1_next {k a b : Nat} {f f' : Nat → Hd} (ha : a = 20 * k) (hb : b = a + 20) (h : P1 k f) (hm : Mv a b f f') (hs : Sf f' a b) : P1 (k + 1) f' := by
  intro j hj
  by_cases e : j = k
  · subst e; rw [← ha, ← hb]; exact hs
  · exact (h j (by omega)).keep fun x _ h2 => hm.out x (.inl (by omega))
theorem p1_last {k a : Nat} {f f' : Nat → Hd} (ha : a = 20 * k) (hn : n < a + 20) (h : P1 k f) (hm : Mv a n f f') (hs : Sf f' a n) : AllB n 20 f' := by
  intro j
  rcases Nat.lt_trichotomy j k with hj | rfl | hj
  · exact ((h j hj).keep fun x _ h2 => hm.out x (.inl (by omega))).sub (Nat.le_refl _) (by omega)
  · rw [← ha]; exact hs.sub (Nat.le_refl _) (by omega)
  · intro x y h1 h2 h3; omega
theorem two_mul_k (s k : Nat) : s * (2 * k) = 2 * s * k := by rw [Nat.mul_comm 2 s, Nat.mul_assoc]
theorem p2_start {s : Nat} {f : Nat → Hd} (h : AllB n s f) : P2 n s 0 f := ⟨fun j hj => by omega, fun j _ => h j⟩
theorem p2_both {s k a : Nat} {f : Nat → Hd} (ha : a = 2 * s * k) {b : Nat} (hb1 : a + s ≤ b) (hb2 : b ≤ a + 2 * s) (hb3 : b ≤ n) (h : P2 n s k f) : Sf f a (a + s) ∧ Sf f (a + s) b := by
  have q1 := h.2 (2 * k) (Nat.le_refl _)
  have q2 := h.2 (2 * k + 1) (by omega)
  rw [two_mul_k, ← ha] at q1
  rw [Nat.mul_succ, two_mul_k, ← ha] at q2
  exact ⟨q1.sub (Nat.le_refl _) (by omega), q2.sub (Nat.le_refl _) (by omega)⟩
theorem mul_far {s j k : Nat} (h : j < k) : 2 * s * j + 2 * s ≤ 2 * s * k := by
  have := Nat.mul_le_mul_left (2 * s) h
  rw [Nat.mul_succ] at this
  exact this
theorem p2_next {s k a b : Nat} {f f' : Nat → Hd} (ha : a = 2 * s * k) (hb : b = a + 2 * s) (h : P2 n s k f) (hm : Mv a b f f') (hs : Sf f' a b) : P2 n s (k + 1) f' := by
  refine ⟨fun j hj => ?_, fun j hj => ?_⟩
  · by_cases e : j = k
    · subst e; rw [← ha, ← hb]; exact hs
    · have := mul_far (s := s) (show j < k by omega)
      exact (h.1 j (by omega)).keep fun x _ h2 => hm.out x (.inl (by omega))
  · have : b ≤ s * j := by
      have h1 := Nat.mul_le_mul_left s hj
      rw [two_mul_k, Nat.mul_succ] at h1
      omega
    exact (h.2 j (by omega)).keep fun x h1 _ => hm.out x (.inr (by omega))
theorem p2_last {s k a : Nat} {f f' : Nat → Hd} (ha : a = 2 * s * k) (hn : n < a + 2 * s) (h : P2 n s k f) (hm : Mv a n f f') (hs : Sf f' a n) : AllB n (2 * s) f' := by
  intro j
  rcases Nat.lt_trichotomy j k with hj | rfl | hj
  · have := mul_far (s := s) hj
    exact ((h.1 j hj).keep fun x _ h2 => hm.out x (.inl (by omega))).sub (Nat.le_refl _) (by omega)
  · rw [← ha]; exact hs.sub (Nat.le_refl _) (by omega)
  · have := mul_far (s := s) hj
    intro x y h1 h2 h3; omega
theorem p2_end {s k a : Nat} {f : Nat → Hd} (ha : a = 2 * s * k) (hn : n ≤ a + s) (hs0 : 0 < s) (h : P2 n s k f) : AllB n (2 * s) f := by
  have q1 := h.2 (2 * k) (Nat.le_refl _)
  rw [two_mul_k, ← ha] at q1
  exact p2_last ha (by omega) h (Mv.refl _ _ _) (q1.sub (Nat.le_refl _) (by omega))
theorem all_sorted {s : Nat} {f : Nat → Hd} (hn : n ≤ s) (h : AllB n s f) : Sf f 0 n := (h 0).sub (by omega) (by omega)
set_option maxHeartbeats 4000000 in
theorem stable_any (h : Rw W K g n cap f) (hK : K ≤ W.heap.size) (hr : Rf n f) (hn : n ≤ 400) :
    Calls Tryz.prog 157 #[.slice (some ⟨g, 0, none⟩) n cap, .int .i64 (n : Nat), up] W (Merges W K g n cap f 0 n) := by
  have HRf := Lib.hid hr
  have HS0 : Hid (Sorting W K g n cap f (P1 0) W) := ⟨f, h, Stb.refl _, Mv.refl _ _ _, fun j hj => absurd hj (Nat.not_lt_zero j), Below.refl _ _⟩
  clear h hr
  go_enter Tryz.func157, Tryz.ntmps157
  go_wp2
  go_loopw [7, 8] (fun u v wr => ∃ k a b : Nat, a ≤ n ∧ u = .int .i64 (a : Nat) ∧ v = .int .i64 (b : Nat) ∧ Hid (a = 20 * k) ∧ Hid (b = a + 20) ∧ b ≤ 500 ∧ Hid (Sorting W K g n cap f (P1 k) wr)) (fun _ v _ => 600 - (intOf v).toNat)
  case atStart => exact ⟨0, 0, 20, by omega, rfl, rfl, rfl, rfl, by omega, HS0⟩
  case round =>
    obtain ⟨k, a, b, hle, rfl, rfl, hak, hba, hb5, HS⟩ := hrel
    by_cases hbn : b ≤ n
    · have z1 : (b : Int) ≤ (n : Int) := by omega
      have HI := Lib.hid (HS.out.ins HRf.out (Nat.le_trans hn (by decide)) hK (Q := P1 (k + 1)) (a := a) (b := b) (by rw [hba.out]; omega) hbn fun f' f'' => p1_next hak.out hba.out)
      go_wp2_with fail
      refine HI.out.mono ?_
      rintro e w1 ⟨rfl, hs1⟩
      have HS1 := Lib.hid hs1
      clear hs1 HI
      go_wp2_with fail
      go_roundw
      case rel => exact ⟨k + 1, b, b + 20, hbn, rfl, by go_num, by have := hak.out; have := hba.out; show b = 20 * (k + 1); omega, rfl, by omega, HS1⟩
      case measure => simp [intOf]; omega
    · have z1 : ¬ (b : Int) ≤ (n : Int) := by omega
      have HI := Lib.hid (HS.out.ins HRf.out (Nat.le_trans hn (by decide)) hK (Q := AllB n 20) (a := a) (b := n) hle (Nat.le_refl _) fun f' f'' => p1_last hak.out (by rw [← hba.out]; omega))
      clear HS hak hba
      go_wp2_with fail
      refine HI.out.mono ?_
      rintro e w1 ⟨rfl, hs1⟩
      have HS1 := Lib.hid hs1
      clear hs1 HI z1 hbn
      obtain ⟨w9, rfl⟩ : ∃ w9, w9 = wr := ⟨_, rfl⟩
      go_wp2_with fail
      go_loopw [6] (fun u wr => ∃ s : Nat, 0 < s ∧ s ≤ 1000 ∧ u = .int .i64 (s : Nat) ∧ Hid (Sorting W K g n cap f (AllB n s) wr)) (fun u _ => 2000 - (intOf u).toNat)
      case atStart => exact ⟨20, by omega, by omega, rfl, HS1⟩
      case round =>
        obtain ⟨s, hs0, hs1, rfl, HA⟩ := hrel
        clear HS1
        by_cases hsn : s < n
        · have z1 : (s : Int) < (n : Int) := by omega
          obtain ⟨d, hd⟩ : ∃ d, d = 2 * s := ⟨_, rfl⟩
          have e1 : 2 * (s : Int) = (d : Int) := by omega
          have HD := Lib.hid hd
          have hd1 : d ≤ 1000 := by omega
          have HP0 : Hid (Sorting W K g n cap f (P2 n s 0) wr) := HA.out.imp fun f' => p2_start
          clear HA hd
          obtain ⟨w8, rfl⟩ : ∃ w8, w8 = wr := ⟨_, rfl⟩
          go_wp2_with fail
          go_loopw [7, 8] (fun u v wr => ∃ k a b : Nat, a ≤ n ∧ u = .int .i64 (a : Nat) ∧ v = .int .i64 (b : Nat) ∧ Hid (a = 2 * s * k) ∧ Hid (b = a + d) ∧ b ≤ 1500 ∧ Hid (Sorting W K g n cap f (P2 n s k) wr)) (fun _ v _ => 1600 - (intOf v).toNat)
          case atStart => exact ⟨0, 0, d, by omega, rfl, rfl, rfl, (Nat.zero_add _).symm, by omega, HP0⟩
          case round =>
            obtain ⟨k, a, b, hle, rfl, rfl, hak, hba, hb5, HS⟩ := hrel
            clear HP0
            obtain ⟨m, hm⟩ : ∃ m, m = a + s := ⟨_, rfl⟩
            have e2 : (a : Int) + (s : Int) = (m : Int) := by omega
            have hm5 : m ≤ 1500 := by omega
            have HM := Lib.hid hm
            clear hm
            by_cases hbn : b ≤ n
            · have z2 : (b : Int) ≤ (n : Int) := by omega
              have HI := Lib.hid (HS.out.sym HRf.out (Nat.le_trans hn (by decide)) hK (Q := P2 n s (k + 1)) (a := a) (m := m) (b := b) (by rw [HM.out]; omega) (by rw [HM.out, hba.out, HD.out]; omega) hbn
                (fun f' hp => by rw [HM.out]; exact p2_both hak.out (by rw [hba.out, HD.out]; omega) (by rw [hba.out, HD.out]; omega) hbn hp) (fun f' f'' => p2_next hak.out (by rw [hba.out, HD.out])))
              go_wp2_with fail
              refine HI.out.mono ?_
              rintro e w1 ⟨rfl, hs1⟩
              have HS1 := Lib.hid hs1
              clear hs1 HI
              go_wp2_with fail
              go_roundw
              case rel => exact ⟨k + 1, b, b + d, hbn, rfl, by go_num, by have := hak.out; have := hba.out; have := HD.out; show b = 2 * s * (k + 1); rw [Nat.mul_succ]; omega, rfl, by omega, HS1⟩
              case measure => have := hs0; have := HD.out; simp [intOf]; omega
            · have z2 : ¬ (b : Int) ≤ (n : Int) := by omega
              by_cases hmn : m < n
              · have z3 : (m : Int) < (n : Int) := by omega
                have HI := Lib.hid (HS.out.sym HRf.out (Nat.le_trans hn (by decide)) hK (Q := AllB n (2 * s)) (a := a) (m := m) (b := n) (by rw [HM.out]; omega) hmn (Nat.le_refl _)
                  (fun f' hp => by rw [HM.out]; exact p2_both hak.out (by rw [← HM.out]; omega) (by have := hba.out; have := HD.out; omega) (Nat.le_refl _) hp) (fun f' f'' => p2_last hak.out (by have := hba.out; have := HD.out; omega)))
                clear HS hak hba
                go_wp2_with fail
                refine HI.out.mono ?_
                rintro e w1 ⟨rfl, hs1⟩
                have HS1 := Lib.hid hs1
                clear hs1 HI
                go_wp2_with fail
                go_roundw
                case rel => exact ⟨2 * s, by omega, by omega, by go_num, HS1⟩
                case measure => simp [intOf]; omega
              · have z3 : ¬ (m : Int) < (n : Int) := by omega
                have HS1 : Hid (Sorting W K g n cap f (AllB n (2 * s)) wr) := HS.out.imp fun f' => p2_end hak.out (by rw [← HM.out]; omega) hs0
                clear HS hak hba
                go_wp2_with fail
                go_roundw
                case rel => exact ⟨2 * s, by omega, by omega, by go_num, HS1⟩
                case measure => simp [intOf]; omega
        · have z1 : ¬ (s : Int) < (n : Int) := by omega
          have HE : Hid (Merges W K g n cap f 0 n (.returned (.tuple #[])) wr) := by
            obtain ⟨f', k1, k2, k3, k4, k5⟩ := HA.out
            exact ⟨rfl, f', k1, k2, k3, all_sorted (by omega) k4, k5⟩
          clear HA
          go_wp2_with fail
          go_end0
          exact HE.out
theorem sort_any (h : Rw W K g n cap f) (hK : K ≤ W.heap.size) (hr : Rf n f) (hn : n ≤ 400) :
    Calls Tryz.prog 119 #[.slice (some ⟨g, 0, none⟩) n cap, up] W (Merges W K g n cap f 0 n) := by
  have H := Lib.hid (stable_any h hK hr hn)
  clear h hr
  go_enter Tryz.func119, Tryz.ntmps119
  go_wp2_with fail
  refine H.out.mono ?_
  rintro e w1 ⟨rfl, hm⟩
  have HM : Hid (Merges W K g n cap f 0 n (.returned (.tuple #[])) w1) := ⟨rfl, hm⟩
  clear hm
  go_wp2_with fail
  go_end0
  exact HM.out
theorem insertion_none (A : Option Addr) (c : Nat) (W : World) : Calls Tryz.prog 196 #[.slice A 0 c, .int .i64 0, .int .i64 0, up] W fun e w' => e = .returned (.tuple #[]) ∧ W = w' := by
  go_enter Tryz.func196, Tryz.ntmps196
  go_wp2
  refine wp_loop_rounds 1 ?_
  rw [rounds_succ]
  go_wp2
  go_end0
  exact ⟨rfl, rfl⟩
theorem stable_none (A : Option Addr) (c : Nat) (W : World) : Calls Tryz.prog 157 #[.slice A 0 c, .int .i64 0, up] W fun e w' => e = .returned (.tuple #[]) ∧ W = w' := by
  go_enter Tryz.func157, Tryz.ntmps157
  go_wp2
  refine wp_loop_rounds 1 ?_
  rw [rounds_succ]
  go_wp2_with fail
  refine (insertion_none A c _).mono ?_
  rintro e w1 ⟨rfl, rfl⟩
  go_wp2_with fail
  refine wp_loop_rounds 1 ?_
  rw [rounds_succ]
  go_wp2_with fail
  go_end0
  exact ⟨rfl, rfl⟩
theorem sort_none (A : Option Addr) (c : Nat) (W : World) : Calls Tryz.prog 119 #[.slice A 0 c, up] W fun e w' => e = .returned (.tuple #[]) ∧ W = w' := by
  go_enter Tryz.func119, Tryz.ntmps119
  go_wp2_with fail
  refine (stable_none A c _).mono ?_
  rintro e w1 ⟨rfl, rfl⟩
  go_wp2_with fail
  go_end0
  exact ⟨rfl, rfl⟩
end
structure Bk (xs ys : List Hd) : Prop where
  stb : Stb ys xs
  sorted : ys.Pairwise (fun a b => ltU b a = false)
section
variable {W : World} {A : Option Addr} {c : Nat} {xs : List Hd}
theorem back_any (hr : Ls W A c xs) (hl : xs.length ≤ 400) (hg : ∀ x ∈ xs, rightB x.1 = true) :
    Calls Tryz.prog 69 #[.slice A xs.length c] W fun e w' => ∃ ys, Bk xs ys ∧ Lists W ys e w' := by
  have H := Lib.hid (clone_any hr (by omega))
  clear hr
  obtain ⟨n, hn⟩ : ∃ n, xs.length = n := ⟨_, rfl⟩
  rw [hn] at H ⊢
  by_cases h0 : n = 0
  · have hx : xs = [] := List.length_eq_zero_iff.1 (hn.trans h0)
    subst h0
    go_enter Tryz.func69, Tryz.ntmps69
    go_wp2_with fail
    refine H.out.mono ?_
    rintro e w1 ⟨v, rfl, hrow, hb⟩
    obtain ⟨A1, c1, rfl, hls⟩ := hrow.ls
    rw [hn]
    have HL := Lib.hid hls
    have HB := Lib.hid hb
    have HFa := Lib.hid hrow.far
    clear hrow hb hls
    go_wp2_with fail
    refine (sort_none A1 c1 _).mono ?_
    rintro e w2 ⟨rfl, rfl⟩
    go_wp2_with fail
    go_ret
    refine ⟨[], ⟨by rw [hx]; exact Stb.refl _, by simp⟩, A1, c1, rfl, ?_, HB.out, HFa.out⟩
    have := HL.out
    rw [hx] at this
    exact this
  · go_enter Tryz.func69, Tryz.ntmps69
    go_wp2_with fail
    refine H.out.mono ?_
    rintro e w1 ⟨v, rfl, hrow, hb⟩
    have HB := Lib.hid hb
    rcases hrow.2 with ⟨-, h1⟩ | ⟨g, cap, cur, ev, hbg, hg1, -⟩
    · exact absurd (h1.symm.trans hn).symm h0
    have hf : lst n (fun k => xs.getD k (⟨0, 0, 0, 0, 0⟩, 0)) = xs := by
      apply List.ext_getElem
      · rw [lst_len, hn]
      · intro k h1 h2
        rw [lst_get]
        simp [List.getD_eq_getElem?_getD, List.getElem?_eq_getElem h2]
    rw [hn] at ev
    subst ev
    have hrow' : Rw w1 W.heap.size g n cap (fun k => xs.getD k (⟨0, 0, 0, 0, 0⟩, 0)) := by
      unfold Rw
      rw [hf]
      exact hrow
    have hrf : Rf n (fun k => xs.getD k (⟨0, 0, 0, 0, 0⟩, 0)) := fun k hk => by
      have hk' : k < xs.length := by rw [hn]; exact hk
      simp only [List.getD_eq_getElem?_getD, List.getElem?_eq_getElem hk', Option.getD_some]
      exact hg _ (List.getElem_mem hk')
    have HS := Lib.hid (sort_any hrow' hb.size hrf (by omega))
    have HF := Lib.hid hf
    clear hrow hb hbg hg1 hrow' hrf hf
    go_wp2_with fail
    refine HS.out.mono ?_
    rintro e w2 ⟨rfl, f', hr', hp', -, hs', hb'⟩
    have HD : Hid (Bk xs (lst n f')) := by
      refine ⟨by rw [HF.out] at hp'; exact hp', List.pairwise_iff_getElem.2 fun i j h1 h2 hij => ?_⟩
      rw [lst_get, lst_get]
      rw [lst_len] at h1 h2
      exact hs' i j (Nat.zero_le _) hij h2
    obtain ⟨A2, c2, e2, hls⟩ := Row.ls hr'
    rw [lst_len] at e2
    have HLs := Lib.hid hls
    have HFa := Lib.hid (Row.far hr')
    have HB2 : Hid (Below W.heap.size W w2) := HB.out.trans hb'
    injection e2 with g1 g2 g3
    subst g1 g3
    clear hr' hp' hs' hb' hls
    go_wp2_with fail
    go_ret
    exact ⟨_, HD.out, _, _, by rw [lst_len]; rfl, HLs.out, HB2.out, HFa.out⟩
end
end Go.Proofs.YtlhhopanegnliaaGreatDoor.Lk
