/- A map is asked: how many keys and buckets there are, a key's bucket, and where the pointer to its entry lies. -/
import Derived.Test.YtbeeekpofbhljaaA3
namespace Go.Proofs.Ytbeeekpofbhljaa
open Go Go.RowKit
variable {W W' : World} {L b g c n : Nat} {O : Nat → Prop} {cs : Nat → List En} {es : List En} {t : Int} {F : Int → Option Int}
abbrev wp (b : Nat) : Value := .pointer (some ⟨b, 0, none⟩)

theorem made_none (W : World) : Calls Try.prog 14 #[.pointer none] W fun e w' => e = .returned (.bool false) ∧ W = w' := by
  go_enter Try.func14, Try.ntmps14
  go_wp2
  go_ret
  exact ⟨rfl, rfl⟩
theorem made_cell {A : Option Addr} (hc : W.cell? ⟨b, 0, none⟩ = some (.slice A n c)) (hn : 0 < n) : Calls Try.prog 14 #[wp b] W fun e w' => e = .returned (.bool true) ∧ W = w' := by
  have d : decide (0 < n) = true := by simpa using hn
  go_enter Try.func14, Try.ntmps14
  go_wp2
  go_ret
  exact ⟨rfl, rfl⟩
theorem power_nat (n : Nat) (W : World) (h0 : 0 < n) (hn : n < 256) : Calls Try.prog 22 #[.int .i64 (n : Int)] W fun e w' => e = .returned (.int .i64 (pw n : Int)) ∧ W = w' := by
  have := power_any (n : Int) W (by omega) (by omega)
  rwa [Int.toNat_natCast] at this
theorem bucket_none (W : World) (k : Int) : Calls Try.prog 13 #[.pointer none, .int .u64 k] W fun e w' => e = .returned (.int .i64 0) ∧ W = w' := by
  go_enter Try.func13, Try.ntmps13
  go_wp2_with (go_at_call 14; ((with_reducible refine (made_none W).mono ?_); rintro e w' ⟨rfl, rfl⟩))
  go_ret
  exact ⟨rfl, rfl⟩
theorem bk_int {k : Int} (h0 : 0 ≤ hsh k) (h3 : pw n ≤ n) : (bk n k : Int) = if (n : Int) ≤ hsh k % (2 * (pw n : Int)) then hsh k % (2 * (pw n : Int)) - (pw n : Int) else hsh k % (2 * (pw n : Int)) := by
  unfold bk
  obtain ⟨h, hh⟩ : ∃ h : Nat, hsh k = h := ⟨(hsh k).toNat, by omega⟩
  rw [hh, Int.toNat_natCast]
  have e : (h : Int) % (2 * (pw n : Int)) = ((h % (2 * pw n) : Nat) : Int) := by push_cast; rfl
  rw [e]
  split <;> split <;> omega
theorem bucket_cell {A : Option Addr} (hc : W.cell? ⟨b, 0, none⟩ = some (.slice A n c)) (hn : 0 < n) (hn1 : n < 256) {k : Int} (hk : U k) : Calls Try.prog 13 #[wp b, .int .u64 k] W fun e w' => e = .returned (.int .i64 (bk n k : Int)) ∧ W = w' := by
  obtain ⟨-, -, b3, b4, b5⟩ := pw_is hn hn1
  obtain ⟨r0, r1⟩ := hsh_range k hk.1 hk.2
  have HM := Lib.hid (made_cell hc hn)
  have HP := Lib.hid (power_nat n W hn hn1)
  have HH := Lib.hid (hash_any k W hk.1 hk.2)
  have HB := Lib.hid (bk_int (n := n) (k := k) r0 b3)
  generalize bk n k = r at *
  generalize pw n = p at *
  generalize hsh k = h at *
  clear hk
  go_enter Try.func13, Try.ntmps13
  go_wp2_with (first
    | (go_at_call 14; ((with_reducible refine HM.out.mono ?_); rintro e w' ⟨rfl, rfl⟩))
    | (go_at_call 22; ((with_reducible refine HP.out.mono ?_); rintro e w' ⟨rfl, rfl⟩))
    | (go_at_call 23; ((with_reducible refine HH.out.mono ?_); rintro e w' ⟨rfl, rfl⟩)))
  all_goals
    have hx0 : 0 ≤ h % (2 * (p : Int)) := Int.emod_nonneg h (by omega)
    have hx1 : h % (2 * (p : Int)) < 2 * (p : Int) := Int.emod_lt_of_pos h (by omega)
    generalize h % (2 * (p : Int)) = x at *
    rename_i hb
    go_ret
    have e0 : wrap64 x = x := by unfold wrap64; omega
    simp only [e0] at *
    refine ⟨congrArg Ending.returned (congrArg (Value.int .i64) ?_), trivial⟩
    rw [HB.out]
  · rw [if_pos hb]; unfold wrap64; omega
  · rw [if_neg (by omega)]
theorem Mp.bucket (h : Mp W L O b g c n cs es t F) {k : Int} (hk : U k) : Calls Try.prog 13 #[wp b, .int .u64 k] W fun e w' => e = .returned (.int .i64 (bk n k : Int)) ∧ W = w' :=
  bucket_cell h.c0 (by have := h.n4; omega) (by have := h.nb; omega) hk
theorem Mp.made (h : Mp W L O b g c n cs es t F) : Calls Try.prog 14 #[wp b] W fun e w' => e = .returned (.bool true) ∧ W = w' := made_cell h.c0 (by have := h.n4; omega)
theorem len_none (W : World) : Calls Try.prog 11 #[.pointer none] W fun e w' => e = .returned (.int .i64 0) ∧ W = w' := by
  go_enter Try.func11, Try.ntmps11
  go_wp2_with (go_at_call 14; ((with_reducible refine (made_none W).mono ?_); rintro e w' ⟨rfl, rfl⟩))
  go_ret
  exact ⟨rfl, rfl⟩
theorem buckets_none (W : World) : Calls Try.prog 12 #[.pointer none] W fun e w' => e = .returned (.int .i64 0) ∧ W = w' := by
  go_enter Try.func12, Try.ntmps12
  go_wp2_with (go_at_call 14; ((with_reducible refine (made_none W).mono ?_); rintro e w' ⟨rfl, rfl⟩))
  go_ret
  exact ⟨rfl, rfl⟩
theorem Mp.len (h : Mp W L O b g c n cs es t F) : Calls Try.prog 11 #[wp b] W fun e w' => e = .returned (.int .i64 t) ∧ W = w' := by
  have HM := Lib.hid h.made
  have q1 := h.c1
  clear h
  go_enter Try.func11, Try.ntmps11
  go_wp2_with (go_at_call 14; ((with_reducible refine HM.out.mono ?_); rintro e w' ⟨rfl, rfl⟩))
  go_ret
  exact ⟨rfl, rfl⟩
theorem Mp.buckets (h : Mp W L O b g c n cs es t F) : Calls Try.prog 12 #[wp b] W fun e w' => e = .returned (.int .i64 (n : Int)) ∧ W = w' := by
  have HM := Lib.hid h.made
  have q1 := h.c0
  clear h
  go_enter Try.func12, Try.ntmps12
  go_wp2_with (go_at_call 14; ((with_reducible refine HM.out.mono ?_); rintro e w' ⟨rfl, rfl⟩))
  go_ret
  exact ⟨rfl, rfl⟩

/-- jumps, with a number that falls -/
theorem least {p : Nat → Prop} (h : ∃ n, p n) : ∃ n, p n ∧ ∀ m, p m → n ≤ m := by
  obtain ⟨n, hn⟩ := h
  induction n using Nat.strongRecOn with
  | _ n ih =>
    by_cases hm : ∃ m, m < n ∧ p m
    · obtain ⟨m, h1, h2⟩ := hm
      exact ih m h1 h2
    · exact ⟨n, hn, fun m hp => by
        by_cases hl : m < n
        · exact absurd ⟨m, hl, hp⟩ hm
        · omega⟩
theorem scope_ranked {P : Program} {a : Act} {w : World} {Q : Exit → Act → World → Prop} {c rest : Code} (l : Nat) (J : Nat → Act → World → Prop) (hf : findLabel c l = some (Code.skip.seq rest))
    (first : (∀ n a w, J n a w → rest.wp P (Exit.jump l (fun a w => ∃ n, J n a w) Q) a w) → c.wp P (Exit.jump l (fun a w => ∃ n, J n a w) Q) a w)
    (pass : ∀ n a w, J n a w → rest.wp P (Exit.jump l (fun a' w' => ∃ m, m < n ∧ J m a' w') Q) a w) : (Code.scope c).wp P Q a w := by
  classical
  have hp : ∀ n a w, J n a w → rest.wp P (Exit.jump l (fun a w => ∃ n, J n a w) Q) a w := fun n a w hJ => by
    refine Code.wp_mono ?_ (pass n a w hJ)
    intro e a' w' he
    cases e with
    | goto l' =>
      obtain ⟨h1, m, -, h3⟩ := he
      exact ⟨h1, m, h3⟩
    | _ => exact he
  refine wp_scope_jumps l (fun a w => ∃ n, J n a w) (fun a w => if h : ∃ n, J n a w then Classical.choose (least h) else 0) hf (first hp) ?_
  intro a w hJ
  have hs := Classical.choose_spec (least hJ)
  refine wp_seq (wp_skip ?_)
  refine Code.wp_mono ?_ (pass _ a w hs.1)
  intro e a' w' he
  cases e with
  | goto l' =>
    obtain ⟨h1, m, h2, h3⟩ := he
    refine ⟨h1, ⟨m, h3⟩, ?_⟩
    have hs' := Classical.choose_spec (least (p := fun n => J n a' w') ⟨m, h3⟩)
    have h4 := hs'.2 m h3
    simp only [dif_pos hJ, dif_pos (show ∃ n, J n a' w' from ⟨m, h3⟩)]
    omega
  | _ => exact he

/-- where a key's entry is, or the end of its chain -/
def Found (l : List En) (k : Int) (pre post : List En) : Prop := l = pre ++ post ∧ (∀ e ∈ pre, e.key ≠ k) ∧ (post = [] ∨ ∃ e r, post = e :: r ∧ e.key = k)
def Lj (W : World) (l : List En) (b g r : Nat) (k : Int) (N : Nat) (a' : Act) (w' : World) : Prop :=
  (∃ j, w' = W.drewN j) ∧ ∃ (pre post : List En) (u6 u7 u8 u9 u10 u11 u12 u13 u14 u15 u16 u17 u18 u19 u20 u21 u22 u23 u24 u25 u26 u27 u28 u29 u30 u31 u32 u33 u34 : Value), a' = { tmps := #[wp b, .int .u64 k, undef, undef, .pointer none, .pointer (some (la g r pre)), u6, u7, u8, u9, u10, u11, u12, u13, u14, u15, u16, u17, u18, u19, u20, u21, u22, u23, u24, u25, u26, u27, u28, u29, u30, u31, u32, u33, u34], defers := [] } ∧ l = pre ++ post ∧ (∀ e ∈ pre, e.key ≠ k) ∧ post.length = N
theorem Lj.mk' {W : World} {l : List En} {b g r j x : Nat} {k : Int} {N : Nat} {u6 u7 u8 u9 u10 u11 u12 u13 u14 u15 u16 u17 u18 u19 u20 u21 u22 u23 u24 u25 u26 u27 u28 u29 u30 u31 u32 u33 u34 : Value} (pre post : List En) (e : En) (hl : l = pre ++ e :: post) (hp : ∀ e ∈ pre, e.key ≠ k) (he : e.key ≠ k) (hx : e.blk = x) (hN : post.length = N) :
    Lj W l b g r k N { tmps := #[wp b, .int .u64 k, undef, undef, .pointer none, .pointer (some ⟨x, 2, none⟩), u6, u7, u8, u9, u10, u11, u12, u13, u14, u15, u16, u17, u18, u19, u20, u21, u22, u23, u24, u25, u26, u27, u28, u29, u30, u31, u32, u33, u34], defers := [] } (W.drewN j) := by
  subst hx
  refine ⟨⟨j, rfl⟩, pre ++ [e], post, u6, u7, u8, u9, u10, u11, u12, u13, u14, u15, u16, u17, u18, u19, u20, u21, u22, u23, u24, u25, u26, u27, u28, u29, u30, u31, u32, u33, u34, by rw [la_snoc], by rw [hl, List.append_assoc]; rfl, ?_, hN⟩
  intro f hf
  rcases List.mem_append.1 hf with hf | hf
  · exact hp f hf
  · rw [List.mem_singleton.1 hf]; exact he
set_option maxHeartbeats 2000000 in
theorem Mp.links (h : Mp W L O b g c n cs [] t F) {k : Int} (hk : U k) : Calls Try.prog 15 #[wp b, .int .u64 k] W fun e w' => ∃ pre post, e = .returned (.pointer (some (la g (bk n k) pre))) ∧ (∃ j, w' = W.drewN j) ∧ Found (cs (bk n k)) k pre post := by
  have hr : bk n k < n := bk_lt (by have := h.n4; omega) (by have := h.nb; omega) k
  have HB := Lib.hid (fun j => (h.below (drew_below W j)).bucket hk)
  have q0 := h.c0
  have q1 := (h.cell hr).1
  have H := Lib.hid h
  have hnb := h.nb
  clear h
  generalize bk n k = r at *
  go_enter Try.func15, Try.ntmps15
  go_wp2
  refine scope_ranked 0 (Lj W (cs r) b g r k) rfl ?_ ?_
  · intro hpass
    have HP := Lib.hid hpass
    clear hpass
    go_wp2
    go_quiet ((go_at_call 13; exact Calls.quiet_of ((HB.out _).mono (by rintro e w' ⟨rfl, rfl⟩; exact ⟨rfl, 0, rfl⟩))))
    rename_i hK
    refine hK _ _ ?_
    refine wp_seq ?_
    refine wp_label ?_
    exact HP.out _ _ _ ⟨⟨_, rfl⟩, [], cs r, _, _, _, _, _, _, _, _, _, _, _, _, _, _, _, _, _, _, _, _, _, _, _, _, _, _, _, _, _, rfl, rfl, by simp, rfl⟩
  · rintro N a' w' ⟨⟨j, rfl⟩, pre, post, u6, u7, u8, u9, u10, u11, u12, u13, u14, u15, u16, u17, u18, u19, u20, u21, u22, u23, u24, u25, u26, u27, u28, u29, u30, u31, u32, u33, u34, rfl, hl, hp, hN⟩
    have HN := Lib.hid hN
    have HL := Lib.hid hl
    have HQ := Lib.hid hp
    obtain ⟨qa, -⟩ := (H.out.below (drew_below W j)).link hr hl
    clear q0 q1 HB hp hN
    have hch := H.out.ch r hr
    rw [hl] at hch
    have hcr := (hch.keep (W' := W.drewN j) (fun e _ => rfl)).right
    clear hch hl
    cases post with
    | nil =>
      have qa' : (W.drewN j).cell? (la g r pre) = some (.pointer none) := qa
      clear qa hcr
      generalize hA : la g r pre = A at qa' ⊢
      have HA := Lib.hid hA
      clear hA
      generalize hX : W.drewN j = X at qa' ⊢
      have HX := Lib.hid hX
      clear hX
      go_wp2
      simp only [Exit.jump]
      go_ret
      exact ⟨pre, [], by rw [HA.out]; rfl, ⟨j, HX.out.symm⟩, HL.out, HQ.out, .inl rfl⟩
    | cons e post =>
      have qa' : (W.drewN j).cell? (la g r pre) = some (.pointer (some ⟨e.blk, 0, none⟩)) := qa
      have qe := hcr.1.c0
      clear qa hcr
      generalize hA : la g r pre = A at qa' ⊢
      have HA := Lib.hid hA
      clear hA
      generalize hx : e.blk = x at qa' qe
      have Hx := Lib.hid hx
      clear hx
      by_cases hky : e.key = k
      · have HK := Lib.hid hky
        rw [hky] at qe
        clear hky
        generalize hX : W.drewN j = X at qa' qe ⊢
        have HX := Lib.hid hX
        clear hX
        go_wp2
        simp only [Exit.jump]
        go_ret
        exact ⟨pre, e :: post, by rw [HA.out]; rfl, ⟨j, HX.out.symm⟩, HL.out, HQ.out, .inr ⟨e, post, rfl, HK.out⟩⟩
      · have HK := Lib.hid hky
        generalize hy : e.key = y at qe hky
        have d : (y == k) = false := by simpa using hky
        generalize hX : W.drewN j = X at qa' qe ⊢
        have HX := Lib.hid hX
        clear hX hy
        go_wp2
        go_step3
        change _ ∧ ∃ m, m < N ∧ Lj W (cs r) b g r k m _ _
        have e1 := HN.out
        rw [← HX.out]
        exact ⟨rfl, post.length, by simp at e1; omega, Lj.mk' pre post e HL.out HQ.out HK.out Hx.out rfl⟩
end Go.Proofs.Ytbeeekpofbhljaa
