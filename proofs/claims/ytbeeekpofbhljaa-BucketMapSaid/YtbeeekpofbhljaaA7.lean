/- A key is dropped. -/
import Derived.Test.YtbeeekpofbhljaaA6
namespace Go.Proofs.Ytbeeekpofbhljaa
open Go Go.RowKit
variable {W W' : World} {L b g c n : Nat} {O : Nat → Prop} {cs : Nat → List En} {es : List En} {t : Int} {F : Int → Option Int}

/-- how many buckets there are behind a drop -/
def lessN (n : Nat) (t : Int) : Nat := if 4 < n ∧ t < ((n / 2 : Nat) : Int) then n - 1 else n
theorem Mp.shrinks' (h : Mp W L O b g c n cs [] t F) (hn : 4 < n) : Calls Try.prog 17 #[wp b] W fun e w' => e = .returned (.tuple #[]) ∧ (∃ cs', Mp w' L O b g c (n - 1) cs' [] t F) ∧ OnlyS O W w' := by
  obtain ⟨m, rfl⟩ : ∃ m, n = m + 1 := ⟨n - 1, by omega⟩
  exact h.shrinks (by omega)
set_option maxHeartbeats 2000000 in
theorem Mp.drop_old (h : Mp W L O b g c n cs [] t F) {k : Int} (hk : U k) (hF : F k ≠ none) (ht0 : -1000 ≤ t) (ht1 : t ≤ 1000) :
    Calls Try.prog 8 #[wp b, .int .u64 k] W (Does W L O b (.bool true) (lessN n (t - 1)) (t - 1) (putF F k none)) := by
  have HM := Lib.hid h.made
  have HL := Lib.hid (h.links hk)
  have H := Lib.hid h
  have HF := Lib.hid hF
  have hnb := h.nb
  obtain ⟨n', hn'⟩ : ∃ n', lessN n (t - 1) = n' := ⟨_, rfl⟩
  rw [hn']
  unfold lessN at hn'
  have HN := Lib.hid hn'
  clear h hF hn'
  go_enter Try.func8, Try.ntmps8
  go_wp2_with (first
    | (go_at_call 14; ((with_reducible refine HM.out.mono ?_); rintro e w' ⟨rfl, rfl⟩))
    | fail)
  refine HL.out.mono ?_
  rintro e w' ⟨pre, post, rfl, ⟨j, rfl⟩, hf⟩
  have hr : bk n k < n := bk_lt (by have := H.out.n4; omega) (by have := H.out.nb; omega) k
  have hX := H.out.below (drew_below W j)
  have q := (hX.link hr hf.1).1
  have q2 := (hX.link hr hf.1).2
  cases post with
  | nil => exact absurd (H.out.none_is hk hf) HF.out
  | cons e post =>
    have q' : (W.drewN j).cell? (la g (bk n k) pre) = some (.pointer (some ⟨e.blk, 0, none⟩)) := q
    have hch := hX.ch _ hr
    rw [hf.1] at hch
    have q1 := hch.right.1.c2
    have hD := hX.drops hf
    obtain ⟨kk, oo, hla, hkO⟩ := hX.la_own hr hf.1
    have hO : OnlyS O W ((W.drewN j).setCell (la g (bk n k) pre) (hd post)) := ((OnlyS.refl O W).drewN j).trans (only_la hla hkO)
    obtain ⟨p, hp⟩ := hd_ptr post
    rw [hp] at hD hO q1
    have HP := Lib.hid hD
    have HO := Lib.hid hO
    clear q hX hD hf hO hla hch hp
    generalize hcs : upd cs (bk n k) (pre ++ post) = cs2 at HP
    clear hcs
    generalize la g (bk n k) pre = A at *
    generalize e.blk = x at *
    generalize hXX : W.drewN j = X at q' q1 q2 HP HO ⊢
    clear hXX
    have r0 := HP.out.c1
    have r1 := HP.out.fz 1
    have s0 := (HP.out.count (t - 1)).c0
    have s1 := (HP.out.count (t - 1)).c1
    have HQ := Lib.hid (HP.out.count (t - 1))
    have HO5 : Hid (OnlyS O W ((X.setCell A (.pointer p)).setCell ⟨b, 1, none⟩ (.int .i64 (t - 1)))) :=
      Lib.hid (HO.out.trans ((OnlyS.set b 1 _ _).mono (fun i _ hi => by rw [hi]; exact H.out.o1)))
    by_cases h4 : 4 < n
    · by_cases hc : t - 1 < ((n / 2 : Nat) : Int)
      · have hn' := HN.out
        rw [if_pos ⟨h4, hc⟩] at hn'
        subst hn'
        have d1 : decide (4 < n) = true := by simpa using h4
        have d2 : decide (t - 1 < (n : Int) / 2) = true := by simp; omega
        go_wp2_with fail
        refine (HQ.out.shrinks' h4).mono ?_
        rintro e w2 ⟨rfl, ⟨cs3, h3⟩, ho3⟩
        go_wp2_with fail
        go_ret
        exact Does.of h3 (HO5.out.trans ho3) (fun i hi => .inl hi)
      · have hn' := HN.out
        rw [if_neg (fun h => hc h.2)] at hn'
        subst hn'
        have d1 : decide (4 < n) = true := by simpa using h4
        have d2 : decide (t - 1 < (n : Int) / 2) = false := by simp; omega
        go_wp2_with fail
        go_ret
        exact Does.of HQ.out HO5.out (fun i hi => .inl hi)
    · have hn' := HN.out
      rw [if_neg (fun h => h4 h.1)] at hn'
      subst hn'
      have d1 : decide (4 < n) = false := by simpa using h4
      go_wp2_with fail
      go_ret
      exact Does.of HQ.out HO5.out (fun i hi => .inl hi)
set_option maxHeartbeats 2000000 in
theorem Mp.drop_new (h : Mp W L O b g c n cs [] t F) {k : Int} (hk : U k) (hF : F k = none) (ht0 : -1000 ≤ t) (ht1 : t ≤ 1000) :
    Calls Try.prog 8 #[wp b, .int .u64 k] W (Does W L O b (.bool false) (lessN n t) t F) := by
  have HM := Lib.hid h.made
  have HL := Lib.hid (h.links hk)
  have H := Lib.hid h
  have HF := Lib.hid hF
  have hnb := h.nb
  obtain ⟨n', hn'⟩ : ∃ n', lessN n t = n' := ⟨_, rfl⟩
  rw [hn']
  unfold lessN at hn'
  have HN := Lib.hid hn'
  clear h hF hn'
  go_enter Try.func8, Try.ntmps8
  go_wp2_with (first
    | (go_at_call 14; ((with_reducible refine HM.out.mono ?_); rintro e w' ⟨rfl, rfl⟩))
    | fail)
  refine HL.out.mono ?_
  rintro e w' ⟨pre, post, rfl, ⟨j, rfl⟩, hf⟩
  have hr : bk n k < n := bk_lt (by have := H.out.n4; omega) (by have := H.out.nb; omega) k
  have hX := H.out.below (drew_below W j)
  have q := (hX.link hr hf.1).1
  cases post with
  | cons e post =>
    have := (H.out.some_is hf).2
    rw [HF.out] at this
    cases this
  | nil =>
    have q' : (W.drewN j).cell? (la g (bk n k) pre) = some (.pointer none) := q
    have s0 := hX.c0
    have s1 := hX.c1
    have HQ := Lib.hid hX
    have HO5 : Hid (OnlyS O W (W.drewN j)) := Lib.hid ((OnlyS.refl O W).drewN j)
    clear q hX hf
    generalize la g (bk n k) pre = A at *
    generalize hXX : W.drewN j = X at q' s0 s1 HQ HO5 ⊢
    clear hXX
    by_cases h4 : 4 < n
    · by_cases hc : t < ((n / 2 : Nat) : Int)
      · have hn' := HN.out
        rw [if_pos ⟨h4, hc⟩] at hn'
        subst hn'
        have d1 : decide (4 < n) = true := by simpa using h4
        have d2 : decide (t < (n : Int) / 2) = true := by simp; omega
        go_wp2_with fail
        refine (HQ.out.shrinks' h4).mono ?_
        rintro e w2 ⟨rfl, ⟨cs3, h3⟩, ho3⟩
        go_wp2_with fail
        go_ret
        exact Does.of h3 (HO5.out.trans ho3) (fun i hi => .inl hi)
      · have hn' := HN.out
        rw [if_neg (fun h => hc h.2)] at hn'
        subst hn'
        have d1 : decide (4 < n) = true := by simpa using h4
        have d2 : decide (t < (n : Int) / 2) = false := by simp; omega
        go_wp2_with fail
        go_ret
        exact Does.of HQ.out HO5.out (fun i hi => .inl hi)
    · have hn' := HN.out
      rw [if_neg (fun h => h4 h.1)] at hn'
      subst hn'
      have d1 : decide (4 < n) = false := by simpa using h4
      go_wp2_with fail
      go_ret
      exact Does.of HQ.out HO5.out (fun i hi => .inl hi)
/-- what a put and a drop leave, whatever there was -/
theorem Mq.put (h : Mq W L O b n t F) {k : Int} (hk : U k) (v : Int) (ht0 : -1000 ≤ t) (ht1 : t ≤ 2 * (n : Int)) (hn : n < 249) :
    Calls Try.prog 7 #[wp b, .int .u64 k, .int .i64 v] W (fun e w' => ∃ n' t' u, Does W L O b (.bool u) n' t' (putF F k (some v)) e w' ∧ n ≤ n' ∧ n' ≤ n + 1 ∧ t ≤ t' ∧ t' ≤ t + 1 ∧ t' ≤ 2 * (n' : Int) ∧ (F k = none → t' = t + 1 ∧ n' = if 2 * (n : Int) < t + 1 then n + 1 else n)) := by
  obtain ⟨g, c, cs, h⟩ := h
  by_cases hF : F k = none
  · refine (h.put_new hk v hF ht0 ht1 hn).mono ?_
    intro e w' hd
    refine ⟨_, _, _, hd, ?_, ?_, by omega, by omega, ?_, fun _ => ⟨rfl, rfl⟩⟩ <;> split <;> omega
  · refine (h.put_old hk v hF).mono ?_
    intro e w' hd
    exact ⟨_, _, _, hd, by omega, by omega, by omega, by omega, by omega, fun h => absurd h hF⟩
theorem Mq.drop (h : Mq W L O b n t F) {k : Int} (hk : U k) (ht0 : -1000 ≤ t) (ht1 : t ≤ 2 * (n : Int)) (hn : n < 249) :
    Calls Try.prog 8 #[wp b, .int .u64 k] W (fun e w' => ∃ n' t' u, Does W L O b (.bool u) n' t' (putF F k none) e w' ∧ n' ≤ n ∧ t - 1 ≤ t' ∧ t' ≤ t ∧ t' ≤ 2 * (n' : Int)) := by
  obtain ⟨g, c, cs, h⟩ := h
  by_cases hF : F k = none
  · refine (h.drop_new hk hF ht0 (by omega)).mono ?_
    intro e w' hd
    have e1 : putF F k none = F := by
      funext i
      unfold putF
      split
      · rename_i hi; rw [hi, hF]
      · rfl
    rw [e1]
    refine ⟨_, _, _, hd, ?_, by omega, by omega, ?_⟩ <;> unfold lessN <;> split <;> omega
  · refine (h.drop_old hk hF ht0 (by omega)).mono ?_
    intro e w' hd
    refine ⟨_, _, _, hd, ?_, by omega, by omega, ?_⟩ <;> unfold lessN <;> split <;> omega
end Go.Proofs.Ytbeeekpofbhljaa
