/- A map is made; what a key has is told; a key is put, and dropped. -/
import Derived.Test.YtbeeekpofbhljaaA5
namespace Go.Proofs.Ytbeeekpofbhljaa
open Go Go.RowKit
variable {W W' : World} {L b g c n : Nat} {O : Nat → Prop} {cs : Nat → List En} {es : List En} {t : Int} {F : Int → Option Int}

/-- a map with so many buckets, so many keys as are counted, and these numbers by keys -/
def Mq (W : World) (L : Nat) (O : Nat → Prop) (b n : Nat) (t : Int) (F : Int → Option Int) : Prop := ∃ g c cs, Mp W L O b g c n cs [] t F
/-- what a call that may change this map alone leaves -/
def Does (W : World) (L : Nat) (O : Nat → Prop) (b : Nat) (v : Value) (n : Nat) (t : Int) (F : Int → Option Int) (e : Ending) (w' : World) : Prop :=
  ∃ O', e = .returned v ∧ Mq w' L O' b n t F ∧ OnlyS O W w' ∧ ∀ k, O' k → O k ∨ W.heap.size ≤ k
def putF (F : Int → Option Int) (k : Int) (x : Option Int) : Int → Option Int := fun i => if i = k then x else F i

theorem Mp.none_is (h : Mp W L O b g c n cs [] t F) {k : Int} (hk : U k) {pre : List En} (hf : Found (cs (bk n k)) k pre []) : F k = none := by
  cases hF : F k with
  | none => rfl
  | some x =>
    rcases h.full k hk (by rw [hF]; simp) with ⟨e, he, _⟩ | ⟨e, he, hek⟩
    · simp at he
    · rw [hf.1, List.append_nil] at he
      exact absurd hek (hf.2.1 e he)
theorem Mp.some_is (h : Mp W L O b g c n cs [] t F) {k : Int} {pre post : List En} {e : En} (hf : Found (cs (bk n k)) k pre (e :: post)) : e.key = k ∧ F k = some e.v := by
  have hn := bk_lt (n := n) (by have := h.n4; omega) (by have := h.nb; omega) k
  rcases hf.2.2 with h0 | ⟨e', r, h1, h2⟩
  · cases h0
  · cases h1
    have := (h.mem e (.inr ⟨_, hn, by rw [hf.1]; simp⟩)).2.2.2.2
    rw [h2] at this
    exact ⟨h2, this⟩
theorem Mp.puts (h : Mp W L O b g c n cs [] t F) {k : Int} (hk : U k) (v : Int) {pre : List En} (hf : Found (cs (bk n k)) k pre []) :
    Mp ((W.alloc (.cells #[.int .u64 k, .int .i64 v, .pointer none] 48)).setCell (la g (bk n k) pre) (.pointer (some ⟨W.heap.size, 0, none⟩))) L (fun i => O i ∨ i = W.heap.size) b g c n (upd cs (bk n k) (pre ++ [⟨k, v, W.heap.size⟩])) [] t (putF F k (some v)) := by
  have hn : bk n k < n := bk_lt (by have := h.n4; omega) (by have := h.nb; omega) k
  have hF := h.none_is hk hf
  have hl := h.ol
  have hs : (W.alloc (.cells #[.int .u64 k, .int .i64 v, .pointer none] 48)).heap.size = W.heap.size + 1 := by simp
  have h1 : Mp (W.alloc (.cells #[.int .u64 k, .int .i64 v, .pointer none] 48)) L (fun i => O i ∨ i = W.heap.size) b g c n cs [] t F :=
    (h.below (box_below _ _)).more (fun i hi => .inl hi) (fun i hi => by
      rcases hi with hi | rfl
      · exact ⟨(hl i hi).1, by rw [hs]; have := (hl i hi).2; omega⟩
      · exact ⟨by have := hl b h.o1; omega, by rw [hs]; omega⟩)
  have hcs : cs (bk n k) = pre ++ [] := hf.1
  refine h1.turn hn hcs (putF F k (some v)) (post' := [⟨k, v, W.heap.size⟩]) ⟨⟨?_, ?_, ?_, ?_⟩, trivial⟩ ?_ ?_ ?_ ?_
  · simp [go_sem]
  · simp [go_sem]
  · simp [go_sem, hd]
  · intro o; simp [go_sem]
  · intro e he
    obtain rfl := List.mem_singleton.1 he
    refine ⟨.inr rfl, ?_, ?_, hk, by simp [putF], rfl⟩
    · have := (hl b h.o1).2; simp only; omega
    · have := (hl g h.o2).2; simp only; omega
  · rintro e (he | ⟨i, hi, hij, he⟩)
    · simp [putF, hf.2.1 e he]
    · have hp := h.place i hi e he
      have : e.key ≠ k := fun e1 => hij (by rw [e1] at hp; exact hp.symm)
      simp [putF, this]
  · rw [List.map_append, List.nodup_append]
    have hk1 := h.key1 hn
    rw [hcs, List.append_nil] at hk1
    refine ⟨hk1, by simp, fun x hx y hy => ?_⟩
    obtain ⟨e, he, rfl⟩ := List.mem_map.1 hx
    simp at hy
    subst hy
    exact hf.2.1 e he
  · intro i hu hi
    by_cases hik : i = k
    · subst hik
      exact ⟨⟨i, v, W.heap.size⟩, by rw [upd_same]; simp, rfl⟩
    · simp only [putF, if_neg hik] at hi
      rcases h.full i hu hi with ⟨e, he, _⟩ | ⟨e, he, hek⟩
      · simp at he
      · refine ⟨e, ?_, hek⟩
        by_cases hb : bk n i = bk n k
        · rw [hb] at he ⊢
          rw [upd_same]
          rw [hcs, List.append_nil] at he
          simp [he]
        · rw [upd_other hb]
          exact he
theorem Mp.drops (h : Mp W L O b g c n cs [] t F) {k : Int} {pre post : List En} {e : En} (hf : Found (cs (bk n k)) k pre (e :: post)) :
    Mp (W.setCell (la g (bk n k) pre) (hd post)) L O b g c n (upd cs (bk n k) (pre ++ post)) [] t (putF F k none) := by
  have hn : bk n k < n := bk_lt (by have := h.n4; omega) (by have := h.nb; omega) k
  obtain ⟨hek, -⟩ := h.some_is hf
  have hcs : cs (bk n k) = pre ++ e :: post := hf.1
  have hk1 := h.key1 hn
  rw [hcs] at hk1
  obtain ⟨k1, k2⟩ := nodup_mid hk1
  rw [hek] at k1 k2
  have hch := h.ch _ hn
  rw [hcs] at hch
  refine h.turn hn hcs (putF F k none) (post' := post) hch.right.2 ?_ ?_ ?_ ?_
  · intro f hf'
    have hm : f ∈ cs (bk n k) := by rw [hcs]; simp [hf']
    obtain ⟨q1, q2, q3, q4, q5⟩ := h.mem f (.inr ⟨_, hn, hm⟩)
    exact ⟨q1, q2, q3, q4, by simp only [putF, if_neg (k2 f hf')]; exact q5, h.place _ hn f hm⟩
  · rintro f (hf' | ⟨i, hi, hij, hf'⟩)
    · simp [putF, k1 f hf']
    · have hp := h.place i hi f hf'
      have : f.key ≠ k := fun e1 => hij (by rw [e1] at hp; exact hp.symm)
      simp [putF, this]
  · exact hk1.sublist ((List.Sublist.append_left (List.sublist_cons_self e post) pre).map _)
  · intro i hu hi
    by_cases hik : i = k
    · simp [putF, hik] at hi
    · simp only [putF, if_neg hik] at hi
      rcases h.full i hu hi with ⟨f, hf', _⟩ | ⟨f, hf', hfk⟩
      · simp at hf'
      · refine ⟨f, ?_, hfk⟩
        by_cases hb : bk n i = bk n k
        · rw [hb] at hf' ⊢
          rw [upd_same]
          rw [hcs] at hf'
          rcases List.mem_append.1 hf' with hf' | hf'
          · simp [hf']
          · rcases List.mem_cons.1 hf' with rfl | hf'
            · exact absurd (hfk.symm.trans hek) hik
            · simp [hf']
        · rw [upd_other hb]
          exact hf'
theorem get_none (W : World) (k : Int) : Calls Try.prog 9 #[.pointer none, .int .u64 k] W fun e w' => e = .returned (.tuple #[.int .i64 0, .bool false]) ∧ W = w' := by
  go_enter Try.func9, Try.ntmps9
  go_wp2_with (go_at_call 14; ((with_reducible refine (made_none W).mono ?_); rintro e w' ⟨rfl, rfl⟩))
  go_ret2
  exact ⟨rfl, rfl⟩
theorem put_none (W : World) (k v : Int) : Calls Try.prog 7 #[.pointer none, .int .u64 k, .int .i64 v] W fun e w' => e = .returned (.bool false) ∧ W = w' := by
  go_enter Try.func7, Try.ntmps7
  go_wp2_with (go_at_call 14; ((with_reducible refine (made_none W).mono ?_); rintro e w' ⟨rfl, rfl⟩))
  go_ret
  exact ⟨rfl, rfl⟩
theorem drop_none (W : World) (k : Int) : Calls Try.prog 8 #[.pointer none, .int .u64 k] W fun e w' => e = .returned (.bool false) ∧ W = w' := by
  go_enter Try.func8, Try.ntmps8
  go_wp2_with (go_at_call 14; ((with_reducible refine (made_none W).mono ?_); rintro e w' ⟨rfl, rfl⟩))
  go_ret
  exact ⟨rfl, rfl⟩
/-- what Get tells -/
def gotV (x : Option Int) : Value := .tuple #[.int .i64 (x.getD 0), .bool x.isSome]
set_option maxHeartbeats 1000000 in
theorem Mp.get (h : Mp W L O b g c n cs [] t F) {k : Int} (hk : U k) : Calls Try.prog 9 #[wp b, .int .u64 k] W fun e w' => e = .returned (gotV (F k)) ∧ ∃ j, w' = W.drewN j := by
  have HM := Lib.hid h.made
  have HL := Lib.hid (h.links hk)
  have H := Lib.hid h
  clear h
  go_enter Try.func9, Try.ntmps9
  go_wp2_with (first
    | (go_at_call 14; ((with_reducible refine HM.out.mono ?_); rintro e w' ⟨rfl, rfl⟩))
    | fail)
  refine HL.out.mono ?_
  rintro e w' ⟨pre, post, rfl, ⟨j, rfl⟩, hf⟩
  have hr : bk n k < n := bk_lt (by have := H.out.n4; omega) (by have := H.out.nb; omega) k
  have hX := H.out.below (drew_below W j)
  have q := (hX.link hr hf.1).1
  cases post with
  | nil =>
    have q' : (W.drewN j).cell? (la g (bk n k) pre) = some (.pointer none) := q
    have HF := Lib.hid (H.out.none_is hk hf)
    clear q hX hf
    generalize la g (bk n k) pre = A at *
    generalize hXX : W.drewN j = X at q' ⊢
    go_wp2
    go_ret2
    rw [HF.out]
    exact ⟨rfl, j, hXX.symm⟩
  | cons e post =>
    have q' : (W.drewN j).cell? (la g (bk n k) pre) = some (.pointer (some ⟨e.blk, 0, none⟩)) := q
    have HF := Lib.hid (H.out.some_is hf).2
    have hch := hX.ch _ hr
    rw [hf.1] at hch
    have q1 := hch.right.1.c1
    clear q hX hf hch
    generalize la g (bk n k) pre = A at *
    generalize e.blk = x at *
    generalize e.v = y at *
    generalize hXX : W.drewN j = X at q' q1 ⊢
    go_wp2
    go_ret2
    rw [HF.out]
    exact ⟨rfl, j, hXX.symm⟩
@[go_sem] theorem mk4 (w : World) : (Instr.makeSlice 39 (.int .i64 4) (.int .i64 4)).run Try.prog w = .ok (.slice (some ⟨w.heap.size, 0, none⟩) 4 4) (w.alloc (.cells #[.pointer none, .pointer none, .pointer none, .pointer none] 44)) := by kernel_rfl
theorem new_any (W : World) : Calls Try.prog 6 #[] W fun e w' => e = .returned (wp (W.heap.size + 1)) ∧ Mq w' W.heap.size (fun k => W.heap.size ≤ k ∧ k < w'.heap.size) (W.heap.size + 1) 4 0 (fun _ => none) ∧ Below W.heap.size W w' := by
  go_enter Try.func6, Try.ntmps6
  go_wp2
  go_ret
  have hh : ∀ B : Obj, ((W.alloc (.cells #[.pointer none, .pointer none, .pointer none, .pointer none] 44)).alloc B).heap[W.heap.size]? = some (.cells #[.pointer none, .pointer none, .pointer none, .pointer none] 44) := fun B => by
    have h1 := World.alloc_heap_new W (.cells #[.pointer none, .pointer none, .pointer none, .pointer none] 44)
    have h2 := (box_below (W.alloc (.cells #[.pointer none, .pointer none, .pointer none, .pointer none] 44)) B).block W.heap.size (by simp)
    rw [h2, h1]
  refine ⟨rfl, ⟨W.heap.size, 4, fun _ => [], ⟨?_, ?_, ?_, ⟨rfl, .inr ⟨W.heap.size, 4, _, rfl, Nat.le_refl _, hh _, Nat.le_refl _, by decide, rfl, rfl⟩⟩, fun _ _ => trivial, trivial, by omega, ?_, ?_, fun k hk => hk, ?_, ?_, fun _ _ => by simp, fun k _ hk => absurd rfl hk, by omega, by omega⟩⟩, ((Below.refl _ _).alloc (Nat.le_refl _) _).alloc (by simp) _⟩
  · simp [go_sem]
  · simp [go_sem]
  · intro o; simp [go_sem]
  · simp
  · simp; omega
  · rintro e (he | ⟨j, _, he⟩) <;> simp at he
  · intro j _ e he; simp at he
theorem Mq.made_lt (h : Mq W L O b n t F) {k : Nat} (hk : O k) : L ≤ k ∧ k < W.heap.size := by
  obtain ⟨g, c, cs, h⟩ := h
  exact h.ol k hk
theorem Does.of {g' c' : Nat} {cs' : Nat → List En} {O' : Nat → Prop} {w' : World} {v : Value} (h : Mp w' L O' b g' c' n cs' [] t F) (ho : OnlyS O W w') (hk : ∀ k, O' k → O k ∨ W.heap.size ≤ k) : Does W L O b v n t F (.returned v) w' :=
  ⟨O', rfl, ⟨g', c', cs', h⟩, ho, hk⟩
theorem only_la {k : Nat} {o : Nat} {u : Value} {A : Addr} (hA : A = ⟨k, o, none⟩) (hk : O k) : OnlyS O W (W.setCell A u) := by
  subst hA
  exact (OnlyS.set k o W u).mono (fun i _ hi => by rw [hi]; exact hk)
set_option maxHeartbeats 2000000 in
theorem Mp.put_old (h : Mp W L O b g c n cs [] t F) {k : Int} (hk : U k) (v : Int) (hF : F k ≠ none) :
    Calls Try.prog 7 #[wp b, .int .u64 k, .int .i64 v] W (Does W L O b (.bool false) n t (putF F k (some v))) := by
  have HM := Lib.hid h.made
  have HL := Lib.hid (h.links hk)
  have H := Lib.hid h
  have HF := Lib.hid hF
  clear h hF
  go_enter Try.func7, Try.ntmps7
  go_wp2_with (first
    | (go_at_call 14; ((with_reducible refine HM.out.mono ?_); rintro e w' ⟨rfl, rfl⟩))
    | fail)
  refine HL.out.mono ?_
  rintro e w' ⟨pre, post, rfl, ⟨j, rfl⟩, hf⟩
  have hr : bk n k < n := bk_lt (by have := H.out.n4; omega) (by have := H.out.nb; omega) k
  have hX := H.out.below (drew_below W j)
  have q := (hX.link hr hf.1).1
  cases post with
  | nil => exact absurd (H.out.none_is hk hf) HF.out
  | cons e post =>
    have q' : (W.drewN j).cell? (la g (bk n k) pre) = some (.pointer (some ⟨e.blk, 0, none⟩)) := q
    obtain ⟨hek, -⟩ := H.out.some_is hf
    have hch := hX.ch _ hr
    rw [hf.1] at hch
    have q1 := hch.right.1.c1
    have q2 := hch.right.1.fz 1
    have hV := hX.value hr hf.1 v
    have he := (H.out.mem e (.inr ⟨_, hr, by rw [hf.1]; simp⟩)).1
    have HD : Does W L O b (.bool false) n t (putF F k (some v)) (.returned (.bool false)) ((W.drewN j).setCell ⟨e.blk, 1, none⟩ (.int .i64 v)) := by
      rw [hek] at hV
      refine Does.of hV ?_ (fun k hk => .inl hk)
      exact ((OnlyS.refl O W).drewN j).trans ((OnlyS.set e.blk 1 _ _).mono (fun i _ hi => by rw [hi]; exact he))
    have HDD := Lib.hid HD
    clear HD hV q hX hf hch hek he
    generalize la g (bk n k) pre = A at *
    generalize e.blk = x at *
    generalize e.v = y at *
    generalize hXX : W.drewN j = X at q' q1 q2 HDD ⊢
    go_wp2
    go_ret
    exact HDD.out
set_option maxHeartbeats 2000000 in
theorem Mp.put_new (h : Mp W L O b g c n cs [] t F) {k : Int} (hk : U k) (v : Int) (hF : F k = none) (ht0 : -1000 ≤ t) (ht1 : t ≤ 2 * (n : Int)) (hn : n < 249) :
    Calls Try.prog 7 #[wp b, .int .u64 k, .int .i64 v] W (Does W L O b (.bool true) (if 2 * (n : Int) < t + 1 then n + 1 else n) (t + 1) (putF F k (some v))) := by
  have HM := Lib.hid h.made
  have HL := Lib.hid (h.links hk)
  have H := Lib.hid h
  have HF := Lib.hid hF
  obtain ⟨n', hn'⟩ : ∃ n', (if 2 * (n : Int) < t + 1 then n + 1 else n) = n' := ⟨_, rfl⟩
  rw [hn']
  have HN := Lib.hid hn'
  clear h hF hn'
  go_enter Try.func7, Try.ntmps7
  go_wp2_with (first
    | (go_at_call 14; ((with_reducible refine HM.out.mono ?_); rintro e w' ⟨rfl, rfl⟩))
    | fail)
  refine HL.out.mono ?_
  rintro e w' ⟨pre, post, rfl, ⟨j, rfl⟩, hf⟩
  have hr : bk n k < n := bk_lt (by have := H.out.n4; omega) (by have := H.out.nb; omega) k
  have hX := H.out.below (drew_below W j)
  have q := (hX.link hr hf.1).1
  cases post with
  | cons e post =>
    have := (H.out.some_is hf).2
    rw [HF.out] at this
    cases this
  | nil =>
    have q' : ((W.drewN j).alloc (.cells #[.int .u64 k, .int .i64 v, .pointer none] 48)).cell? (la g (bk n k) pre) = some (.pointer none) := ((hX.below (box_below _ _)).link hr hf.1).1
    have q2 := ((hX.below (box_below (W.drewN j) (.cells #[.int .u64 k, .int .i64 v, .pointer none] 48))).link hr hf.1).2
    have q0 : (W.drewN j).cell? (la g (bk n k) pre) = some (.pointer none) := q
    have hP := hX.puts hk v hf
    obtain ⟨kk, oo, hla, hkO⟩ := hX.la_own hr hf.1
    have hO : OnlyS O W (((W.drewN j).alloc (.cells #[.int .u64 k, .int .i64 v, .pointer none] 48)).setCell (la g (bk n k) pre) (.pointer (some ⟨(W.drewN j).heap.size, 0, none⟩))) :=
      (((OnlyS.refl O W).drewN j).alloc _).trans (only_la hla hkO)
    have HP := Lib.hid hP
    have HO := Lib.hid hO
    clear q hX hP hf hO hla
    generalize hcs : upd cs (bk n k) (pre ++ [⟨k, v, (W.drewN j).heap.size⟩]) = cs2 at HP
    clear hcs
    generalize la g (bk n k) pre = A at *
    have HXs := Lib.hid (show (W.drewN j).heap.size = W.heap.size from rfl)
    generalize hXX : W.drewN j = X at q' q2 q0 HP HO HXs ⊢
    have HXX := Lib.hid hXX
    clear hXX
    have r0 := HP.out.c1
    have r1 := HP.out.fz 1
    have s0 := (HP.out.count (t + 1)).c0
    have s1 := (HP.out.count (t + 1)).c1
    have HQ := Lib.hid (HP.out.count (t + 1))
    have HK : Hid (∀ i, (O i ∨ i = X.heap.size) → O i ∨ W.heap.size ≤ i) := Lib.hid (fun i hi => hi.imp id (fun e => by have := HXs.out; omega))
    have HO5 : Hid (OnlyS O W (((X.alloc (.cells #[.int .u64 k, .int .i64 v, .pointer none] 48)).setCell A (.pointer (some ⟨X.heap.size, 0, none⟩))).setCell ⟨b, 1, none⟩ (.int .i64 (t + 1)))) :=
      Lib.hid (HO.out.trans ((OnlyS.set b 1 _ _).mono (fun i _ hi => by rw [hi]; exact H.out.o1)))
    go_wp2
    go_quiet (fail)
    by_cases hc : 2 * (n : Int) < t + 1
    · have hn' := HN.out
      rw [if_pos hc] at hn'
      subst hn'
      go_wp2_with fail
      refine ((HQ.out.below (drew_below _ nq)).grows hn).mono ?_
      rintro e w2 ⟨rfl, ⟨O2, g2, c2, cs3, h3, hk3⟩, ho3⟩
      go_wp2_with fail
      go_ret
      have h5 := HO5.out.drewN nq
      refine Does.of h3 (h5.chain ho3 HK.out) (fun i hi => ?_)
      rcases hk3 i hi with h6 | h6
      · exact HK.out i h6
      · exact .inr (Nat.le_trans h5.size h6)
    · have hn' := HN.out
      rw [if_neg hc] at hn'
      subst hn'
      go_wp2
      go_ret
      exact Does.of (HQ.out.below (drew_below _ nq)) (HO5.out.drewN nq) HK.out
end Go.Proofs.Ytbeeekpofbhljaa
