/- What is due: told in order, and gone. -/
import Derived.Test.YthoicmbpjcgdpaaE2
namespace Go.Proofs.Ythoicmbpjcgdpaa
open Go Go.RowKit Go.Shelf
attribute [local go_sem] Oper.semAt_some

/-- those of a list in order whose time isn't above now -/
def dueL (now : Int) (ys : List Al) : List Al := ys.takeWhile fun x => decide (x.2 ≤ now)
theorem due_all {now : Int} {ys : List Al} (h : ∀ y ∈ ys, y.2 ≤ now) : dueL now ys = ys := by
  unfold dueL
  induction ys with
  | nil => rfl
  | cons y ys ih =>
    rw [List.takeWhile_cons, if_pos (by simpa using h y (by simp)), ih (fun z hz => h z (by simp [hz]))]
theorem due_part {now : Int} {ini post : List Al} {x : Al} (h : ∀ y ∈ ini, y.2 ≤ now) (hx : now < x.2) : dueL now (ini ++ [x] ++ post) = ini := by
  unfold dueL
  induction ini with
  | nil =>
    have : ¬ x.2 ≤ now := by omega
    simp [this]
  | cons y ini ih =>
    rw [List.cons_append, List.cons_append, List.takeWhile_cons, if_pos (by simpa using h y (by simp)), ih (fun z hz => h z (by simp [hz]))]
def DueI (w : World) (n₁ : Nat) (now : Int) (pre : List Al) (W : World) : Prop :=
  ((∃ v, Boxed W (w.heap.size + 1) 27 v ∧ Row W n₁ v pre) ∧ n₁ ≤ W.heap.size ∧ Below w.heap.size w W) ∧ Boxed W w.heap.size 2 (.int .i64 now) ∧ ∀ y ∈ pre, y.2 ≤ now
theorem DueI.abides {w : World} {n₁ C : Nat} {now : Int} {pre : List Al} (h1 : w.heap.size ≤ C) : Abides C (DueI w n₁ now pre) := by
  rintro W W' ⟨⟨⟨v, hv, hr⟩, hn, hb⟩, hc, hp⟩ t
  exact ⟨⟨⟨v, Abides.boxed _ _ _ _ _ _ hv t, hr.turn t⟩, Nat.le_trans hn t.size, t.below hb h1 (Nat.le_refl _)⟩, Abides.boxed _ _ _ _ _ _ hc t, hp⟩
def DueX (w : World) (n₁ : Nat) (now : Int) (c : Code) (pre : List Al) (W : World) : Prop := c = .exit 0 ∧ ∃ ini x, pre = ini ++ [x] ∧ now < x.2 ∧ DueI w n₁ now ini W
/-- the slots ahead of a place, looked through -/
def part (q : Al → Bool) (ss : Nat → List Al) (i : Nat) : Nat → List Al := fun j => if j < i then (ss j).filter q else ss j
theorem part_zero (q : Al → Bool) (ss : Nat → List Al) : part q ss 0 = ss := by funext j; simp [part]
theorem part_succ (q : Al → Bool) (ss : Nat → List Al) (i : Nat) : upd (part q ss i) i ((part q ss i i).filter q) = part q ss (i + 1) := by
  funext j
  by_cases e : j = i
  · subst e; rw [upd_same]; simp [part]
  · rw [upd_other _ _ e]
    unfold part
    by_cases h : j < i
    · rw [if_pos h, if_pos (by omega)]
    · rw [if_neg h, if_neg (by omega)]
/-- a list of those that are due, and the wheel without them -/
def DoesDue (W : World) (b : Nat) (S : Nat → Prop) (now : Int) (l : List Al) (e : Ending) (w' : World) : Prop :=
  ∃ v, e = .returned v ∧ Row w' W.heap.size v (dueL now (srt l)) ∧ Wh w' b S (l.filter (fun x => !decide (x.2 ≤ now))) ∧ OnlyS S W w'
theorem due_nil {now : Int} {l : List Al} (h : dueL now (srt l) = []) : l.filter (fun x => !decide (x.2 ≤ now)) = l := by
  refine List.filter_eq_self.2 fun x hx => ?_
  have hx' : x ∈ srt l := (srt_perm l).mem_iff.2 hx
  have hs := srt_sorted l
  unfold dueL at h
  cases hc : srt l with
  | nil => rw [hc] at hx'; simp at hx'
  | cons y ys =>
    rw [hc] at h hx' hs
    rw [List.takeWhile_cons] at h
    by_cases hy : y.2 ≤ now
    · simp [hy] at h
    · rcases List.mem_cons.1 hx' with rfl | hm
      · simpa using hy
      · have := List.rel_of_pairwise_cons hs hm
        simp [before] at this
        simp
        omega

set_option maxRecDepth 100000 in
set_option maxHeartbeats 8000000 in
theorem due_any {W : World} {b : Nat} {S : Nat → Prop} {l : List Al} (now : Int) (h : Wh W b S l) (hl : l.length ≤ 1000) :
    Calls Try.prog 14 #[wp b, .int .i64 now] W (DoesDue W b S now l) := by
  have H := Lib.hid h
  obtain ⟨u, ss, vs, hw, hls, hp, hS⟩ := h
  have h1 : 1 ≤ u := hw.u1
  have h64 : u ≤ 64 := hw.u64
  have hb1 : Below W.heap.size W ((W.alloc (.cells #[.int .i64 now] 2)).alloc (.cells #[.slice none 0 0] 27)) := ((Below.refl _ W).alloc (Nat.le_refl _) _).alloc (by simp) _
  have HA := Lib.hid (all_any (H.out.below hb1).seen hl)
  have hlen : (srt l).length ≤ 1000 := by rw [srt_length]; exact hl
  have hfp : ∀ k, Fp b u vs k → k < W.heap.size := fun k hk => (H.out.lt ((hS k).1 hk)).2
  have HW := Lib.hid hw
  have HL := Lib.hid hls
  have HP := Lib.hid hp
  have HS := Lib.hid hS
  have HFP := Lib.hid hfp
  have HNIL := Lib.hid (@due_nil now l)
  unfold DoesDue
  generalize srt l = ys at HA hlen HNIL ⊢
  clear hw hls hp hS hfp
  refine (callsIn_wide (n := 9)).1 ?_
  refine callsIn_of_wp_marks Try.func14 rfl trivial ?_ rfl
  simp only [Try.ntmps14, List.size_toArray, List.length_cons, List.length_nil, Nat.reduceAdd, Nat.reduceSub, Array.replicate_succ, Array.replicate_zero, List.push_toArray, List.append_toArray, List.nil_append, List.cons_append]
  gi_wp2_with (refine ⟨trivial, ?_⟩; gi_at_call 25; refine (callsIn_wide.2 HA.out).mono ?_; rintro e w3 ⟨Bs, v, rfl, hB, hr, hBs, hb⟩)
  have hbx0 : Boxed w3 W.heap.size 2 (.int .i64 now) := by
    have := (Boxed.new W 2 (.int .i64 now)).alloc (.cells #[.slice none 0 0] 27)
    exact (hb.block _ this.lt).trans this
  have hbx1 : Boxed w3 (W.heap.size + 1) 27 (.slice none 0 0) := by
    have := Boxed.new (W.alloc (.cells #[.int .i64 now] 2)) 27 (.slice none 0 0)
    rw [World.size_alloc] at this
    exact (hb.block _ this.lt).trans this
  have hb3 : Below W.heap.size W w3 := hb1.trans (hb.mono hb1.size)
  have hz3 := hb3.size
  have hBs2 : W.heap.size + 1 < Bs := by simp at hBs; omega
  have hlt3 := hbx1.lt
  have hSr : ∀ k, OfRow Bs v k → k < w3.heap.size ∧ W.heap.size + 1 < k := by
    rintro k (rfl | hk)
    · exact ⟨hB.lt, hBs2⟩
    · have := hr.lt k hk
      simp at this
      omega
  have HT := Lib.hid (values_tells hB hr)
  have HB0 := Lib.hid hbx0
  have HB1 := Lib.hid hbx1
  have HSr := Lib.hid hSr
  clear hbx0 hbx1 hSr hB hr hBs hb hBs2 HA
  obtain ⟨i0, hi, hz0, hz1, hz2⟩ := info_parts info31
  refine wp_range (α := Al) (encs := fun x => #[alv x]) (xs := ys) (S := OfRow Bs v) rfl (enters_of Try.func33 (by kernel_rfl) rfl) HT.out (fun k hk => (HSr.out k hk).1) (fun _ => rfl)
    (DueI W w3.heap.size now) (DueX W w3.heap.size now)
    (fun pre x a' Wa => DueI W w3.heap.size now pre Wa ∧ ∃ Bx, W.heap.size + 1 < Bx ∧ BoxA Wa Bx x ∧
      a' = { tmps := #[wp b, .int .i64 now, undef, .pointer (some ⟨W.heap.size, 0, none⟩), .slice none 0 0, .pointer (some ⟨W.heap.size + 1, 0, none⟩), .pointer (some ⟨Bx, 0, none⟩), undef, wp b, .func (.func 33) #[] #[.pointer (some ⟨Bs, 0, none⟩)], alv x, undef, undef, undef, undef, undef, undef, undef, undef, undef, undef, undef, undef, undef, undef, undef, undef, undef, undef, undef, undef, undef, undef, undef, undef, undef, undef, undef], defers := [] })
    ?hI ?hIx ?hA ⟨⟨⟨_, HB1.out, World.ownsRow_nil _ _ _ _⟩, Nat.le_refl _, hb3⟩, HB0.out, by simp⟩ ?assign ?body ?done ?stop
  case hI => exact fun s => DueI.abides hz3
  case hIx =>
    rintro c s X Y ⟨hc, ini, x, e1, e2, e3⟩ t
    exact ⟨hc, ini, x, e1, e2, DueI.abides hz3 _ _ e3 t⟩
  case hA =>
    rintro s x a' X Y ⟨q1, Bx, q4, q5, q6⟩ t
    exact ⟨DueI.abides hz3 _ _ q1 t, Bx, q4, q5.turn t, q6⟩
  case assign =>
    rintro l pre x X hi
    have HI := Lib.hid hi
    obtain ⟨⟨⟨u, hv, hr⟩, hn, hb⟩, _⟩ := hi
    have hlt := hv.lt
    clear hv hr
    gi_wp2
    exact ⟨keeps_alloc _ _ _, keeps_of (box_below _ _) (fun k hk => Nat.lt_of_lt_of_le (HSr.out k hk).1 hn), DueI.abides hz3 _ _ HI.out (Turn.later (box_below _ _)), X.heap.size, hlt, BoxA.new _ _, rfl⟩
  case body =>
    rintro ll pre x post a' X hx ⟨⟨⟨⟨u1, hv, hr⟩, hn, hb⟩, hbn, hall⟩, Bx, hBx, ⟨d0, d1⟩, rfl⟩
    have hlen2 : pre.length < 1000 := by
      have := congrArg List.length hx
      simp at this
      omega
    have HH := Lib.hid (show DueI W w3.heap.size now pre X from ⟨⟨⟨u1, hv, hr⟩, hn, hb⟩, hbn, hall⟩)
    have c0 := hv.cell
    have f0 := hv.frozen
    have n0 := hbn.cell
    have HBN := Lib.hid hbn
    have HAll := Lib.hid hall
    clear hx hbn hall
    by_cases hlt : now < x.2
    · gi_wp2
      exact ⟨KeepsFrom.refl _ _, rfl, pre, x, rfl, hlt, HH.out⟩
    · have hle : x.2 ≤ now := by omega
      gi_wp2_with (gi_at_builtin; refine wpListIn_append_own _ rfl _ _ 27 rfl w3.heap.size 31 i0 (.agg #[.int .i64 0, .int .i64 0]) 2 16 Try.underlying27 hi hz0 hz1 hz2 rfl (by decide) _ _ _ rfl (hr.alloc _) ⟨X.heap.size, 0, none⟩ 1 1 [.int .i64 x.1, .int .i64 x.2] rfl rfl (new_cells X x) (one_cells x) (by unfold maxLen; omega) (by omega) (by simp; omega) ?_; intro v' w1 hown' hgrow _; obtain ⟨g', cap', rfl⟩ := ownsRow_succ hown'; obtain ⟨hv1, hv2, hr2, hk2, hp2, hb2⟩ := appended2 hv hr hlt3 hn hown' hgrow; have hc1 := hv1.cell; have hf1 := hv1.frozen)
      refine ⟨hk2.from _, ⟨hb2.size, fun k hk => hp2 k (HSr.out k hk).1 (Nat.ne_of_gt (HSr.out k hk).2)⟩, ⟨⟨_, hv2, hr2⟩, Nat.le_trans hn hb2.size, hb.trans (hb2.mono (Nat.le_succ _))⟩, ?_, fun y hy => ?_⟩
      · exact (hp2 W.heap.size (by omega) (by omega)).trans HBN.out
      · rcases List.mem_append.1 hy with hy | hy
        · exact HAll.out y hy
        · rw [List.mem_singleton.1 hy]; exact hle
  case' done =>
    rintro D X hD ⟨⟨⟨u1, hv, hr⟩, hn, hb⟩, hbn, hall⟩ hd
    have hr2 : Row X w3.heap.size u1 (dueL now ys) := by rw [due_all hall]; exact hr
    clear hall hr
  case' stop =>
    rintro D c pre post X hD hx ⟨rfl, ini, x, e1, e2, ⟨⟨u1, hv, hr⟩, hn, hb⟩, hbn, hall⟩ hd
    have hr2 : Row X w3.heap.size u1 (dueL now ys) := by rw [show dueL now ys = ini by rw [hx, e1]; exact due_part hall e2]; exact hr
    clear hall hr hx e1 e2
  all_goals
    have HD := Lib.hid hd
    have HR2 := Lib.hid hr2
    have HBN := Lib.hid hbn
    have HBV := Lib.hid hv
    obtain ⟨A, c1, hvf⟩ := row_slice hr2
    obtain ⟨n, hnl⟩ : ∃ n, (dueL now ys).length = n := ⟨_, rfl⟩
    have HNL := Lib.hid hnl
    rw [hnl] at hvf
    subst hvf
    have c0 := hv.cell
    have hu := (HW.out.below hb).used
    have HBX := Lib.hid hb
    clear hd hr2 hbn hv hnl
    by_cases hn0 : n = 0
    · subst hn0
      have HE := Lib.hid (List.length_eq_zero_iff.1 HNL.out)
      gi_wp2
      refine ⟨by simp, .inl ⟨_, _, rfl, run_takeDeferred HD.out, ?_⟩⟩
      refine ⟨_, results_tmp rfl _ _ _, .slice none 0 0, rfl, ?_, ?_, ?_⟩
      · rw [HE.out]; exact World.ownsRow_nil _ _ _ _
      · rw [HNIL.out HE.out]
        exact H.out.below (put_below hb (Nat.le_trans hz3 hD) HD.out _)
      · exact OnlyS.of_below (put_below hb (Nat.le_trans hz3 hD) HD.out _)
    · have hnn : ((n : Int) == 0) = false := by simpa using hn0
      have hnn2 : (n == 0) = false := by simpa using hn0
      gi_wp2
      gi_loopw [26] (fun t wr => ∃ (j : Nat) (vs2 : Nat → Value), j ≤ u ∧ t = .int .i64 j ∧ WheelAt wr b u (part (fun x => !decide (x.2 ≤ now)) ss j) vs2 ∧ (∀ k, (vs2 k).ownBlock = (vs k).ownBlock) ∧ OnlyS (Fp b u vs) X wr) (fun t _ => u - (intOf t).toNat)
      case atStart => exact ⟨0, vs, by omega, rfl, by rw [part_zero]; exact HW.out.below HBX.out, fun _ => rfl, OnlyS.refl _ _⟩
      case round =>
        obtain ⟨j, vs2, hj, rfl, hwj, hov, hon⟩ := hrel
        have HWj := Lib.hid hwj
        have HOv := Lib.hid hov
        have HOn := Lib.hid hon
        have hzx := HBX.out.size
        have hfe : ∀ k, Fp b u vs2 k ↔ Fp b u vs k := fun k => by unfold Fp; simp only [hov]
        have HFE := Lib.hid hfe
        clear hwj hov hon hfe c0 hu
        by_cases hju : j < u
        · have hnowc : wr.cell? ⟨W.heap.size, 0, none⟩ = some (.int .i64 now) := by
            have e1 : wr.heap[W.heap.size]? = X.heap[W.heap.size]? := HOn.out.block _ HBN.out.lt (fun hk => Nat.lt_irrefl _ (HFP.out _ hk))
            exact (World.cell?_of_block (w := X) (a := ⟨W.heap.size, 0, none⟩) e1).trans HBN.out.cell
          have HDr := Lib.hid (drop_any HWj.out hju (pred_due W.heap.size now) hnowc (fun hk => Nat.lt_irrefl _ (HFP.out _ ((HFE.out _).1 hk))))
          clear hnowc
          gi_wp2_with (refine ⟨trivial, ?_⟩; gi_at_call 23; refine (callsIn_wide.2 HDr.out).mono ?_; rintro e w5 ⟨v', rfl, hw5, ho5, hon5⟩)
          go_roundw
          case rel =>
            refine ⟨j + 1, upd vs2 j v', by omega, by go_num, by rw [← part_succ]; exact hw5, fun k => ?_, HOn.out.trans (hon5.mono ?_)⟩
            · by_cases e : k = j
              · subst e; rw [upd_same, ho5]; exact HOv.out k
              · rw [upd_other _ _ e]; exact HOv.out k
            · rintro k _ (rfl | hk)
              · exact .inl rfl
              · exact .inr ⟨j, hju, by rw [← HOv.out j]; exact hk⟩
          case measure => simp [intOf]; omega
        · obtain rfl : j = u := by omega
          have e1 : wr.heap[W.heap.size + 1]? = X.heap[W.heap.size + 1]? := HOn.out.block _ HBV.out.lt (fun hk => by have := HFP.out _ hk; omega)
          have c2 : wr.cell? ⟨W.heap.size + 1, 0, none⟩ = some (.slice A n c1) := (World.cell?_of_block (w := X) (a := ⟨W.heap.size + 1, 0, none⟩) e1).trans HBV.out.cell
          have HD2 := Lib.hid (show wr.heap[D]? = some (.deferred (some [])) from (HOn.out.block D (Array.getElem?_eq_some_iff.1 HD.out).1 (fun hk => by have := HFP.out _ hk; omega)).trans HD.out)
          have HR3 := Lib.hid (show Row wr w3.heap.size (.slice A n c1) (dueL now ys) from HR2.out.keep fun g hg => HOn.out.block g (HR2.out.lt g hg).2 (fun hk => by have := HFP.out _ hk; have := (HR2.out.lt g hg).1; omega))
          clear e1
          gi_wp2
          refine ⟨by simp, .inl ⟨_, _, rfl, run_takeDeferred HD2.out, ?_⟩⟩
          have hput := Turn.put (B := W.heap.size) (.deferred none) (Nat.le_trans hz3 hD) HD2.out rfl
          have hfl : alls (part (fun x => !decide (x.2 ≤ now)) ss j) j = l.filter (fun x => !decide (x.2 ≤ now)) := by
            rw [HL.out, alls_filter]
            exact alls_ext fun k hk => by simp [part, hk]
          refine ⟨_, results_tmp rfl _ _ _, .slice A n c1, rfl, (HR3.out.base hz3).turn hput, ?_, ?_⟩
          · refine ⟨j, part (fun x => !decide (x.2 ≤ now)) ss j, vs2, ?_, hfl.symm, ?_, fun k => (HFE.out k).trans (HS.out k)⟩
            · refine HWj.out.keep hput.size (hput.low b ?_ HWj.out.lt) (fun m g hm hg => hput.low g ?_ (HWj.out.rowlt hm hg).2)
              · exact HW.out.lt
              · rw [HOv.out] at hg; exact (HW.out.rowlt hm hg).2
            · intro m hm x hx
              unfold part at hx
              rw [if_pos hm] at hx
              exact HP.out m hm x (List.mem_filter.1 hx).1
          · have hww : OnlyS S W wr := OnlyS.trans (OnlyS.of_below HBX.out) (HOn.out.mono (fun k _ hk => (HS.out k).1 hk))
            exact ⟨hput.os.trans hww.os, hput.tape.trans hww.tape, hput.output.trans hww.output, Nat.le_trans hww.size hput.size, fun k hk hne => (hput.low k hk (Nat.lt_of_lt_of_le hk hww.size)).trans (hww.block k hk hne)⟩
end Go.Proofs.Ythoicmbpjcgdpaa
