/- The document's table: settle, Release, Cancel. -/
import Derived.Test.YtjhkejkdnjogiaaGreatDoorEc
import Derived.Deep.RegionLaw
import Derived.Deep.RegionLawGrows
namespace Go.Proofs.YtjhkejkdnjogiaaGreatDoor.Rt
open Go Go.RowKit Go.Shelf
set_option maxRecDepth 100000

section
variable {W W' w w1 w2 w6 : World} {t K m c c' : Nat} {mr : Int} {es es' es1 es2 : List Nd} {D D' D1 T : Nat → Prop} {A A' : Option Addr} {e : Nd} {p : Pa.Pt} {C : Pa.Pt → Cx}
theorem Dout.then (h : OnlyS (Own t A es) W w1) (hn : Nb W w1) (hD : ∀ k, D k → D1 k) {A1 : Option Addr} (hO : ∀ k, Own t A1 es1 k → Own t A es k ∨ W.heap.size ≤ k) (k : Dout w1 t K m mr es1 A1 D1 es2 w2) : Dout W t K m mr es A D es2 w2 := by
  obtain ⟨A', c', D', h1, h2, h3, h4, h5⟩ := k
  refine ⟨A', c', D', h1, ⟨h2.os.trans h.os, h2.tape.trans h.tape, h2.output.trans h.output, Nat.le_trans h.size h2.size, fun j hj hjn => ?_⟩, hn.trans h3, fun k hk => h4 k (hD k hk), fun k hk => ?_⟩
  · refine (h2.block j (Nat.lt_of_lt_of_le hj h.size) fun q => ?_).trans (h.block j hj hjn)
    rcases hO j q with z | z
    · exact hjn z
    · omega
  · rcases h5 k hk with q | q
    · exact hO k q
    · exact .inr (Nat.le_trans h.size q)
/-- a queue of an entry's was changed -/
theorem Di.queue (h : Di W t K m mr es D A c) {i : Nat} (hi : i < es.length) {x : Nd} (hx : es[i] = x) : ∃ A1 c1 A2 c2, RAt W x.q x.p A1 c1 A2 c2 x.H x.L ∧
    ∀ w' H L, RLeft x.q x.p W (A1, x.H) (A2, x.L) H L w' → Di w' t K m mr (es.set i ⟨x.p, x.q, H, L⟩) D A c ∧ OnlyS (Own t A es) W w' ∧ Nb W w' ∧ ∀ k, Own t A (es.set i ⟨x.p, x.q, H, L⟩) k → Own t A es k := by
  have hm : x ∈ es := hx ▸ List.getElem_mem hi
  obtain ⟨A1, c1, A2, c2, hR, o1, o2⟩ := h.ent x hm
  refine ⟨A1, c1, A2, c2, hR, fun w' H L hl => ?_⟩
  obtain ⟨⟨B1, d1, B2, d2, hR', g1, g2⟩, ho, hn⟩ := hl
  have hm' : ∀ e, e ∈ es.set i ⟨x.p, x.q, H, L⟩ → e = ⟨x.p, x.q, H, L⟩ ∨ (e ∈ es ∧ e.q ≠ x.q) := by
    intro e he
    obtain ⟨j, hj, rfl⟩ := List.mem_iff_getElem.1 he
    rw [List.length_set] at hj
    by_cases q : i = j
    · subst q
      rw [List.getElem_set_self]
      exact .inl rfl
    · rw [List.getElem_set_ne q]
      refine .inr ⟨List.getElem_mem hj, fun z => q ?_⟩
      have h1 := h.one
      rw [List.nodup_iff_pairwise_ne, List.pairwise_iff_getElem] at h1
      rcases Nat.lt_trichotomy i j with y | y | y
      · refine absurd ?_ (h1 i j (by simpa using hi) (by simpa using hj) y)
        simp [hx, z]
      · exact y
      · refine absurd ?_ (h1 j i (by simpa using hj) (by simpa using hi) y)
        simp [hx, z]
  have hmap : (es.set i ⟨x.p, x.q, H, L⟩).map (fun e : Nd => e.q) = es.map (fun e : Nd => e.q) := by
    rw [List.map_set]
    refine List.ext_getElem (by simp) fun j h1 h2 => ?_
    by_cases q : i = j
    · subst q
      rw [List.getElem_set_self]
      simp [hx]
    · rw [List.getElem_set_ne q]
  refine ⟨⟨?_, ?_, ?_, by rw [hmap]; exact h.one, h.dt, h.da, ?_, fun k hk => Nat.lt_of_lt_of_le (h.dl k hk) ho.size, h.na, ?_, h.kt, ?_⟩, ho.mono fun k _ hk => .inr (.inr ⟨x, hm, hk.symm⟩), hn, ?_⟩
  · rw [List.length_set]
    exact (ho.block t h.lt (fun q => (h.nq x hm).1 q.symm)).trans h.blk
  · rw [hmap]
    exact h.rd.keepT ho.size fun a ha => ho.block _ (h.rd.lt a ha).2 ((h.nq x hm).2 a ha)
  · intro e he
    rcases hm' e he with rfl | ⟨he, hne⟩
    · exact ⟨B1, d1, B2, d2, hR', o1.frb g1 h.dl, o2.frb g2 h.dl⟩
    · obtain ⟨C1, k1, C2, k2, h1, h2⟩ := h.ent e he
      exact ⟨C1, k1, C2, k2, h1.beside ho hne hn, h2⟩
  · intro e he
    rcases hm' e he with rfl | ⟨he, -⟩
    · exact h.dq x hm
    · exact h.dq e he
  · intro e he
    rcases hm' e he with rfl | ⟨he, -⟩
    · exact h.nq x hm
    · exact h.nq e he
  · intro e he
    rcases hm' e he with rfl | ⟨he, -⟩
    · exact h.kq x hm
    · exact h.kq e he
  · rintro k (hk | hk | ⟨e, he, rfl⟩)
    · exact .inl hk
    · exact .inr (.inl hk)
    · rcases hm' e he with rfl | ⟨he, -⟩
      · exact .inr (.inr ⟨x, hm, rfl⟩)
      · exact .inr (.inr ⟨e, he, rfl⟩)
theorem del_done {g i n' c6 : Nat} {A6 : Option Addr} (h : Di W t K m mr es D (some ⟨g, 0, none⟩) c) (hi : i < es.length) (hb : Below W.heap.size W w6)
    (hrd : Rd w6 K A6 c6 ((es.map (·.q)).take i ++ (es.map (·.q)).drop (i + 1))) (hor : A6 = some ⟨g, 0, none⟩ ∨ ∀ a, A6 = some a → W.heap.size ≤ a.block) (hn : es.length = n' + 1) :
    Dout W t K m mr es (some ⟨g, 0, none⟩) D (es.take i ++ es.drop (i + 1)) (w6.setCell ⟨t, 0, none⟩ (.slice A6 n' c6)) := by
  have h6 := h.wide hb (N := fun k => ∃ a, A6 = some a ∧ a.block = k ∧ W.heap.size ≤ k) (fun k ⟨a, ha, hk, hl⟩ => ⟨hl, hk ▸ (hrd.lt a ha).2⟩)
  have hlt := h.lt
  have hql : ∀ e, e ∈ es → e.q < W.heap.size := fun e he => h.dl _ (h.dq e he)
  have hsub : (es.take i ++ es.drop (i + 1)).Sublist es := by
    have := List.Sublist.append (List.Sublist.refl (es.take i)) (List.drop_sublist_drop_left es (Nat.le_succ i))
    rw [List.take_append_drop] at this
    exact this
  have hmap : (es.take i ++ es.drop (i + 1)).map (fun e : Nd => e.q) = (es.map (·.q)).take i ++ (es.map (·.q)).drop (i + 1) := by simp
  obtain ⟨h10, hn10⟩ := h6.relist (es' := es.take i ++ es.drop (i + 1)) (D' := fun k => D k ∨ ∃ a, A6 = some a ∧ a.block = k ∧ W.heap.size ≤ k) (by rw [hmap]; exact hrd) (fun _ hk => hk) h6.dl
    (fun e he => h6.ent e (hsub.subset he)) ((hsub.map _).nodup h.one)
    (fun a ha => by
      rcases hor with q | q
      · rw [q] at ha
        exact .inl (h.da a ha)
      · exact .inr ⟨a, ha, rfl, q a ha⟩)
    (fun e he => .inl (h.dq e (hsub.subset he)))
    (fun a ha => by
      rcases hor with q | q
      · rw [q] at ha
        exact h.na a ha
      · have := q a ha; omega)
    (fun e he => ⟨(h.nq e (hsub.subset he)).1, fun a ha => by
      rcases hor with q | q
      · rw [q] at ha
        exact (h.nq e (hsub.subset he)).2 a ha
      · have := q a ha; have := hql e (hsub.subset he); omega⟩)
    (fun e he => h.kq e (hsub.subset he))
    (n := n') (by rw [List.length_append, List.length_take, List.length_drop]; omega)
  refine ⟨_, _, _, h10, ?_, (Nb.below hb).trans hn10, fun k hk => .inl hk, ?_⟩
  · exact (OnlyS.of_below hb).trans ((OnlyS.set t 0 w6 _).mono fun k _ hk => .inl hk)
  · rintro k (rfl | ⟨a, ha, rfl⟩ | ⟨e, he, rfl⟩)
    · exact .inl (.inl rfl)
    · rcases hor with q | q
      · rw [q] at ha
        exact .inl (.inr (.inl ⟨a, ha, rfl⟩))
      · exact .inr (q a ha)
    · exact .inl (.inr (.inr ⟨e, hsub.subset he, rfl⟩))
set_option maxHeartbeats 4000000 in
theorem Di.settle (h : Di W t K m mr es D A c) (hn : es.length ≤ 300) {i : Nat} (hi : i < es.length) {x : Nd} (hx : es[i] = x) (hz : x.H.length + x.L.length ≤ 1000) : Calls Tryz.prog 58 #[qp t, .int .i64 (i : Int)] W fun e w' => e = .returned (.tuple #[]) ∧
    Dout W t K m mr es A D (if x.H.length + x.L.length = 0 then es.take i ++ es.drop (i + 1) else es) w' := by
  have HD := Lib.hid h
  have HI := Lib.hid hi
  have hm : x ∈ es := hx ▸ List.getElem_mem hi
  obtain ⟨A1, c1, A2, c2, hR, -⟩ := h.ent x hm
  have HSz := Lib.hid (fun (w : World) (hb : Below W.heap.size W w) => rsize_any (hR.below hb) (by omega) (by omega))
  obtain ⟨n, hN⟩ : ∃ n, es.length = n := ⟨_, rfl⟩
  have HN := Lib.hid hN
  obtain ⟨g, rfl, c0, -⟩ := h.at hi
  rw [hx] at c0
  have e0 := h.e0 hN
  have l0 := h.lt
  have l1 := cell_lt c0
  have hin : i < n := by rw [← hN]; exact hi
  have hcap := h.rd.cap
  have hroom := h.rd.room
  rw [List.length_map, hN] at hcap
  rw [hN] at hn
  obtain ⟨z, hz0⟩ : ∃ z, x.H.length + x.L.length = z := ⟨_, rfl⟩
  rw [hz0] at HSz hz ⊢
  obtain ⟨Q, hQ⟩ : ∃ Q, x.q = Q := ⟨_, rfl⟩
  rw [hQ] at HSz c0
  simp only at l1
  have hii : (i : Int) < (n : Int) := by omega
  by_cases hz1 : z = 0
  · rw [if_pos hz1]
    have hzb : ((z : Int) == 0) = true := by subst hz1; rfl
    have HZ := Lib.hid hz1
    clear h hi hm hR hN hx hz0 hQ hz1
    by_cases hc : c = i + 1
    · have hn1 : n = i + 1 := by omega
      have HDel := Lib.hid (fun (w : World) (hb : Below W.heap.size W w) => del_some (HD.out.below hb).rd (i := i) (by rw [List.length_map]; exact HI.out) (by rw [List.length_map, HN.out]; omega) (Nat.le_trans (Nat.le_of_lt (Nat.lt_of_le_of_lt HD.out.kt HD.out.lt)) hb.size) (sa := ⟨g, 0, none⟩) (by rw [if_pos hc]) (n := n) (by rw [List.length_map, HN.out]))
      go_enter Tryz.func58, Tryz.ntmps58
      go_wp2_with fail
      refine (HSz.out W (Below.refl _ _)).mono ?_
      rintro e w1 ⟨rfl, hb1⟩
      have HB1 := Lib.hid hb1
      have hd1 := HD.out.below hb1
      have e1 := hd1.e0 HN.out
      have l2 := hd1.lt
      obtain ⟨A6, c6, w6, hr6, hrd6, hb6, hor⟩ := HDel.out w1 hb1
      rw [hn1, Nat.sub_self, Nat.add_zero, hc, Nat.sub_self] at hr6
      have HS := Lib.hid (Dout.then (OnlyS.of_below hb1) (Nb.below hb1) (fun _ hk => hk) (fun _ hk => .inl hk) (del_done hd1 HI.out hb6 hrd6 hor (n' := i) (by rw [HN.out]; omega)))
      have hd6 := hd1.below hb6
      have r0 := hd6.e0 HN.out
      have rf := hd6.fz 0
      have l6 := hd6.lt
      have HR6 := Lib.hid hr6
      clear hd1 hd6 hr6 hrd6 hb6 hor hb1 HSz HDel
      have q3 : IntKind.i64.wrap ((i : Int) + 1) = ((i + 1 : Nat) : Int) := by rw [Int.natCast_succ]; exact IntWalk.i64_in _ (by omega)
      have q4 : i ≤ c := by omega
      have q5 : i + 1 ≤ n := by omega
      have q6 : (0 : Int) ≤ (i : Int) + 1 := by omega
      have q7 : (i : Int) + 1 ≤ (n : Int) := by omega
      have q8 : (i : Int) ≤ (i : Int) + 1 := by omega
      unfold maxLen at hroom
      subst hn1
      subst hc
      go_wp2_with fail
      go_region_law (first
        | (refine step_append_run ?h1 (.tmp 20) (.tmp 27) 38 ?h2 (.slice (some ⟨g, 0, none⟩) i i) (.slice (some ⟨g, 0, none⟩) 0 0) ?h3 ?h4 _ _ HR6.out ?_; rotate_right; (case h1 => rfl); (case h2 => rfl); (case h3 => kernel_rfl); (case h4 => kernel_rfl)))
      all_goals
        clear q3
        go_wp2_with fail
        go_end0
        exact ⟨rfl, HS.out⟩
    · have hn1 : i + 1 ≤ n := by omega
      have HDel := Lib.hid (fun (w : World) (hb : Below W.heap.size W w) => del_some (HD.out.below hb).rd (i := i) (by rw [List.length_map]; exact HI.out) (by rw [List.length_map, HN.out]; omega) (Nat.le_trans (Nat.le_of_lt (Nat.lt_of_le_of_lt HD.out.kt HD.out.lt)) hb.size) (sa := ⟨g, i + 1, none⟩) (by rw [if_neg hc]) (n := n) (by rw [List.length_map, HN.out]))
      go_enter Tryz.func58, Tryz.ntmps58
      go_wp2_with fail
      refine (HSz.out W (Below.refl _ _)).mono ?_
      rintro e w1 ⟨rfl, hb1⟩
      have HB1 := Lib.hid hb1
      have hd1 := HD.out.below hb1
      have e1 := hd1.e0 HN.out
      have l2 := hd1.lt
      obtain ⟨A6, c6, w6, hr6, hrd6, hb6, hor⟩ := HDel.out w1 hb1
      have HS := Lib.hid (Dout.then (OnlyS.of_below hb1) (Nb.below hb1) (fun _ hk => hk) (fun _ hk => .inl hk) (del_done hd1 HI.out hb6 hrd6 hor (n' := i + (n - (i + 1))) (by rw [HN.out]; omega)))
      have hd6 := hd1.below hb6
      have r0 := hd6.e0 HN.out
      have rf := hd6.fz 0
      have l6 := hd6.lt
      have HR6 := Lib.hid hr6
      clear hd1 hd6 hr6 hrd6 hb6 hor hb1 HSz HDel
      have q3 : IntKind.i64.wrap ((i : Int) + 1) = ((i + 1 : Nat) : Int) := by rw [Int.natCast_succ]; exact IntWalk.i64_in _ (by omega)
      have q4 : i ≤ c := by omega
      have q5 : i + 1 ≤ n := by omega
      have q6 : (0 : Int) ≤ (i : Int) + 1 := by omega
      have q7 : (i : Int) + 1 ≤ (n : Int) := by omega
      have q8 : (i : Int) ≤ (i : Int) + 1 := by omega
      unfold maxLen at hroom
      go_wp2_with fail
      go_region_law (first
        | (refine step_append_run ?h1 (.tmp 20) (.tmp 27) 38 ?h2 (.slice (some ⟨g, 0, none⟩) i i) (.slice (some ⟨g, i + 1, none⟩) (n - (i + 1)) (c - (i + 1))) ?h3 ?h4 _ _ HR6.out ?_; rotate_right; (case h1 => rfl); (case h2 => rfl); (case h3 => kernel_rfl); (case h4 => kernel_rfl)))
      all_goals
        clear q3
        go_wp2_with fail
        go_end0
        exact ⟨rfl, HS.out⟩
  · rw [if_neg hz1]
    have hzb : ((z : Int) == 0) = false := by simp; omega
    clear h hi hm hR hN hx hz0 hQ
    go_enter Tryz.func58, Tryz.ntmps58
    go_wp2_with fail
    refine (HSz.out W (Below.refl _ _)).mono ?_
    rintro e w1 ⟨rfl, hb1⟩
    have HB1 := Lib.hid hb1
    clear hb1
    go_wp2_with fail
    go_end0
    exact ⟨rfl, Dout.same HD.out HB1.out⟩
end
end Go.Proofs.YtjhkejkdnjogiaaGreatDoor.Rt
