/- What is put on the heap, what is taken from it. -/
import Derived.Test.YtgefponjlliaaaaHl
namespace Go.Proofs.Ytgefponjlliaaaa
open Go Go.RowKit Go.Shelf
set_option maxRecDepth 100000

/-- as 'app2', of a type of its own -/
theorem Is.Row.app40 {W : World} {K : Nat} {v : Value} {xs : List Int} {g : Nat} (x : Int) (h : Is.Row W K v xs) (hs : Is.Ls W (some ⟨g, 0, none⟩) 1 [x]) (hl : xs.length + 1 ≤ 1000000) (hK : K ≤ W.heap.size) (ty : TypeId) :
    ∃ v' W', (Builtin.append_ #[40, 40] ty #[v, .slice (some ⟨g, 0, none⟩) 1 1]).run Try.prog W = .ok v' W' ∧ Is.Row W' K v' (xs ++ [x]) ∧ W.grownBy W' v.ownBlock ∧ (v'.ownBlock = v.ownBlock ∨ v'.ownBlock = some W.heap.size) := by
  obtain ⟨i0, hi, hz0, hz1, hz2⟩ := info_parts Is.info3
  obtain ⟨v', W', h1, h2, h3, -, h5⟩ := run_append_own_at (P := Try.prog) W K 40 ty 3 i0 _ 1 8 Try.underlying40 hi hz0 hz1 hz2 rfl (by decide) v xs.length (Is.flat xs) h ⟨g, 0, none⟩ 1 1 (Is.flat [x]) (Is.flat_length [x]) (hs.at' _ rfl) (Is.flat_one [x]) (by unfold maxLen; omega) (by omega) hK
  refine ⟨v', W', h1, ?_, h3, h5⟩
  unfold Is.Row
  rw [Is.flat_append, List.length_append]
  exact h2
theorem assert_int (x : Int) (w : World) : Sem.run Try.prog (Instr.typeAssert (.iface 3 (.int .i64 x)) 20 3 false) w = .ok (.int .i64 x) w := by
  rfl
section
variable {W : World} {K b : Nat} {v : Value} {L : List Nat}
/-- what a call with the heap leaves: of what there was only the variable and its row are changed -/
structure Hs (W : World) (K b : Nat) (v : Value) (L' : List Nat) (v' : Value) (w' : World) : Prop where
  hq : Hq w' K b v' L'
  only : OnlyS (fun k => k = b ∨ v.ownBlock = some k) W w'
  own : v'.ownBlock = v.ownBlock ∨ ∀ k, v'.ownBlock = some k → W.heap.size ≤ k
theorem pushQ_any (h : Hq W K b v L) (hL : L.length ≤ 1000) (x : Nat) : Calls Try.prog 113 #[hpP b, .iface 3 (.int .i64 (x : Int))] W fun e w' => e = .returned (.tuple #[]) ∧ ∃ v', Hs W K b v (L ++ [x]) v' w' := by
  have hX : Hq (W.drewN 1) K b v L := h.only (OnlyS.drewN (OnlyS.refl (fun _ => False) _) 1) (fun h => h) (row_keep h.row fun _ _ => rfl)
  have hbx := box_below (W.drewN 1) (.cells #[.int .i64 (x : Int)] 3)
  obtain ⟨v', w2, hrun, hrow, hgr, hown⟩ := Is.Row.app40 (x : Int) (row_below hX.row hbx) (Is.box_ls _ _) (by rw [ints_length]; omega) (Nat.le_trans hX.KW hbx.size) 40
  obtain ⟨A, c, hv, -⟩ := h.row.ls
  have hob : v.ownBlock ≠ some b := fun e => by
    have h1 := (h.row.lt b e).1
    have := h.bK
    omega
  have ho1 : OnlyS (fun k => v.ownBlock = some k) W w2 := (((OnlyS.refl _ _).drewN 1).alloc (.cells #[.int .i64 (x : Int)] 3)).grown hgr fun k hk => .inl hk
  have hc2 : w2.cell? ⟨b, 0, none⟩ = some v := ho1.cell h.cell hob
  have hf2 : w2.frozen? ⟨b, 0, none⟩ = false := (World.frozen?_of_block (w := W) (a := ⟨b, 0, none⟩) (ho1.block b (cell_lt h.cell) hob)).trans h.fz
  have hob2 : v'.ownBlock ≠ some b := fun e => by
    have h1 := (hrow.lt b e).1
    have := h.bK
    omega
  have HS := Lib.hid (show Hs W K b v (L ++ [x]) v' (w2.setCell ⟨b, 0, none⟩ v') from by
    refine ⟨⟨cell_near hc2, by rw [World.frozen?_setCell]; exact hf2, ?_, h.bK, ?_⟩, (ho1.mono fun k _ hk => .inr hk).trans ((OnlyS.set b 0 _ _).mono fun k _ hk => .inl hk), ?_⟩
    · rw [ints_append]
      exact row_keep hrow fun k hk => Below.heap_setCell w2 ⟨b, 0, none⟩ _ k (by rintro rfl; exact hob2 hk)
    · have := ho1.size
      have := h.KW
      simp [World.setCell]; omega
    · rcases hown with q | q
      · exact .inl q
      · right
        intro k hk
        rw [q] at hk
        injection hk with hk
        rw [← hk]
        simp)
  have z0 := h.cell
  have hbl := cell_lt z0
  have hta := fun w => assert_int (x : Int) w
  have HRun := Lib.hid hrun
  have HV := Lib.hid hv
  obtain ⟨A', c', hv', -⟩ := hrow.ls
  have HV' := Lib.hid hv'
  obtain ⟨m, hm⟩ : ∃ m, (ints L ++ [(x : Int)]).length = m := ⟨_, rfl⟩
  rw [hm] at HV'
  clear hv' hm
  clear hX hbx hrow hgr hown ho1 hrun hob hob2 hv
  obtain rfl := HV.out
  obtain rfl := HV'.out
  obtain ⟨n, hn⟩ : ∃ n, (ints L).length = n := ⟨_, rfl⟩
  have hn1 : n ≤ 1000 := by rw [← hn, ints_length]; exact hL
  rw [hn] at z0 hc2 HRun HS ⊢
  clear hn HV HV' h
  go_enter Try.func113, Try.ntmps113
  go_wp2
  go_region_law (first
    | (refine step_append ?h1 (.tmp 8) (.tmp 11) 40 ?h2 (.slice A n c) (.slice (some ⟨W.heap.size, 0, none⟩) 1 1) ?h3 ?h4 _ _ HRun.out ?_; rotate_right; (case h1 => rfl); (case h2 => rfl); (case h3 => kernel_rfl); (case h4 => kernel_rfl)))
  all_goals exact bodyPost_end (results_none rfl _ _ _) rfl ⟨rfl, _, HS.out⟩
theorem popQ_any {x : Nat} (h : Hq W K b v (L ++ [x])) (hL : L.length ≤ 1000) : Calls Try.prog 112 #[hpP b] W fun e w' => e = .returned (.iface 3 (.int .i64 (x : Int))) ∧ ∃ v', Hs W K b v L v' w' := by
  obtain ⟨g, c, hv, z1, hrow, hlc, hKg, hgl⟩ := h.row.last
  have HS := Lib.hid (show Hs W K b v L (.slice (some ⟨g, 0, none⟩) L.length c) (W.setCell ⟨b, 0, none⟩ (.slice (some ⟨g, 0, none⟩) L.length c)) from by
    have hbK := h.bK
    refine ⟨⟨cell_near h.cell, by rw [World.frozen?_setCell]; exact h.fz, row_keep hrow fun k hk => Below.heap_setCell W ⟨b, 0, none⟩ _ k (by rintro rfl; have := (hrow.lt _ hk).1; omega), h.bK, by have := h.KW; simp [World.setCell]; omega⟩, (OnlyS.set b 0 _ _).mono fun k _ hk => .inl hk, .inl (by rw [hv]; rfl)⟩)
  have z0 := h.cell
  have zf := h.fz
  have hbl := cell_lt z0
  have HLen := Lib.hid (fun n w => len_any (some ⟨g, 0, none⟩) n c w)
  subst hv
  obtain ⟨n, hn⟩ : ∃ n, L.length = n := ⟨_, rfl⟩
  rw [hn] at HS z0 z1 hlc hL ⊢
  have hdec : ((n : Int) + 1) - 1 = (n : Int) := by omega
  clear hrow hn h
  go_enter Try.func112, Try.ntmps112
  go_wp2_with fail
  refine (HLen.out (n + 1) W).mono ?_
  rintro e w1 ⟨rfl, rfl⟩
  go_wp2_with fail
  go_ret
  exact ⟨rfl, _, HS.out⟩
theorem Hs.then {L1 L2 : List Nat} {v1 : Value} {w1 w2 : World} (h : Hs W K b v L1 v1 w1) (hq2 : Hq w2 K b v1 L2) (ho : OnlyS (fun k => v1.ownBlock = some k) w1 w2) : Hs W K b v L2 v1 w2 :=
  ⟨hq2, ⟨ho.os.trans h.only.os, ho.tape.trans h.only.tape, ho.output.trans h.only.output, Nat.le_trans h.only.size ho.size, fun k hk hn => (ho.block k (Nat.lt_of_lt_of_le hk h.only.size) fun e => by
    rcases h.own with q | q
    · exact hn (.inr (q ▸ e))
    · have := q k e; omega).trans (h.only.block k hk hn)⟩, h.own⟩
/-- the heap with one more on it -/
def Added (W : World) (K b : Nat) (v : Value) (L : List Nat) (x : Nat) (e : Ending) (w' : World) : Prop := e = .returned (.tuple #[]) ∧ ∃ v' L', Hs W K b v L' v' w' ∧ Cy.Hp L' ∧ L'.Perm (x :: L)
theorem put_any (h : Hq W K b v L) (hh : Cy.Hp L) (hL : L.length ≤ 900) (x : Nat) : Calls Try.prog 36 #[hpV b, .iface 3 (.int .i64 (x : Int))] W (Added W K b v L x) := by
  have HP := Lib.hid (pushQ_any h (by omega) x)
  have HH := Lib.hid hh
  have HL := Lib.hid hL
  clear h hh
  go_enter Try.func36, Try.ntmps36
  go_wp2_with (rw [m_push])
  refine HP.out.mono ?_
  rintro e w1 ⟨rfl, v1, hs1⟩
  obtain ⟨g, c, rfl, -, -, -, -, -⟩ := hs1.hq.row.last
  have z1 := hs1.hq.cell
  obtain ⟨n, hn⟩ : ∃ n, L.length = n := ⟨_, rfl⟩
  have HU := Lib.hid (up_any hs1.hq (hn ▸ Cy.UpI.start HH.out x) (by simp; omega))
  have HS1 := Lib.hid hs1
  have HLen := Lib.hid (fun n w => len_any (some ⟨g, 0, none⟩) n c w)
  have hn9 : n ≤ 900 := by omega
  rw [hn] at HU HS1 z1
  clear hs1 hL hn
  go_wp2_with (rw [m_len z1])
  refine (HLen.out (n + 1) w1).mono ?_
  rintro e w2 ⟨rfl, rfl⟩
  go_wp2_with fail
  refine HU.out.mono ?_
  rintro e w2 ⟨rfl, L', hp, hh, hq, ho⟩
  have HF := Lib.hid (show Added W K b v L x (.returned (.tuple #[])) w2 from ⟨rfl, _, L', HS1.out.then hq (ho.mono fun k _ hk => by rw [hk]; rfl), hh, hp.trans List.perm_append_comm⟩)
  clear hp hh hq ho
  go_wp2_with fail
  exact bodyPost_end (results_none rfl _ _ _) rfl HF.out
theorem add_any (h : Hq W K b v L) (hh : Cy.Hp L) (hL : L.length ≤ 900) (x : Nat) : Calls Try.prog 21 #[hpP b, .int .i64 (x : Int)] W (Added W K b v L x) := by
  have HP := Lib.hid (put_any h hh hL x)
  clear h hh hL
  go_enter Try.func21, Try.ntmps21
  go_wp2_with fail
  refine HP.out.mono ?_
  intro e w1 h1
  have HF := Lib.hid h1
  obtain ⟨rfl, -⟩ := h1
  go_wp2_with fail
  exact bodyPost_end (results_none rfl _ _ _) rfl HF.out
/-- the heap without its least one -/
def Taken (W : World) (K b : Nat) (v : Value) (L : List Nat) (f : Nat → Value) (e : Ending) (w' : World) : Prop := ∃ x v' L', e = .returned (f x) ∧ Hs W K b v L' v' w' ∧ Cy.Took L x L'
theorem get_any (h : Hq W K b v L) (hh : Cy.Hp L) (hL : L.length ≤ 900) (h0 : 0 < L.length) : Calls Try.prog 37 #[hpV b] W (Taken W K b v L fun x => .iface 3 (.int .i64 (x : Int))) := by
  obtain ⟨m, hm⟩ : ∃ m, L.length = m + 1 := ⟨L.length - 1, by omega⟩
  have hv : ∃ g c, v = .slice (some ⟨g, 0, none⟩) (m + 1) c := by
    rcases List.eq_nil_or_concat L with rfl | ⟨L0, y, rfl⟩
    · simp at h0
    · have hr := h.row
      rw [List.concat_eq_append] at hr
      obtain ⟨g, c, hv, -⟩ := hr.last
      have : L0.length = m := by simpa using hm
      exact ⟨g, c, by rw [hv, this]⟩
  obtain ⟨g, c, rfl⟩ := hv
  have H := Lib.hid h
  have HH := Lib.hid hh
  have z0 := h.cell
  have HLen := Lib.hid (fun n w => len_any (some ⟨g, 0, none⟩) n c w)
  have HSw := Lib.hid (swapR_any (i := 0) (j := m) h.row hm (by omega) (by omega))
  have hm9 : m ≤ 900 := by omega
  have hdec : ((m : Int) + 1) - 1 = (m : Int) := by omega
  clear h hh hL h0
  go_enter Try.func37, Try.ntmps37
  go_wp2_with (rw [m_len z0])
  refine (HLen.out (m + 1) W).mono ?_
  rintro e w1 ⟨rfl, rfl⟩
  go_wp2_with (rw [m_swap z0])
  refine HSw.out.mono ?_
  rintro e w1 ⟨rfl, hrow, ho⟩
  have hgb : ¬ b = g := by
    have := (H.out.row.lt g rfl).1
    have := H.out.bK
    omega
  have hq1 := H.out.only ho hgb hrow
  have HDn := Lib.hid (down_any hq1 HH.out hm rfl (by omega))
  have HO1 := Lib.hid ho
  clear hrow ho hq1 HSw
  go_wp2_with fail
  refine HDn.out.mono ?_
  rintro e w2 ⟨⟨r, rfl⟩, L', i, hd, hp, hq2, ho2⟩
  have ht := hd.took HH.out hm hp
  have hl' := hd.len
  have hcut : L' = L'.take m ++ [Cy.at0 L' m] := by
    rw [Cy.at0_get (by omega)]
    apply List.ext_getElem
    · simp; omega
    · intro k h1 h2
      rw [List.getElem_append]
      split
      · simp
      · rename_i h3
        rw [List.length_take] at h3
        have : k = m := by omega
        subst this
        simp
  rw [hcut] at hq2
  have HPop := Lib.hid (popQ_any hq2 (by simp; omega))
  have HT := Lib.hid ht
  have HS2 := Lib.hid (show Hs W K b (.slice (some ⟨g, 0, none⟩) (m + 1) c) _ _ w2 from ⟨hq2, (HO1.out.trans ho2).mono fun k _ hk => .inr (by rw [hk]; rfl), .inl rfl⟩)
  clear hd hp hq2 ho2 ht hl' hcut HDn HO1
  go_wp2_with (rw [m_pop])
  refine HPop.out.mono ?_
  rintro e w3 ⟨rfl, v', hs⟩
  have HF := Lib.hid (show Taken W K b (.slice (some ⟨g, 0, none⟩) (m + 1) c) L (fun x => .iface 3 (.int .i64 (x : Int))) (.returned (.iface 3 (.int .i64 (Cy.at0 L' m : Int)))) w3 from
    ⟨_, v', _, rfl, ⟨hs.hq, HS2.out.only.trans (hs.only), hs.own.imp (fun q => q) fun q k hk => Nat.le_trans HS2.out.only.size (q k hk)⟩, HT.out⟩)
  clear hs
  go_wp2_with fail
  go_ret
  exact HF.out
theorem take_any (h : Hq W K b v L) (hh : Cy.Hp L) (hL : L.length ≤ 900) (h0 : 0 < L.length) : Calls Try.prog 23 #[hpP b] W (Taken W K b v L fun x => .int .i64 (x : Int)) := by
  have HP := Lib.hid (get_any h hh hL h0)
  clear h hh hL h0
  go_enter Try.func23, Try.ntmps23
  go_wp2_with fail
  refine HP.out.mono ?_
  rintro e w1 ⟨x, v', L', rfl, hs, ht⟩
  have hta := fun w => assert_int (x : Int) w
  have HF := Lib.hid (show Taken W K b v L (fun x => .int .i64 (x : Int)) (.returned (.int .i64 (x : Int))) w1 from ⟨x, v', L', rfl, hs, ht⟩)
  clear hs ht
  go_wp2_with fail
  go_ret
  exact HF.out
end
end Go.Proofs.Ytgefponjlliaaaa
