/- An alarm is stopped. -/
import Derived.Test.YthoicmbpjcgdpaaE1
namespace Go.Proofs.Ythoicmbpjcgdpaa
open Go Go.RowKit Go.Shelf

/-- no two alarms have one number -/
def Uniq (l : List Al) : Prop := ∀ x ∈ l, ∀ y ∈ l, x.1 = y.1 → x = y
theorem findA_yes {id : Int} {l : List Al} (h : (findA id l).2 = true) : (findA id l).1 ∈ l ∧ (findA id l).1.1 = id := by
  unfold findA at *
  cases hf : l.find? (fun y => y.1 == id) with
  | none => rw [hf] at h; simp at h
  | some y =>
    simp only
    exact ⟨List.mem_of_find?_eq_some hf, by simpa using List.find?_some hf⟩
theorem findA_no {id : Int} {l : List Al} (h : (findA id l).2 = false) : ∀ x ∈ l, x.1 ≠ id := by
  unfold findA at h
  cases hf : l.find? (fun y => y.1 == id) with
  | none => intro x hx e; have := List.find?_eq_none.1 hf x hx; simp [e] at this
  | some y => rw [hf] at h; simp at h
theorem mem_alls {ss : Nat → List Al} {u : Nat} {x : Al} : x ∈ alls ss u ↔ ∃ i, i < u ∧ x ∈ ss i := by simp [alls]
theorem alls_filter (ss : Nat → List Al) (q : Al → Bool) (u : Nat) : (alls ss u).filter q = alls (fun j => (ss j).filter q) u := by
  induction u with
  | zero => rfl
  | succ u ih => rw [alls_succ, alls_succ, List.filter_append, ih]
theorem alls_ext {ss tt : Nat → List Al} {u : Nat} (h : ∀ i, i < u → ss i = tt i) : alls ss u = alls tt u := by
  induction u with
  | zero => rfl
  | succ u ih => rw [alls_succ, alls_succ, ih (fun i hi => h i (by omega)), h u (by omega)]
theorem alls_drop {ss : Nat → List Al} {u i : Nat} {q : Al → Bool} (h : ∀ j, j < u → j ≠ i → ∀ x ∈ ss j, q x = true) : alls (upd ss i ((ss i).filter q)) u = (alls ss u).filter q := by
  rw [alls_filter]
  refine alls_ext fun j hj => ?_
  by_cases e : j = i
  · subst e; rw [upd_same]
  · rw [upd_other _ _ e]; exact (List.filter_eq_self.2 (h j hj e)).symm

set_option maxRecDepth 100000 in
set_option maxHeartbeats 4000000 in
theorem stop_any {W : World} {b : Nat} {S : Nat → Prop} {l : List Al} (id : Int) (h : Wh W b S l) (hq : Uniq l) :
    Calls Try.prog 11 #[wp b, .int .i64 id] W (Does W b S (.bool (findA id l).2) (l.filter (fun x => !(x.1 == id)))) := by
  have H := Lib.hid h
  obtain ⟨u, ss, vs, hw, hls, hp, hS⟩ := h
  have hb1 := box_below W (.cells #[.int .i64 id] 3)
  have h1 : 1 ≤ u := hw.u1
  have h64 : u ≤ 64 := hw.u64
  have HF := Lib.hid (find_any (w := W.alloc (.cells #[.int .i64 id] 3)) id (H.out.below hb1).seen)
  cases hf : (findA id l).2
  · have e2 : l.filter (fun x => !(x.1 == id)) = l := List.filter_eq_self.2 fun x hx => by simpa using findA_no hf x hx
    rw [hf] at HF
    rw [e2]
    obtain ⟨y, hy⟩ : ∃ y, (findA id l).1 = y := ⟨_, rfl⟩
    rw [hy] at HF
    clear hw hls hp hS e2 hf hy hq
    go_enter Try.func11, Try.ntmps11
    go_wp2_with (go_at_call 21; ((with_reducible refine HF.out.mono ?_); rintro e w2 ⟨rfl, hb2⟩))
    go_ret
    exact Does.same H.out ((hb1.trans (hb2.mono hb1.size)).alloc (Nat.le_trans hb1.size hb2.size) _)
  · obtain ⟨hy1, hy2⟩ := findA_yes hf
    rw [hf] at HF
    obtain ⟨y, hy⟩ : ∃ y, (findA id l).1 = y := ⟨_, rfl⟩
    rw [hy] at HF hy1 hy2
    obtain ⟨i, hiu, hyi⟩ := mem_alls.1 (by rw [hls] at hy1; exact hy1)
    obtain ⟨hy0, hym⟩ := hp i hiu y hyi
    have hdrop : alls (upd ss i ((ss i).filter (fun x => !(x.1 == id)))) u = l.filter (fun x => !(x.1 == id)) := by
      rw [hls]
      refine alls_drop fun j hj hji x hx => ?_
      simp only [Bool.not_eq_true', beq_eq_false_iff_ne, ne_eq]
      intro hxe
      have hxl : x ∈ l := by rw [hls]; exact mem_alls.2 ⟨j, hj, hx⟩
      have hxy : x = y := hq x hxl y hy1 (by rw [hxe, hy2])
      subst hxy
      have := (hp j hj x hx).2
      omega
    have HW := Lib.hid hw
    have HP := Lib.hid hp
    have HS := Lib.hid hS
    have HM := Lib.hid hym
    have HD := Lib.hid hdrop
    have hfp : ∀ k, Fp b u vs k → k < W.heap.size := fun k hk => (H.out.lt ((hS k).1 hk)).2
    have HFP := Lib.hid hfp
    clear hw hls hp hS hf hy hq hy1 hy2 hym hyi hdrop hfp
    go_enter Try.func11, Try.ntmps11
    go_wp2_with fail
    refine HF.out.mono ?_
    rintro e w2 ⟨rfl, hb2⟩
    have hb2' : Below W.heap.size W w2 := hb1.trans (hb2.mono hb1.size)
    have hbx := Boxed.new W 3 (.int .i64 id)
    have d0 : w2.cell? ⟨W.heap.size, 0, none⟩ = some (.int .i64 id) := (hb2.cell (p := ⟨W.heap.size, 0, none⟩) (by simp)).trans hbx.cell
    have hlt2 : W.heap.size < w2.heap.size := cell_lt d0
    clear hb2 hbx HF
    go_wp2_with fail
    have hb3 := hb2'.alloc hb2'.size (.cells #[.int .i64 y.1, .int .i64 y.2] 31)
    have hx3 := box_below w2 (.cells #[.int .i64 y.1, .int .i64 y.2] 31)
    have d03 := (hx3.cell (p := ⟨W.heap.size, 0, none⟩) hlt2).trans d0
    generalize w2.alloc (.cells #[.int .i64 y.1, .int .i64 y.2] 31) = w3 at hb3 d03 ⊢
    clear d0 hx3 hb2' hlt2
    refine (slot_any y.2 (HW.out.below hb3).used h1 h64 hy0).mono ?_
    rintro e w4' ⟨rfl, k, rfl⟩
    have hb4 : Below W.heap.size W (w3.drewN k) := ⟨hb3.os, hb3.tape, hb3.output, hb3.size, hb3.block⟩
    replace d03 : (w3.drewN k).cell? ⟨W.heap.size, 0, none⟩ = some (.int .i64 id) := d03
    generalize w3.drewN k = w4 at hb4 d03 ⊢
    rw [HM.out, Int.toNat_natCast]
    clear hb3
    have HB4 := Lib.hid hb4
    have HC := Lib.hid d03
    clear hb4 d03
    go_wp2_with fail
    refine (drop_any (HW.out.below HB4.out) hiu (pred_id W.heap.size id) HC.out (fun hk => Nat.lt_irrefl _ (HFP.out _ hk))).mono ?_
    rintro e w5 ⟨v', rfl, hw5, ho5, hon5⟩
    go_wp2_with fail
    go_ret
    refine ⟨fun k => Fp b u (upd vs i v') k, _, rfl, ⟨u, _, _, hw5, rfl, HP.out.upd (fun x hx => HP.out i hiu x (List.mem_filter.1 hx).1), fun k => Iff.rfl⟩, by rw [HD.out], ?_, fun k hk => ?_⟩
    · refine OnlyS.trans (OnlyS.of_below HB4.out) (hon5.mono ?_)
      rintro k _ (rfl | hk)
      · exact (HS.out _).1 (.inl rfl)
      · exact (HS.out _).1 (.inr ⟨i, hiu, hk⟩)
    · rcases Fp.upd (size := W.heap.size) hiu (fun g hg => .inl (by rw [← ho5]; exact hg)) hk with h | h
      · exact .inl ((HS.out k).1 h)
      · exact .inr h
end Go.Proofs.Ythoicmbpjcgdpaa
