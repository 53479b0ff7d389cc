/- A wheel of which one slot changes; alarms dropped out of a slot. -/
import Derived.Test.YthoicmbpjcgdpaaD3
namespace Go.Proofs.Ythoicmbpjcgdpaa
open Go Go.RowKit Go.Shelf

def upd {β : Type} (f : Nat → β) (i : Nat) (y : β) : Nat → β := fun j => if j = i then y else f j
theorem upd_same {β : Type} (f : Nat → β) (i : Nat) (y : β) : upd f i y i = y := by simp [upd]
theorem upd_other {β : Type} (f : Nat → β) {i j : Nat} (y : β) (h : j ≠ i) : upd f i y j = f j := by simp [upd, h]
/-- a wheel's own blocks -/
def Fp (b u : Nat) (vs : Nat → Value) (k : Nat) : Prop := k = b ∨ ∃ i, i < u ∧ (vs i).ownBlock = some k

theorem WheelAt.upd {W W' : World} {b u i : Nat} {ss : Nat → List Al} {vs : Nat → Value} {v' : Value} {l : List Al} (h : WheelAt W b u ss vs) (hi : i < u)
    (hc : W'.cell? ⟨b, i, none⟩ = some v') (ho : ∀ o, o ≠ i → W'.cell? ⟨b, o, none⟩ = W.cell? ⟨b, o, none⟩) (hf : ∀ o, W'.frozen? ⟨b, o, none⟩ = W.frozen? ⟨b, o, none⟩)
    (hr : Row W' (b + 1) v' l) (hon : OnlyS (fun k => k = b ∨ (vs i).ownBlock = some k) W W') (hown : ∀ g, v'.ownBlock = some g → (vs i).ownBlock = some g ∨ W.heap.size ≤ g) :
    WheelAt W' b u (Ythoicmbpjcgdpaa.upd ss i l) (Ythoicmbpjcgdpaa.upd vs i v') := by
  have h64 := h.u64
  refine ⟨h.u1, h64, (ho 64 (by omega)).trans h.used, Nat.lt_of_lt_of_le h.lt hon.size, fun j hj => ?_, fun j hj => (hf j).trans (h.free j hj), fun j hj => ?_, fun j k g hj hk h1 h2 => ?_⟩
  · by_cases e : j = i
    · subst e; rw [upd_same]; exact hc
    · rw [upd_other _ _ e]; exact (ho j e).trans (h.cell j hj)
  · by_cases e : j = i
    · subst e; rw [upd_same, upd_same]; exact hr
    · rw [upd_other _ _ e, upd_other _ _ e]
      refine (h.row j hj).keep fun g hg => hon.block g (h.rowlt hj hg).2 ?_
      rintro (rfl | hg2)
      · have := (h.rowlt hj hg).1; omega
      · exact e (h.apart j i g hj hi hg hg2)
  · by_cases ej : j = i
    · by_cases ek : k = i
      · omega
      · subst ej
        rw [upd_same] at h1
        rw [upd_other _ _ ek] at h2
        rcases hown g h1 with h3 | h3
        · exact h.apart j k g hj hk h3 h2
        · have := (h.rowlt hk h2).2; omega
    · by_cases ek : k = i
      · subst ek
        rw [upd_same] at h2
        rw [upd_other _ _ ej] at h1
        rcases hown g h2 with h3 | h3
        · exact h.apart j k g hj hk h1 h3
        · have := (h.rowlt hj h1).2; omega
      · rw [upd_other _ _ ej] at h1
        rw [upd_other _ _ ek] at h2
        exact h.apart j k g hj hk h1 h2
theorem Fp.upd {b u i k size : Nat} {vs : Nat → Value} {v' : Value} (hi : i < u) (hown : ∀ g, v'.ownBlock = some g → (vs i).ownBlock = some g ∨ size ≤ g) (h : Fp b u (Ythoicmbpjcgdpaa.upd vs i v') k) : Fp b u vs k ∨ size ≤ k := by
  rcases h with rfl | ⟨j, hj, hg⟩
  · exact .inl (.inl rfl)
  · by_cases e : j = i
    · subst e
      rw [upd_same] at hg
      rcases hown k hg with h3 | h3
      · exact .inl (.inr ⟨j, hj, h3⟩)
      · exact .inr h3
    · rw [upd_other _ _ e] at hg
      exact .inl (.inr ⟨j, hj, hg⟩)

/-- what dropping alarms out of a slot leaves -/
def DropsAt (W : World) (b u i : Nat) (ss : Nat → List Al) (vs : Nat → Value) (l : List Al) (e : Ending) (w' : World) : Prop :=
  ∃ v', e = .returned (.tuple #[]) ∧ WheelAt w' b u (upd ss i l) (upd vs i v') ∧ v'.ownBlock = (vs i).ownBlock ∧ OnlyS (fun k => k = b ∨ (vs i).ownBlock = some k) W w'
set_option maxHeartbeats 1000000 in
theorem drop_any {W : World} {b u i gf Bc : Nat} {ss : Nat → List Al} {vs : Nat → Value} {cv : Value} {p : Al → Bool} (hw : WheelAt W b u ss vs) (hi : i < u) (hp : Pred gf Bc cv p) (hc : W.cell? ⟨Bc, 0, none⟩ = some cv) (hne : ¬ Fp b u vs Bc) :
    Calls Try.prog 23 #[.pointer (some ⟨b, i, none⟩), .func (.func gf) #[] #[.pointer (some ⟨Bc, 0, none⟩)]] W (DropsAt W b u i ss vs ((ss i).filter (fun x => !p x))) := by
  have HD := Lib.hid (delete_any hp (hw.row i hi) hc (fun e => hne (.inr ⟨i, hi, e⟩)))
  have hcell := hw.cell i hi
  have hfree := hw.free i hi
  have hlt := hw.lt
  have hgb : ∀ g, (vs i).ownBlock = some g → b < g := fun g hg => (hw.rowlt hi hg).1
  have HG := Lib.hid hgb
  have HW := Lib.hid hw
  obtain ⟨v, hv⟩ : ∃ v, vs i = v := ⟨_, rfl⟩
  rw [hv] at hcell HD HG
  obtain ⟨A, c, hvf⟩ := row_slice (hw.row i hi)
  rw [hv] at hvf
  obtain ⟨n, hn⟩ : ∃ n, (ss i).length = n := ⟨_, rfl⟩
  rw [hn] at hvf
  have HV := Lib.hid hv
  subst hvf
  clear hw hp hc hne hgb hn hv
  go_enter Try.func23, Try.ntmps23
  go_wp2_with fail
  refine HD.out.mono ?_
  rintro e w1 ⟨v', rfl, hr', ho', hon⟩
  obtain ⟨A', c', hvf'⟩ := row_slice hr'
  have hblk : w1.heap[b]? = W.heap[b]? := hon.block b hlt (fun e => by have := HG.out b e; omega)
  have k1 : w1.cell? ⟨b, i, none⟩ = some (.slice A n c) := (World.cell?_of_block (w := W) (a := ⟨b, i, none⟩) hblk).trans hcell
  have k2 : w1.frozen? ⟨b, i, none⟩ = false := (World.frozen?_of_block (w := W) (a := ⟨b, i, none⟩) hblk).trans hfree
  have HB := Lib.hid hblk
  have HR := Lib.hid hr'
  have HO := Lib.hid ho'
  have HN := Lib.hid hon
  have HF := Lib.hid hvf'
  obtain ⟨m, hm⟩ : ∃ m, ((ss i).filter (fun x => !p x)).length = m := ⟨_, rfl⟩
  rw [hm] at hvf'
  subst hvf'
  clear hr' ho' hon hblk hm hcell hfree
  go_wp2_with fail
  go_end0
  have hO : OnlyS (fun k => k = b ∨ (vs i).ownBlock = some k) W (w1.setCell ⟨b, i, none⟩ (.slice A' m c')) := by
    rw [HV.out]
    exact (HN.out.mono (fun k _ hk => .inr hk)).trans ((OnlyS.set b i w1 _).mono (fun k _ hk => .inl hk))
  refine ⟨.slice A' m c', rfl, HW.out.upd hi ?_ ?_ ?_ ?_ hO ?_, by rw [HV.out]; exact HO.out, hO⟩
  · exact World.cell?_setCell_same' _ _ _ (by rw [k1]; rfl)
  · intro o ho
    rw [World.cell?_setCell_other (h := fun e => ho (by injection e with e1 e2; exact e2.symm))]
    exact World.cell?_of_block (w := W) (a := ⟨b, o, none⟩) HB.out
  · intro o
    rw [World.frozen?_setCell]
    exact World.frozen?_of_block (w := W) (a := ⟨b, o, none⟩) HB.out
  · exact ownsRow_setCell_below HR.out (Nat.lt_succ_self b) _
  · intro g hg
    left
    rw [HV.out, ← HO.out]
    exact hg
end Go.Proofs.Ythoicmbpjcgdpaa
