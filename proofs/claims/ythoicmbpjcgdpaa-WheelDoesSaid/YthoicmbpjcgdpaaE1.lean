/- An alarm is set. -/
import Derived.Test.YthoicmbpjcgdpaaD4
import Derived.Deep.AppendLies
import Derived.Deep.RegionLaw
namespace Go.Proofs.Ythoicmbpjcgdpaa
open Go Go.RowKit Go.Shelf

/-- alarms stand in the slots of their times -/
def Placed (u : Nat) (ss : Nat → List Al) : Prop := ∀ i, i < u → ∀ x ∈ ss i, 0 ≤ x.2 ∧ x.2 % (u : Int) = (i : Int)
/-- a wheel that has these alarms, in these blocks -/
def Wh (W : World) (b : Nat) (S : Nat → Prop) (l : List Al) : Prop :=
  ∃ u ss vs, WheelAt W b u ss vs ∧ l = alls ss u ∧ Placed u ss ∧ ∀ k, Fp b u vs k ↔ S k
/-- what a call that may change this wheel alone leaves -/
def Does (W : World) (b : Nat) (S : Nat → Prop) (v : Value) (l : List Al) (e : Ending) (w' : World) : Prop :=
  ∃ S' l2, e = .returned v ∧ Wh w' b S' l2 ∧ l2.Perm l ∧ OnlyS S W w' ∧ ∀ k, S' k → S k ∨ W.heap.size ≤ k

theorem Wh.seen {W : World} {b : Nat} {S : Nat → Prop} {l : List Al} (h : Wh W b S l) : Seen (wp b) l W := by
  obtain ⟨u, ss, vs, hw, rfl, _⟩ := h
  exact each_tells hw
theorem Wh.lt {W : World} {b : Nat} {S : Nat → Prop} {l : List Al} (h : Wh W b S l) {k : Nat} (hk : S k) : b ≤ k ∧ k < W.heap.size := by
  obtain ⟨u, ss, vs, hw, rfl, _, hS⟩ := h
  rcases (hS k).2 hk with rfl | ⟨i, hi, hg⟩
  · exact ⟨Nat.le_refl _, hw.lt⟩
  · have := hw.rowlt hi hg
    omega
theorem Wh.own {W : World} {b : Nat} {S : Nat → Prop} {l : List Al} (h : Wh W b S l) : S b := by
  obtain ⟨u, ss, vs, hw, rfl, _, hS⟩ := h
  exact (hS b).1 (.inl rfl)
theorem Wh.keep {W W' : World} {b : Nat} {S T : Nat → Prop} {l : List Al} (h : Wh W b S l) (ho : OnlyS T W W') (hd : ∀ k, S k → ¬ T k) : Wh W' b S l := by
  have h0 := h
  obtain ⟨u, ss, vs, hw, hl, hp, hS⟩ := h
  have hk : ∀ k, S k → W'.heap[k]? = W.heap[k]? := fun k hk => ho.block k (h0.lt hk).2 (hd k hk)
  exact ⟨u, ss, vs, hw.keep ho.size (hk b ((hS b).1 (.inl rfl))) (fun i g hi hg => hk g ((hS g).1 (.inr ⟨i, hi, hg⟩))), hl, hp, hS⟩
theorem Wh.below {W W' : World} {b : Nat} {S : Nat → Prop} {l : List Al} (h : Wh W b S l) (hb : Below W.heap.size W W') : Wh W' b S l :=
  h.keep (OnlyS.of_below (S := fun _ => False) hb) (fun _ _ h => h)

theorem alls_upd_other (ss : Nat → List Al) {u i : Nat} (h : u ≤ i) (y : List Al) : alls (upd ss i y) u = alls ss u := by
  induction u with
  | zero => rfl
  | succ u ih => rw [alls_succ, alls_succ, ih (by omega), upd_other _ _ (by omega)]
theorem alls_upd (ss : Nat → List Al) {u i : Nat} (h : i < u) (y : Al) : (alls (upd ss i (ss i ++ [y])) u).Perm (alls ss u ++ [y]) := by
  induction u with
  | zero => omega
  | succ u ih =>
    rw [alls_succ, alls_succ]
    by_cases e : i = u
    · subst e
      rw [alls_upd_other ss (Nat.le_refl _), upd_same]
      simp
    · rw [upd_other _ _ (by omega)]
      refine ((ih (by omega)).append_right (ss u)).trans ?_
      rw [List.append_assoc, List.append_assoc]
      exact List.Perm.append_left _ List.perm_append_comm
theorem Placed.upd {u i : Nat} {ss : Nat → List Al} {l : List Al} (h : Placed u ss) (hl : ∀ x ∈ l, 0 ≤ x.2 ∧ x.2 % (u : Int) = (i : Int)) : Placed u (Ythoicmbpjcgdpaa.upd ss i l) := by
  intro j hj x hx
  by_cases e : j = i
  · subst e; rw [upd_same] at hx; exact hl x hx
  · rw [upd_other _ _ e] at hx; exact h j hj x hx

/-- whether an alarm may be set -/
def setB (a : Al) (l : List Al) : Bool := decide (0 ≤ a.2) && !(findA a.1 l).2
def setL (a : Al) (l : List Al) : List Al := if setB a l then l ++ [a] else l

theorem Does.same {W w' : World} {b : Nat} {S : Nat → Prop} {l : List Al} {v : Value} (h : Wh W b S l) (hb : Below W.heap.size W w') : Does W b S v l (.returned v) w' :=
  ⟨S, l, rfl, h.below hb, List.Perm.refl _, OnlyS.of_below hb, fun _ h => .inl h⟩

/-- the wheel's cell behind an append to one of its rows -/
theorem set_keep {w4 w5 : World} {b i n c : Nat} {A : Option Addr} {v : Value} {o : Obj} {xs : List Value} (hr : ((w4.alloc o).drew).ownsRow (b + 1) 31 2 (.slice A n c) n xs) (hlt : b < w4.heap.size) (k1 : w4.cell? ⟨b, i, none⟩ = some v) (k2 : w4.frozen? ⟨b, i, none⟩ = false)
    (hg : ((w4.alloc o).drew).grownBy w5 (Value.slice A n c).ownBlock) : w5.cell? ⟨b, i, none⟩ = some v ∧ w5.frozen? ⟨b, i, none⟩ = false := by
  have h1 : w5.heap[b]? = w4.heap[b]? := by
    refine (hg.block b ?_ (fun e => ?_)).trans (Below.heap_alloc w4 o b hlt)
    · show b < (w4.alloc o).heap.size
      simp
      omega
    · have := (hr.lt b e.symm).1
      omega
  exact ⟨(World.cell?_of_block (w := w4) (a := ⟨b, i, none⟩) h1).trans k1, (World.frozen?_of_block (w := w4) (a := ⟨b, i, none⟩) h1).trans k2⟩
theorem set_done {W w4 w5 : World} {b u i n c g cap : Nat} {ss : Nat → List Al} {vs : Nat → Value} {S : Nat → Prop} {l : List Al} {a : Al} {A : Option Addr} {o : Obj} (hw : WheelAt W b u ss vs) (hl : l = alls ss u) (hp : Placed u ss) (hS : ∀ k, Fp b u vs k ↔ S k)
    (hb4 : Below W.heap.size W w4) (hiu : i < u) (hi : a.2 % (u : Int) = (i : Int)) (ha0 : 0 ≤ a.2) (hv : vs i = .slice A n c) (hn : (ss i).length = n) (hr : ((w4.alloc o).drew).ownsRow (b + 1) 31 2 (.slice A n c) n (flat (ss i))) (k1 : w4.cell? ⟨b, i, none⟩ = some (.slice A n c))
    (hown : w5.ownsRow (b + 1) 31 2 (.slice (some ⟨g, 0, none⟩) (n + 1) cap) (n + 1) (flat (ss i) ++ [.int .i64 a.1, .int .i64 a.2])) (hg : ((w4.alloc o).drew).grownBy w5 (Value.slice A n c).ownBlock) (hgo : (Value.slice A n c).ownBlock = some g ∨ g = w4.heap.size + 1) :
    Does W b S (.bool true) (l ++ [a]) (.returned (.bool true)) (w5.setCell ⟨b, i, none⟩ (.slice (some ⟨g, 0, none⟩) (n + 1) cap)) := by
  have hw4 := hw.below hb4
  have hlt := hw4.lt
  have hz := hb4.size
  have hblk : w5.heap[b]? = w4.heap[b]? := by
    refine (hg.block b ?_ (fun e => ?_)).trans (Below.heap_alloc w4 o b hlt)
    · show b < (w4.alloc o).heap.size
      simp
      omega
    · have := (hr.lt b e.symm).1
      omega
  have hblk' : w5.heap[b]? = W.heap[b]? := hblk.trans (hb4.block b hw.lt)
  have hz5 : w4.heap.size ≤ w5.heap.size := by
    have := hg.size
    have e : ((w4.alloc o).drew).heap.size = w4.heap.size + 1 := by show (w4.alloc o).heap.size = _; simp
    omega
  have hO : OnlyS (fun k => k = b ∨ (vs i).ownBlock = some k) W (w5.setCell ⟨b, i, none⟩ (.slice (some ⟨g, 0, none⟩) (n + 1) cap)) := by
    refine OnlyS.trans (b := w5) ⟨?_, ?_, ?_, by omega, fun k hk hne => ?_⟩ ((OnlyS.set b i w5 _).mono (fun k _ hk => .inl hk))
    · exact hg.os.trans hb4.os
    · exact hg.tape.trans hb4.tape
    · exact hg.output.trans hb4.output
    · refine (hg.block k ?_ (fun e => hne (.inr (by rw [hv]; exact e.symm)))).trans ((Below.heap_alloc w4 o k (by omega)).trans (hb4.block k hk))
      show k < (w4.alloc o).heap.size
      simp
      omega
  have hown2 : ∀ g', (Value.slice (some ⟨g, 0, none⟩) (n + 1) cap).ownBlock = some g' → (vs i).ownBlock = some g' ∨ W.heap.size ≤ g' := by
    intro g' hg'
    obtain rfl : g = g' := by simpa [Value.ownBlock] using hg'
    rcases hgo with h | h
    · left; rw [hv]; exact h
    · right; omega
  have hrow : Row (w5.setCell ⟨b, i, none⟩ (.slice (some ⟨g, 0, none⟩) (n + 1) cap)) (b + 1) (.slice (some ⟨g, 0, none⟩) (n + 1) cap) (ss i ++ [a]) := by
    refine ownsRow_setCell_below (row_form ?_) (Nat.lt_succ_self b) _
    rw [hn]
    exact hown
  have hcell : w5.cell? ⟨b, i, none⟩ = some (.slice A n c) := (World.cell?_of_block (w := w4) (a := ⟨b, i, none⟩) hblk).trans k1
  refine ⟨fun k => Fp b u (upd vs i (.slice (some ⟨g, 0, none⟩) (n + 1) cap)) k, alls (upd ss i (ss i ++ [a])) u, rfl, ⟨u, _, _, hw.upd hiu ?_ ?_ ?_ hrow hO hown2, rfl, hp.upd ?_, fun k => Iff.rfl⟩, by rw [hl]; exact alls_upd ss hiu a, hO.mono ?_, fun k hk => ?_⟩
  · exact World.cell?_setCell_same' _ _ _ (by rw [hcell]; rfl)
  · intro o' ho
    rw [World.cell?_setCell_other (h := fun e => ho (by injection e with e1 e2; exact e2.symm))]
    exact World.cell?_of_block (w := W) (a := ⟨b, o', none⟩) hblk'
  · intro o'
    rw [World.frozen?_setCell]
    exact World.frozen?_of_block (w := W) (a := ⟨b, o', none⟩) hblk'
  · intro x hx
    rcases List.mem_append.1 hx with hx | hx
    · exact hp i hiu x hx
    · rw [List.mem_singleton.1 hx]; exact ⟨ha0, hi⟩
  · rintro k _ (rfl | hk)
    · exact (hS _).1 (.inl rfl)
    · exact (hS _).1 (.inr ⟨i, hiu, hk⟩)
  · rcases Fp.upd hiu hown2 hk with h | h
    · exact .inl ((hS k).1 h)
    · exact .inr h
set_option maxRecDepth 100000 in
set_option maxHeartbeats 4000000 in
theorem set_any {W : World} {b : Nat} {S : Nat → Prop} {l : List Al} (a : Al) (h : Wh W b S l) (hl : l.length ≤ 1000) :
    Calls Try.prog 9 #[wp b, alv a] W (Does W b S (.bool (setB a l)) (setL a l)) := by
  have H := Lib.hid h
  obtain ⟨u, ss, vs, hw, hls, hp, hS⟩ := h
  have hb1 := box_below W (.cells #[.int .i64 a.1, .int .i64 a.2] 31)
  have hw1 := hw.below hb1
  have hu1 := hw1.used
  have h1 : 1 ≤ u := hw.u1
  have h64 : u ≤ 64 := hw.u64
  have HF := Lib.hid (find_any (w := W.alloc (.cells #[.int .i64 a.1, .int .i64 a.2] 31)) a.1 (H.out.below hb1).seen)
  by_cases ha : a.2 < 0
  · have e1 : setB a l = false := by unfold setB; simp; omega
    have e2 : setL a l = l := by unfold setL; rw [e1]; rfl
    rw [e1, e2]
    clear hw hls hp hS hw1 e1 e2 HF
    go_enter Try.func9, Try.ntmps9
    go_wp2_with (go_at_call 20; ((with_reducible refine (made_yes hu1 h1).mono ?_); rintro e w' ⟨rfl, rfl⟩))
    go_ret
    exact Does.same H.out hb1
  · have ha0 : 0 ≤ a.2 := by omega
    have had : decide (a.2 < 0) = false := by simp; omega
    cases hf : (findA a.1 l).2
    · have e1 : setB a l = true := by unfold setB; rw [hf]; simp; omega
      have e2 : setL a l = l ++ [a] := by unfold setL; rw [e1]; rfl
      rw [hf] at HF
      rw [e1, e2]
      obtain ⟨y, hy⟩ : ∃ y, (findA a.1 l).1 = y := ⟨_, rfl⟩
      rw [hy] at HF
      have HW := Lib.hid hw
      have HL := Lib.hid hls
      have HP := Lib.hid hp
      have HS := Lib.hid hS
      clear hw hls hp hS hw1 e1 e2 hf hy
      go_enter Try.func9, Try.ntmps9
      go_wp2_with (go_at_call 20; ((with_reducible refine (made_yes hu1 h1).mono ?_); rintro e w' ⟨rfl, rfl⟩))
      refine HF.out.mono ?_
      rintro e w2 ⟨rfl, hb2⟩
      have hb2' : Below W.heap.size W w2 := hb1.trans (hb2.mono hb1.size)
      have hba := BoxA.new W a
      have d0 : w2.cell? ⟨W.heap.size, 0, none⟩ = some (.int .i64 a.1) := (hb2.cell (p := ⟨W.heap.size, 0, none⟩) (by simp)).trans hba.c0
      have d1 : w2.cell? ⟨W.heap.size, 1, none⟩ = some (.int .i64 a.2) := (hb2.cell (p := ⟨W.heap.size, 1, none⟩) (by simp)).trans hba.c1
      have hlt2 : W.heap.size < w2.heap.size := cell_lt d0
      clear hu1 hb2 hba HF
      go_wp2_with fail
      have hb3 := hb2'.alloc hb2'.size (.cells #[.int .i64 y.1, .int .i64 y.2] 31)
      have hx3 := box_below w2 (.cells #[.int .i64 y.1, .int .i64 y.2] 31)
      have d03 := (hx3.cell (p := ⟨W.heap.size, 0, none⟩) hlt2).trans d0
      have d13 := (hx3.cell (p := ⟨W.heap.size, 1, none⟩) hlt2).trans d1
      generalize w2.alloc (.cells #[.int .i64 y.1, .int .i64 y.2] 31) = w3 at hb3 d03 d13 ⊢
      clear d0 d1 hx3 hb2' hlt2
      refine (slot_any a.2 (HW.out.below hb3).used h1 h64 ha0).mono ?_
      rintro e w4' ⟨rfl, k, rfl⟩
      have hb4 : Below W.heap.size W (w3.drewN k) := ⟨hb3.os, hb3.tape, hb3.output, hb3.size, hb3.block⟩
      replace d03 : (w3.drewN k).cell? ⟨W.heap.size, 0, none⟩ = some (.int .i64 a.1) := d03
      replace d13 : (w3.drewN k).cell? ⟨W.heap.size, 1, none⟩ = some (.int .i64 a.2) := d13
      generalize w3.drewN k = w4 at hb4 d03 d13 ⊢
      clear hb3
      obtain ⟨i, hi⟩ : ∃ i : Nat, a.2 % (u : Int) = i := ⟨(a.2 % u).toNat, by have := Int.emod_nonneg a.2 (show (u : Int) ≠ 0 by omega); omega⟩
      have hiu : i < u := by have := Int.emod_lt_of_pos a.2 (show (0 : Int) < u by omega); omega
      have HI := Lib.hid hi
      rw [hi, Int.toNat_natCast]
      clear hi
      have hw4 := HW.out.below hb4
      have k1 := hw4.cell i hiu
      have k2 := hw4.free i hiu
      have hlt4 := hw4.lt
      have hr4 := hw4.row i hiu
      obtain ⟨v, hv⟩ : ∃ v, vs i = v := ⟨_, rfl⟩
      have HV := Lib.hid hv
      rw [hv] at k1 hr4
      obtain ⟨A, c, hvf⟩ := row_slice hr4
      have hln : (ss i).length ≤ 1000 := by
        obtain ⟨r, hr⟩ := alls_split ss hiu
        have := congrArg List.length hr
        rw [← HL.out] at this
        simp at this
        omega
      have HR := Lib.hid hr4
      obtain ⟨n, hn⟩ : ∃ n, (ss i).length = n := ⟨_, rfl⟩
      have HN := Lib.hid hn
      rw [hn] at hvf hln
      have HVF := Lib.hid hvf
      subst hvf
      obtain ⟨i0, hi, hz0, hz1, hz2⟩ := info_parts info31
      clear hw4 hr4 hv hn
      go_wp2_with fail
      have hrow5 : ((w4.alloc (.cells #[.int .i64 a.1, .int .i64 a.2] 31)).drew).ownsRow (b + 1) 31 2 (.slice A n c) n (flat (ss i)) := by
        have := HR.out.alloc (.cells #[.int .i64 a.1, .int .i64 a.2] 31)
        rw [HN.out] at this
        exact this
      have hc5 : ∀ j u, ([.int .i64 a.1, .int .i64 a.2] : List Value)[j]? = some u → ((w4.alloc (.cells #[.int .i64 a.1, .int .i64 a.2] 31)).drew).cell? ((⟨w4.heap.size, 0, none⟩ : Addr).add j) = some u := new_cells w4 a
      have HC5 := Lib.hid hc5
      have HR5 := Lib.hid hrow5
      have hz5 : b + 1 ≤ ((w4.alloc (.cells #[.int .i64 a.1, .int .i64 a.2] 31)).drew).heap.size := by
        show b + 1 ≤ (w4.alloc (.cells #[.int .i64 a.1, .int .i64 a.2] 31)).heap.size
        simp
        omega
      have hH5 : ((w4.alloc (.cells #[.int .i64 a.1, .int .i64 a.2] 31)).drew).heap.size = w4.heap.size + 1 := by
        show (w4.alloc (.cells #[.int .i64 a.1, .int .i64 a.2] 31)).heap.size = _
        simp
      have HH5 := Lib.hid hH5
      have HZ5 := Lib.hid hz5
      have K1 := Lib.hid k1
      have K2 := Lib.hid k2
      clear hc5 hrow5 hz5 hH5
      go_region_law (first
        | (refine step_append_lies _ rfl (.tmp 31) (.tmp 33) 27 rfl (b + 1) 31 i0 (.agg #[.int .i64 0, .int .i64 0]) 2 16 Try.underlying27 hi hz0 hz1 hz2 rfl (by decide) (.slice A n c) n (flat (ss i)) rfl HR5.out ⟨w4.heap.size, 0, none⟩ 1 1 [.int .i64 a.1, .int .i64 a.2] rfl rfl HC5.out (one_cells a) (by decide) (by unfold maxLen; omega) (by omega) HZ5.out (w4.heap.size + 1) HH5.out ?_; intro g cap w5 hown hgrow hg hglt; obtain ⟨q1, q2⟩ := set_keep HR5.out hlt4 K1.out K2.out hgrow))
      all_goals
        go_wp2
        go_ret
        exact set_done HW.out HL.out HP.out HS.out hb4 hiu HI.out ha0 HV.out HN.out HR5.out K1.out hown hgrow hg
    · have e1 : setB a l = false := by unfold setB; rw [hf]; simp
      have e2 : setL a l = l := by unfold setL; rw [e1]; rfl
      rw [hf] at HF
      rw [e1, e2]
      obtain ⟨y, hy⟩ : ∃ y, (findA a.1 l).1 = y := ⟨_, rfl⟩
      rw [hy] at HF
      clear hw hls hp hS hw1 e1 e2 hf hy
      go_enter Try.func9, Try.ntmps9
      go_wp2_with (first | (go_at_call 20; ((with_reducible refine (made_yes hu1 h1).mono ?_); rintro e w' ⟨rfl, rfl⟩)) | (go_at_call 21; ((with_reducible refine HF.out.mono ?_); rintro e w2 ⟨rfl, hb2⟩)))
      go_ret
      exact Does.same H.out ((hb1.trans (hb2.mono hb1.size)).alloc (Nat.le_trans hb1.size hb2.size) _)
end Go.Proofs.Ythoicmbpjcgdpaa
