/- A chain that is in no bucket is spread; there is a bucket less, or one more. -/
import Derived.Test.YtbeeekpofbhljaaA4
import Derived.Deep.AppendLies
import Derived.Deep.RegionLaw
import Derived.OwnWalk
namespace Go.Proofs.Ytbeeekpofbhljaa
open Go Go.RowKit
variable {W W' : World} {L b g c n : Nat} {O : Nat → Prop} {cs : Nat → List En} {es : List En} {t : Int} {F : Int → Option Int}

theorem OnlyS.chain {S T : Nat → Prop} {a b c : World} (h : OnlyS S a b) (k : OnlyS T b c) (hst : ∀ i, T i → S i ∨ a.heap.size ≤ i) : OnlyS S a c :=
  ⟨k.os.trans h.os, k.tape.trans h.tape, k.output.trans h.output, Nat.le_trans h.size k.size, fun i hi hn => (k.block i (Nat.lt_of_lt_of_le hi h.size) (fun ht => by
    rcases hst i ht with q | q
    · exact hn q
    · omega)).trans (h.block i hi hn)⟩
theorem hd_ptr (l : List En) : ∃ p, hd l = .pointer p := by cases l <;> exact ⟨_, rfl⟩
def Sj (W : World) (L : Nat) (O : Nat → Prop) (b g c n : Nat) (t : Int) (F : Int → Option Int) (N : Nat) (a' : Act) (w' : World) : Prop :=
  ∃ (cs : Nat → List En) (es : List En) (u2 u3 u4 u5 u6 u7 u8 u9 u10 u11 u12 u13 u14 u15 u16 u17 u18 u19 u20 u21 u22 u23 u24 u25 u26 u27 u28 u29 u30 u31 u32 u33 u34 u35 u36 : Value), a' = { tmps := #[wp b, hd es, u2, u3, u4, u5, u6, u7, u8, u9, u10, u11, u12, u13, u14, u15, u16, u17, u18, u19, u20, u21, u22, u23, u24, u25, u26, u27, u28, u29, u30, u31, u32, u33, u34, u35, u36], defers := [] } ∧ Mp w' L O b g c n cs es t F ∧ OnlyS O W w' ∧ es.length = N
theorem Sj.mk' {w' : World} {p : Option Addr} {u2 u3 u4 u5 u6 u7 u8 u9 u10 u11 u12 u13 u14 u15 u16 u17 u18 u19 u20 u21 u22 u23 u24 u25 u26 u27 u28 u29 u30 u31 u32 u33 u34 u35 u36 : Value} {N : Nat} (cs : Nat → List En) (es : List En) (hp : hd es = .pointer p) (h : Mp w' L O b g c n cs es t F) (ho : OnlyS O W w') (hN : es.length = N) :
    Sj W L O b g c n t F N { tmps := #[wp b, .pointer p, u2, u3, u4, u5, u6, u7, u8, u9, u10, u11, u12, u13, u14, u15, u16, u17, u18, u19, u20, u21, u22, u23, u24, u25, u26, u27, u28, u29, u30, u31, u32, u33, u34, u35, u36], defers := [] } w' := by
  rw [← hp]
  exact ⟨cs, es, u2, u3, u4, u5, u6, u7, u8, u9, u10, u11, u12, u13, u14, u15, u16, u17, u18, u19, u20, u21, u22, u23, u24, u25, u26, u27, u28, u29, u30, u31, u32, u33, u34, u35, u36, rfl, h, ho, hN⟩
set_option maxHeartbeats 2000000 in
theorem Mp.spreads (h : Mp W L O b g c n cs es t F) : Calls Try.prog 24 #[wp b, hd es] W fun e w' => e = .returned (.tuple #[]) ∧ (∃ cs', Mp w' L O b g c n cs' [] t F) ∧ OnlyS O W w' := by
  have H := Lib.hid h
  clear h
  go_enter Try.func24, Try.ntmps24
  refine scope_ranked 0 (Sj W L O b g c n t F) rfl ?_ ?_
  · intro hpass
    refine wp_seq ?_
    refine wp_label ?_
    exact hpass _ _ _ ⟨cs, es, _, _, _, _, _, _, _, _, _, _, _, _, _, _, _, _, _, _, _, _, _, _, _, _, _, _, _, _, _, _, _, _, _, _, _, rfl, H.out, OnlyS.refl _ _, rfl⟩
  · clear H
    rintro N a' w' ⟨cs, es, u2, u3, u4, u5, u6, u7, u8, u9, u10, u11, u12, u13, u14, u15, u16, u17, u18, u19, u20, u21, u22, u23, u24, u25, u26, u27, u28, u29, u30, u31, u32, u33, u34, u35, u36, rfl, h, ho, hN⟩
    have HN := Lib.hid hN
    have HO := Lib.hid ho
    have H := Lib.hid h
    cases es with
    | nil =>
      clear h ho hN
      rw [show hd [] = .pointer none from rfl]
      go_wp2
      simp only [Exit.jump]
      refine bodyPost_ret (results_none rfl _ _ _) rfl ?_
      exact ⟨rfl, ⟨cs, H.out⟩, HO.out⟩
    | cons e es =>
      have hn4 := h.n4
      have hnb := h.nb
      obtain ⟨eo, eb, eg, eu, ef⟩ := h.mem e (.inl (by simp))
      have hi : bk n e.key < n := bk_lt (by omega) (by omega) _
      have HB := Lib.hid (h.bucket eu)
      have q0 := h.c0
      obtain ⟨q1, q2⟩ := h.cell hi
      have q2 := q2 (bk n e.key)
      have e0 := h.che.1.c0
      have e2 := h.che.1.c2
      have e3 := h.che.1.fz 2
      have hbg := h.ne
      have HM := Lib.hid h.push
      have hO2 : OnlyS O w' ((w'.setCell ⟨e.blk, 2, none⟩ (hd (cs (bk n e.key)))).setCell ⟨g, bk n e.key, none⟩ (.pointer (some ⟨e.blk, 0, none⟩))) :=
        ((OnlyS.set e.blk 2 w' _).mono (fun k _ hk => by rw [hk]; exact eo)).trans ((OnlyS.set g _ _ _).mono (fun k _ hk => by rw [hk]; exact h.o2))
      have HO2 := Lib.hid hO2
      obtain ⟨p1, hp1⟩ := hd_ptr es
      obtain ⟨p2, hp2⟩ := hd_ptr (cs (bk n e.key))
      have HP1 := Lib.hid hp1
      rw [hp1] at e2
      rw [hp2] at q1 HM HO2
      clear h ho hN hp1 hp2 hO2 ef eo eu hn4
      generalize hcs : upd cs (bk n e.key) (e :: cs (bk n e.key)) = cs2 at HM
      clear hcs
      rw [show hd (e :: es) = .pointer (some ⟨e.blk, 0, none⟩) from rfl]
      generalize bk n e.key = i at *
      generalize e.blk = x at *
      generalize e.key = y at *
      have exb : b ≠ x := Ne.symm eb
      have exg : g ≠ x := Ne.symm eg
      have egb : g ≠ b := Ne.symm hbg
      go_wp2_with (go_at_call 13; ((with_reducible refine HB.out.mono ?_); rintro e w' ⟨rfl, rfl⟩))
      go_step3
      change _ ∧ ∃ m, m < N ∧ Sj W L O b g c n t F m _ _
      have e1 := HN.out
      exact ⟨rfl, es.length, by simp at e1; omega, Sj.mk' cs2 es HP1.out HM.out (HO.out.trans HO2.out) rfl⟩

set_option maxHeartbeats 1000000 in
theorem Mp.shrinks {m : Nat} (h : Mp W L O b g c (m + 1) cs [] t F) (hm : 4 ≤ m) : Calls Try.prog 17 #[wp b] W fun e w' => e = .returned (.tuple #[]) ∧ (∃ cs', Mp w' L O b g c m cs' [] t F) ∧ OnlyS O W w' := by
  have hnb := h.nb
  have hbg := h.ne
  have egb := Ne.symm hbg
  have q0 := h.c0
  have q3 := h.fz 0
  obtain ⟨q1, q2⟩ := h.cell (j := m) (by omega)
  have q2 := q2 m
  have hM := h.shrink hm
  have hO : OnlyS O W ((W.setCell ⟨g, m, none⟩ (.pointer none)).setCell ⟨b, 0, none⟩ (.slice (some ⟨g, 0, none⟩) m c)) :=
    ((OnlyS.set g m W _).mono (fun k _ hk => by rw [hk]; exact h.o2)).trans ((OnlyS.set b 0 _ _).mono (fun k _ hk => by rw [hk]; exact h.o1))
  have HO := Lib.hid hO
  have HS := Lib.hid hM.spreads
  have hcap : m + 1 ≤ c := by
    rcases h.row.2 with ⟨h0, _⟩ | ⟨g', cap', cur, e', _, _, h1, h2, h3, h4⟩
    · cases h0
    · cases e'; omega
  obtain ⟨p, hp⟩ := hd_ptr (cs m)
  rw [hp] at q1 HS
  clear h hM hO hp
  go_enter Try.func17, Try.ntmps17
  go_wp2_with (go_at_call 24; ((with_reducible refine HS.out.mono ?_); rintro e w' ⟨rfl, hc, ho⟩))
  go_end0
  exact ⟨rfl, hc, HO.out.trans ho⟩
theorem info44 : (Try.prog.info? 44).map (fun i => (i.zero, i.size, i.bytes)) = some (some (.pointer none), 1, 8) := by kernel_rfl
theorem new_ptr (W : World) : ∀ j u, ([.pointer none] : List Value)[j]? = some u → (W.alloc (.cells #[.pointer none] 44)).cell? ((⟨W.heap.size, 0, none⟩ : Addr).add j) = some u := by
  intro j u hj
  rw [add_at]
  match j, hj with
  | 0, hj => simp at hj; subst hj; simp [go_sem]
theorem one_ptr : ∀ u ∈ ([.pointer none] : List Value), u.oneCell' = true := by
  intro u hu
  simp at hu
  subst hu
  rfl
set_option maxHeartbeats 1000000 in
theorem Mp.grows (h : Mp W L O b g c n cs [] t F) (hn : n < 249) : Calls Try.prog 16 #[wp b] W fun e w' => e = .returned (.tuple #[]) ∧ (∃ O' g' c' cs', Mp w' L O' b g' c' (n + 1) cs' [] t F ∧ ∀ k, O' k → O k ∨ W.heap.size ≤ k) ∧ OnlyS O W w' := by
  have hn4 := h.n4
  have hbg := h.ne
  have egb := Ne.symm hbg
  have hbl := (h.ol b h.o1).2
  have hbL := (h.ol b h.o1).1
  have hgl := (h.ol g h.o2).2
  have ho2 := h.o2
  have q0 := h.c0
  obtain ⟨-, -, b3, b4, -⟩ := pw_is (n := n) (by omega) (by omega)
  obtain ⟨q1, q2⟩ := h.cell (j := n - pw n) (by omega)
  have q2 := q2 (n - pw n)
  have HP := Lib.hid (power_nat n W (by omega) (by omega))
  have HG := Lib.hid (fun X w5 g' cap => Mp.grow (X := X) (w5 := w5) (g' := g') (cap := cap) h hn)
  have HR := Lib.hid (row_store h.row (n - pw n) (hd []))
  rw [rowOf_set, show hd [] = .pointer none from rfl] at HR
  obtain ⟨p, hp⟩ := hd_ptr (cs (n - pw n))
  have HH := Lib.hid hp
  rw [hp] at q1
  obtain ⟨j, hj⟩ : ∃ j, n - pw n = j := ⟨_, rfl⟩
  rw [hj] at q1 q2 HG HR HH
  have hj1 : (n : Int) - (pw n : Int) = (j : Int) := by omega
  have hjn : j < n := by omega
  generalize pw n = P at *
  obtain ⟨i0, hi, hz0, hz1, hz2⟩ := info_parts info44
  clear h hp hj
  go_enter Try.func16, Try.ntmps16
  go_wp2_with (first
    | (go_at_call 22; ((with_reducible refine HP.out.mono ?_); rintro e w' ⟨rfl, rfl⟩))
    | (at_builtin; refine wpList_append_lies _ rfl _ _ 39 rfl L 44 i0 (.pointer none) 1 8 Try.underlying39 hi hz0 hz1 hz2 rfl (by decide) (.slice (some ⟨g, 0, none⟩) n c) n (rowOf n (upd cs j [])) rfl ?a0 ⟨W.heap.size, 0, none⟩ 1 1 [.pointer none] rfl rfl ?a1 one_ptr (by decide) (by unfold maxLen; omega) (by omega) ?a2 (W.heap.size + 1) (by simp) ?_))
  case a0 => exact HR.out.alloc _
  case a1 =>
    have e : W.heap.size = (W.setCell ⟨g, j, none⟩ (.pointer none)).heap.size := by simp [World.setCell]
    rw [e]
    exact new_ptr _
  case a2 => simp [World.setCell]; omega
  intro g' cap w5 hown hgrow hgo hglt
  have hgo' : g = g' ∨ W.heap.size ≤ g' := hgo.imp (fun e => by simpa [Value.ownBlock] using e) (fun e => by omega)
  have hX : Below W.heap.size (W.setCell ⟨g, j, none⟩ (.pointer none)) ((W.setCell ⟨g, j, none⟩ (.pointer none)).alloc (.cells #[.pointer none] 44)) := by
    have := box_below (W.setCell ⟨g, j, none⟩ (.pointer none)) (.cells #[.pointer none] 44)
    simpa [World.setCell] using this
  obtain ⟨⟨r1, r2⟩, hM, hO⟩ := HG.out _ w5 g' cap hX hown hgrow hgo'
  have HM := Lib.hid hM.spreads
  rw [HH.out] at HM
  have HO := Lib.hid hO
  have HGO := Lib.hid hgo'
  clear hM hO hX hown hgrow hgo hgo' HG HR HH q0 q1 q2 HP
  go_wp2_with (go_at_call 24; ((with_reducible refine HM.out.mono ?_); rintro e w' ⟨rfl, ⟨cs', hc⟩, ho⟩))
  go_end0
  have hk : ∀ k, (O k ∨ k = g') → O k ∨ W.heap.size ≤ k := by
    rintro k (hk | rfl)
    · exact .inl hk
    · rcases HGO.out with rfl | hg
      · exact .inl ho2
      · exact .inr hg
  exact ⟨rfl, ⟨_, g', cap, cs', hc, hk⟩, HO.out.chain ho hk⟩
end Go.Proofs.Ytbeeekpofbhljaa
