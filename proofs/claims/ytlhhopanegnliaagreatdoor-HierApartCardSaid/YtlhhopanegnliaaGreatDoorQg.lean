/- A queue: who is granted behind a Release or a Cancel: the walk of gather, a loop by goto. -/
import Derived.Test.YtlhhopanegnliaaGreatDoorQe
import Derived.Deep.AppendLies
import Derived.OwnWalk
namespace Go.Proofs.YtlhhopanegnliaaGreatDoor
open Go Go.RowKit Go.Shelf
set_option maxRecDepth 100000

theorem least {p : Nat → Prop} (h : ∃ n, p n) : ∃ n, p n ∧ ∀ m, p m → n ≤ m := by
  obtain ⟨n, hn⟩ := h
  induction n using Nat.strongRecOn with
  | _ n ih =>
    by_cases hm : ∃ m, m < n ∧ p m
    · obtain ⟨m, h1, h2⟩ := hm
      exact ih m h1 h2
    · exact ⟨n, hn, fun m hp => by
        by_cases hl : m < n
        · exact absurd ⟨m, hl, hp⟩ hm
        · omega⟩
theorem scope_ranked {P : Program} {a : Act} {w : World} {Q : Exit → Act → World → Prop} {c rest : Code} (l : Nat) (J : Nat → Act → World → Prop) (hf : findLabel c l = some (Code.skip.seq rest))
    (first : (∀ n a w, J n a w → rest.wp P (Exit.jump l (fun a w => ∃ n, J n a w) Q) a w) → c.wp P (Exit.jump l (fun a w => ∃ n, J n a w) Q) a w)
    (pass : ∀ n a w, J n a w → rest.wp P (Exit.jump l (fun a' w' => ∃ m, m < n ∧ J m a' w') Q) a w) : (Code.scope c).wp P Q a w := by
  classical
  have hp : ∀ n a w, J n a w → rest.wp P (Exit.jump l (fun a w => ∃ n, J n a w) Q) a w := fun n a w hJ => by
    refine Code.wp_mono ?_ (pass n a w hJ)
    intro e a' w' he
    cases e with
    | goto l' =>
      obtain ⟨h1, m, -, h3⟩ := he
      exact ⟨h1, m, h3⟩
    | _ => exact he
  refine wp_scope_jumps l (fun a w => ∃ n, J n a w) (fun a w => if h : ∃ n, J n a w then Classical.choose (least h) else 0) hf (first hp) ?_
  intro a w hJ
  have hs := Classical.choose_spec (least hJ)
  refine wp_seq (wp_skip ?_)
  refine Code.wp_mono ?_ (pass _ a w hs.1)
  intro e a' w' he
  cases e with
  | goto l' =>
    obtain ⟨h1, m, h2, h3⟩ := he
    refine ⟨h1, ⟨m, h3⟩, ?_⟩
    have hs' := Classical.choose_spec (least (p := fun n => J n a' w') ⟨m, h3⟩)
    have h4 := hs'.2 m h3
    simp only [dif_pos hJ, dif_pos (show ∃ n, J n a' w' from ⟨m, h3⟩)]
    omega
  | _ => exact he


/-- who is granted, from the first one that waits on: the holds, the waits, and who is told -/
def swp : List Ws.Wt → List Hs.Hd → List Hs.Hd × List Ws.Wt × List Ws.Wt
  | [], H => (H, [], [])
  | x :: L, H => if Hs.goesB x.1 x.2.1 H then ((swp L (grantH x H)).1, (swp L (grantH x H)).2.1, x :: (swp L (grantH x H)).2.2) else (H, x :: L, [])
theorem swp_yes {x : Ws.Wt} {L : List Ws.Wt} {H : List Hs.Hd} (h : Hs.goesB x.1 x.2.1 H = true) : swp (x :: L) H = ((swp L (grantH x H)).1, (swp L (grantH x H)).2.1, x :: (swp L (grantH x H)).2.2) := by
  rw [swp, if_pos h]
theorem swp_no {x : Ws.Wt} {L : List Ws.Wt} {H : List Hs.Hd} (h : Hs.goesB x.1 x.2.1 H = false) : swp (x :: L) H = (H, x :: L, []) := by
  rw [swp, if_neg (by simp [h])]
/-- each one once -/
def Once (L : List Ws.Wt) : Prop := L.Pairwise (fun a b => a.1 ≠ b.1)
theorem once_wout {x : Ws.Wt} {L : List Ws.Wt} (h : Once (x :: L)) : Ws.wout x.1 (x :: L) = L := by
  obtain ⟨h1, -⟩ := List.pairwise_cons.1 h
  unfold Ws.wout
  rw [List.filter_cons, if_neg (by simp)]
  exact List.filter_eq_self.2 fun y hy => by simpa using fun e => h1 y hy e.symm
section
variable {W W' w w' : World} {b R N n1 n2 K : Nat} {A1 A2 B1 B2 : Option Addr} {A10 : Option Addr × List Hs.Hd} {A20 : Option Addr × List Ws.Wt} {c1 c2 d1 d2 : Nat} {H H' : List Hs.Hd} {L L' T : List Ws.Wt} {v : Value} {tx m : Int} {cv ii : Bool}
theorem tab_not (ht : TabG W) (h : QAt W b A1 c1 A2 c2 H L) : b ≠ 0 := by
  rintro rfl
  have e1 := h.e0
  have e2 := ht.2 0 0 (by omega) (by omega)
  simp only [Nat.zero_mul, Nat.add_zero] at e2
  rw [e1] at e2
  cases e2
theorem TabG.only (ht : TabG W) (ho : OnlyS (· = b) W W') (hb : b ≠ 0) : TabG W' :=
  ⟨Nat.lt_of_lt_of_le ht.1 ho.size, fun i j hi hj => ho.cell (ht.2 i j hi hj) (fun e => hb e.symm)⟩
theorem grantH_len (x : Ws.Wt) (H : List Hs.Hd) : (grantH x H).length ≤ H.length + 1 := grant_len x H
/-- no list of it lies in this block -/
structure Far (row : Option Nat) (A1 A2 : Option Addr) (H : List Hs.Hd) (L : List Ws.Wt) : Prop where
  h : H = [] ∨ ∀ a, A1 = some a → row ≠ some a.block
  l : L = [] ∨ ∀ a, A2 = some a → row ≠ some a.block
theorem Hs.Ls.in (h : Hs.Ls w A1 c1 H) : H = [] ∨ ∀ a, A1 = some a → a.block < w.heap.size := by
  cases H with
  | nil => exact .inl rfl
  | cons x xs =>
    refine .inr fun a ha => ?_
    have h0 := h.at' a ha 0 (.int .i64 x.1) (by simp [Hs.flat, Hs.cellsW])
    rw [show a.add 0 = a from if_pos rfl] at h0
    exact cell_lt h0
theorem Ws.Ls.in (h : Ws.Ls w A2 c2 L) : L = [] ∨ ∀ a, A2 = some a → a.block < w.heap.size := by
  cases L with
  | nil => exact .inl rfl
  | cons x xs =>
    refine .inr fun a ha => ?_
    have h0 := h.at' a ha 0 (.int .i64 x.1) (by simp [Ws.flat, Ws.cellsW])
    rw [show a.add 0 = a from if_pos rfl] at h0
    exact cell_lt h0
theorem Far.new {row : Option Nat} (h : QAt w b A1 c1 A2 c2 H L) (hr : ∀ g, row = some g → w.heap.size ≤ g) : Far row A1 A2 H L :=
  ⟨h.h.in.imp id fun q a ha e => by have := q a ha; have := hr _ e; omega, h.l.in.imp id fun q a ha e => by have := q a ha; have := hr _ e; omega⟩
theorem Far.hold {row : Option Nat} (h : Far row A1 A2 H L) {H' : List Hs.Hd} (hi : ∀ g, row = some g → g < w.heap.size) (hB : (H' = H ∧ B1 = A1) ∨ ∀ a, B1 = some a → w.heap.size ≤ a.block) : Far row B1 A2 H' L := by
  rcases hB with ⟨rfl, rfl⟩ | q
  · exact h
  · exact ⟨.inr fun a ha e => by have := q a ha; have := hi _ e; omega, h.l⟩
theorem Far.wait {row : Option Nat} (h : Far row A1 A2 H L) (L' : List Ws.Wt) (hi : ∀ g, row = some g → g < w.heap.size) (hB : ∀ a, B2 = some a → w.heap.size ≤ a.block) : Far row A1 B2 H L' :=
  ⟨h.h, .inr fun a ha e => by have := hB a ha; have := hi _ e; omega⟩
theorem grown_at {row : Option Nat} (h : QAt w b A1 c1 A2 c2 H L) (hg : w.grownBy w' row) (hf : Far row A1 A2 H L) (hb : row ≠ some b) : QAt w' b A1 c1 A2 c2 H L := by
  refine ⟨(hg.block b h.lt (fun e => hb e.symm)).trans h.blk, ?_, ?_⟩
  · rcases hf.h with rfl | q
    · exact ⟨h.h.cap, h.h.room, h.h.nil, fun _ _ j u hj => by simp [Hs.flat] at hj⟩
    · rcases h.h.in with rfl | q2
      · exact ⟨h.h.cap, h.h.room, h.h.nil, fun _ _ j u hj => by simp [Hs.flat] at hj⟩
      · exact h.h.keep fun a ha => hg.block _ (q2 a ha) fun e => q a ha e.symm
  · rcases hf.l with rfl | q
    · exact ⟨h.l.cap, h.l.room, h.l.nil, fun _ _ j u hj => by simp [Ws.flat] at hj⟩
    · rcases h.l.in with rfl | q2
      · exact ⟨h.l.cap, h.l.room, h.l.nil, fun _ _ j u hj => by simp [Ws.flat] at hj⟩
      · exact h.l.keep fun a ha => hg.block _ (q2 a ha) fun e => q a ha e.symm
theorem first_at (h : Ws.Ls w A2 c2 ((tx, m, cv, ii) :: L)) : ∃ a, A2 = some a ∧ w.cell? a = some (.int .i64 tx) ∧ w.cell? ⟨a.block, a.off + 1, none⟩ = some (.int .i64 m) ∧ w.cell? ⟨a.block, a.off + 2, none⟩ = some (.bool cv) ∧ w.cell? ⟨a.block, a.off + 3, none⟩ = some (.bool ii) := by
  obtain ⟨ad, rfl, e0, e1, e2, e3⟩ := h.here (i := 0) (by simp)
  simp only [List.getElem_cons_zero, Nat.zero_mul] at e0 e1 e2 e3
  rw [show ad.add 0 = ad from if_pos rfl] at e0 e1 e2 e3
  exact ⟨ad, rfl, e0, e1, e2, e3⟩
/-- where gather stands -/
structure Ga (W : World) (b : Nat) (A10 : Option Addr × List Hs.Hd) (A20 : Option Addr × List Ws.Wt) (X : List Hs.Hd × List Ws.Wt × List Ws.Wt) (n : Nat) (H : List Hs.Hd) (L T : List Ws.Wt) (v : Value) (w : World) : Prop where
  q : ∃ A1 c1 A2 c2, QAt w b A1 c1 A2 c2 H L ∧ Far v.ownBlock A1 A2 H L ∧ Fr W.heap.size A10 A1 H ∧ Fr W.heap.size A20 A2 L
  row : Ws.Row w W.heap.size v T
  only : OnlyS (· = b) W w
  once : Once L
  l1 : H.length + L.length ≤ 400
  l2 : T.length + L.length ≤ 400
  is : X = ((swp L H).1, (swp L H).2.1, T ++ (swp L H).2.2)
  n : L.length = n
theorem Ga.left {X : List Hs.Hd × List Ws.Wt × List Ws.Wt} {n : Nat} (h : Ga W b A10 A20 X n H L T v w) (hb : b < W.heap.size) (ho : OnlyS (· = b) w w') : Ws.Row w' W.heap.size v T :=
  row_keep h.row fun g hg => ho.block g (h.row.lt g hg).2 (by have := (h.row.lt g hg).1; omega)
def Gj (W : World) (b : Nat) (A10 : Option Addr × List Hs.Hd) (A20 : Option Addr × List Ws.Wt) (X : List Hs.Hd × List Ws.Wt × List Ws.Wt) (n : Nat) (a' : Act) (w' : World) : Prop :=
  ∃ (H : List Hs.Hd) (L T : List Ws.Wt) (v u4 u5 u6 u7 u8 u9 u10 u11 u12 u13 u14 u15 u16 u17 u18 u19 u20 u21 u22 u23 u24 u25 u26 u27 u28 u29 u30 u31 u32 u33 u34 u35 u36 u37 u38 u39 u40 u41 u42 u43 u44 u45 : Value), a' = { tmps := #[qp b, undef, .slice none 0 0, v, u4, u5, u6, u7, u8, u9, u10, u11, u12, u13, u14, u15, u16, u17, u18, u19, u20, u21, u22, u23, u24, u25, u26, u27, u28, u29, u30, u31, u32, u33, u34, u35, u36, u37, u38, u39, u40, u41, u42, u43, u44, u45], defers := [] } ∧ Ga W b A10 A20 X n H L T v w'
theorem Gj.mk' {X : List Hs.Hd × List Ws.Wt × List Ws.Wt} {n : Nat} {u4 u5 u6 u7 u8 u9 u10 u11 u12 u13 u14 u15 u16 u17 u18 u19 u20 u21 u22 u23 u24 u25 u26 u27 u28 u29 u30 u31 u32 u33 u34 u35 u36 u37 u38 u39 u40 u41 u42 u43 u44 u45 : Value} (h : Ga W b A10 A20 X n H L T v w) :
    Gj W b A10 A20 X n { tmps := #[qp b, undef, .slice none 0 0, v, u4, u5, u6, u7, u8, u9, u10, u11, u12, u13, u14, u15, u16, u17, u18, u19, u20, u21, u22, u23, u24, u25, u26, u27, u28, u29, u30, u31, u32, u33, u34, u35, u36, u37, u38, u39, u40, u41, u42, u43, u44, u45], defers := [] } w := ⟨H, L, T, v, u4, u5, u6, u7, u8, u9, u10, u11, u12, u13, u14, u15, u16, u17, u18, u19, u20, u21, u22, u23, u24, u25, u26, u27, u28, u29, u30, u31, u32, u33, u34, u35, u36, u37, u38, u39, u40, u41, u42, u43, u44, u45, rfl, h⟩
/-- who is told, and what is left -/
def Told (b : Nat) (W : World) (A10 : Option Addr × List Hs.Hd) (A20 : Option Addr × List Ws.Wt) (X : List Hs.Hd × List Ws.Wt × List Ws.Wt) (e : Ending) (w' : World) : Prop :=
  ∃ A c, e = .returned (.slice A X.2.2.length c) ∧ Ws.Ls w' A c X.2.2 ∧ (∀ a, A = some a → W.heap.size ≤ a.block) ∧ Left b W A10 A20 X.1 X.2.1 w'
theorem Ga.told {X : List Hs.Hd × List Ws.Wt × List Ws.Wt} {n : Nat} (h : Ga W b A10 A20 X n H L T v w) (he : (swp L H) = (H, L, [])) : Told b W A10 A20 X (.returned v) w := by
  have e := h.is
  rw [he, List.append_nil] at e
  subst e
  obtain ⟨A, c, rfl, hls⟩ := h.row.ls
  have hfar := h.row.far
  obtain ⟨A1, c1, A2, c2, hq, -, hf1, hf2⟩ := h.q
  exact ⟨A, c, rfl, hls, hfar, ⟨_, _, _, _, hq, hf1, hf2⟩, h.only⟩
theorem Ga.below {X : List Hs.Hd × List Ws.Wt × List Ws.Wt} {n : Nat} (h : Ga W b A10 A20 X n H L T v w) (hb : Below w.heap.size w w') : Ga W b A10 A20 X n H L T v w' := by
  obtain ⟨A1, c1, A2, c2, hq, hf⟩ := h.q
  exact ⟨⟨A1, c1, A2, c2, hq.below hb, hf⟩, row_below h.row hb, h.only.trans (OnlyS.of_below hb), h.once, h.l1, h.l2, h.is, h.n⟩
set_option maxHeartbeats 4000000 in
theorem gather_any (ht : TabG W) (h : QAt W b A1 c1 A2 c2 H L) (hl : H.length + L.length ≤ 400) (ho : Once L) : Calls Tryz.prog 182 #[qp b] W (Told b W (A1, H) (A2, L) (swp L H)) := by
  have HT := Lib.hid ht
  have hbl := h.lt
  have hb0 := tab_not ht h
  have H0 := Lib.hid (show Ga W b (A1, H) (A2, L) (swp L H) L.length H L [] (.slice none 0 0) W from ⟨⟨A1, c1, A2, c2, h, ⟨.inr fun _ _ e => (by cases e), .inr fun _ _ e => (by cases e)⟩, Fr.refl _ _, Fr.refl _ _⟩, World.ownsRow_nil _ _ _ _, OnlyS.refl _ _, ho, hl, by simp; omega, rfl, rfl⟩)
  generalize swp L H = X at *
  generalize ((A1, H) : Option Addr × List Hs.Hd) = P1 at *
  generalize ((A2, L) : Option Addr × List Ws.Wt) = P2 at *
  clear h ht hl ho
  go_enter Tryz.func182, Tryz.ntmps182
  go_wp2
  refine scope_ranked 0 (Gj W b P1 P2 X) rfl ?_ ?_
  · intro hpass
    have HQ := Lib.hid hpass
    clear hpass
    go_wp2
    rename_i hK
    refine wp_label ?_
    refine hK _ _ ?_
    exact HQ.out _ _ _ (Gj.mk' H0.out)
  · rintro N a' wr ⟨H, L, T, v, u4, u5, u6, u7, u8, u9, u10, u11, u12, u13, u14, u15, u16, u17, u18, u19, u20, u21, u22, u23, u24, u25, u26, u27, u28, u29, u30, u31, u32, u33, u34, u35, u36, u37, u38, u39, u40, u41, u42, u43, u44, u45, rfl, hg⟩
    clear H0
    have HGa := Lib.hid hg
    obtain ⟨B1, x1, B2, x2, hq, hf, hr1, hr2⟩ := hg.q
    have HR1 := Lib.hid hr1
    have HR2 := Lib.hid hr2
    have HF := Lib.hid hf
    have HQ := Lib.hid hq
    have q1 := hq.e1
    have hl1 := hg.l1
    clear hg hq hf hr1 hr2
    cases L with
    | nil =>
      simp only [List.length_nil] at q1
      go_wp2
      simp only [Exit.jump]
      go_ret
      exact HGa.out.told rfl
    | cons x L =>
      obtain ⟨tx, m, cv, ii⟩ := x
      obtain ⟨ad, rfl, e0, e1, e2, e3⟩ := first_at HQ.out.l
      have HGo := Lib.hid (qgoes_any (HT.out.only HGa.out.only hb0) HQ.out (by omega) tx m cv ii)
      obtain ⟨g, hg⟩ : ∃ g, Hs.goesB tx m H = g := ⟨_, rfl⟩
      rw [hg] at HGo
      have HG := Lib.hid hg
      simp only [List.length_cons] at q1 hl1
      obtain ⟨k, hk⟩ : ∃ k, L.length = k := ⟨_, rfl⟩
      rw [hk] at q1 hl1
      have HK := Lib.hid hk
      clear hg hk
      go_wp2_with fail
      refine HGo.out.mono ?_
      rintro e w1 ⟨rfl, hb1⟩
      have HGa1 := Lib.hid (HGa.out.below hb1)
      have hq1 := HQ.out.below hb1
      have HQ1 := Lib.hid hq1
      have q2 := hq1.e1
      simp only [List.length_cons] at q2
      rw [HK.out] at q2
      obtain ⟨ad2, had, e4, e5, e6, e7⟩ := first_at hq1.l
      obtain rfl : ad = ad2 := by simpa using had
      clear hb1 hq1 q1 e0 e1 e2 e3 HGo HGa HQ had
      cases g
      · go_wp2_with fail
        simp only [Exit.jump]
        go_ret
        exact HGa1.out.told (swp_no HG.out)
      · go_wp2_with fail
        have HX := Lib.hid (Bx.new w1 tx m cv ii)
        have HGa2 := Lib.hid (HGa1.out.below (box_below w1 (.cells #[.int .i64 tx, .int .i64 m, .bool cv, .bool ii] 61)))
        have hq2 := HQ1.out.below (box_below w1 (.cells #[.int .i64 tx, .int .i64 m, .bool cv, .bool ii] 61))
        have hKb : w1.heap.size ≠ b := by have := HQ1.out.lt; omega
        clear HGa1 HQ1 q2 e4 e5 e6 e7
        generalize w1.alloc (.cells #[.int .i64 tx, .int .i64 m, .bool cv, .bool ii] 61) = w2 at *
        generalize w1.heap.size = K2 at *
        have HQ2 := Lib.hid hq2
        have q1 := hq2.e1
        simp only [List.length_cons] at q1
        rw [HK.out] at q1
        have b0 := HX.out.b0
        have b1 := HX.out.b1
        have b2 := HX.out.b2
        have b3 := HX.out.b3
        simp only at b0 b1 b2 b3
        have f1 := hq2.fz 1
        have hon := HGa2.out.once
        have hk4 : k ≤ 400 := by omega
        have HWo := Lib.hid (fun (wi : World) (hb : Below w2.heap.size w2 wi) => Ws.without_row (hq2.l.below hb) (by simp only [List.length_cons]; rw [HK.out]; omega) tx)
        rw [show Ws.wout tx ((tx, m, cv, ii) :: L) = L from once_wout hon] at HWo
        simp only [List.length_cons] at HWo
        rw [HK.out] at HWo
        clear hq2 hon
        go_region_law (first | (go_simp; go_at_call 181; refine (HWo.out _ (Below.refl _ _).drew).mono ?_; rintro e w3 ⟨B3, d2, rfl, hrw1, hb3⟩; have hls1 := hrw1.lsv; have hb4 := undrew hb3; have HQ3 := Lib.hid (HQ2.out.below hb4); have j1 := HQ3.out.e1; have j2 := HQ3.out.fz 1; have HX3 := Lib.hid (HX.out.below hb4); have HGa3 := Lib.hid (HGa2.out.below hb4); simp only [List.length_cons] at j1; rw [HK.out] at j1))
        all_goals
          have HQ4 := Lib.hid (HQ3.out.set1 hls1)
          have HO := OnlyS.set b 1 w3 (.slice B3 L.length d2)
          have HX4 := Lib.hid (HX3.out.only HO hKb)
          have HR4 := Lib.hid (HGa3.out.left hbl HO)
          have HO4 := Lib.hid (HGa3.out.only.trans (HO.mono fun _ _ h => h))
          have HGa4 := Lib.hid (show (Once L ∧ H.length + k ≤ 399 ∧ T.length + k ≤ 399 ∧ X = ((swp L (grantH (tx, m, cv, ii) H)).1, (swp L (grantH (tx, m, cv, ii) H)).2.1, T ++ (tx, m, cv, ii) :: (swp L (grantH (tx, m, cv, ii) H)).2.2) ∧ k + 1 = N) from by
            have g1 := HGa3.out.once
            have g2 := HGa3.out.l1
            have g3 := HGa3.out.l2
            have g4 := HGa3.out.is
            have g5 := HGa3.out.n
            simp only [List.length_cons] at g2 g3 g5
            rw [HK.out] at g2 g3 g5
            rw [swp_yes HG.out] at g4
            exact ⟨(List.pairwise_cons.1 g1).2, by omega, by omega, g4, g5⟩)
          have HR6 := Lib.hid (HR2.out.trans (Fr.new (A' := B3) (xs := L) (fun a ha => hrw1.far a ha)) HGa2.out.only.size)
          have HF4 := Lib.hid (HF.out.wait (w := w2) L (fun g hg => (HGa2.out.row.lt g hg).2) (fun a ha => hrw1.far a ha))
          rw [HK.out] at HQ4 HX4 HR4 HO4 ⊢
          clear hb3 hb4 hls1 hrw1 HQ3 HX3 HGa3 j1 j2 HO q1 b0 b1 b2 b3 f1 HWo HX HQ2 HGa2
          generalize w3.setCell ⟨b, 1, none⟩ (.slice B3 k d2) = w4 at HQ4 HX4 HR4 HO4 ⊢
          have HGr := Lib.hid (grant_row HQ4.out (by have := HGa4.out.2.1; omega) tx m cv ii)
          have b0 := HX4.out.b0
          have b1 := HX4.out.b1
          have b2 := HX4.out.b2
          have b3 := HX4.out.b3
          simp only at b0 b1 b2 b3
          go_wp2_with fail
          refine HGr.out.mono ?_
          rintro e w5 ⟨rfl, B4, d3, hq5, ho5, hf5⟩
          have HR7 := Lib.hid (HR1.out.trans (show Fr w4.heap.size (B1, H) B4 _ from hf5.imp And.symm id) HO4.out.size)
          have HF5 := Lib.hid (HF4.out.hold (H' := grantH (tx, m, cv, ii) H) (w := w4) (fun g hg => (HR4.out.lt g hg).2) hf5)
          have HX5 := Lib.hid (HX4.out.only ho5 hKb)
          have HR5 := Lib.hid (row_keep HR4.out fun g hg => ho5.block g (HR4.out.lt g hg).2 (by have := (HR4.out.lt g hg).1; omega))
          have HO5 := HO4.out.trans ho5
          have HQ5 := Lib.hid hq5
          clear HGr HX4 HR4 HO4 HQ4 hq5 ho5 hf5 HF4 b0 b1 b2 b3
          have hx := box_below w5 (.cells #[.int .i64 tx, .int .i64 m, .bool cv, .bool ii] 61)
          obtain ⟨v', w6, hrun, hrow, hgr, how⟩ := Ws.Row.app (Ws.Row.keep HR5.out (fun g hg => hx.block g (HR5.out.lt g hg).2)) (Ws.box_ls w5 (tx, m, cv, ii)) (by simp; have := HGa4.out.2.2.1; omega) (Nat.le_trans HO5.size hx.size) 51
          have HGl := Lib.hid (grantH_len (tx, m, cv, ii) H)
          have hbl5 : b < w5.heap.size := HQ5.out.lt
          have HG6 := Lib.hid (show Ga W b P1 P2 X k (grantH (tx, m, cv, ii) H) L (T ++ [(tx, m, cv, ii)]) v' w6 from
            ⟨⟨B4, d3, B3, d2, grown_at (HQ5.out.below hx) hgr HF5.out (fun e => by have := (HR5.out.lt b e).1; omega), by
                rcases how with e | e
                · rw [e]; exact HF5.out
                · exact Far.new (HQ5.out.below hx) (fun g hg => by rw [e] at hg; cases hg; exact Nat.le_refl _), HR7.out, HR6.out⟩, hrow,
             (HO5.trans (OnlyS.of_below hx)).grown hgr (fun g hg => .inr (HR5.out.lt g hg).1), HGa4.out.1, by rw [HK.out]; have := HGl.out; have := HGa4.out.2.1; omega, by rw [HK.out, List.length_append]; have := HGa4.out.2.2.1; simp; omega, by rw [HGa4.out.2.2.2.1, List.append_assoc]; rfl, HK.out⟩)
          have b0 := HX5.out.b0
          have b1 := HX5.out.b1
          have b2 := HX5.out.b2
          have b3 := HX5.out.b3
          have HN := Lib.hid HGa4.out.2.2.2.2
          simp only at b0 b1 b2 b3 hrun
          clear hrow hgr how hx HF5 HR5 HO5 HQ5 HX5 HGl HGa4
          go_wp2_with (at_builtin; refine Lib.wpList_append_run _ rfl _ _ _ _ rfl _ _ rfl rfl _ _ hrun ?_)
          go_step3
          change _ ∧ ∃ m', m' < N ∧ Gj W b P1 P2 X m' _ _
          exact ⟨rfl, k, by have := HN.out; omega, Gj.mk' HG6.out⟩
end
end Go.Proofs.YtlhhopanegnliaaGreatDoor
/- A queue: Release and Cancel. -/
namespace Go.Proofs.YtlhhopanegnliaaGreatDoor
open Go Go.RowKit Go.Shelf
set_option maxRecDepth 100000

/-- an error, who is told, the holds and the waits behind it -/
structure Out where
  err : Int
  told : List Ws.Wt
  hs : List Hs.Hd
  ws : List Ws.Wt
def swept (X : List Hs.Hd × List Ws.Wt × List Ws.Wt) : Out := ⟨0, X.2.2, X.1, X.2.1⟩
def isnt (tx : Int) (H : List Hs.Hd) (L : List Ws.Wt) : Bool := !(Hs.fst tx H != 0) && !decide (0 ≤ Ws.fndI tx L)
def rel (tx : Int) (H : List Hs.Hd) (L : List Ws.Wt) : Out := if isnt tx H L then ⟨2, [], H, L⟩ else swept (swp (Ws.wout tx L) (Hs.wout tx H))
def can (tx : Int) (H : List Hs.Hd) (L : List Ws.Wt) : Out := if decide (0 ≤ Ws.fndI tx L) then swept (swp (Ws.wout tx L) H) else ⟨2, [], H, L⟩
/-- what a Release or a Cancel leaves -/
def Gone (b : Nat) (W : World) (A1 : Option Addr × List Hs.Hd) (A2 : Option Addr × List Ws.Wt) (X : Out) (e : Ending) (w' : World) : Prop :=
  ∃ A c, e = .returned (.tuple #[.slice A X.told.length c, .int .i64 X.err]) ∧ Ws.Ls w' A c X.told ∧ (∀ a, A = some a → W.heap.size ≤ a.block) ∧ Left b W A1 A2 X.hs X.ws w'
theorem once_out {L : List Ws.Wt} (h : Once L) (tx : Int) : Once (Ws.wout tx L) := List.Pairwise.filter _ h
section
variable {W W' w w' : World} {b n1 n2 : Nat} {A1 A2 B1 B2 : Option Addr} {c1 c2 d1 d2 : Nat} {H H' : List Hs.Hd} {L L' : List Ws.Wt} {X : Out}
theorem gone_no (hX : X = ⟨2, [], H, L⟩) (h : QAt w b A1 c1 A2 c2 H L) (hb : Below W.heap.size W w) : Gone b W (A1, H) (A2, L) X (.returned (.tuple #[.slice none 0 0, .int .i64 2])) w := by
  subst hX
  exact ⟨none, 0, rfl, Ws.Ls.nils _, (fun _ h => by cases h), ⟨_, _, _, _, h, Fr.refl _ _, Fr.refl _ _⟩, OnlyS.of_below hb⟩
theorem release_none (tx : Int) (W : World) : Calls Tryz.prog 143 #[.pointer none, .int .i64 tx] W fun e w' => e = .returned (.tuple #[.slice none 0 0, .int .i64 70]) ∧ W = w' := by
  go_enter Tryz.func143, Tryz.ntmps143
  go_wp2
  go_ret2
  exact ⟨rfl, rfl⟩
theorem cancel_none (tx : Int) (W : World) : Calls Tryz.prog 142 #[.pointer none, .int .i64 tx] W fun e w' => e = .returned (.tuple #[.slice none 0 0, .int .i64 70]) ∧ W = w' := by
  go_enter Tryz.func142, Tryz.ntmps142
  go_wp2
  go_ret2
  exact ⟨rfl, rfl⟩
theorem told_gone {A10 : Option Addr × List Hs.Hd} {A20 : Option Addr × List Ws.Wt} {Y : List Hs.Hd × List Ws.Wt × List Ws.Wt} {A : Option Addr} {c k : Nat} (hX : X = swept Y) (ho : OnlyS (· = b) W w) (hk : Y.2.2.length = k) (hl : Ws.Ls w' A c Y.2.2) (hfar : ∀ a, A = some a → w.heap.size ≤ a.block) {xs : List Hs.Hd} {ys : List Ws.Wt} (hg : Left b w (B1, xs) (B2, ys) Y.1 Y.2.1 w') (f1 : Fr W.heap.size A10 B1 xs) (f2 : Fr W.heap.size A20 B2 ys) :
    Gone b W A10 A20 X (.returned (.tuple #[.slice A k c, .int .i64 0])) w' := by
  subst hX
  subst hk
  obtain ⟨⟨_, _, _, _, hq, g1, g2⟩, hg2⟩ := hg
  exact ⟨A, c, rfl, hl, (fun a ha => Nat.le_trans ho.size (hfar a ha)), ⟨_, _, _, _, hq, f1.trans g1 ho.size, f2.trans g2 ho.size⟩, ho.trans hg2⟩
set_option maxHeartbeats 2000000 in
theorem release_any (ht : TabG W) (h : QAt W b A1 c1 A2 c2 H L) (hl : H.length + L.length ≤ 400) (ho : Once L) (tx : Int) :
    Calls Tryz.prog 143 #[qp b, .int .i64 tx] W (Gone b W (A1, H) (A2, L) (rel tx H L)) := by
  have HQ := Lib.hid h
  have hb0 := tab_not ht h
  have HH := Lib.hid (has_any h.its (by omega) tx)
  have HA := Lib.hid (fun (w1 : World) (hb : Below W.heap.size W w1) => awaits_any (h.below hb).its (by omega) tx)
  have HT := Lib.hid ht
  have HO := Lib.hid (once_out ho tx)
  have hle : (Hs.wout tx H).length ≤ H.length := List.length_filter_le _ _
  have hle2 : (Ws.wout tx L).length ≤ L.length := List.length_filter_le _ _
  have HI := Lib.hid (show isnt tx H L = (!(Hs.fst tx H != 0) && !decide (0 ≤ Ws.fndI tx L)) from rfl)
  have HX := Lib.hid (show rel tx H L = if isnt tx H L then ⟨2, [], H, L⟩ else swept (swp (Ws.wout tx L) (Hs.wout tx H)) from rfl)
  clear h ht ho
  generalize rel tx H L = X at *
  generalize isnt tx H L = is at *
  generalize (Hs.fst tx H != 0) = p at *
  generalize decide (0 ≤ Ws.fndI tx L) = q at *
  go_enter Tryz.func143, Tryz.ntmps143
  go_wp2_with fail
  refine HH.out.mono ?_
  rintro e w1 ⟨rfl, hb1⟩
  have HA1 := Lib.hid (HA.out _ hb1)
  have HB1 := Lib.hid hb1
  clear HH HA hb1
  cases p
  · go_wp2_with fail
    refine HA1.out.mono ?_
    rintro e w2 ⟨rfl, hb2⟩
    have HB2 := Lib.hid (HB1.out.trans (hb2.mono HB1.out.size))
    clear HA1 HB1 hb2
    cases q
    · rw [HI.out] at HX
      have HN := Lib.hid (gone_no HX.out (HQ.out.below HB2.out) HB2.out)
      go_wp2_with fail
      go_ret2
      exact HN.out
    · rw [HI.out] at HX
      have hqz := HQ.out.below HB2.out
      have HOz := Lib.hid (OnlyS.of_below (S := (· = b)) HB2.out)
      have HD := Lib.hid (Hs.without_row hqz.h (by omega) tx)
      have HQz := Lib.hid hqz
      have q0 := hqz.e0
      have q1 := hqz.e1
      have f0 := hqz.fz 0
      clear hqz HQ HB2
      go_wp2_with fail
      refine HD.out.mono ?_
      rintro e w3 ⟨B1, d1, rfl, hrw3, hb3⟩
      have hls3 := hrw3.lsv
      have HFa := Lib.hid (Fr.new (A := (A1, H)) (xs := Hs.wout tx H) fun a ha => Nat.le_trans HOz.out.size (hrw3.far a ha))
      clear hrw3
      have hq3 := HQz.out.below hb3
      have HO4 := Lib.hid ((HOz.out.trans (OnlyS.of_below hb3)).trans (OnlyS.set b 0 w3 (.slice B1 (Hs.wout tx H).length d1)))
      have hq4 := hq3.set0 hls3
      have HQ4 := Lib.hid hq4
      have j0 := hq3.e0
      have f3 := hq3.fz 0
      have q4 := hq4.e1
      have f4 := hq4.fz 1
      have HW := Lib.hid (Ws.without_row hq4.l (by omega) tx)
      clear HD HOz HQz q0 q1 f0 hls3 hb3 hq3 hq4
      go_wp2_with fail
      generalize w3.setCell ⟨b, 0, none⟩ (.slice B1 (Hs.wout tx H).length d1) = w4 at *
      clear j0 f3
      refine HW.out.mono ?_
      rintro e w5 ⟨B2, d2, rfl, hrw5, hb5⟩
      have hls5 := hrw5.lsv
      have HFb := Lib.hid (Fr.new (A := (A2, L)) (xs := Ws.wout tx L) fun a ha => Nat.le_trans HO4.out.size (hrw5.far a ha))
      clear hrw5
      have hq5 := HQ4.out.below hb5
      have HO6 := Lib.hid ((HO4.out.trans (OnlyS.of_below hb5)).trans (OnlyS.set b 1 w5 (.slice B2 (Ws.wout tx L).length d2)))
      have hq6 := hq5.set1 hls5
      have j1 := hq5.e1
      have f5 := hq5.fz 1
      have HG := Lib.hid (gather_any (HT.out.only HO6.out hb0) hq6 (by omega) HO.out)
      clear HW HO4 HQ4 q4 f4 hls5 hb5 hq5 hq6
      go_wp2_with fail
      refine HG.out.mono ?_
      rintro e w7 ⟨A7, c7, rfl, hls7, hfa7, hg7⟩
      obtain ⟨k, hk⟩ : ∃ k, (swp (Ws.wout tx L) (Hs.wout tx H)).2.2.length = k := ⟨_, rfl⟩
      have HE := Lib.hid (told_gone HX.out HO6.out hk hls7 hfa7 hg7 HFa.out HFb.out)
      rw [hk]
      clear HG hls7 hfa7 hg7 hk j1 f5
      go_wp2_with fail
      go_ret2
      exact HE.out
  · rw [HI.out] at HX
    clear HA1
    have hqz := HQ.out.below HB1.out
    have HOz := Lib.hid (OnlyS.of_below (S := (· = b)) HB1.out)
    have HD := Lib.hid (Hs.without_row hqz.h (by omega) tx)
    have HQz := Lib.hid hqz
    have q0 := hqz.e0
    have q1 := hqz.e1
    have f0 := hqz.fz 0
    clear hqz HQ HB1
    go_wp2_with fail
    refine HD.out.mono ?_
    rintro e w3 ⟨B1, d1, rfl, hrw3, hb3⟩
    have hls3 := hrw3.lsv
    have HFa := Lib.hid (Fr.new (A := (A1, H)) (xs := Hs.wout tx H) fun a ha => Nat.le_trans HOz.out.size (hrw3.far a ha))
    clear hrw3
    have hq3 := HQz.out.below hb3
    have HO4 := Lib.hid ((HOz.out.trans (OnlyS.of_below hb3)).trans (OnlyS.set b 0 w3 (.slice B1 (Hs.wout tx H).length d1)))
    have hq4 := hq3.set0 hls3
    have HQ4 := Lib.hid hq4
    have j0 := hq3.e0
    have f3 := hq3.fz 0
    have q4 := hq4.e1
    have f4 := hq4.fz 1
    have HW := Lib.hid (Ws.without_row hq4.l (by omega) tx)
    clear HD HOz HQz q0 q1 f0 hls3 hb3 hq3 hq4
    go_wp2_with fail
    generalize w3.setCell ⟨b, 0, none⟩ (.slice B1 (Hs.wout tx H).length d1) = w4 at *
    clear j0 f3
    refine HW.out.mono ?_
    rintro e w5 ⟨B2, d2, rfl, hrw5, hb5⟩
    have hls5 := hrw5.lsv
    have HFb := Lib.hid (Fr.new (A := (A2, L)) (xs := Ws.wout tx L) fun a ha => Nat.le_trans HO4.out.size (hrw5.far a ha))
    clear hrw5
    have hq5 := HQ4.out.below hb5
    have HO6 := Lib.hid ((HO4.out.trans (OnlyS.of_below hb5)).trans (OnlyS.set b 1 w5 (.slice B2 (Ws.wout tx L).length d2)))
    have hq6 := hq5.set1 hls5
    have j1 := hq5.e1
    have f5 := hq5.fz 1
    have HG := Lib.hid (gather_any (HT.out.only HO6.out hb0) hq6 (by omega) HO.out)
    clear HW HO4 HQ4 q4 f4 hls5 hb5 hq5 hq6
    go_wp2_with fail
    refine HG.out.mono ?_
    rintro e w7 ⟨A7, c7, rfl, hls7, hfa7, hg7⟩
    obtain ⟨k, hk⟩ : ∃ k, (swp (Ws.wout tx L) (Hs.wout tx H)).2.2.length = k := ⟨_, rfl⟩
    have HE := Lib.hid (told_gone HX.out HO6.out hk hls7 hfa7 hg7 HFa.out HFb.out)
    rw [hk]
    clear HG hls7 hfa7 hg7 hk j1 f5
    go_wp2_with fail
    go_ret2
    exact HE.out
set_option maxHeartbeats 2000000 in
theorem cancel_any (ht : TabG W) (h : QAt W b A1 c1 A2 c2 H L) (hl : H.length + L.length ≤ 400) (ho : Once L) (tx : Int) :
    Calls Tryz.prog 142 #[qp b, .int .i64 tx] W (Gone b W (A1, H) (A2, L) (can tx H L)) := by
  have HQ := Lib.hid h
  have hb0 := tab_not ht h
  have HA := Lib.hid (awaits_any h.its (by omega) tx)
  have HT := Lib.hid ht
  have HO := Lib.hid (once_out ho tx)
  have hle2 : (Ws.wout tx L).length ≤ L.length := List.length_filter_le _ _
  have HX := Lib.hid (show can tx H L = if decide (0 ≤ Ws.fndI tx L) then swept (swp (Ws.wout tx L) H) else ⟨2, [], H, L⟩ from rfl)
  clear h ht ho
  generalize can tx H L = X at *
  generalize decide (0 ≤ Ws.fndI tx L) = q at *
  go_enter Tryz.func142, Tryz.ntmps142
  go_wp2_with fail
  refine HA.out.mono ?_
  rintro e w2 ⟨rfl, hb2⟩
  have HB2 := Lib.hid hb2
  clear HA hb2
  cases q
  · have HN := Lib.hid (gone_no HX.out (HQ.out.below HB2.out) HB2.out)
    go_wp2_with fail
    go_ret2
    exact HN.out
  · have hqz := HQ.out.below HB2.out
    have HO4 := Lib.hid (OnlyS.of_below (S := (· = b)) HB2.out)
    have HQ4 := Lib.hid hqz
    have q4 := hqz.e1
    have f4 := hqz.fz 1
    have HW := Lib.hid (Ws.without_row hqz.l (by omega) tx)
    clear hqz HQ HB2
    go_wp2_with fail
    refine HW.out.mono ?_
    rintro e w5 ⟨B2, d2, rfl, hrw5, hb5⟩
    have hls5 := hrw5.lsv
    have HFb := Lib.hid (Fr.new (A := (A2, L)) (xs := Ws.wout tx L) fun a ha => Nat.le_trans HO4.out.size (hrw5.far a ha))
    clear hrw5
    have hq5 := HQ4.out.below hb5
    have HO6 := Lib.hid ((HO4.out.trans (OnlyS.of_below hb5)).trans (OnlyS.set b 1 w5 (.slice B2 (Ws.wout tx L).length d2)))
    have hq6 := hq5.set1 hls5
    have j1 := hq5.e1
    have f5 := hq5.fz 1
    have HG := Lib.hid (gather_any (HT.out.only HO6.out hb0) hq6 (by omega) HO.out)
    clear HW HO4 HQ4 q4 f4 hls5 hb5 hq5 hq6
    go_wp2_with fail
    refine HG.out.mono ?_
    rintro e w7 ⟨A7, c7, rfl, hls7, hfa7, hg7⟩
    obtain ⟨k, hk⟩ : ∃ k, (swp (Ws.wout tx L) H).2.2.length = k := ⟨_, rfl⟩
    have HE := Lib.hid (told_gone HX.out HO6.out hk hls7 hfa7 hg7 (Fr.refl _ _) HFb.out)
    rw [hk]
    clear HG hls7 hfa7 hg7 hk j1 f5
    go_wp2_with fail
    go_ret2
    exact HE.out
end
end Go.Proofs.YtlhhopanegnliaaGreatDoor
