import Derived.Test.YtlhhopanegnliaaGreatDoorZIa
import Derived.Test.YtlhhopanegnliaaGreatDoorZNSi
namespace Go.Proofs.YtlhhopanegnliaaGreatDoor
open Go Go.RowKit Go.Shelf
set_option maxRecDepth 100000

section
variable {W W' w w' : World} {T U : Nat → Prop} {b m c u t : Nat} {B0 : Lo0} {mr tx : Int} {C C1 : CC} {v : Value} {Ts : List Ws.Wt} {D : List Ws.Wt × CC} {r : Nat}
def XR (B0 : Lo0) (v : Value) : Lo0 := ⟨B0.n, fun k => B0.X k ∨ v.ownBlock = some k⟩
structure Tld (W : World) (T : Nat → Prop) (b m : Nat) (mr : Int) (B0 : Lo0) (c : Nat) (v : Value) (Ts : List Ws.Wt) (C1 : CC) (w : World) : Prop where
  ch : Ch W T b m mr (XR B0 v) c C1 w
  row : Ws.Row w W.heap.size v Ts
def ToldCh (W : World) (T : Nat → Prop) (b m : Nat) (mr : Int) (B0 : Lo0) (c : Nat) (D : List Ws.Wt × CC) (N : Nat) (e : Ending) (w' : World) : Prop :=
  ∃ v, e = .returned v ∧ Tld W T b m mr B0 c v D.1 D.2 w' ∧ D.1.length ≤ N
theorem Tld.start (h : Ta W b T m mr c C B0 u t) : Tld W T b m mr B0 c (.slice none 0 0) [] C W :=
  ⟨⟨T, u, t, h.lessX (X' := fun k => B0.X k ∨ (Value.slice none 0 0).ownBlock = some k) (fun k hk => hk.elim id fun e => by cases e), OnlyS.refl _ _, fun _ hk => .inl hk⟩, World.ownsRow_nil _ _ _ _⟩
theorem Tld.below (h : Tld W T b m mr B0 c v Ts C1 w) (hb : Below w.heap.size w w') : Tld W T b m mr B0 c v Ts C1 w' := ⟨h.ch.below hb, row_below h.row hb⟩
theorem Tld.app {T1 : Nat → Prop} {C2 : CC} {ys : List Ws.Wt} {A : Option Addr} {k : Nat} (h : Tld W T b m mr B0 c v Ts C1 w) (hta : Ta w b T1 m mr c C1 (XR B0 v) u t) (ho : OnlyS T W w) (hT : ∀ k, T1 k → T k ∨ W.heap.size ≤ k) (h2 : Ch w T1 b m mr (XR B0 v) c C2 w') (hs : Ws.Ls w' A k ys) (hl : Ts.length + ys.length ≤ 1000) (ty : TypeId) :
    ∃ v' W', (Builtin.append_ #[51, 51] ty #[v, .slice A ys.length k]).run Tryz.prog w' = .ok v' W' ∧ Tld W T b m mr B0 c v' (Ts ++ ys) C2 W' := by
  obtain ⟨T2, u2, t2, k1, k2, k3⟩ := h2
  have hrow : Ws.Row w' W.heap.size v Ts := row_keep h.row fun g hg => k2.block g (hta.xl (k := g) (.inr hg)).1 (hta.xl (k := g) (.inr hg)).2
  have hK : W.heap.size ≤ w'.heap.size := Nat.le_trans ho.size k2.size
  obtain ⟨v', W', hrun, hrow', hg, how⟩ := hrow.app hs hl hK ty
  have hog : OnlyS (fun k => v.ownBlock = some k) w' W' := (OnlyS.refl _ w').grown hg fun _ hk => .inl hk
  refine ⟨v', W', hrun, ⟨T2, u2, t2, k1.growX hog (fun k hk => .inr hk) (fun k hk => ?_), ((ho.thn k2 hT).thn hog fun k hk => .inr (hrow.lt k hk).1), fun k hk => ?_⟩, hrow'⟩
  · rcases hk with hk | hk
    · exact .inl (.inl hk)
    · rcases how with e | e
      · exact .inl (.inr (by rw [← e]; exact hk))
      · rw [e] at hk
        cases hk
        exact .inr ⟨Nat.le_refl _, (hrow'.lt _ e).2⟩
  · rcases k3 k hk with z | z
    · exact hT k z
    · exact .inr (Nat.le_trans ho.size z)
theorem two_waits (W : World) (p : Pa.Pt) (x : Ws.Wt) : Below W.heap.size W ((W.alloc (.cells (pcs p) 30)).alloc (.cells #[.int .i64 x.1, .int .i64 x.2.1, .bool x.2.2.1, .bool x.2.2.2] 61)) ∧ Pbx ((W.alloc (.cells (pcs p) 30)).alloc (.cells #[.int .i64 x.1, .int .i64 x.2.1, .bool x.2.2.1, .bool x.2.2.2] 61)) W.heap.size p ∧ True := by
  have h1 := box_below W (.cells (pcs p) 30)
  have h2 := box_below (W.alloc (.cells (pcs p) 30)) (.cells #[.int .i64 x.1, .int .i64 x.2.1, .bool x.2.2.1, .bool x.2.2.2] 61)
  exact ⟨h1.trans (h2.mono h1.size), (Pbx.new W p 30).only (OnlyS.of_below (S := fun _ => False) h2) id, trivial⟩
structure CnI (W : World) (T : Nat → Prop) (b m : Nat) (mr : Int) (B0 : Lo0) (c : Nat) (tx : Int) (D : List Ws.Wt × CC) (v : Value) (Ts : List Ws.Wt) (r : Nat) (C1 : CC) (w : World) : Prop where
  tl : Tld W T b m mr B0 c v Ts C1 w
  is : (Ts ++ (cnT tx r C1).1, (cnT tx r C1).2) = D
  ws : wsC C1 ≤ r
  le : Ts.length + wsC C1 ≤ 400
def CnJ (W : World) (T : Nat → Prop) (b m : Nat) (mr : Int) (B0 : Lo0) (c : Nat) (tx : Int) (D : List Ws.Wt × CC) (r : Nat) (a' : Act) (w' : World) : Prop :=
  ∃ (C1 : CC) (Ts : List Ws.Wt) (v u6 u7 u8 u9 u10 u11 u12 u13 u14 u15 u16 u17 u18 u19 u20 u21 u22 u23 u24 u25 u26 u27 u28 u29 u30 : Value), a' = { tmps := #[tp b, .int .i64 tx, undef, undef, .slice none 0 0, v, u6, u7, u8, u9, u10, u11, u12, u13, u14, u15, u16, u17, u18, u19, u20, u21, u22, u23, u24, u25, u26, u27, u28, u29, u30], defers := [] } ∧ CnI W T b m mr B0 c tx D v Ts r C1 w'
theorem CnJ.mk' {u6 u7 u8 u9 u10 u11 u12 u13 u14 u15 u16 u17 u18 u19 u20 u21 u22 u23 u24 u25 u26 u27 u28 u29 u30 : Value} (h : CnI W T b m mr B0 c tx D v Ts r C1 w) : CnJ W T b m mr B0 c tx D r { tmps := #[tp b, .int .i64 tx, undef, undef, .slice none 0 0, v, u6, u7, u8, u9, u10, u11, u12, u13, u14, u15, u16, u17, u18, u19, u20, u21, u22, u23, u24, u25, u26, u27, u28, u29, u30], defers := [] } w := ⟨C1, Ts, v, u6, u7, u8, u9, u10, u11, u12, u13, u14, u15, u16, u17, u18, u19, u20, u21, u22, u23, u24, u25, u26, u27, u28, u29, u30, rfl, h⟩
set_option maxHeartbeats 4000000 in
theorem Ta.cancelAll (ht : TabG W) (h : Ta W b T m mr c C B0 u t) (hm : m ≤ 1000) (hc : c ≤ 239) (tx : Int) {n : Nat} (hn : c ≤ n) {D : List Ws.Wt × CC} (hD : cnT tx n C = D) :
    Calls Tryz.prog 56 #[tp b, .int .i64 tx] W (ToldCh W T b m mr B0 c D 400) := by
  have HT := Lib.hid ht
  have HT0 := Lib.hid h.t0
  have hws : wsC C ≤ c := by
    have := ws_le C
    have := h.ord.2.2
    have := h.bounds
    omega
  have HI := Lib.hid (show CnI W T b m mr B0 c tx D (.slice none 0 0) [] n C W from ⟨Tld.start h, by rw [hD]; rfl, by omega, by simp; omega⟩)
  clear h ht hws
  go_enter Tryz.func56, Tryz.ntmps56
  go_wp2_with fail
  refine scope_ranked 0 (CnJ W T b m mr B0 c tx D) rfl ?_ ?_
  · intro hpass
    have HQ := Lib.hid hpass
    clear hpass
    go_wp2_with fail
    rename_i hK
    refine wp_label ?_
    refine hK _ _ ?_
    exact HQ.out _ _ _ (CnJ.mk' HI.out)
  · rintro r a' wr ⟨C1, Ts, v, u6, u7, u8, u9, u10, u11, u12, u13, u14, u15, u16, u17, u18, u19, u20, u21, u22, u23, u24, u25, u26, u27, u28, u29, u30, rfl, hg⟩
    clear HI
    obtain ⟨htl, his, hws, hle⟩ := hg
    obtain ⟨T1, u1, t1, hta, ho1, hT1⟩ := htl.ch
    have ht1 : TabG wr := HT.out.onlyT ho1 HT0.out
    have HWt := Lib.hid (hta.waitH hm (by omega) tx)
    have hf1 := hta.ord.1
    have HTl := Lib.hid htl
    cases hw : waitL C1 tx with
    | none =>
      have HLe := Lib.hid (show Ts.length ≤ 400 by omega)
      have HE := Lib.hid (show (Ts, C1) = D by rw [cn_none hw] at his; simpa using his)
      rw [hw, show waitV none = .tuple #[zeroP.v, Ws.wv zeroW, .bool false] from rfl] at HWt
      obtain ⟨⟨za, zb, zc, zd, ze⟩, hzp⟩ : ∃ z, zeroP = z := ⟨_, rfl⟩
      obtain ⟨⟨z1, z2, z3, z4⟩, hzw⟩ : ∃ z, zeroW = z := ⟨_, rfl⟩
      rw [hzp, hzw] at HWt
      clear hzp hzw his hws hle hta ho1 hT1 ht1 htl hf1 hw
      obtain rfl := HE.out
      go_wp2_with fail
      refine HWt.out.mono ?_
      rintro e w1 ⟨rfl, hb1⟩
      have HTl1 := Lib.hid (HTl.out.below hb1)
      clear hb1
      go_wp2_with fail
      simp only [Exit.jump]
      go_ret
      exact ⟨_, rfl, HTl1.out.below ((box_below _ _).trans ((box_below _ _).mono (box_below _ _).size)), HLe.out⟩
    | some y =>
      obtain ⟨q, x1, x2, x3, x4⟩ := y
      rw [hw, show waitV (some (q, x1, x2, x3, x4)) = .tuple #[q.v, Ws.wv (x1, x2, x3, x4), .bool true] from rfl] at HWt
      have HCs := Lib.hid (cn_some hw)
      have HFw := Lib.hid (cn_fewer hf1 hw)
      have HTa := Lib.hid hta
      have HO1 := Lib.hid ho1
      have HT1 := Lib.hid hT1
      have HG1 := Lib.hid ht1
      have HIs := Lib.hid his
      have HWs := Lib.hid hws
      have HLe := Lib.hid hle
      clear his hws hle hta ho1 hT1 ht1 htl hf1 hw
      simp only at HCs HFw
      go_wp2_with fail
      refine HWt.out.mono ?_
      rintro e w1 ⟨rfl, hb1⟩
      obtain ⟨hbx, hpx, -⟩ := two_waits w1 q (x1, x2, x3, x4)
      have HB2 := Lib.hid (hb1.trans (hbx.mono hb1.size))
      have HP := Lib.hid hpx
      clear hb1 hbx hpx HWt
      generalize hX : relT can C1 tx q = X at *
      obtain ⟨qa, qb, qc, qd, qe⟩ := q
      simp only at HB2 HP
      go_upto_region 3 with (fail)
      generalize (w1.alloc (.cells #[.int .i64 qa, .int .i64 qb, .int .i64 qc, .int .i64 qd, .int .i64 qe] 30)).alloc (.cells #[.int .i64 x1, .int .i64 x2, .bool x3, .bool x4] 61) = w2 at *
      obtain ⟨b0, b1, b2, b3, b4⟩ := HP.out
      simp only at b0 b1 b2 b3 b4
      have HCa := Lib.hid ((HTa.out.below HB2.out).cancel (HG1.out.later HB2.out) hc tx ⟨qa, qb, qc, qd, qe⟩)
      rw [hX] at HCa
      go_wp2_with fail
      refine HCa.out.mono ?_
      rintro e w3 ⟨A, k, rfl, hls, -, T2, u2, t2, k1, k2, k3, -⟩
      have hf2 := HFw.out k1.ord.1
      obtain ⟨v', w4, hrun, htl4⟩ := (HTl.out.below HB2.out).app (HTa.out.below HB2.out) (HO1.out.trans (OnlyS.of_below HB2.out)) HT1.out ⟨T2, u2, t2, k1, k2, k3⟩ hls (by have := HLe.out; omega) 51
      have HNx : Hid (∃ r', r' < r ∧ CnI W T b m mr B0 c tx D v' (Ts ++ X.told) r' (upC C1 ⟨qa, qb, qc, qd, qe⟩ (X.hs, X.ws)) w4) := by
        have h1 := HWs.out
        have h2 := HLe.out
        have h3 := HIs.out
        cases r with
        | zero => omega
        | succ r =>
          rw [HCs.out] at h3
          exact ⟨r, Nat.lt_succ_self r, htl4, by rw [← h3, List.append_assoc], by omega, by rw [List.length_append]; omega⟩
      clear k1 k2 k3 hf2 htl4 hls HCa HFw HCs HTa HO1 HT1 HG1 HIs HWs HLe HTl HB2 HP b0 b1 b2 b3 b4
      go_wp2_with (at_builtin; refine Lib.wpList_append_run _ rfl _ _ _ _ rfl _ _ rfl rfl _ _ hrun ?_)
      go_step3
      change _ ∧ ∃ m', m' < r ∧ CnJ W T b m mr B0 c tx D m' _ _
      obtain ⟨r', h1, h2⟩ := HNx.out
      exact ⟨rfl, r', h1, CnJ.mk' h2⟩
theorem Lk.Ls.stay {T : Nat → Prop} {w w' : World} {A : Option Addr} {c : Nat} {xs : List Lk} (h : Lk.Ls w A c xs) (ho : OnlyS T w w') (hT : ∀ a, A = some a → a.block < w.heap.size ∧ ¬ T a.block) : Lk.Ls w' A c xs :=
  ⟨h.cap, h.room, h.nil, fun a ha j x hj => (World.cell?_of_block (w := w) (a := a.add j) (by rw [Hs.block_add']; exact ho.block _ (hT a ha).1 (hT a ha).2)).trans (h.at' a ha j x hj)⟩
structure RlI (W : World) (T : Nat → Prop) (b m : Nat) (mr : Int) (B0 : Lo0) (c : Nat) (tx : Int) (D : List Ws.Wt × CC) (v : Value) (Ts : List Ws.Wt) (A : Option Addr) (k : Nat) (l : List Lk) (r : Nat) (C1 : CC) (w : World) : Prop where
  tl : Tld W T b m mr B0 c v Ts C1 w
  is : (Ts ++ (rlT tx l C1).1, (rlT tx l C1).2) = D
  ls : Lk.Ls W A k l
  far : l = [] ∨ ∀ a, A = some a → a.block < W.heap.size ∧ ¬ T a.block
  le : Ts.length + wsC C1 ≤ 400
  n : l.length = r
def RlJ (W : World) (T : Nat → Prop) (b m : Nat) (mr : Int) (B0 : Lo0) (c : Nat) (tx : Int) (D : List Ws.Wt × CC) (r : Nat) (a' : Act) (w' : World) : Prop :=
  ∃ (C1 : CC) (Ts : List Ws.Wt) (l : List Lk) (A : Option Addr) (k : Nat) (v u8 u9 u10 u11 u12 u13 u14 u15 u16 u17 u18 u19 u20 u21 u22 u23 u24 u25 u26 u27 u28 : Value), a' = { tmps := #[tp b, .int .i64 tx, .slice A l.length k, undef, undef, undef, .slice none 0 0, v, u8, u9, u10, u11, u12, u13, u14, u15, u16, u17, u18, u19, u20, u21, u22, u23, u24, u25, u26, u27, u28], defers := [] } ∧ RlI W T b m mr B0 c tx D v Ts A k l r C1 w'
theorem RlJ.mk' {l : List Lk} {A : Option Addr} {k : Nat} {u8 u9 u10 u11 u12 u13 u14 u15 u16 u17 u18 u19 u20 u21 u22 u23 u24 u25 u26 u27 u28 : Value} (h : RlI W T b m mr B0 c tx D v Ts A k l r C1 w) : RlJ W T b m mr B0 c tx D r { tmps := #[tp b, .int .i64 tx, .slice A l.length k, undef, undef, undef, .slice none 0 0, v, u8, u9, u10, u11, u12, u13, u14, u15, u16, u17, u18, u19, u20, u21, u22, u23, u24, u25, u26, u27, u28], defers := [] } w := ⟨C1, Ts, l, A, k, v, u8, u9, u10, u11, u12, u13, u14, u15, u16, u17, u18, u19, u20, u21, u22, u23, u24, u25, u26, u27, u28, rfl, h⟩
set_option maxHeartbeats 4000000 in
theorem Ta.relAll (ht : TabG W) (h : Ta W b T m mr c C B0 u t) (hc : c ≤ 239) (tx : Int) {ls : List Lk} {A : Option Addr} {k : Nat} (hls : Lk.Ls W A k ls) (hA : ls = [] ∨ ∀ a, A = some a → B0.X a.block) {D : List Ws.Wt × CC} (hD : rlT tx ls C = D) :
    Calls Tryz.prog 57 #[tp b, .int .i64 tx, .slice A ls.length k] W (ToldCh W T b m mr B0 c D 400) := by
  have HT := Lib.hid ht
  have HT0 := Lib.hid h.t0
  have hws : wsC C ≤ c := by
    have := ws_le C
    have := h.ord.2.2
    have := h.bounds
    omega
  have HI := Lib.hid (show RlI W T b m mr B0 c tx D (.slice none 0 0) [] A k ls ls.length C W from ⟨Tld.start h, by rw [hD]; rfl, hls, hA.imp id fun hA a ha => h.xl (hA a ha), by simp; omega, rfl⟩)
  clear h ht hws hls hA
  go_enter Tryz.func57, Tryz.ntmps57
  go_wp2_with fail
  refine scope_ranked 0 (RlJ W T b m mr B0 c tx D) rfl ?_ ?_
  · intro hpass
    have HQ := Lib.hid hpass
    clear hpass
    go_wp2_with fail
    rename_i hK
    refine wp_label ?_
    refine hK _ _ ?_
    exact HQ.out _ _ _ (RlJ.mk' HI.out)
  · rintro r a' wr ⟨C1, Ts, l, A, k, v, u8, u9, u10, u11, u12, u13, u14, u15, u16, u17, u18, u19, u20, u21, u22, u23, u24, u25, u26, u27, u28, rfl, hg⟩
    clear HI
    obtain ⟨htl, his, hls, hfar, hle, hn⟩ := hg
    cases l with
    | nil =>
      obtain rfl : (Ts, C1) = D := by simpa [rlT] using his
      have HTl := Lib.hid htl
      have HLe := Lib.hid (show Ts.length ≤ 400 by omega)
      clear his hls hfar hle hn htl
      simp only [List.length_nil]
      go_wp2_with fail
      simp only [Exit.jump]
      go_ret
      exact ⟨_, rfl, HTl.out, HLe.out⟩
    | cons x l =>
      obtain ⟨T1, u1, t1, hta, ho1, hT1⟩ := htl.ch
      have ht1 : TabG wr := HT.out.onlyT ho1 HT0.out
      have hf1 := hta.ord.1
      replace hfar := hfar.resolve_left (by simp)
      obtain ⟨a, rfl, q0, q1, q2, q3, q4, q5⟩ := (hls.stay ho1 hfar).first
      have HCa := Lib.hid (hta.release ht1 hc tx x.1)
      have HFw := Lib.hid (rl_fewer (tx := tx) (q := x.1) hf1)
      have hT2 := hls.tl (k := 1) (by simp)
      have hcap := hls.cap
      simp only [List.length_cons] at hcap hn
      have HTa := Lib.hid hta
      have HTl := Lib.hid htl
      have HO1 := Lib.hid ho1
      have HT1 := Lib.hid hT1
      have HIs := Lib.hid his
      have HLe := Lib.hid hle
      have HFar := Lib.hid hfar
      have HN := Lib.hid hn
      have HLs := Lib.hid hT2
      obtain ⟨z, hz⟩ : ∃ z, l.length = z := ⟨_, rfl⟩
      have HZ := Lib.hid hz
      clear his hls hfar hle hta ho1 hT1 ht1 htl hf1 hT2 hn
      simp only [List.length_cons, hz] at hcap ⊢
      clear hz
      generalize hX : relT rel C1 tx x.1 = X at *
      obtain ⟨⟨xa, xb, xc, xd, xe⟩, xm⟩ := x
      simp only at q0 q1 q2 q3 q4 q5 HCa HFw
      have hz0 : (((z : Nat) : Int) + 1 == 0) = false := by simp; omega
      have hz1 : (0 : Int) < ((z : Nat) : Int) + 1 := by omega
      go_wp2_with fail
      refine HCa.out.mono ?_
      rintro e w3 ⟨A3, k3, rfl, hls3, -, T2, u2, t2, k1, k2, k4, -⟩
      have hf2 := HFw.out k1.ord.1
      obtain ⟨v', w4, hrun, htl4⟩ := HTl.out.app HTa.out HO1.out HT1.out ⟨T2, u2, t2, k1, k2, k4⟩ hls3 (by have := HLe.out; omega) 51
      have HNx : Hid (∀ A' k', Lk.Ls W A' k' l → (∀ a, A' = some a → a.block < W.heap.size ∧ ¬ T a.block) → RlI W T b m mr B0 c tx D v' (Ts ++ X.told) A' k' l z (upC C1 ⟨xa, xb, xc, xd, xe⟩ (X.hs, X.ws)) w4) := fun A' k' h1 h2 => by
        have h3 := HLe.out
        have h4 := HIs.out
        rw [rlT] at h4
        simp only [hX] at h4
        exact ⟨htl4, by rw [← h4, List.append_assoc], h1, .inr h2, by rw [List.length_append]; omega, HZ.out⟩
      have HR := Lib.hid (show z < r by have := HN.out; have := HZ.out; omega)
      clear k1 k2 k4 htl4 hls3 hf2 HCa HFw HTa HO1 HT1 HTl HIs HLe HN q0 q1 q2 q3 q4 q5
      go_wp2_with (at_builtin; refine Lib.wpList_append_run _ rfl _ _ _ _ rfl _ _ rfl rfl _ _ hrun ?_)
      case inr =>
        have hk1 : ¬ k = 1 := by assumption
        have hl := HLs.out
        unfold Lk.tlA at hl
        rw [if_neg hk1] at hl
        have HJ := Lib.hid (HNx.out (some ⟨a.block, a.off + 6, none⟩) (k - 1) hl fun a' ha => by cases ha; exact HFar.out a rfl)
        clear HLs HNx
        obtain rfl := HZ.out
        go_step3
        change _ ∧ ∃ m', m' < r ∧ RlJ W T b m mr B0 c tx D m' _ _
        exact ⟨rfl, _, HR.out, RlJ.mk' HJ.out⟩
      case inl =>
        have hk1 : k = 1 := by assumption
        subst hk1
        have hl := HLs.out
        unfold Lk.tlA at hl
        rw [if_pos rfl] at hl
        have HJ := Lib.hid (HNx.out (some a) 0 hl fun a' ha => HFar.out a' ha)
        clear HLs HNx
        obtain rfl := HZ.out
        go_step3
        change _ ∧ ∃ m', m' < r ∧ RlJ W T b m mr B0 c tx D m' _ _
        exact ⟨rfl, _, HR.out, RlJ.mk' HJ.out⟩
end
end Go.Proofs.YtlhhopanegnliaaGreatDoor
namespace Go.Proofs.YtlhhopanegnliaaGreatDoor
open Go Go.RowKit Go.Shelf
set_option maxRecDepth 100000

section
variable {W W' w w' : World} {T U : Nat → Prop} {b m c u t : Nat} {B0 : Lo0} {mr tx : Int} {C C1 : CC}
theorem Ta.backH (h : Ta W b T m mr c C B0 u t) (hm : m ≤ 1000) (hc : c ≤ 239) (tx : Int) :
    Calls Tryz.prog 29 #[tp b, .int .i64 tx] W fun e w' => ∃ ys, Lk.Bk (heldL C tx) ys ∧ Lk.Lists W ys e w' := by
  have HH := Lib.hid (h.heldH hm (by omega) tx)
  have hl := (h.heldN tx).1
  have HR := Lib.hid (h.ord.1.rt1 tx)
  clear h
  generalize heldL C tx = xs at *
  go_enter Tryz.func29, Tryz.ntmps29
  go_wp2_with fail
  refine HH.out.mono ?_
  rintro e w1 ⟨A1, c1, rfl, hls, hb1, -⟩
  have HB := Lib.hid hb1
  have HBa := Lib.hid (Lk.back_any hls (by omega) fun x hx => (HR.out.2 x hx).1)
  clear hls hb1 HH
  go_wp2_with fail
  refine HBa.out.mono ?_
  rintro e w2 ⟨ys, hbk, A2, c2, rfl, hls2, hb2, hf2⟩
  have HE : Hid (Lk.Ls w2 A2 c2 ys ∧ Below W.heap.size W w2 ∧ ∀ a, A2 = some a → W.heap.size ≤ a.block) := ⟨hls2, HB.out.trans (hb2.mono HB.out.size), fun a ha => Nat.le_trans HB.out.size (hf2 a ha)⟩
  clear hls2 hb2 hf2 HBa
  go_wp2_with fail
  go_ret
  exact ⟨ys, hbk, A2, c2, rfl, HE.out.1, HE.out.2.1, HE.out.2.2⟩
def bkV : List Lk → Value
  | [] => .tuple #[zeroP.v, .bool false]
  | x :: _ => .tuple #[x.1.v, .bool true]
theorem results_path {fn : Func} {p q : Tmp} (h : fn.results = #[.cell p 30, .tmp q]) {tmps : Array Value} {w : World} {B : Nat} {x : Pa.Pt} {y : Value} (hp : tmps.getD p undef = .pointer (some ⟨B, 0, none⟩)) (hq : tmps.getD q undef = y) (hB : Pbx w B x) :
    (results fn tmps).run Tryz.prog w = .ok (.tuple #[x.v, y]) w := by
  have hp' : tmps[p]?.getD undef = .pointer (some ⟨B, 0, none⟩) := by simpa using hp
  have hq' : tmps[q]?.getD undef = y := by simpa using hq
  obtain ⟨c0, c1, c2, c3, c4⟩ := hB
  simp [results, h, hp', hq', go_sem, c0, c1, c2, c3, c4]
abbrev fiveS (w : World) (B : Nat) (x : Pa.Pt) : World := ((((w.setCell ⟨B, 0, none⟩ (.int .i64 x.a)).setCell ⟨B, 1, none⟩ (.int .i64 x.b)).setCell ⟨B, 2, none⟩ (.int .i64 x.c)).setCell ⟨B, 3, none⟩ (.int .i64 x.d)).setCell ⟨B, 4, none⟩ (.int .i64 x.e)
theorem five_only (w : World) (B : Nat) (x : Pa.Pt) : OnlyS (· = B) w (fiveS w B x) :=
  ((((OnlyS.set B 0 w _).trans (OnlyS.set B 1 _ _)).trans (OnlyS.set B 2 _ _)).trans (OnlyS.set B 3 _ _)).trans (OnlyS.set B 4 _ _)
theorem five_below {K B : Nat} (x : Pa.Pt) (hb : Below K w w') (hB : K ≤ B) (hK : K ≤ w'.heap.size) : Below K w (fiveS w' B x) := hb.trans ((five_only w' B x).below (fun k hk => by rw [hk]; exact hB) hK)
def Px (w : World) (B : Nat) (x : Pa.Pt) : Prop := w.heap[B]? = some (.cells (pcs x) 30)
theorem Px.at {B : Nat} {x : Pa.Pt} (h : Px w B x) : Pbx w B x ∧ (∀ k, w.frozen? ⟨B, k, none⟩ = false) ∧ B < w.heap.size := by
  have h' : w.heap[B]? = _ := h
  refine ⟨⟨?_, ?_, ?_, ?_, ?_⟩, fun k => ?_, (Array.getElem?_eq_some_iff.1 h').1⟩ <;> simp [World.cell?, World.frozen?, h']
theorem Px.put {B : Nat} {x : Pa.Pt} (h : Px w B x) (y : Pa.Pt) : Px (fiveS w B y) B y :=
  Lk.set_blk (o := 4) _ (Lk.set_blk (o := 3) _ (Lk.set_blk (o := 2) _ (Lk.set_blk (o := 1) _ (Lk.set_blk (o := 0) _ h))))
set_option maxHeartbeats 1000000 in
theorem Ta.firstH (h : Ta W b T m mr c C B0 u t) (hm : m ≤ 1000) (hc : c ≤ 239) (tx : Int) :
    Calls Tryz.prog 9 #[tp b, .int .i64 tx] W fun e w' => ∃ ys, Lk.Bk (heldL C tx) ys ∧ e = .returned (bkV ys) ∧ Below W.heap.size W w' := by
  have HX := Lib.hid (box_below W (.cells (pcs ⟨0, 0, 0, 0, 0⟩) 30))
  have HP := Lib.hid (show Px (W.alloc (.cells (pcs ⟨0, 0, 0, 0, 0⟩) 30)) W.heap.size ⟨0, 0, 0, 0, 0⟩ from heap_alloc_new _ _)
  have HH := Lib.hid (fun (w1 : World) (hb : Below W.heap.size W w1) => (h.below hb).backH hm hc tx)
  have hl := (h.heldN tx).1
  clear h
  generalize heldL C tx = xs at *
  go_enter Tryz.func9, Tryz.ntmps9
  go_wp2_with fail
  refine (HH.out _ HX.out).mono ?_
  rintro e w1 ⟨ys, hbk, A, k, rfl, hls, hb1, -⟩
  have HB := Lib.hid (HX.out.trans (hb1.mono HX.out.size))
  have HP1 : Hid (Px w1 W.heap.size ⟨0, 0, 0, 0, 0⟩) := (hb1.block _ HP.out.at.2.2).trans HP.out
  obtain ⟨⟨c0, c1, c2, c3, c4⟩, hfz, hlt⟩ := HP1.out.at
  have f0 := hfz 0
  have f1 := hfz 1
  have f2 := hfz 2
  have f3 := hfz 3
  have f4 := hfz 4
  simp only at c0 c1 c2 c3 c4
  have hlen : ys.length ≤ 400 := by have := hbk.stb.perm.length_eq; omega
  clear hb1 HH HP HX hfz
  cases ys with
  | nil =>
    simp only [List.length_nil]
    clear hls
    go_wp2_with fail
    exact bodyPost_ret (results_path rfl rfl rfl (HP1.out.put ⟨0, 0, 0, 0, 0⟩).at.1) rfl ⟨[], hbk, rfl, five_below ⟨0, 0, 0, 0, 0⟩ HB.out (Nat.le_refl _) HB.out.size⟩
  | cons x l =>
    obtain ⟨a, rfl, q0, q1, q2, q3, q4, q5⟩ := hls.first
    simp only [List.length_cons] at hlen ⊢
    have hz0 : (((l.length : Nat) : Int) + 1 == 0) = false := by simp; omega
    have hz1 : (0 : Int) < ((l.length : Nat) : Int) + 1 := by omega
    have HBk := Lib.hid hbk
    obtain ⟨⟨xa, xb, xc, xd, xe⟩, xm⟩ := x
    simp only at q0 q1 q2 q3 q4 q5
    clear hbk hls
    go_wp2_with fail
    exact bodyPost_ret (results_path rfl rfl rfl (HP1.out.put ⟨xa, xb, xc, xd, xe⟩).at.1) rfl ⟨_, HBk.out, rfl, five_below ⟨xa, xb, xc, xd, xe⟩ HB.out (Nat.le_refl _) HB.out.size⟩
noncomputable def frT (tx : Int) (n : Nat) (ys : List Lk) (C : CC) : List Ws.Wt × CC := ((cnT tx n C).1 ++ (rlT tx ys (cnT tx n C).2).1, (rlT tx ys (cnT tx n C).2).2)
set_option maxHeartbeats 4000000 in
theorem Ta.freeH (ht : TabG W) (h : Ta W b T m mr c C B0 u t) (hm : m ≤ 1000) (hc : c ≤ 239) (tx : Int) {n : Nat} (hn : c ≤ n) :
    Calls Tryz.prog 18 #[tp b, .int .i64 tx] W fun e w' => ∃ ys, Lk.Bk (heldL (cnT tx n C).2 tx) ys ∧ ToldCh W T b m mr B0 c (frT tx n ys C) 800 e w' := by
  have HT := Lib.hid ht
  have HT0 := Lib.hid h.t0
  have HCa := Lib.hid (h.cancelAll ht hm hc tx hn rfl)
  have HXl := Lib.hid (fun k (hk : B0.X k) => (h.xl hk).1)
  clear h ht
  unfold frT
  generalize cnT tx n C = D at *
  obtain ⟨Ts, C1⟩ := D
  simp only at HCa ⊢
  go_enter Tryz.func18, Tryz.ntmps18
  go_wp2_with fail
  refine HCa.out.mono ?_
  rintro e w1 ⟨v, rfl, htl, hl1⟩
  obtain ⟨T1, u1, t1, hta, ho1, hT1⟩ := htl.ch
  have HTl := Lib.hid htl
  have HTa := Lib.hid hta
  have HO1 := Lib.hid ho1
  have HT1 := Lib.hid hT1
  have HBa := Lib.hid (hta.backH hm hc tx)
  clear htl hta ho1 hT1 HCa
  simp only at HTl HTa
  go_wp2_with fail
  refine HBa.out.mono ?_
  rintro e w2 ⟨ys, hbk, A2, c2, rfl, hls2, hb2, hf2⟩
  have hta2 := HTa.out.ownX hb2 (X' := fun k => (XR B0 v).X k ∨ ∃ a, A2 = some a ∧ a.block = k ∧ k < w2.heap.size) (fun k hk => by
    rcases hk with hk | ⟨a, ha, rfl, hlt⟩
    · exact .inl hk
    · exact .inr ⟨hf2 a ha, hlt⟩)
  have HBk := Lib.hid hbk
  have HB2 := Lib.hid hb2
  have htg : TabG w2 := HT.out.onlyT (HO1.out.trans (OnlyS.of_below hb2)) HT0.out
  have HTa2 := Lib.hid hta2
  have hnil : ys = [] ∨ ∀ a, A2 = some a → a.block < w2.heap.size := by
    cases ys with
    | nil => exact .inl rfl
    | cons y l =>
      obtain ⟨a, rfl, q0, -⟩ := hls2.first
      exact .inr fun a' ha' => by cases ha'; exact cell_lt q0
  have HRl := Lib.hid (hta2.relAll htg hc tx hls2 (hnil.imp id fun hlt a ha => .inr ⟨a, ha, rfl, hlt a ha⟩) rfl)
  clear hta2 htg hnil hls2 hb2 hf2 hbk HBa
  generalize hE : rlT tx ys C1 = E at *
  go_wp2_with fail
  refine HRl.out.mono ?_
  rintro e w3 ⟨v2, rfl, htl2, hl2⟩
  obtain ⟨A3, k3, rfl, hls3⟩ := htl2.row.ls
  have hle : Ts.length + E.1.length ≤ 800 := by omega
  obtain ⟨v', w4, hrun, htl4⟩ := (HTl.out.below HB2.out).app (HTa.out.below HB2.out) (HO1.out.trans (OnlyS.of_below HB2.out)) HT1.out (htl2.ch.lessX (X' := (XR B0 v).X) fun k hk => .inl (.inl hk)) hls3 (Nat.le_trans hle (by decide)) 51
  have HT4 := Lib.hid htl4
  have HBkE : Hid (∃ ys, Lk.Bk (heldL C1 tx) ys ∧ ToldCh W T b m mr B0 c (Ts ++ (rlT tx ys C1).1, (rlT tx ys C1).2) 800 (.returned v') w4) := ⟨ys, HBk.out, v', rfl, by rw [hE]; exact HT4.out, by rw [hE, List.length_append]; exact hle⟩
  clear htl2 hls3 htl4 HRl
  go_wp2_with (at_builtin; refine Lib.wpList_append_run _ rfl _ _ _ _ rfl _ _ rfl rfl _ _ hrun ?_)
  go_ret
  exact HBkE.out
end
end Go.Proofs.YtlhhopanegnliaaGreatDoor
namespace Go.Proofs.YtlhhopanegnliaaGreatDoor
open Go Go.RowKit Go.Shelf
set_option maxRecDepth 100000

section
variable {C : CC} {tx y : Int} {p q : Pa.Pt} {H : List Hs.Hd} {L : List Ws.Wt} {w : Ws.Wt}
open Classical in
theorem once_each : ∀ M : List Pa.Pt, ∃ M' : List Pa.Pt, M'.Nodup ∧ ∀ p, p ∈ M' ↔ p ∈ M
  | [] => ⟨[], List.nodup_nil, fun _ => Iff.rfl⟩
  | a :: M => by
    obtain ⟨M', h1, h2⟩ := once_each M
    by_cases ha : a ∈ M'
    · exact ⟨M', h1, fun p => by
        rw [h2, List.mem_cons]
        exact ⟨.inr, fun h => h.elim (fun e => by rw [e]; exact (h2 a).1 ha) id⟩⟩
    · exact ⟨a :: M', List.nodup_cons.2 ⟨ha, h1⟩, fun p => by rw [List.mem_cons, List.mem_cons, h2]⟩
open Classical in
theorem fnt_of {M : List Pa.Pt} (hM : ∀ p, 0 < szC (C p) → p ∈ M) (hr : ∀ p, 0 < szC (C p) → Pa.rightB p = true) (hi : ∀ p, Inv (C p).1 (C p).2) : Fnt C := by
  obtain ⟨M', hn', hm'⟩ := once_each (M.filter fun p => decide (0 < szC (C p)))
  have hm : ∀ p, p ∈ M' ↔ 0 < szC (C p) := fun p => by
    rw [hm', List.mem_filter]
    exact ⟨fun h => by simpa using h.2, fun h => ⟨hM p h, by simpa using h⟩⟩
  obtain ⟨rs, hrs⟩ := right_list M' fun p hp => hr p ((hm p).1 hp)
  have hnd : (Pa.vals rs).Nodup := by rw [hrs]; exact hn'
  have hp1 : (Pa.vals (Pa.srt rs)).Perm (Pa.vals rs) := (Pa.srt_perm rs).map _
  have hnd2 : (Pa.vals (Pa.srt rs)).Nodup := hp1.nodup_iff.2 hnd
  refine ⟨Pa.vals (Pa.srt rs), ?_, fun p => by rw [hp1.mem_iff, hrs, hm], fun p hp => ?_, hi⟩
  · unfold Pa.vals at hnd2 ⊢
    rw [List.pairwise_map]
    unfold List.Nodup at hnd2
    rw [List.pairwise_map] at hnd2
    refine ((Pa.srt_sorted rs).and hnd2).imp ?_
    rintro x y ⟨q1, q2⟩
    cases q : Pa.lessB x.1 y.1
    · exact absurd (congrArg Subtype.val (Pa.less_tot x y q q1)) q2
    · rfl
  · unfold Pa.vals at hp
    obtain ⟨x, -, rfl⟩ := List.mem_map.1 hp
    exact x.2
theorem Fnt.up (h : Fnt C) (hp : Pa.rightB p = true) {x : Cx} (hx : Inv x.1 x.2) : Fnt (upC C p x) := by
  refine fnt_of (M := p :: psOf C) (fun q hq => ?_) (fun q hq => ?_) fun q => ?_
  · by_cases e : q = p
    · rw [e]; exact List.mem_cons_self
    · rw [upC_ne _ _ e] at hq
      exact List.mem_cons_of_mem _ ((h.ord.mem q).2 hq)
  · by_cases e : q = p
    · rw [e]; exact hp
    · rw [upC_ne _ _ e] at hq
      exact h.ord.rt q ((h.ord.mem q).2 hq)
  · by_cases e : q = p
    · rw [e, upC_same]; exact hx
    · rw [upC_ne _ _ e]; exact h.ord.inv q
theorem Fnt.relT (h : Fnt C) {g : Int → List Hs.Hd → List Ws.Wt → Out} (hg : ∀ {H L}, Inv H L → Inv (g tx H L).hs (g tx H L).ws) (p : Pa.Pt) : Fnt (upC C p ((relT g C tx p).hs, (relT g C tx p).ws)) := by
  cases hp : Pa.rightB p
  · rw [upC_id (by unfold Go.Proofs.YtlhhopanegnliaaGreatDoor.relT; rw [if_pos (by unfold errP; rw [hp]; decide)])]
    exact h
  · rw [relT_right hp]
    exact h.up hp (hg (h.ord.inv p))
theorem held_mem (h : Fnt C) (hn : Hs.fst tx (C p).1 ≠ 0) : (p, Hs.fst tx (C p).1) ∈ heldL C tx := by
  unfold heldL locksOf
  refine List.mem_map.2 ⟨p, List.mem_filter.2 ⟨?_, by simpa using hn⟩, rfl⟩
  by_cases hp : p ∈ psOf C
  · exact hp
  · rw [h.non hp] at hn
    exact absurd rfl hn
theorem swp_fst_ne : ∀ {L : List Ws.Wt} {H : List Hs.Hd}, (∀ w ∈ L, w.1 ≠ y) → Hs.fst y (swp L H).1 = Hs.fst y H
  | [], _, _ => rfl
  | x :: L, H, h => by
    have ih := fun H' => swp_fst_ne (L := L) (H := H') fun w hw => h w (List.mem_cons_of_mem _ hw)
    cases hg : Hs.goesB x.1 x.2.1 H
    · rw [swp_no hg]
    · rw [swp_yes hg, ih, grant_fst (fun e => h x List.mem_cons_self e.symm)]
theorem swp_told : ∀ {L : List Ws.Wt} {H : List Hs.Hd}, Once L → (∀ w ∈ L, w.2.2.2 = false) → ∀ w ∈ (swp L H).2.2, Hs.fst w.1 (swp L H).1 = w.2.1
  | [], _, _, _, w, hw => by cases hw
  | x :: L, H, ho, hi, w, hw => by
    have ho' := List.pairwise_cons.1 ho
    cases hg : Hs.goesB x.1 x.2.1 H
    · rw [swp_no hg] at hw; cases hw
    · rw [swp_yes hg] at hw ⊢
      rcases List.mem_cons.1 hw with rfl | hw
      · simp only
        rw [swp_fst_ne fun z hz => (ho'.1 z hz).symm]
        unfold grantH
        rw [hi w List.mem_cons_self, if_neg (by decide)]
        exact Hs.setL_fst _ _ _
      · exact swp_told ho'.2 (fun z hz => hi z (List.mem_cons_of_mem _ hz)) w hw
theorem swp_ws {z : Ws.Wt} (hz : z ∈ (swp L H).2.1) : z ∈ L := by
  rw [swp_split L H]
  exact List.mem_append_right _ hz
theorem swp_apart (ho : Once L) (hw : w ∈ (swp L H).2.2) {z : Ws.Wt} (hz : z ∈ (swp L H).2.1) : w.1 ≠ z.1 := by
  unfold Once at ho
  rw [swp_split L H] at ho
  exact (List.pairwise_append.1 ho).2.2 w hw z hz
def Got (w : Ws.Wt) (p : Pa.Pt) (C : CC) : Prop := Hs.fst w.1 (C p).1 = w.2.1 ∧ ∀ z ∈ (C p).2, z.1 ≠ w.1
def Noin (C : CC) : Prop := ∀ p, ∀ z ∈ (C p).2, z.2.2.2 = false
structure Lev (tx : Int) (x : Cx) (X : Out) : Prop where
  ws : ∀ z ∈ X.ws, z ∈ x.2
  ne : ∀ y, y ≠ tx → (∀ z ∈ x.2, z.1 ≠ y) → Hs.fst y X.hs = Hs.fst y x.1
  told : (∀ z ∈ x.2, z.2.2.2 = false) → ∀ w ∈ X.told, w.1 ≠ tx ∧ w ∈ x.2 ∧ Hs.fst w.1 X.hs = w.2.1 ∧ ∀ z ∈ X.ws, z.1 ≠ w.1
theorem lev_can (hi : Inv H L) : Lev tx (H, L) (can tx H L) := by
  unfold can
  split
  · have ho := once_out hi.once tx
    have hin : ∀ z ∈ Ws.wout tx L, z ∈ L := fun z hz => (List.mem_filter.1 hz).1
    refine ⟨fun z hz => hin z (swp_ws hz), fun y _ h => swp_fst_ne fun z hz => h z (hin z hz), fun h w hw => ?_⟩
    have hw' : w ∈ Ws.wout tx L := by rw [swp_split (Ws.wout tx L) H]; exact List.mem_append_left _ hw
    exact ⟨Ws.ne_wout tx L w hw', hin w hw', swp_told ho (fun z hz => h z (hin z hz)) w hw, fun z hz => (swp_apart ho hw hz).symm⟩
  · exact ⟨fun z hz => hz, fun _ _ _ => rfl, fun _ w hw => by cases hw⟩
theorem lev_rel (hi : Inv H L) : Lev tx (H, L) (rel tx H L) := by
  unfold rel
  split
  · exact ⟨fun z hz => hz, fun _ _ _ => rfl, fun _ w hw => by cases hw⟩
  · have ho := once_out hi.once tx
    have hin : ∀ z ∈ Ws.wout tx L, z ∈ L := fun z hz => (List.mem_filter.1 hz).1
    refine ⟨fun z hz => hin z (swp_ws hz), fun y hy h => ?_, fun h w hw => ?_⟩
    · exact (swp_fst_ne fun z hz => h z (hin z hz)).trans (fst_wout_ne hy)
    · have hw' : w ∈ Ws.wout tx L := by rw [swp_split (Ws.wout tx L) (Hs.wout tx H)]; exact List.mem_append_left _ hw
      exact ⟨Ws.ne_wout tx L w hw', hin w hw', swp_told ho (fun z hz => h z (hin z hz)) w hw, fun z hz => (swp_apart ho hw hz).symm⟩
theorem lev_relT {g : Int → List Hs.Hd → List Ws.Wt → Out} (hg : ∀ {H L}, Inv H L → Lev tx (H, L) (g tx H L)) (h : Fnt C) (p : Pa.Pt) : Lev tx (C p) (relT g C tx p) := by
  unfold Go.Proofs.YtlhhopanegnliaaGreatDoor.relT
  split
  · exact ⟨fun z hz => hz, fun _ _ _ => rfl, fun _ w hw => by cases hw⟩
  · exact hg (h.ord.inv p)
variable {X : Out}
theorem Lev.noin (h : Lev tx (C p) X) (hn : Noin C) : Noin (upC C p (X.hs, X.ws)) := fun q z hz => by
  by_cases e : q = p
  · subst e
    rw [upC_same] at hz
    exact hn q z (h.ws z hz)
  · rw [upC_ne _ _ e] at hz
    exact hn q z hz
theorem Lev.got (h : Lev tx (C p) X) (hw : w.1 ≠ tx) (hg : Got w q C) : Got w q (upC C p (X.hs, X.ws)) := by
  unfold Got at *
  by_cases e : q = p
  · subst e
    rw [upC_same]
    exact ⟨(h.ne w.1 hw hg.2).trans hg.1, fun z hz => hg.2 z (h.ws z hz)⟩
  · rw [upC_ne _ _ e]
    exact hg
theorem Lev.news (h : Lev tx (C p) X) (hn : Noin C) (hw : w ∈ X.told) : w.1 ≠ tx ∧ w ∈ (C p).2 ∧ Got w p (upC C p (X.hs, X.ws)) := by
  obtain ⟨h1, h2, h3, h4⟩ := h.told (hn p) w hw
  refine ⟨h1, h2, ?_⟩
  unfold Got
  rw [upC_same]
  exact ⟨h3, h4⟩
theorem Lev.still (h : Lev tx (C p) X) (hn : ∀ q, ∀ z ∈ (C q).2, z.1 ≠ tx) : ∀ q, ∀ z ∈ (upC C p (X.hs, X.ws) q).2, z.1 ≠ tx := fun q z hz => by
  by_cases e : q = p
  · subst e
    rw [upC_same] at hz
    exact hn q z (h.ws z hz)
  · rw [upC_ne _ _ e] at hz
    exact hn q z hz
structure Tells3 (tx : Int) (l : List Ws.Wt) (C : CC) : Prop where
  f : Fnt C
  n : Noin C
  t : ∀ w ∈ l, w.1 ≠ tx ∧ 1 ≤ w.2.1 ∧ ∃ p, Got w p C
theorem Tells3.step {l : List Ws.Wt} (h : Tells3 tx l C) {g : Int → List Hs.Hd → List Ws.Wt → Out} (hg : ∀ {H L}, Inv H L → Lev tx (H, L) (g tx H L)) (hi : ∀ {H L}, Inv H L → Inv (g tx H L).hs (g tx H L).ws) (p : Pa.Pt) :
    Tells3 tx (l ++ (relT g C tx p).told) (upC C p ((relT g C tx p).hs, (relT g C tx p).ws)) := by
  have hl := lev_relT hg h.f p
  refine ⟨h.f.relT hi p, hl.noin h.n, fun w hw => ?_⟩
  rcases List.mem_append.1 hw with hw | hw
  · obtain ⟨h1, h2, q, h3⟩ := h.t w hw
    exact ⟨h1, h2, q, hl.got h1 h3⟩
  · obtain ⟨h1, h2, h3⟩ := hl.news h.n hw
    exact ⟨h1, (okW_iff.1 ((h.f.ord.inv p).rl.1 w h2)).2.1, p, h3⟩
theorem tells_cn : ∀ (n : Nat) {l : List Ws.Wt} {C : CC}, Tells3 tx l C → wsC C ≤ n → Tells3 tx (l ++ (cnT tx n C).1) (cnT tx n C).2 ∧ ∀ q, ∀ z ∈ ((cnT tx n C).2 q).2, z.1 ≠ tx
  | 0, l, C, h, hn => by
    rw [cnT, List.append_nil]
    refine ⟨h, fun q z hz => ?_⟩
    replace hz : z ∈ (C q).2 := hz
    by_cases hq : q ∈ psOf C
    · exfalso
      have hpos : 0 < ((psOf C).map fun p => (C p).2.length).sum := by
        obtain ⟨s, t, e⟩ := List.append_of_mem hq
        rw [e, List.map_append, List.sum_append, List.map_cons, List.sum_cons]
        have := List.length_pos_of_mem hz
        omega
      have hn' : ((psOf C).map fun p => (C p).2.length).sum ≤ 0 := hn
      omega
    · rw [h.f.non hq] at hz; cases hz
  | n + 1, l, C, h, hn => by
    cases hw : waitL C tx with
    | none =>
      rw [cn_none hw, List.append_nil]
      exact ⟨h, fun q z hz => h.f.wait_no hw q z hz⟩
    | some x =>
      have hf := (h.step lev_can (fun hi => hi.can tx) x.1)
      have hfew := cn_fewer h.f hw hf.f
      have ih := tells_cn n hf (by omega)
      rw [cn_some hw, ← List.append_assoc]
      exact ih
theorem tells_rl : ∀ (ys : List Lk) {l : List Ws.Wt} {C : CC}, Tells3 tx l C → (∀ q, ∀ z ∈ (C q).2, z.1 ≠ tx) →
    Tells3 tx (l ++ (rlT tx ys C).1) (rlT tx ys C).2 ∧ (∀ q, ∀ z ∈ ((rlT tx ys C).2 q).2, z.1 ≠ tx) ∧ ∀ q, (Hs.fst tx (C q).1 = 0 ∨ ∃ x ∈ ys, x.1 = q ∧ Pa.rightB q = true) → Hs.fst tx ((rlT tx ys C).2 q).1 = 0
  | [], l, C, h, hn => by
    rw [rlT, List.append_nil]
    exact ⟨h, hn, fun q hq => hq.elim id fun ⟨x, hx, _⟩ => by cases hx⟩
  | x :: ys, l, C, h, hn => by
    have hf := h.step lev_rel (fun hi => hi.rel tx) x.1
    have hl := lev_relT (tx := tx) lev_rel h.f x.1
    obtain ⟨i1, i2, i3⟩ := tells_rl ys hf (hl.still hn)
    rw [rlT, ← List.append_assoc]
    refine ⟨i1, i2, fun q hq => i3 q ?_⟩
    by_cases e : q = x.1
    · subst e
      rw [upC_same]
      refine .inl ?_
      have hz : ∀ {H : List Hs.Hd} {L : List Ws.Wt}, (∀ z ∈ L, z.1 ≠ tx) → Hs.fst tx (rel tx H L).hs = 0 := fun {H L} hL => by
        unfold rel
        split
        · rename_i hh
          unfold isnt at hh
          simp at hh
          exact hh.1
        · exact (swp_fst_ne fun z hz => Ws.ne_wout tx L z hz).trans (Hs.wout_fst tx H)
      cases hp : Pa.rightB x.1
      · have : C x.1 = ([], []) := by
          by_cases hm : x.1 ∈ psOf C
          · have := h.f.ord.rt _ hm
            rw [hp] at this; cases this
          · exact h.f.non hm
        unfold Go.Proofs.YtlhhopanegnliaaGreatDoor.relT
        rw [if_pos (by unfold errP; rw [hp]; decide), this]
        rfl
      · rw [relT_right hp]
        exact hz (hn _)
    · rw [upC_ne _ _ e]
      rcases hq with hq | ⟨z, hz, hz2⟩
      · exact .inl hq
      · rcases List.mem_cons.1 hz with rfl | hz
        · exact absurd hz2.1.symm e
        · exact .inr ⟨z, hz, hz2⟩
theorem tells_fr {n : Nat} {ys : List Lk} (h : Fnt C) (hn : Noin C) (hc : wsC C ≤ n) (hb : Lk.Bk (heldL (cnT tx n C).2 tx) ys) :
    Tells3 tx ((cnT tx n C).1 ++ (rlT tx ys (cnT tx n C).2).1) (rlT tx ys (cnT tx n C).2).2 ∧ waitL (rlT tx ys (cnT tx n C).2).2 tx = none ∧ heldL (rlT tx ys (cnT tx n C).2).2 tx = [] := by
  obtain ⟨h1, h2⟩ := tells_cn n (tx := tx) (l := []) ⟨h, hn, fun w hw => by cases hw⟩ hc
  rw [List.nil_append] at h1
  obtain ⟨k1, k2, k3⟩ := tells_rl ys h1 h2
  refine ⟨k1, ?_, ?_⟩
  · cases hw : waitL (rlT tx ys (cnT tx n C).2).2 tx with
    | none => rfl
    | some x =>
      obtain ⟨_, q1, q2⟩ := wait_at (p := x.1) (x := x.2) hw
      exact absurd q2 (k2 _ _ q1)
  · refine List.eq_nil_iff_forall_not_mem.2 fun x hx => ?_
    obtain ⟨q1, q2, q3⟩ := held_in hx
    refine q3 (q2.trans (k3 x.1 ?_))
    by_cases h0 : Hs.fst tx ((cnT tx n C).2 x.1).1 = 0
    · exact .inl h0
    · exact .inr ⟨_, hb.stb.perm.mem_iff.2 (held_mem h1.f h0), rfl, k1.f.ord.rt _ q1⟩
end
end Go.Proofs.YtlhhopanegnliaaGreatDoor
