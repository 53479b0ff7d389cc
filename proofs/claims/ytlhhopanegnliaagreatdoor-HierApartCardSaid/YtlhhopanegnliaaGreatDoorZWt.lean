import Derived.Test.YtlhhopanegnliaaGreatDoorZRp
import Derived.Test.YtlhhopanegnliaaGreatDoorZHd
import Derived.Test.YtlhhopanegnliaaGreatDoorZRg
namespace Go.Proofs.YtlhhopanegnliaaGreatDoor
open Go Go.RowKit Go.Shelf
set_option maxRecDepth 100000

theorem nds_append (a b : Ns) : nds (a ++ b) = nds a ++ nds b := by simp [nds]
theorem used_nds (ns : Ns) : ∀ n, n ≤ ns.length → (An.usedN (pls ns) n).map (fun x => x.2.1) = (nds (ns.take n)).map (·.p)
  | 0, _ => rfl
  | n + 1, h => by
    have ih := used_nds ns n (by omega)
    have hn : n < ns.length := by omega
    rw [List.take_succ_eq_append_getElem hn, nds_append, List.map_append, ← ih]
    cases hx : ns[n] with
    | none =>
      rw [An.usedN_no (by unfold pls; rw [List.getElem?_map, List.getElem?_eq_getElem hn, hx]; rfl)]
      simp [nds]
    | some x =>
      rw [An.usedN_yes (p := x.p) (q := x.q) (by unfold pls; rw [List.getElem?_map, List.getElem?_eq_getElem hn, hx]; rfl)]
      simp [nds]
theorem right_list : ∀ l : List Pa.Pt, (∀ p, p ∈ l → Pa.rightB p = true) → ∃ rs : List Pa.RPt, Pa.vals rs = l
  | [], _ => ⟨[], rfl⟩
  | p :: l, h => by
    obtain ⟨rs, hr⟩ := right_list l fun q hq => h q (List.mem_cons_of_mem _ hq)
    exact ⟨⟨p, h p List.mem_cons_self⟩ :: rs, by unfold Pa.vals at *; rw [List.map_cons, hr]⟩
section
variable {W W' w : World} {T : Nat → Prop} {b : Nat} {B0 : Lo0} {m c u t : Nat} {mr : Int} {C : Pa.Pt → Cx}
theorem Ta.paths (h : Ta W b T m mr c C B0 u t) (hm : m ≤ 1000) {ps : List Pa.Pt} (hs : ps.Pairwise (fun p q => Pa.lessB p q = true)) (hps : ∀ p, p ∈ ps ↔ 0 < szC (C p)) : Calls Tryz.prog 48 #[tp b] W (PathsOf W ps) := by
  obtain ⟨ns, h1, h2, h3, h4, -⟩ := h.is
  have hus := h1.usm.1
  have hr1 := h1.one
  have hcy := fun i n (hi : Isn ns i n) => h1.cy hi
  have hcn := fun p hp => h1.cn (p := p) hp
  have hri := fun i n (hi : Isn ns i n) => h1.right hi
  obtain ⟨ha, mb, S, O, nb, t', fs, F, k1, k2, -⟩ := h1.is
  have hl : (An.usedL (pls ns)).map (fun x => x.2.1) = (nds ns).map (·.p) := by
    have := used_nds ns ns.length (Nat.le_refl _)
    rw [List.take_length] at this
    unfold An.usedL
    rw [pls_len]
    exact this
  have hmem : ∀ p, p ∈ (nds ns).map (·.p) ↔ 0 < szC (C p) := by
    intro p
    rw [List.mem_map]
    constructor
    · rintro ⟨n, hn, rfl⟩
      obtain ⟨i, hi⟩ := mem_nds.1 hn
      rw [hcy i n hi]
      exact h2 i n hi
    · intro hz
      by_cases hp : ∃ i n, Isn ns i n ∧ n.p = p
      · obtain ⟨i, n, hi, e⟩ := hp
        exact ⟨n, mem_nds.2 ⟨i, hi⟩, e⟩
      · rw [hcn p fun i n hi e => hp ⟨i, n, hi, e⟩] at hz
        exact absurd hz (Nat.lt_irrefl 0)
  have hrt : ∀ p, p ∈ (nds ns).map (·.p) → Pa.rightB p = true := by
    intro p hp
    obtain ⟨n, hn, rfl⟩ := List.mem_map.1 hp
    obtain ⟨i, hi⟩ := mem_nds.1 hn
    exact hri i n hi
  obtain ⟨rs, hrs⟩ := right_list _ hrt
  have hnd : (Pa.vals rs).Nodup := by rw [hrs]; exact nds_once hr1
  have hpn : ps.Nodup := by
    unfold List.Nodup
    refine hs.imp ?_
    intro a b hab e
    rw [e, Pa.less_self] at hab
    cases hab
  have hall := paths_any (tpv := tp b) (pv := An.wp ha) (x1 := Bu.wp mb) (mv := mr) (rv := ((tot ns : Nat) : Int)) (xs := An.usedL (pls ns)) (rs := rs) (w := W) (fun W' hb => (k1.below hb).its)
    (fun W' hb => by
      obtain ⟨pv, fv, hA, -⟩ := (k1.below hb).ar
      exact An.each_tells hA) (hl.trans hrs.symm) (by
      have e := congrArg List.length hl
      rw [List.length_map, List.length_map] at e
      rw [e, ← (us_nds ns).1]
      omega)
  have heq : Pa.vals (Pa.srt rs) = ps := by
    have hp1 : (Pa.vals (Pa.srt rs)).Perm (Pa.vals rs) := (Pa.srt_perm rs).map _
    have hp2 : (Pa.vals rs).Perm ps := (List.perm_ext_iff_of_nodup hnd hpn).2 fun p => by rw [hrs, hmem p, hps p]
    refine List.Perm.eq_of_pairwise (le := fun a b => Pa.lessB b a = false) (fun a b ha hb h1 h2 => ?_) ?_ ?_ (hp1.trans hp2)
    · have ra : Pa.rightB a = true := by
        obtain ⟨x, -, rfl⟩ := List.mem_map.1 ha
        exact x.2
      have rb : Pa.rightB b = true := hrt b ((hmem b).2 ((hps b).1 hb))
      exact congrArg Subtype.val (Pa.less_tot ⟨a, ra⟩ ⟨b, rb⟩ h2 h1)
    · unfold Pa.vals
      rw [List.pairwise_map]
      exact Pa.srt_sorted rs
    · refine hs.imp ?_
      intro a b hab
      cases q : Pa.lessB b a
      · rfl
      · have := Pa.less_tr hab q
        rw [Pa.less_self] at this
        cases this
  rw [heq] at hall
  exact hall
theorem Ta.held (h : Ta W b T m mr c C B0 u t) (hm : m ≤ 1000) (hc : c ≤ 400) (tx : Int) {ps : List Pa.Pt} (hs : ps.Pairwise (fun p q => Pa.lessB p q = true)) (hps : ∀ p, p ∈ ps ↔ 0 < szC (C p)) (hl : ps.length ≤ 1000) :
    Calls Tryz.prog 23 #[tp b, .int .i64 tx] W (HeldOf W (locksOf (fun p => Hs.fst tx (C p).1) ps)) :=
  held_any (fun _ hb => (h.below hb).paths hm hs hps) (fun p _ _ hb => (h.below hb).mode hc tx p) hl
end
end Go.Proofs.YtlhhopanegnliaaGreatDoor
namespace Go.Proofs.YtlhhopanegnliaaGreatDoor
open Go Go.RowKit Go.Shelf
attribute [local go_sem] Oper.semAt_some
set_option maxRecDepth 100000
structure Sr (K : Nat) (p : Pa.Pt) (ad : Addr) (x : Ws.Wt) (w : World) : Prop where
  p : Pbx w K p
  c0 : w.cell? ad = some (.int .i64 x.1)
  c1 : w.cell? ⟨ad.block, ad.off + 1, none⟩ = some (.int .i64 x.2.1)
  c2 : w.cell? ⟨ad.block, ad.off + 2, none⟩ = some (.bool x.2.2.1)
  c3 : w.cell? ⟨ad.block, ad.off + 3, none⟩ = some (.bool x.2.2.2)
theorem Sr.only {K : Nat} {p : Pa.Pt} {ad : Addr} {x : Ws.Wt} {w w' : World} {T : Nat → Prop} (h : Sr K p ad x w) (ho : OnlyS T w w') (hK : ¬ T K) (ha : ¬ T ad.block) : Sr K p ad x w' := by
  have hb := ho.block ad.block (cell_lt h.c0) ha
  exact ⟨h.p.only ho hK, (World.cell?_of_block (w := w) (a := ad) hb).trans h.c0, (World.cell?_of_block (w := w) (a := ⟨ad.block, ad.off + 1, none⟩) hb).trans h.c1,
    (World.cell?_of_block (w := w) (a := ⟨ad.block, ad.off + 2, none⟩) hb).trans h.c2, (World.cell?_of_block (w := w) (a := ⟨ad.block, ad.off + 3, none⟩) hb).trans h.c3⟩
theorem Sr.drew {K : Nat} {p : Pa.Pt} {ad : Addr} {x : Ws.Wt} {w : World} (h : Sr K p ad x w) : Sr K p ad x w.drew := ⟨⟨h.p.c0, h.p.c1, h.p.c2, h.p.c3, h.p.c4⟩, h.c0, h.c1, h.c2, h.c3⟩
def regionOf' (n : Nat) : Code → Option Code
  | .region k ops d => if k = n then some (.region k ops d) else none
  | .seq a b => match regionOf' n a with
    | some c => some c
    | none => regionOf' n b
  | .cond _ a b => match regionOf' n a with
    | some c => some c
    | none => regionOf' n b
  | .block _ c => regionOf' n c
  | .loop c => regionOf' n c
  | .scope c => regionOf' n c
  | .rangeFunc _ _ a b => match regionOf' n a with
    | some c => some c
    | none => regionOf' n b
  | _ => none
noncomputable def waiting7 : Code := ((Tryz.f24.body.bind (regionOf' 7)).getD .skip)
set_option maxHeartbeats 8000000 in
set_option maxRecDepth 1000000 in
theorem reg7w {W : World} {r m R K n c k : Nat} {p p0 : Pa.Pt} {x x0 : Ws.Wt} {b0 : Bool} {ad : Addr} {Q : Exit → Act → World → Prop} {s0 s1 s2 s3 s8 s9 s12 s13 s14 s15 s16 s17 s18 s19 s20 s21 s22 s23 s24 s25 s26 s27 s28 s29 s30 s31 s32 s33 s34 : Value}
    (hS : Sr K p (ad.add (k * 4)) x W) (hR : Res R p0 x0 b0 W) (f0 : ∀ o, W.frozen? ⟨R, o, none⟩ = false) (f1 : ∀ o, W.frozen? ⟨R + 1, o, none⟩ = false) (f2 : ∀ o, W.frozen? ⟨R + 1 + 1, o, none⟩ = false) (hk : k < n) (hKr : R + 1 + 1 < K) (hAr : R + 1 + 1 < (ad.add (k * 4)).block) (hout : ¬ LetsOut Q) (hpan : ∀ c a a' w, Q (.panic c) a w → Q (.panic c) a' w)
    (hQ : ∀ (t28 t29 t30 t31 t32 : Value), Q .normal { tmps := #[s0, s1, s2, s3, tp R, tp (R + 1), tp (R + 1 + 1), tp K, s8, s9, .slice (some ad) n c, .int .i64 (k : Int), s12, s13, s14, s15, s16, s17, s18, s19, s20, s21, s22, s23, s24, s25, s26, s27, t28, t29, t30, t31, t32, s33, s34], defers := [] } (tenSet W R p x true).drew) :
    waiting7.wpIn (inR r) m Tryz.prog Q { tmps := #[s0, s1, s2, s3, tp R, tp (R + 1), tp (R + 1 + 1), tp K, s8, s9, .slice (some ad) n c, .int .i64 (k : Int), s12, s13, s14, s15, s16, s17, s18, s19, s20, s21, s22, s23, s24, s25, s26, s27, s28, s29, s30, s31, s32, s33, s34], defers := [] } W := by
  have HQ := Lib.hid hQ
  obtain ⟨⟨a0, a1, a2, a3, a4⟩, ⟨g0, g1, g2, g3⟩, d0⟩ := hR
  have hKR : ¬ (K = R ∨ K = R + 1 ∨ K = R + 1 + 1) := by omega
  have hAR : ¬ ((ad.add (k * 4)).block = R ∨ (ad.add (k * 4)).block = R + 1 ∨ (ad.add (k * 4)).block = R + 1 + 1) := by omega
  have HS0 := Lib.hid hS.drew
  have HSb := Lib.hid hS
  obtain ⟨pa, pb, pc, pd, pe⟩ := p
  obtain ⟨y0, y1, y2, y3⟩ := x
  have hx3 : (0 : Int) ≤ (k : Int) := by omega
  have hx4 : (k : Int) < (n : Int) := by omega
  clear hQ hS hKr hAr
  conv => arg 1; whnf
  refine round_held (S := Sr K ⟨pa, pb, pc, pd, pe⟩ (ad.add (k * 4)) (y0, y1, y2, y3)) (by kernel_rfl) (by kernel_rfl) hout HS0.out (fun hHeld => ?_)
  refine wpAnyH_take (i := 0) (oi := { dst := some 28, op := Go.Op.load 30 (Go.Operand.tmp 7), type := 30, pos := "table.go:151", after := #[], guard := none }) (v := ?_) rfl (by kernel_rfl) (by kernel_rfl) (by kernel_rfl) (fun c a w h => hpan c _ _ w h) (Or.inl ⟨by rfl, ?_⟩) (by assumption) ?_
  rotate_left
  · intro w hSw
    obtain ⟨⟨x1, x2, x3, x4, x5⟩, y0, y1, y2, y3⟩ := hSw
    simp only at x1 x2 x3 x4 x5 y0 y1 y2 y3
    go_simp
    try with_reducible rfl
  try simp only [Act.put, List.setIfInBounds_toArray, List.set_cons_zero, List.set_cons_succ]
  refine wpAnyH_take (i := 1) (oi := { dst := some 29, op := Go.Op.move (Go.Operand.tmp 10), type := 51, pos := "table.go:151", after := #[], guard := none }) (v := ?_) rfl (by kernel_rfl) (by kernel_rfl) (by kernel_rfl) (fun c a w h => hpan c _ _ w h) (Or.inl ⟨by rfl, ?_⟩) (by assumption) ?_
  rotate_left
  · intro w hSw
    obtain ⟨⟨x1, x2, x3, x4, x5⟩, y0, y1, y2, y3⟩ := hSw
    simp only at x1 x2 x3 x4 x5 y0 y1 y2 y3
    go_simp
    try with_reducible rfl
  try simp only [Act.put, List.setIfInBounds_toArray, List.set_cons_zero, List.set_cons_succ]
  refine wpAnyH_take (i := 2) (oi := { dst := some 30, op := Go.Op.move (Go.Operand.tmp 11), type := 3, pos := "table.go:151", after := #[], guard := none }) (v := ?_) rfl (by kernel_rfl) (by kernel_rfl) (by kernel_rfl) (fun c a w h => hpan c _ _ w h) (Or.inl ⟨by rfl, ?_⟩) (by assumption) ?_
  rotate_left
  · intro w hSw
    obtain ⟨⟨x1, x2, x3, x4, x5⟩, y0, y1, y2, y3⟩ := hSw
    simp only at x1 x2 x3 x4 x5 y0 y1 y2 y3
    go_simp
    try with_reducible rfl
  try simp only [Act.put, List.setIfInBounds_toArray, List.set_cons_zero, List.set_cons_succ]
  refine wpAnyH_take (i := 3) (oi := { dst := some 31, op := Go.Op.indexAddr 51 (Go.Operand.tmp 29) (Go.Operand.tmp 30), type := 0, pos := "table.go:151", after := #[{ on := 1, ground := Go.Ground.data }, { on := 2, ground := Go.Ground.data }], guard := none }) (v := ?_) rfl (by kernel_rfl) (by kernel_rfl) (by kernel_rfl) (fun c a w h => hpan c _ _ w h) (Or.inl ⟨by rfl, ?_⟩) (by assumption) ?_
  rotate_left
  · intro w hSw
    obtain ⟨⟨x1, x2, x3, x4, x5⟩, y0, y1, y2, y3⟩ := hSw
    simp only at x1 x2 x3 x4 x5 y0 y1 y2 y3
    go_simp
    try with_reducible rfl
  try simp only [Act.put, List.setIfInBounds_toArray, List.set_cons_zero, List.set_cons_succ]
  refine wpAnyH_take (i := 4) (oi := { dst := some 32, op := Go.Op.load 61 (Go.Operand.tmp 31), type := 61, pos := "table.go:151", after := #[{ on := 3, ground := Go.Ground.data }], guard := none }) (v := ?_) rfl (by kernel_rfl) (by kernel_rfl) (by kernel_rfl) (fun c a w h => hpan c _ _ w h) (Or.inl ⟨by rfl, ?_⟩) (by assumption) ?_
  rotate_left
  · intro w hSw
    obtain ⟨⟨x1, x2, x3, x4, x5⟩, y0, y1, y2, y3⟩ := hSw
    simp only at x1 x2 x3 x4 x5 y0 y1 y2 y3
    go_simp
    try with_reducible rfl
  try simp only [Act.put, List.setIfInBounds_toArray, List.set_cons_zero, List.set_cons_succ]
  refine wpAnyH_ready (rs := [5]) (by kernel_rfl) (by simp) ?_
  refine AllReadyH.cons (o := { dst := none, op := Go.Op.store 30 (Go.Operand.tmp 4) (Go.Operand.tmp 28), type := 0, pos := "table.go:151", after := #[{ on := 0, ground := Go.Ground.data }, { on := 0, ground := Go.Ground.phase }, { on := 1, ground := Go.Ground.textOnly Go.Departure.lateStores }, { on := 2, ground := Go.Ground.textOnly Go.Departure.lateStores }, { on := 3, ground := Go.Ground.textOnly Go.Departure.inlinedCapture }, { on := 4, ground := Go.Ground.textOnly Go.Departure.inlinedCapture }], guard := none }) rfl (fun K hK => ?_) AllReadyH.nil
  go_simp
  skip
  refine hK.out _ _ ?_ (fun hHeld => ?_)
  · exact (HSb.out.only ((((((OnlyS.refl (fun k => k = R ∨ k = R + 1 ∨ k = R + 1 + 1) W).setIn R 0 _ (.inl (.inl rfl))).setIn R 1 _ (.inl (.inl rfl))).setIn R 2 _ (.inl (.inl rfl))).setIn R 3 _ (.inl (.inl rfl))).setIn R 4 _ (.inl (.inl rfl))) hKR hAR).drew
  clear hK K
  try simp only [Act.put, List.setIfInBounds_toArray, List.set_cons_zero, List.set_cons_succ]
  refine wpAnyH_ready (rs := [6]) (by kernel_rfl) (by simp) ?_
  refine AllReadyH.cons (o := { dst := none, op := Go.Op.store 61 (Go.Operand.tmp 5) (Go.Operand.tmp 32), type := 0, pos := "table.go:151", after := #[{ on := 4, ground := Go.Ground.data }, { on := 5, ground := Go.Ground.chain }, { on := 0, ground := Go.Ground.phase }, { on := 1, ground := Go.Ground.phase }, { on := 2, ground := Go.Ground.phase }, { on := 3, ground := Go.Ground.phase }, { on := 4, ground := Go.Ground.phase }, { on := 5, ground := Go.Ground.phase }], guard := none }) rfl (fun K hK => ?_) AllReadyH.nil
  go_simp
  skip
  refine hK.out _ _ ?_ (fun hHeld => ?_)
  · exact (HSb.out.only ((((((((((OnlyS.refl (fun k => k = R ∨ k = R + 1 ∨ k = R + 1 + 1) W).setIn R 0 _ (.inl (.inl rfl))).setIn R 1 _ (.inl (.inl rfl))).setIn R 2 _ (.inl (.inl rfl))).setIn R 3 _ (.inl (.inl rfl))).setIn R 4 _ (.inl (.inl rfl))).setIn (R + 1) 0 _ (.inl (.inr (.inl rfl)))).setIn (R + 1) 1 _ (.inl (.inr (.inl rfl)))).setIn (R + 1) 2 _ (.inl (.inr (.inl rfl)))).setIn (R + 1) 3 _ (.inl (.inr (.inl rfl)))) hKR hAR).drew
  clear hK K
  try simp only [Act.put, List.setIfInBounds_toArray, List.set_cons_zero, List.set_cons_succ]
  refine wpAnyH_ready (rs := [7]) (by kernel_rfl) (by simp) ?_
  refine AllReadyH.cons (o := { dst := none, op := Go.Op.store 4 (Go.Operand.tmp 6) (Go.Operand.const (Go.Value.bool true)), type := 0, pos := "table.go:151", after := #[{ on := 6, ground := Go.Ground.chain }, { on := 0, ground := Go.Ground.phase }, { on := 1, ground := Go.Ground.phase }, { on := 2, ground := Go.Ground.phase }, { on := 3, ground := Go.Ground.phase }, { on := 4, ground := Go.Ground.phase }, { on := 5, ground := Go.Ground.phase }, { on := 6, ground := Go.Ground.phase }], guard := none }) rfl (fun K hK => ?_) AllReadyH.nil
  go_simp
  skip
  refine hK.out _ _ ?_ (fun hHeld => ?_)
  · exact (HSb.out.only (((((((((((OnlyS.refl (fun k => k = R ∨ k = R + 1 ∨ k = R + 1 + 1) W).setIn R 0 _ (.inl (.inl rfl))).setIn R 1 _ (.inl (.inl rfl))).setIn R 2 _ (.inl (.inl rfl))).setIn R 3 _ (.inl (.inl rfl))).setIn R 4 _ (.inl (.inl rfl))).setIn (R + 1) 0 _ (.inl (.inr (.inl rfl)))).setIn (R + 1) 1 _ (.inl (.inr (.inl rfl)))).setIn (R + 1) 2 _ (.inl (.inr (.inl rfl)))).setIn (R + 1) 3 _ (.inl (.inr (.inl rfl)))).setIn (R + 1 + 1) 0 _ (.inl (.inr (.inr rfl)))) hKR hAR).drew
  clear hK K
  try simp only [Act.put, List.setIfInBounds_toArray, List.set_cons_zero, List.set_cons_succ]
  refine wpAnyH_done (by kernel_rfl) ?_ _
  exact HQ.out _ _ _ _ _
theorem res_drew {R : Nat} {p : Pa.Pt} {x : Ws.Wt} {b : Bool} {w : World} (h : Res R p x b w) : Res R p x b w.drew := ⟨⟨h.p.c0, h.p.c1, h.p.c2, h.p.c3, h.p.c4⟩, ⟨h.x.c0, h.x.c1, h.x.c2, h.x.c3⟩, h.b⟩
theorem ten_others (W : World) (R : Nat) (p : Pa.Pt) (x : Ws.Wt) (b : Bool) : KeepsOthers W (tenSet W R p x b) :=
  (((((((((KeepsOthers.setCell _ _ _).trans (KeepsOthers.setCell _ _ _)).trans (KeepsOthers.setCell _ _ _)).trans (KeepsOthers.setCell _ _ _)).trans (KeepsOthers.setCell _ _ _)).trans (KeepsOthers.setCell _ _ _)).trans (KeepsOthers.setCell _ _ _)).trans (KeepsOthers.setCell _ _ _)).trans (KeepsOthers.setCell _ _ _)).trans (KeepsOthers.setCell _ _ _)
set_option maxHeartbeats 16000000 in
theorem waiting_any {a : Option Addr} {ps : List Pa.Pt} {C : Pa.Pt → Cx} {tx : Int} {w : World} (hP : ∀ W, Below w.heap.size w W → Calls Tryz.prog 48 #[.pointer a] W (PathsOf W ps))
    (hF : ∀ p, p ∈ ps → ∀ W, Below w.heap.size w W → Calls Tryz.prog 65 #[.pointer a, p.v] W fun e w' => ∃ Q is, e = .returned (.tuple #[qp Q, .bool is]) ∧ Below W.heap.size W w' ∧ ∃ A1 c1 A2 c2, QAt w' Q A1 c1 A2 c2 (C p).1 (C p).2)
    (hz : ∀ p, p ∈ ps → (C p).2.length ≤ 500) (hl : ps.length ≤ 1000) :
    Calls Tryz.prog 24 #[.pointer a, .int .i64 tx] w fun e w' => e = .returned (waitV (hitP (fun p => hitL tx (C p).2) ps)) ∧ Below w.heap.size w w' := by
  refine (callsIn_wide (n := 9)).1 ?_
  refine callsIn_of_wp_marks Tryz.func24 rfl trivial ?_ rfl
  simp only [Tryz.ntmps24, List.size_toArray, List.length_cons, List.length_nil, Nat.reduceAdd, Nat.reduceSub, Array.replicate_succ, Array.replicate_zero, List.push_toArray, List.append_toArray, List.nil_append, List.cons_append]
  refine wpIn_wide.2 ?_
  have HF := Lib.hid hF
  have HZ := Lib.hid hz
  have h5 := heap5 w (.cells #[.pointer a] 24) (.cells #[.int .i64 tx] 3) (.cells #[.int .i64 0, .int .i64 0, .int .i64 0, .int .i64 0, .int .i64 0] 30) (.cells #[.int .i64 0, .int .i64 0, .bool false, .bool false] 61) (.cells #[.bool false] 4)
  simp only at h5
  obtain ⟨o0, o1, o2, o3, o4, ob, hsz⟩ := h5
  have hw : WI w (w.heap.size + 1 + 1 + 1 + 1 + 1) a tx (((((w.alloc (.cells #[.pointer a] 24)).alloc (.cells #[.int .i64 tx] 3)).alloc (.cells #[.int .i64 0, .int .i64 0, .int .i64 0, .int .i64 0, .int .i64 0] 30)).alloc (.cells #[.int .i64 0, .int .i64 0, .bool false, .bool false] 61)).alloc (.cells #[.bool false] 4)) :=
    ⟨o0, o1, o2, o3, o4, ob, Nat.le_of_eq hsz.symm⟩
  have HP := Lib.hid (hP _ hw.bel)
  have H0 := Lib.hid hw
  clear hP hw o0 o1 o2 o3 o4 ob hF hz
  go_wp2_with fail
  generalize ((((w.alloc (.cells #[.pointer a] 24)).alloc (.cells #[.int .i64 tx] 3)).alloc (.cells #[.int .i64 0, .int .i64 0, .int .i64 0, .int .i64 0, .int .i64 0] 30)).alloc (.cells #[.int .i64 0, .int .i64 0, .bool false, .bool false] 61)).alloc (.cells #[.bool false] 4) = w2 at *
  refine HP.out.mono ?_
  rintro e w3 ⟨B, pv, rfl, hbx, hrow, hb3, hB⟩
  have H3 := Lib.hid (H0.out.below hb3)
  have hz3 := hb3.size
  have HTl := Lib.hid (vals_tells hbx hrow (by omega))
  have HLt := Lib.hid (show ∀ k, OfRow B pv k → w2.heap.size ≤ k ∧ k < w3.heap.size from fun k hk => by
    rcases hk with rfl | hk
    · exact ⟨by omega, hbx.lt⟩
    · have := hrow.lt k hk; exact ⟨by omega, this.2⟩)
  clear hbx hrow hb3 hB HP H0
  go_wp2_with fail
  refine (wpIn_wide (n := 9)).1 ?_
  refine wp_range (α := Pa.Pt) (encs := encP) (xs := ps) (S := OfRow B pv) rfl (enters_of Tryz.func140 (by kernel_rfl) rfl) HTl.out (fun k hk => (HLt.out k hk).2) (fun _ => rfl)
    (fun pre W => WI w w3.heap.size a tx W ∧ ∀ q, q ∈ pre → hitL tx (C q).2 = none)
    (fun cd pre W => cd = .ret ∧ ∃ p x, (∀ post, ps = pre ++ post → hitP (fun p => hitL tx (C p).2) ps = some (p, x)) ∧ Res (w.heap.size + 1 + 1) p x true W ∧ Below w.heap.size w W)
    (fun pre p a' W => (WI w w3.heap.size a tx W ∧ ∀ q, q ∈ pre → hitL tx (C q).2 = none) ∧ ∃ K, w3.heap.size ≤ K ∧ PbT W K p ∧
      a' = { tmps := #[.pointer a, .int .i64 tx, tp w.heap.size, tp (w.heap.size + 1), tp (w.heap.size + 1 + 1), tp (w.heap.size + 1 + 1 + 1), tp (w.heap.size + 1 + 1 + 1 + 1), tp K, undef, undef, undef, undef, .pointer a, .func (.func 140) #[] #[tp B], p.v, undef, undef, undef, undef, undef, undef, undef, undef, undef, undef, undef, undef, undef, undef, undef, undef, undef, undef, undef, undef], defers := [] })
    ?hI ?hIx ?hA ⟨⟨H3.out.b0, H3.out.b1, H3.out.r0, H3.out.r1, H3.out.r2, H3.out.bel, Nat.le_refl _⟩, fun _ h => by cases h⟩ ?assign ?body ?done ?stop
  case hI => exact fun s X Y ⟨h, h'⟩ t => ⟨h.turn t (by omega), h'⟩
  case hIx =>
    rintro cd s X Y ⟨rfl, p, x, h1, h2, h3⟩ t
    have := h2.lt
    exact ⟨rfl, p, x, h1, h2.turn t, t.below h3 (by omega) (Nat.le_refl _)⟩
  case hA =>
    rintro s x a' X Y ⟨⟨h, h'⟩, K, hK0, hK, h6⟩ t
    exact ⟨⟨h.turn t (by omega), h'⟩, K, hK0, t.cells _ _ hK rfl, h6⟩
  case assign =>
    rintro l pre p W ⟨hi, hno⟩
    have HC := Lib.hid (show WI w w3.heap.size a tx (W.alloc (.cells (pcs p) 30)) ∧ ∀ q, q ∈ pre → hitL tx (C q).2 = none from ⟨hi.below (box_below W _), hno⟩)
    have HK := Lib.hid (show w3.heap.size ≤ W.heap.size ∧ PbT (W.alloc (.cells (pcs p) 30)) W.heap.size p from ⟨hi.sz, World.alloc_heap_new W _⟩)
    have HKf := Lib.hid (An.keepsFrom_box w3.heap.size W (.cells (pcs p) 30))
    have HKs := Lib.hid (keeps_of (S := OfRow B pv) (box_below W (.cells (pcs p) 30)) (fun k hk => Nat.lt_of_lt_of_le (HLt.out k hk).2 hi.sz))
    clear hi hno
    obtain ⟨pa, pb, pc, pd, pe⟩ := p
    gi_wp2
    exact ⟨HKf.out, HKs.out, HC.out, W.heap.size, HK.out.1, HK.out.2, by simp⟩
  case body =>
    rintro l pre p post a' W hx ⟨⟨hc, hno⟩, K, hK0, hK, rfl⟩
    have hmem : p ∈ ps := by rw [hx]; simp
    have HFi := Lib.hid (HF.out p hmem W hc.bel)
    have HLz := HZ.out p hmem
    have HC := Lib.hid hc
    have HNo := Lib.hid hno
    have c0 := hc.b0.cell
    have HK := Lib.hid (And.intro hK0 hK)
    have b0 := hK.cells.c0
    have b1 := hK.cells.c1
    have b2 := hK.cells.c2
    have b3 := hK.cells.c3
    have b4 := hK.cells.c4
    have HX := Lib.hid hx
    have hcs := hit_cases tx (C p).2
    have HAt := Lib.hid (fun (x : Ws.Wt) (h : hitL tx (C p).2 = some x) => hitP_at (hit := fun p => hitL tx (C p).2) (p := p) (x := x) (post := post) hno h)
    have HPn := Lib.hid (show hitL tx (C p).2 = none → ∀ q, q ∈ pre ++ [p] → hitL tx (C q).2 = none from fun h q hq => by
      rcases List.mem_append.1 hq with h1 | h1
      · exact hno q h1
      · rw [List.mem_singleton.1 h1]; exact h)
    clear hx hmem hc hno hK hK0
    generalize (C p).2 = L at *
    generalize (C p).1 = H at *
    obtain ⟨pa, pb, pc, pd, pe⟩ := p
    simp only at b0 b1 b2 b3 b4
    rcases hcs with ⟨k1, k2⟩ | ⟨k, hk, k1, k2⟩
    · have HN := Lib.hid (HPn.out k2)
      clear k2
      gi_wp2_with (first
        | (refine ⟨trivial, ?_⟩; gi_at_call 65; refine (callsIn_round HFi.out).mono ?_; rintro e w4 ⟨Q, is, rfl, hb4, A1, q1, A2, q2, hq⟩; have HW4 := Lib.hid (show Calls Tryz.prog 52 #[qp Q] w4 (Ws.Lists w4 L) from waits_any hq.its HLz); have HC4 := Lib.hid (HC.out.below hb4); have HB4 := Lib.hid hb4; clear hb4 hq)
        | (refine ⟨trivial, ?_⟩; gi_at_call 52; refine (callsIn_round HW4.out).mono ?_; rintro e w5 ⟨A, c, rfl, hls, hb5⟩; have HC5 := Lib.hid (HC4.out.below hb5); have HB5 := Lib.hid (HB4.out.trans (hb5.mono HB4.out.size)); have c1 := HC5.out.b1.cell; have HFd := Lib.hid (Ws.find_any hls (by omega) tx); rw [k1] at HFd; clear hb5 hls)
        | (refine ⟨trivial, ?_⟩; gi_at_call 66; refine (callsIn_round HFd.out).mono ?_; rintro e w6 ⟨rfl, hb6⟩; have HC6 := Lib.hid (HC5.out.below hb6); have HB6 := Lib.hid (HB5.out.trans (hb6.mono HB5.out.size)); clear hb6))
      exact ⟨keepsFrom_below HB6.out _, keeps_of HB6.out (fun k hk => Nat.lt_of_lt_of_le (HLt.out k hk).2 HC.out.sz), HC6.out, HN.out⟩
    · have HH := Lib.hid (HAt.out _ k2)
      have hkn : (0 : Int) ≤ (k : Int) := by omega
      have HKk := Lib.hid (show ∃ y, ∃ h : k < L.length, L[k]'h = y from ⟨_, hk, rfl⟩)
      obtain ⟨y, hy⟩ : ∃ y, L[k]'hk = y := ⟨_, rfl⟩
      rw [hy] at HH
      replace HKk := Lib.hid (show ∃ h : k < L.length, L[k]'h = y from ⟨hk, hy⟩)
      clear k2 hy hk
      gi_wp2_with (first
        | (refine ⟨trivial, ?_⟩; gi_at_call 65; refine (callsIn_round HFi.out).mono ?_; rintro e w4 ⟨Q, is, rfl, hb4, A1, q1, A2, q2, hq⟩; have HW4 := Lib.hid (waits_far hq.its HLz); have HC4 := Lib.hid (HC.out.below hb4); have HB4 := Lib.hid hb4; clear hb4 hq)
        | (refine ⟨trivial, ?_⟩; gi_at_call 52; refine (callsIn_round HW4.out).mono ?_; rintro e w5 ⟨A, c, rfl, ⟨hls, hfar⟩, hb5⟩; have HC5 := Lib.hid (HC4.out.below hb5); have HB5 := Lib.hid (HB4.out.trans (hb5.mono HB4.out.size)); have c1 := HC5.out.b1.cell; have HFd := Lib.hid (Ws.find_any hls (by omega) tx); have HL5 := Lib.hid (And.intro hls hfar); rw [k1] at HFd; clear hb5 hls hfar)
        | (refine ⟨trivial, ?_⟩; gi_at_call 66; refine (callsIn_round HFd.out).mono ?_; rintro e w6 ⟨rfl, hb6⟩; have HC6 := Lib.hid (HC5.out.below hb6); have HB6 := Lib.hid (HB5.out.trans (hb6.mono HB5.out.size)); have HL6 := Lib.hid (HL5.out.1.below hb6); clear hb6))
      obtain ⟨hk, hy⟩ := HKk.out
      have hh := HL6.out.here hk
      rw [hy] at hh
      obtain ⟨ad, rfl, hh0, hh1, hh2, hh3⟩ := hh
      have hr4 := HC4.out.res.lt
      have hf4 := HL5.out.2 ad rfl
      have hKlt := HK.out.1
      have hrl := H3.out.res.lt
      refine reg7w (K := K) (p := ⟨pa, pb, pc, pd, pe⟩) (x := y) (ad := ad) (k := k) ⟨HK.out.2.cells.below HB6.out, hh0, hh1, hh2, hh3⟩ HC6.out.res (fun o => (HC6.out.fz o).1) (fun o => (HC6.out.fz o).2.1) (fun o => (HC6.out.fz o).2.2) hk (by omega) (by rw [Hs.block_add']; omega) (by rintro ⟨a, w, h⟩; exact h) (fun _ _ _ _ h => h) ?_
      intro t28 t29 t30 t31 t32
      have HO := Lib.hid (ten_only w6 (w.heap.size + 1 + 1) ⟨pa, pb, pc, pd, pe⟩ y true)
      have HRs := Lib.hid (ten_res HC6.out.res ⟨pa, pb, pc, pd, pe⟩ y true)
      gi_wp2
      refine ⟨?_, rfl, ⟨pa, pb, pc, pd, pe⟩, y, ?_, res_drew HRs.out, ?_⟩
      · exact (keepsFrom_below HB6.out _).trans (((ten_others _ _ _ _ _).trans (KeepsOthers.drew _)).from _)
      · intro po hpo
        have e : post = po := by
          have := HX.out.symm.trans hpo
          simpa using this
        subst e
        rw [HX.out]
        exact HH.out
      · exact HC6.out.bel.trans ((HO.out.drew).below (fun q hq => by omega) HC6.out.bel.size)
  case done =>
    rintro D X hDD ⟨hf, hno⟩ hd
    have HDd := Lib.hid hd
    have HF1 := Lib.hid hf
    have HE := Lib.hid (hitP_none (hit := fun p => hitL tx (C p).2) hno)
    have hR := hf.res
    obtain ⟨⟨a0, a1, a2, a3, a4⟩, ⟨g0, g1, g2, g3⟩, d0⟩ := hR
    have f0 := fun o => (hf.fz o).1
    have f1 := fun o => (hf.fz o).2.1
    have f2 := fun o => (hf.fz o).2.2
    have hrl := hf.res.lt
    have HE2 := Lib.hid (ten_res hf.res zeroP zeroW false)
    have HO := Lib.hid (ten_only X (w.heap.size + 1 + 1) zeroP zeroW false)
    simp only [zeroP, zeroW] at a0 a1 a2 a3 a4 g0 g1 g2 g3
    clear hf hd hno
    dsimp only [Exit.inBlock, Exit.then]
    rename_i hK0
    refine hK0 _ _ ?_
    clear hK0
    go_wp2_with fail
    have hd' := (HO.out.block D (Array.getElem?_eq_some_iff.1 HDd.out).1 (by omega)).trans HDd.out
    refine ⟨by simp, .inl ⟨_, _, rfl, run_takeDeferred hd', ?_⟩⟩
    have ht := Turn.put (B := w.heap.size) (.deferred none) (by omega) hd' rfl
    have hb := HO.out.below (B := w.heap.size) (fun k hk => by omega) HF1.out.bel.size
    exact ⟨_, results_wait rfl rfl rfl rfl (HE2.out.turn ht), by rw [HE.out]; rfl, ht.below (HF1.out.bel.trans hb) (Nat.le_refl _) (Nat.le_refl _)⟩
  case stop =>
    rintro D cd pre post X hD hx ⟨rfl, p, x, hh, hR, hb⟩ hd
    have HD := Lib.hid hd
    have HRr := Lib.hid hR
    have HH := Lib.hid (hh post hx)
    have HB := Lib.hid hb
    have hrl := hR.lt
    clear hd hR hh hb hx
    gi_wp2
    refine ⟨by simp, .inl ⟨_, _, rfl, run_takeDeferred HD.out, ?_⟩⟩
    have ht := Turn.put (B := w.heap.size) (.deferred none) (by omega) HD.out rfl
    exact ⟨_, results_wait rfl rfl rfl rfl (HRr.out.turn ht), by rw [HH.out]; rfl, ht.below HB.out (Nat.le_refl _) (Nat.le_refl _)⟩
end Go.Proofs.YtlhhopanegnliaaGreatDoor
