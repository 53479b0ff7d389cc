import Derived.Test.YtlhhopanegnliaaGreatDoorZWt
import Derived.Test.YtlhhopanegnliaaGreatDoorZNLc
import Derived.Test.YtlhhopanegnliaaGreatDoorZMLd
import Derived.Deep.RegionLaw
import Derived.Deep.RegionLawGrows
namespace Go.Proofs.YtlhhopanegnliaaGreatDoor
open Go Go.RowKit Go.Shelf
set_option maxRecDepth 100000
structure Ord (C : Pa.Pt → Cx) (ps : List Pa.Pt) : Prop where
  srt : ps.Pairwise (fun p q => Pa.lessB p q = true)
  mem : ∀ p, p ∈ ps ↔ 0 < szC (C p)
  rt : ∀ p, p ∈ ps → Pa.rightB p = true
  inv : ∀ p, Inv (C p).1 (C p).2
theorem Ord.nodup {C : Pa.Pt → Cx} {ps : List Pa.Pt} (h : Ord C ps) : ps.Nodup := by
  unfold List.Nodup
  refine h.srt.imp ?_
  intro a b hab e
  rw [e, Pa.less_self] at hab
  cases hab
theorem Ord.one {C : Pa.Pt → Cx} {ps qs : List Pa.Pt} (h : Ord C ps) (k : Ord C qs) : ps = qs := by
  have hp : ps.Perm qs := (List.perm_ext_iff_of_nodup h.nodup k.nodup).2 fun p => by rw [h.mem, k.mem]
  refine List.Perm.eq_of_pairwise (le := fun a b => Pa.lessB a b = true) (fun a b _ _ h1 h2 => ?_) h.srt k.srt hp
  have := Pa.less_tr h1 h2
  rw [Pa.less_self] at this
  cases this
def Fnt (C : Pa.Pt → Cx) : Prop := ∃ ps, Ord C ps
open Classical in
noncomputable def psOf (C : Pa.Pt → Cx) : List Pa.Pt := if h : Fnt C then h.choose else []
theorem Fnt.ord {C : Pa.Pt → Cx} (h : Fnt C) : Ord C (psOf C) := by
  unfold psOf
  rw [dif_pos h]
  exact h.choose_spec
theorem Ord.ps {C : Pa.Pt → Cx} {ps : List Pa.Pt} (h : Ord C ps) : psOf C = ps := (Fnt.ord ⟨ps, h⟩).one h
noncomputable def heldL (C : Pa.Pt → Cx) (tx : Int) : List Lk := locksOf (fun p => Hs.fst tx (C p).1) (psOf C)
noncomputable def waitL (C : Pa.Pt → Cx) (tx : Int) : Option (Pa.Pt × Ws.Wt) := hitP (fun p => hitL tx (C p).2) (psOf C)
noncomputable def usC (C : Pa.Pt → Cx) : Nat := (psOf C).length
noncomputable def ttC (C : Pa.Pt → Cx) : Nat := ((psOf C).map fun p => szC (C p)).sum
section
variable {C : Pa.Pt → Cx} {ps : List Pa.Pt} {tx : Int} {p : Pa.Pt}
theorem of_locks (mo : Pa.Pt → Int) (p : Pa.Pt) : ∀ ps : List Pa.Pt, (p ∈ ps → Lk.ofL (locksOf mo ps) p = mo p) ∧ (p ∉ ps → Lk.ofL (locksOf mo ps) p = 0)
  | [] => ⟨fun h => (nomatch h), fun _ => rfl⟩
  | q :: ps => by
    have ih := of_locks mo p ps
    unfold locksOf at *
    by_cases h0 : mo q = 0
    · rw [List.filter_cons, if_neg (by simp [h0])]
      refine ⟨fun h => ?_, fun h => ih.2 fun h' => h (List.mem_cons_of_mem _ h')⟩
      by_cases hp : p ∈ ps
      · exact ih.1 hp
      · rcases List.mem_cons.1 h with rfl | h
        · rw [ih.2 hp, h0]
        · exact absurd h hp
    · rw [List.filter_cons, if_pos (by simp [h0]), List.map_cons, Lk.ofL]
      by_cases e : p = q
      · subst e
        rw [if_pos (Pa.eqP_self p)]
        exact ⟨fun _ => rfl, fun h => absurd List.mem_cons_self h⟩
      · rw [if_neg (by simp only [Pa.eqP_ne (Ne.symm e)]; decide)]
        exact ⟨fun h => ih.1 ((List.mem_cons.1 h).resolve_left e), fun h => ih.2 fun h' => h (List.mem_cons_of_mem _ h')⟩
theorem Fnt.non (h : Fnt C) (hp : p ∉ psOf C) : C p = ([], []) := by
  have := mt (h.ord.mem p).2 hp
  exact szC_zero (by omega)
theorem Fnt.held_of (h : Fnt C) (tx : Int) (p : Pa.Pt) : Lk.ofL (heldL C tx) p = Hs.fst tx (C p).1 := by
  unfold heldL
  by_cases hp : p ∈ psOf C
  · exact (of_locks _ p _).1 hp
  · rw [(of_locks _ p _).2 hp, h.non hp]; rfl
theorem held_in {x : Lk} (hx : x ∈ heldL C tx) : x.1 ∈ psOf C ∧ x.2 = Hs.fst tx (C x.1).1 ∧ x.2 ≠ 0 := by
  unfold heldL locksOf at hx
  obtain ⟨q, hq, rfl⟩ := List.mem_map.1 hx
  obtain ⟨hq, h0⟩ := List.mem_filter.1 hq
  exact ⟨hq, rfl, by simpa using h0⟩
theorem fst_some {H : List Hs.Hd} (h : Hs.fst tx H ≠ 0) : (tx, Hs.fst tx H) ∈ H := by
  induction H with
  | nil => exact absurd rfl h
  | cons x xs ih =>
    rw [Hs.fst] at h ⊢
    by_cases e : (x.1 == tx) = true
    · rw [if_pos e] at h ⊢
      obtain ⟨a, b⟩ := x
      obtain rfl : a = tx := by simpa using e
      exact List.mem_cons_self
    · rw [if_neg e] at h ⊢
      exact List.mem_cons_of_mem _ (ih h)
theorem Fnt.bd (h : Fnt C) (hn : Hs.fst tx (C p).1 ≠ 0) : 1 ≤ tx ∧ 1 ≤ Hs.fst tx (C p).1 ∧ Hs.fst tx (C p).1 ≤ 6 := by
  have hm := (h.ord.inv p).rh.1 _ (fst_some hn)
  exact hm
theorem Fnt.rt1 (h : Fnt C) (tx : Int) : Lk.Rt1 (heldL C tx) := by
  refine ⟨?_, fun x hx => ?_⟩
  · unfold heldL locksOf
    rw [List.map_map]
    have : ((psOf C).filter fun p => Hs.fst tx (C p).1 != 0).map (Prod.fst ∘ fun p => (p, Hs.fst tx (C p).1)) = (psOf C).filter fun p => Hs.fst tx (C p).1 != 0 := by
      refine Eq.trans (List.map_congr_left (g := id) fun x _ => rfl) (List.map_id _)
    rw [this]
    exact h.ord.nodup.filter _
  · obtain ⟨h1, h2, h3⟩ := held_in hx
    rw [h2] at h3
    have := h.bd h3
    exact ⟨h.ord.rt _ h1, by omega, by omega⟩
theorem held_len (C : Pa.Pt → Cx) (tx : Int) : (heldL C tx).length ≤ usC C := locks_len _ _
theorem hitP_some {hit : Pa.Pt → Option Ws.Wt} {x : Ws.Wt} : ∀ {ps : List Pa.Pt}, hitP hit ps = some (p, x) → p ∈ ps ∧ hit p = some x
  | [], h => by simp [hitP] at h
  | q :: ps, h => by
    rw [hitP] at h
    cases hq : hit q with
    | none =>
      rw [hq] at h
      have := hitP_some (ps := ps) h
      exact ⟨List.mem_cons_of_mem _ this.1, this.2⟩
    | some y =>
      rw [hq] at h
      cases h
      exact ⟨List.mem_cons_self, hq⟩
theorem hitP_no {hit : Pa.Pt → Option Ws.Wt} : ∀ {ps : List Pa.Pt}, hitP hit ps = none → ∀ p, p ∈ ps → hit p = none
  | [], _, p, hp => by cases hp
  | q :: ps, h, p, hp => by
    rw [hitP] at h
    cases hq : hit q with
    | none =>
      rw [hq] at h
      rcases List.mem_cons.1 hp with rfl | hp
      · exact hq
      · exact hitP_no (ps := ps) h p hp
    | some y =>
      rw [hq] at h
      cases h
theorem hitL_none {L : List Ws.Wt} (h : hitL tx L = none) : ∀ w ∈ L, w.1 ≠ tx := by
  unfold hitL at h
  intro w hw
  simpa using List.find?_eq_none.1 h w hw
theorem hitL_some {L : List Ws.Wt} {x : Ws.Wt} (h : hitL tx L = some x) : x ∈ L ∧ x.1 = tx :=
  ⟨List.mem_of_find?_eq_some h, by simpa using List.find?_some h⟩
theorem Fnt.wait_no (h : Fnt C) (hw : waitL C tx = none) (p : Pa.Pt) : ∀ w ∈ (C p).2, w.1 ≠ tx := by
  by_cases hp : p ∈ psOf C
  · exact hitL_none (hitP_no hw p hp)
  · rw [h.non hp]
    intro w hw
    cases hw
theorem wait_at {x : Ws.Wt} (hw : waitL C tx = some (p, x)) : p ∈ psOf C ∧ x ∈ (C p).2 ∧ x.1 = tx := by
  obtain ⟨h1, h2⟩ := hitP_some hw
  exact ⟨h1, hitL_some h2⟩
end
section
variable {W W' w : World} {T : Nat → Prop} {b m c u t : Nat} {B0 : Lo0} {mr : Int} {C : Pa.Pt → Cx}
theorem Ta.ord (h : Ta W b T m mr c C B0 u t) : Fnt C ∧ usC C = u ∧ ttC C = t := by
  obtain ⟨ns, h1, h2, h3, h4, -⟩ := h.is
  have hr1 := h1.one
  have hcy := fun i n (hi : Isn ns i n) => h1.cy hi
  have hcn := fun p hp => h1.cn (p := p) hp
  have hri := fun i n (hi : Isn ns i n) => h1.right hi
  have hmem : ∀ p, p ∈ (nds ns).map (·.p) ↔ 0 < szC (C p) := by
    intro p
    rw [List.mem_map]
    constructor
    · rintro ⟨n, hn, rfl⟩
      obtain ⟨i, hi⟩ := mem_nds.1 hn
      rw [hcy i n hi]
      exact h2 i n hi
    · intro hz
      by_cases hp : ∃ i n, Isn ns i n ∧ n.p = p
      · obtain ⟨i, n, hi, e⟩ := hp
        exact ⟨n, mem_nds.2 ⟨i, hi⟩, e⟩
      · rw [hcn p fun i n hi e => hp ⟨i, n, hi, e⟩] at hz
        exact absurd hz (Nat.lt_irrefl 0)
  obtain ⟨rs, hrs⟩ := right_list ((nds ns).map (·.p)) fun p hp => by
    obtain ⟨n, hn, rfl⟩ := List.mem_map.1 hp
    obtain ⟨i, hi⟩ := mem_nds.1 hn
    exact hri i n hi
  have hnd : (Pa.vals rs).Nodup := by rw [hrs]; exact nds_once hr1
  have hp1 : (Pa.vals (Pa.srt rs)).Perm (Pa.vals rs) := (Pa.srt_perm rs).map _
  have hnd2 : (Pa.vals (Pa.srt rs)).Nodup := hp1.nodup_iff.2 hnd
  have ho : Ord C (Pa.vals (Pa.srt rs)) := by
    refine ⟨?_, fun p => by rw [hp1.mem_iff, hrs, hmem], fun p hp => ?_, fun p => h.inv p⟩
    · unfold Pa.vals at hnd2 ⊢
      rw [List.pairwise_map]
      unfold List.Nodup at hnd2
      rw [List.pairwise_map] at hnd2
      refine ((Pa.srt_sorted rs).and hnd2).imp ?_
      rintro x y ⟨q1, q2⟩
      cases q : Pa.lessB x.1 y.1
      · exact absurd (congrArg Subtype.val (Pa.less_tot x y q q1)) q2
      · rfl
    · unfold Pa.vals at hp
      obtain ⟨x, -, rfl⟩ := List.mem_map.1 hp
      exact x.2
  have hf : Fnt C := ⟨_, ho⟩
  have hc := h.count hf.ord.nodup hf.ord.mem
  exact ⟨hf, hc.1.symm, hc.2.symm⟩
end
end Go.Proofs.YtlhhopanegnliaaGreatDoor

namespace Go.Proofs.YtlhhopanegnliaaGreatDoor
open Go Go.RowKit Go.Shelf
set_option maxRecDepth 100000
def nxL (xs : List Lk) (p : Pa.Pt) (md : Int) : Lk × Bool × Int :=
  match Lk.planL xs p md with
  | [] => ((⟨0, 0, 0, 0, 0⟩, 0), false, Lk.planE p md)
  | x :: _ => (x, true, 0)
abbrev nxV (n : Lk × Bool × Int) : Value := .tuple #[Lk.wv n.1, .bool n.2.1, .int .i64 n.2.2]
theorem nx_none {xs : List Lk} {p : Pa.Pt} {md : Int} (h : Lk.planL xs p md = []) : nxL xs p md = ((⟨0, 0, 0, 0, 0⟩, 0), false, Lk.planE p md) := by unfold nxL; rw [h]
theorem nx_some {xs l : List Lk} {x : Lk} {p : Pa.Pt} {md : Int} (h : Lk.planL xs p md = x :: l) : nxL xs p md = (x, true, 0) := by unfold nxL; rw [h]
section
variable {W W' w : World} {T : Nat → Prop} {b m c u t : Nat} {B0 : Lo0} {mr : Int} {C : Pa.Pt → Cx}
theorem Ta.heldH (h : Ta W b T m mr c C B0 u t) (hm : m ≤ 1000) (hc : c ≤ 400) (tx : Int) :
    Calls Tryz.prog 23 #[tp b, .int .i64 tx] W (Lk.Lists W (heldL C tx)) := by
  obtain ⟨hf, hu, -⟩ := h.ord
  have hl : (psOf C).length ≤ 1000 := by have := h.bounds.1; unfold usC at hu; omega
  refine (h.held hm hc tx hf.ord.srt hf.ord.mem hl).mono ?_
  rintro e w' ⟨v, rfl, hrow, hb⟩
  obtain ⟨A, c', rfl, hls⟩ := Lk.Row.ls (W := w') (K := W.heap.size) (xs := heldL C tx) hrow
  exact ⟨A, c', rfl, hls, hb, Lk.Row.far (xs := heldL C tx) hrow⟩
theorem Ta.waitH (h : Ta W b T m mr c C B0 u t) (hm : m ≤ 1000) (hc : c ≤ 400) (tx : Int) :
    Calls Tryz.prog 24 #[tp b, .int .i64 tx] W fun e w' => e = .returned (waitV (waitL C tx)) ∧ Below W.heap.size W w' := by
  obtain ⟨hf, hu, -⟩ := h.ord
  have hl : (psOf C).length ≤ 1000 := by have := h.bounds.1; unfold usC at hu; omega
  refine waiting_any (fun W' hb => (h.below hb).paths hm hf.ord.srt hf.ord.mem) (fun p _ W' hb => ?_) (fun p _ => ?_) hl
  · obtain ⟨ns, g1, -⟩ := (h.below hb).is
    exact (g1.find p).mono fun e w' ⟨Q, is, he, hb', hq, _⟩ => ⟨Q, is, he, hb', hq⟩
  · have := h.size p
    have := h.bounds.2.2.1
    omega
theorem Ta.heldN (h : Ta W b T m mr c C B0 u t) (tx : Int) : (heldL C tx).length ≤ c ∧ (heldL C tx).length ≤ m := by
  obtain ⟨hf, hu, ht⟩ := h.ord
  have h1 := held_len C tx
  have hb := h.bounds
  have : usC C ≤ ttC C := by
    unfold usC ttC
    have hz : ∀ p ∈ psOf C, 1 ≤ szC (C p) := fun p hp => (hf.ord.mem p).1 hp
    generalize psOf C = ps at hz
    induction ps with
    | nil => exact Nat.le_refl _
    | cons q ps ih =>
      have h1 := hz q List.mem_cons_self
      have h2 := ih fun p hp => hz p (List.mem_cons_of_mem _ hp)
      simp only [List.length_cons, List.map_cons, List.sum_cons]
      omega
  omega
abbrev sixS (w : World) (B : Nat) (x : Lk) : World := (((((w.setCell ⟨B, 0, none⟩ (.int .i64 x.1.a)).setCell ⟨B, 1, none⟩ (.int .i64 x.1.b)).setCell ⟨B, 2, none⟩ (.int .i64 x.1.c)).setCell ⟨B, 3, none⟩ (.int .i64 x.1.d)).setCell ⟨B, 4, none⟩ (.int .i64 x.1.e)).setCell ⟨B, 5, none⟩ (.int .i64 x.2)
theorem six_only (w : World) (B : Nat) (x : Lk) : OnlyS (· = B) w (sixS w B x) :=
  (((((OnlyS.set B 0 w _).trans (OnlyS.set B 1 _ _)).trans (OnlyS.set B 2 _ _)).trans (OnlyS.set B 3 _ _)).trans (OnlyS.set B 4 _ _)).trans (OnlyS.set B 5 _ _)
theorem six_below {K B : Nat} {w w' : World} (x : Lk) (hb : Below K w w') (hB : K ≤ B) (hK : K ≤ w'.heap.size) : Below K w (sixS w' B x) := hb.trans ((six_only w' B x).below (fun k hk => by rw [hk]; exact hB) hK)
theorem results_lock {fn : Func} {p q r : Tmp} (h : fn.results = #[.cell p 39, .tmp q, .tmp r]) {tmps : Array Value} {w : World} {B : Nat} {x : Lk} {y z : Value} (hp : tmps.getD p undef = .pointer (some ⟨B, 0, none⟩)) (hq : tmps.getD q undef = y) (hr : tmps.getD r undef = z) (hB : Lk.Bx w B x) :
    (results fn tmps).run Tryz.prog w = .ok (.tuple #[Lk.wv x, y, z]) w := by
  have hp' : tmps[p]?.getD undef = .pointer (some ⟨B, 0, none⟩) := by simpa using hp
  have hq' : tmps[q]?.getD undef = y := by simpa using hq
  have hr' : tmps[r]?.getD undef = z := by simpa using hr
  obtain ⟨c0, c1, c2, c3, c4, c5, -⟩ := hB.at
  simp [results, h, hp', hq', hr', go_sem, c0, c1, c2, c3, c4, c5]
theorem Lk.Ls.first {w : World} {A : Option Addr} {c : Nat} {x : Lk} {l : List Lk} (h : Lk.Ls w A c (x :: l)) : ∃ a, A = some a ∧ w.cell? a = some (.int .i64 x.1.a) ∧ w.cell? ⟨a.block, a.off + 1, none⟩ = some (.int .i64 x.1.b) ∧ w.cell? ⟨a.block, a.off + 2, none⟩ = some (.int .i64 x.1.c) ∧ w.cell? ⟨a.block, a.off + 3, none⟩ = some (.int .i64 x.1.d) ∧ w.cell? ⟨a.block, a.off + 4, none⟩ = some (.int .i64 x.1.e) ∧ w.cell? ⟨a.block, a.off + 5, none⟩ = some (.int .i64 x.2) := by
  obtain ⟨ad, rfl, e0, e1, e2, e3, e4, e5⟩ := h.here (i := 0) (by simp)
  simp only [List.getElem_cons_zero, Nat.zero_mul] at e0 e1 e2 e3 e4 e5
  rw [show ad.add 0 = ad from if_pos rfl] at e0 e1 e2 e3 e4 e5
  exact ⟨ad, rfl, e0, e1, e2, e3, e4, e5⟩
theorem two_boxed (W : World) (p : Pa.Pt) (x : Lk) : Below W.heap.size W ((W.alloc (.cells (pcs p) 30)).alloc (.cells (lca x.1 x.2) 39)) ∧ Pbx ((W.alloc (.cells (pcs p) 30)).alloc (.cells (lca x.1 x.2) 39)) W.heap.size p ∧ Lk.Bx ((W.alloc (.cells (pcs p) 30)).alloc (.cells (lca x.1 x.2) 39)) (W.heap.size + 1) x := by
  have h1 := box_below W (.cells (pcs p) 30)
  have h2 := box_below (W.alloc (.cells (pcs p) 30)) (.cells (lca x.1 x.2) 39)
  refine ⟨h1.trans (h2.mono h1.size), (Pbx.new W p 30).only (OnlyS.of_below (S := fun _ => False) h2) id, ?_⟩
  have := heap_alloc_new (W.alloc (.cells (pcs p) 30)) (.cells (lca x.1 x.2) 39)
  have hs : (W.alloc (.cells (pcs p) 30)).heap.size = W.heap.size + 1 := by simp
  rw [hs] at this
  exact this
set_option maxHeartbeats 1000000 in
theorem Ta.next (h : Ta W b T m mr c C B0 u t) (hm : m ≤ 1000) (hc : c ≤ 400) (tx : Int) (p : Pa.Pt) (md : Int) :
    Calls Tryz.prog 12 #[tp b, .int .i64 tx, p.v, .int .i64 md] W fun e w' => e = .returned (nxV (nxL (heldL C tx) p md)) ∧ Below W.heap.size W w' := by
  have hl := (h.heldN tx).1
  have HH := Lib.hid (fun (w1 : World) (hb : Below W.heap.size W w1) => (h.below hb).heldH hm hc tx)
  clear h
  generalize heldL C tx = xs at *
  have HP := Lib.hid (fun (w1 w2 : World) (A : Option Addr) (c1 : Nat) (hr : Lk.Ls w1 A c1 xs) (hb : Below w1.heap.size w1 w2) => Lk.plan_any (hr.below hb) (by omega) p md)
  have HE0 := Lib.hid (fun e => nx_none (xs := xs) (p := p) (md := md) e)
  have HE1 := Lib.hid (fun x l e => nx_some (xs := xs) (l := l) (x := x) (p := p) (md := md) e)
  have h4 := Lk.plan_len xs p md
  generalize nxL xs p md = N at *
  generalize Lk.planE p md = pe at *
  generalize Lk.planL xs p md = pl at *
  obtain ⟨hx, hB, hX⟩ := two_boxed W p (⟨0, 0, 0, 0, 0⟩, 0)
  have HX := Lib.hid hx
  have HB := Lib.hid hB
  have HR := Lib.hid hX
  obtain ⟨b0, b1, b2, b3, b4⟩ := hB
  clear hx hX
  obtain ⟨pa, pb, pc, pd, pee⟩ := p
  simp only at b0 b1 b2 b3 b4 HX HB HP HR
  go_enter Tryz.func12, Tryz.ntmps12
  go_wp2_with fail
  generalize (W.alloc (.cells #[.int .i64 pa, .int .i64 pb, .int .i64 pc, .int .i64 pd, .int .i64 pee] 30)).alloc (.cells #[.int .i64 0, .int .i64 0, .int .i64 0, .int .i64 0, .int .i64 0, .int .i64 0] 39) = W1 at *
  go_region_law (first
    | (go_simp; go_at_call 23; refine (HH.out _ HX.out.drew).mono ?_; rintro e w1 ⟨A1, c1, rfl, hls1, hb1, -⟩; have hb2 := undrew hb1; obtain ⟨b0, b1, b2, b3, b4⟩ := HB.out.only (OnlyS.of_below (S := fun _ => False) hb2) id; simp only at b0 b1 b2 b3 b4)
    | (go_simp; go_at_call 32; refine (HP.out _ _ _ _ hls1 (Below.refl _ _)).mono ?_; rintro e w2 ⟨A2, c2, rfl, hls2, hb3⟩))
  all_goals
    have HB2 := Lib.hid ((HX.out.trans (hb2.mono HX.out.size)).trans (hb3.mono (HX.out.trans (hb2.mono HX.out.size)).size))
    have hR2 := (HR.out.below hb2).below hb3
    have HR2 := Lib.hid hR2
    obtain ⟨c0, c1', c2', c3, c4, c5, f0, f1, f2, f3, f4, f5, hlt⟩ := hR2.at
    simp only at c0 c1' c2' c3 c4 c5
    have HL := Lib.hid hls2
    clear b0 b1 b2 b3 b4 hb1 hb2 hb3 hls1 hls2 hR2 HH HP HX HB HR
    cases pl with
    | nil =>
      have HN := Lib.hid (HE0.out rfl)
      clear HE0 HE1
      go_wp2_with fail
      rw [HN.out]
      exact bodyPost_ret (results_lock rfl rfl rfl rfl (HR2.out.put (⟨0, 0, 0, 0, 0⟩, 0))) rfl ⟨rfl, six_below (⟨0, 0, 0, 0, 0⟩, 0) HB2.out (by omega) HB2.out.size⟩
    | cons x l =>
      have HN := Lib.hid (HE1.out x l rfl)
      obtain ⟨a, rfl, q0, q1, q2, q3, q4, q5⟩ := HL.out.first
      obtain ⟨⟨xa, xb, xc, xd, xe⟩, xm⟩ := x
      simp only at q0 q1 q2 q3 q4 q5
      simp only [List.length_cons] at h4 ⊢
      have hz : (((l.length : Nat) : Int) + 1 == 0) = false := by simp; omega
      have hz1 : (0 : Int) < ((l.length : Nat) : Int) + 1 := by omega
      clear HE0 HE1 HL
      go_wp2_with fail
      rw [HN.out]
      exact bodyPost_ret (results_lock rfl rfl rfl rfl (HR2.out.put (⟨xa, xb, xc, xd, xe⟩, xm))) rfl ⟨rfl, six_below (⟨xa, xb, xc, xd, xe⟩, xm) HB2.out (by omega) HB2.out.size⟩
end
end Go.Proofs.YtlhhopanegnliaaGreatDoor
namespace Go.Proofs.YtlhhopanegnliaaGreatDoor.Lk
open Go Go.RowKit Go.Shelf Pa
set_option maxRecDepth 100000

theorem sup_twice : ∀ i, i ≤ 6 → ∀ j, j ≤ 6 → supN (supN i j) j = supN i j := by decide +kernel
theorem sup_once : ∀ i, i ≤ 6 → ∀ j, j ≤ 6 → supN i (supN i j) = supN i j := by decide +kernel
section
variable {xs ys l : List Hd} {p a : Pt} {m : Int} {x : Hd}
theorem item_congr (h : ofL ys a = ofL xs a) : itemL ys p m a = itemL xs p m a ∧ brkB ys p m a = brkB xs p m a := by
  unfold itemL brkB moreN
  rw [h]
  exact ⟨rfl, rfl⟩
theorem planG_congr : ∀ {ks : List Pt}, (∀ a ∈ ks, ofL ys a = ofL xs a) → planG ys p m ks = planG xs p m ks
  | [], _ => rfl
  | a :: ks, h => by
    have h1 := item_congr (p := p) (m := m) (h a List.mem_cons_self)
    have ih := planG_congr (ks := ks) fun b hb => h b (List.mem_cons_of_mem _ hb)
    unfold planG at *
    rw [List.takeWhile_cons, List.takeWhile_cons, h1.2]
    split
    · rw [List.flatMap_cons, List.flatMap_cons, ih, h1.1]
    · rfl
theorem item_one {u : Hd} (h : u ∈ itemL xs p m a) : u.1 = a ∧ itemL xs p m a = [u] ∧ u.2 = (moreN xs p m a : Nat) ∧ u.2 ≠ ofL xs a := by
  unfold itemL at h ⊢
  split at h
  · rename_i hne
    rw [if_pos hne]
    obtain rfl : u = (a, ((moreN xs p m a : Nat) : Int)) := by simpa using h
    exact ⟨rfl, rfl, rfl, by simpa using hne⟩
  · cases h
theorem planG_tail (ho : ∀ q, ofL ys q = if eqP x.1 q then x.2 else ofL xs q) : ∀ {ks : List Pt}, ks.Nodup → planG xs p m ks = x :: l → planG ys p m ks = l ∨ planG ys p m ks = []
  | [], _, h => by cases h
  | a :: ks, hn, h => by
    have hn' := List.nodup_cons.1 hn
    have hsub : ∀ {zs : List Hd}, ∀ y ∈ planG zs p m ks, y.1 ∈ ks := fun {zs} y hy => by
      obtain ⟨b, hb, hy⟩ := List.mem_flatMap.1 hy
      rw [(item_one hy).1]
      exact (List.takeWhile_sublist _).subset hb
    unfold planG at h
    rw [List.takeWhile_cons] at h
    cases hb : brkB xs p m a
    · rw [hb] at h
      rw [if_pos (by rfl), List.flatMap_cons] at h
      rcases item_cases xs p m a with hi | ⟨u, hi⟩
      · rw [hi, List.nil_append] at h
        have hx : x.1 ∈ ks := hsub (zs := xs) x (by unfold planG; rw [h]; exact List.mem_cons_self)
        have hax : a ≠ x.1 := fun e => hn'.1 (by rw [e]; exact hx)
        have h1 := item_congr (xs := xs) (ys := ys) (p := p) (m := m) (a := a) (by rw [ho, if_neg (by simp only [eqP_ne (Ne.symm hax)]; decide)])
        have ih := planG_tail ho hn'.2 (show planG xs p m ks = x :: l from h)
        unfold planG at ih ⊢
        rw [List.takeWhile_cons, h1.2, hb, if_pos (by rfl), List.flatMap_cons, h1.1, hi, List.nil_append]
        exact ih
      · rw [hi] at h
        simp only [List.cons_append, List.nil_append, List.cons.injEq] at h
        obtain ⟨rfl, rfl⟩ := h
        have hu := item_one (xs := xs) (p := p) (m := m) (a := a) (u := (a, u)) (by rw [hi]; exact List.mem_cons_self)
        have e1 : ofL ys a = u := by rw [ho, if_pos (eqP_self a)]
        have e2 : u = (moreN xs p m a : Nat) := hu.2.2.1
        have hk : kn u = moreN xs p m a := by rw [e2]; exact kn_nat (more_le _ _ _ _)
        have hit : itemL ys p m a = [] := by
          unfold itemL
          rw [if_neg]
          have : moreN ys p m a = moreN xs p m a := by
            unfold moreN
            rw [e1, hk]
            unfold moreN
            exact sup_twice _ (kn_le _) _ (kn_le _)
          rw [e1, this, e2]
          simp
        cases hbr : brkB ys p m a
        case true =>
          refine .inr ?_
          unfold planG
          rw [List.takeWhile_cons, hbr]
          rfl
        refine .inl ?_
        unfold planG
        rw [List.takeWhile_cons, hbr, if_pos (by rfl), List.flatMap_cons, hit, List.nil_append]
        exact planG_congr fun b hb => by
          have hne : a ≠ b := fun e => hn'.1 (by rw [e]; exact hb)
          rw [ho, if_neg (by simp only [eqP_ne hne]; decide)]
    · rw [hb] at h
      rw [if_neg (by decide)] at h
      cases h
theorem ways_nodup (p : Pt) : (waysP p).Nodup := by
  unfold waysP
  split
  · refine ((ways_rise p _).1).imp ?_
    intro a b hab e
    rw [e] at hab
    omega
  · exact List.nodup_nil
theorem plan_in (h : x ∈ planL xs p m) : plB m = true ∧ rightB p = true ∧ ∃ a, a ∈ waysP p ∧ x ∈ itemL xs p m a := by
  unfold planL at h
  split at h
  · rename_i hh
    simp only [Bool.and_eq_true] at hh
    obtain ⟨b, hb, hy⟩ := List.mem_flatMap.1 h
    exact ⟨hh.2, hh.1, b, (List.takeWhile_sublist _).subset hb, hy⟩
  · cases h
theorem plan_tail (ho : ∀ q, ofL ys q = if eqP x.1 q then x.2 else ofL xs q) (h : planL xs p m = x :: l) : planL ys p m = l ∨ planL ys p m = [] := by
  have hx := plan_in (xs := xs) (p := p) (m := m) (x := x) (by rw [h]; exact List.mem_cons_self)
  unfold planL at h ⊢
  rw [if_pos (by rw [hx.1, hx.2.1]; rfl)] at h ⊢
  exact planG_tail ho (ways_nodup p) h
theorem waysL_rt (hp : rightB p = true) : ∀ k : Nat, (k : Int) ≤ p.e → ∀ a ∈ waysL p k, rightB a = true
  | 0, _, a, h => by cases h
  | k + 1, hk, a, h => by
    rcases List.mem_append.1 h with h | h
    · exact waysL_rt hp k (by omega) a h
    · obtain rfl := List.mem_singleton.1 h
      exact cut_right hp (by omega) (by omega)
theorem ways_rt (h : a ∈ waysP p) : rightB a = true := by
  unfold waysP at h
  split at h
  · rename_i hp
    by_cases h0 : 0 ≤ p.e
    · exact waysL_rt hp _ (by omega) a h
    · rw [show p.e.toNat = 0 by omega] at h
      cases h
  · cases h
theorem plan_more (h : x ∈ planL xs p m) : covB (kn (ofL xs x.1)) (kn x.2) = false ∧ supN (kn (ofL xs x.1)) (kn x.2) = kn x.2 ∧ x.2 = (kn x.2 : Nat) ∧ 1 ≤ x.2 ∧ x.2 ≤ 6 ∧ rightB x.1 = true := by
  obtain ⟨h1, h2, hi⟩ := plan_item h
  have hk : kn x.2 = moreN xs p m x.1 := by rw [hi.more]; exact kn_nat (more_le _ _ _ _)
  have hx : x.2 = (kn x.2 : Nat) := by rw [hk]; exact hi.more
  have h0 : kn x.2 ≠ 0 := fun e => by
    have := hi.not
    rw [e] at this
    unfold covB at this
    simp [reN, imN] at this
  have h6 := kn_le x.2
  refine ⟨hi.not, ?_, hx, by omega, by omega, ?_⟩
  · rw [hk]
    unfold moreN
    exact sup_once _ (kn_le _) _ (kn_le _)
  · exact ways_rt hi.way
end
end Go.Proofs.YtlhhopanegnliaaGreatDoor.Lk
namespace Go.Proofs.YtlhhopanegnliaaGreatDoor
open Go Go.RowKit Go.Shelf
set_option maxRecDepth 100000

abbrev CC := Pa.Pt → Cx
noncomputable def stT (m : Nat) (mr : Int) (tx : Int) (p : Pa.Pt) (md fl : Int) (C : CC) : Int × Int × CC :=
  let n := nxL (heldL C tx) p md
  if n.2.2 ≠ 0 then (0, n.2.2, C) else if n.2.1 = false then (1, 0, C) else
    let Y := askT m mr (usC C) (ttC C) C tx n.1.1 n.1.2 fl
    (Y.1, Y.2.1, upC C n.1.1 Y.2.2)
noncomputable def goOn (tx : Int) (p : Pa.Pt) (md : Int) (C : CC) (s : Int × Int × CC) : Bool :=
  s.1 == 1 && (nxL (heldL s.2.2 tx) p md).2.1 && !Lk.eqH (nxL (heldL s.2.2 tx) p md).1 (nxL (heldL C tx) p md).1
noncomputable def tkT (m : Nat) (mr : Int) (tx : Int) (p : Pa.Pt) (md fl : Int) : Nat → CC → Int × Int × CC
  | 0, C => stT m mr tx p md fl C
  | n + 1, C => if goOn tx p md C (stT m mr tx p md fl C) then tkT m mr tx p md fl n (stT m mr tx p md fl C).2.2 else stT m mr tx p md fl C
theorem ask_once {tx m fl : Int} {H : List Hs.Hd} {L : List Ws.Wt} (h1 : (ask tx m fl H L).1 = 1) (hn : has tx m H = false) :
    (ask tx m fl H L).2.1 = 0 ∧ (ask tx m fl H L).2.2 = (grantH (reqW tx m fl H) H, L) ∧ atOnce tx m H L = true := by
  unfold ask at h1 ⊢
  by_cases e : errR tx m fl L ≠ 0
  · rw [if_pos e] at h1; simp at h1
  · rw [if_neg e] at h1 ⊢
    rw [hn] at h1 ⊢
    rw [if_neg (by decide)] at h1 ⊢
    by_cases ha : atOnce tx m H L = true
    · rw [if_pos ha]; exact ⟨rfl, rfl, ha⟩
    · rw [if_neg ha] at h1
      split at h1 <;> simp at h1
section
variable {m : Nat} {mr tx md fl : Int} {p : Pa.Pt} {C : CC}
theorem st_err (h : (nxL (heldL C tx) p md).2.2 ≠ 0) : stT m mr tx p md fl C = (0, (nxL (heldL C tx) p md).2.2, C) := by
  unfold stT
  simp only
  rw [if_pos h]
theorem st_none (h : (nxL (heldL C tx) p md).2.2 = 0) (h1 : (nxL (heldL C tx) p md).2.1 = false) : stT m mr tx p md fl C = (1, 0, C) := by
  unfold stT
  simp only
  rw [if_neg (by simp [h]), if_pos h1]
theorem st_ask {l : Lk} (h : nxL (heldL C tx) p md = (l, true, 0)) : stT m mr tx p md fl C =
    ((askT m mr (usC C) (ttC C) C tx l.1 l.2 fl).1, (askT m mr (usC C) (ttC C) C tx l.1 l.2 fl).2.1, upC C l.1 (askT m mr (usC C) (ttC C) C tx l.1 l.2 fl).2.2) := by
  unfold stT
  rw [h]
  rfl
theorem askT_one {u t : Nat} {q : Pa.Pt} {x : Int} (h : (askT m mr u t C tx q x fl).1 = 1) : (ask tx x fl (C q).1 (C q).2).1 = 1 ∧ (askT m mr u t C tx q x fl).2.2 = (ask tx x fl (C q).1 (C q).2).2.2 := by
  unfold askT at h ⊢
  simp only at h ⊢
  split at h
  · simp at h
  · rename_i h1
    rw [if_neg h1]
    split at h
    · simp at h
    · rename_i h2
      rw [if_neg h2]
      split at h
      · simp at h
      · rename_i h3
        rw [if_neg h3]
        exact ⟨h, rfl⟩
theorem plan_shorter (hf : Fnt C) (hf' : Fnt (stT m mr tx p md fl C).2.2) (h : goOn tx p md C (stT m mr tx p md fl C) = true) :
    (Lk.planL (heldL (stT m mr tx p md fl C).2.2 tx) p md).length + 1 = (Lk.planL (heldL C tx) p md).length := by
  unfold goOn at h
  simp only [Bool.and_eq_true, beq_iff_eq, Bool.not_eq_true'] at h
  obtain ⟨⟨h1, h2⟩, h3⟩ := h
  cases hp : Lk.planL (heldL C tx) p md with
  | nil =>
    have hn := nx_none hp
    by_cases he : (nxL (heldL C tx) p md).2.2 = 0
    · have hs := st_none (m := m) (mr := mr) (fl := fl) he (by rw [hn])
      rw [hs, hn] at h2
      cases h2
    · have hs := st_err (m := m) (mr := mr) (fl := fl) he
      rw [hs] at h1
      simp at h1
  | cons l r =>
    have hn := nx_some hp
    have hs := st_ask (m := m) (mr := mr) (fl := fl) hn
    have hmore := Lk.plan_more (xs := heldL C tx) (p := p) (m := md) (x := l) (by rw [hp]; exact List.mem_cons_self)
    rw [hf.held_of] at hmore
    rw [hs] at h1
    obtain ⟨k1, k2⟩ := askT_one h1
    have hno : has tx l.2 (C l.1).1 = false := by
      unfold has
      rw [hmore.1, Bool.and_false]
    obtain ⟨k3, k4, k5⟩ := ask_once k1 hno
    by_cases hi : (fl == 2) = true
    · have hC : (stT m mr tx p md fl C).2.2 = C := by
        rw [hs]
        simp only
        rw [k2, k4]
        refine upC_id ?_
        unfold grantH reqW
        rw [if_pos hi]
      rw [hC, hn] at h3
      rw [Lk.eqH_self] at h3
      cases h3
    · have hC : (stT m mr tx p md fl C).2.2 = upC C l.1 (Hs.setL tx (tgt tx l.2 (C l.1).1) (C l.1).1, (C l.1).2) := by
        rw [hs]
        simp only
        rw [k2, k4]
        unfold grantH reqW
        rw [if_neg hi]
      have ht : tgt tx l.2 (C l.1).1 = l.2 := by
        unfold tgt
        rw [hmore.2.1, ← hmore.2.2.1]
      have hto := Lk.plan_tail (xs := heldL C tx) (ys := heldL (stT m mr tx p md fl C).2.2 tx) (p := p) (m := md) (x := l) (l := r) (fun q => by
        rw [hf'.held_of, hf.held_of, hC]
        by_cases e : q = l.1
        · subst e
          rw [if_pos (Pa.eqP_self _), upC_same, Hs.setL_fst, ht]
        · rw [if_neg (by simp only [Pa.eqP_ne (Ne.symm e)]; decide), upC_ne _ _ e]) hp
      rcases hto with hto | hto
      · rw [hto, List.length_cons]
      · have := nx_none hto
        rw [this] at h2
        cases h2
end
end Go.Proofs.YtlhhopanegnliaaGreatDoor
namespace Go.Proofs.YtlhhopanegnliaaGreatDoor
open Go Go.RowKit Go.Shelf
set_option maxRecDepth 100000

theorem OnlyS.thn {T T' : Nat → Prop} {W w w' : World} (h : OnlyS T W w) (k : OnlyS T' w w') (hT : ∀ k, T' k → T k ∨ W.heap.size ≤ k) : OnlyS T W w' :=
  ⟨k.os.trans h.os, k.tape.trans h.tape, k.output.trans h.output, Nat.le_trans h.size k.size, fun i hi hn => (k.block i (Nat.lt_of_lt_of_le hi h.size) (fun ht => (hT i ht).elim hn (fun q => by omega))).trans (h.block i hi hn)⟩
section
variable {W W' w w' : World} {T U : Nat → Prop} {b ha mb m nb c u t : Nat} {B0 : Lo0} {mr r tt : Int} {ns : Ns} {fs : List Nat} {F : Int → Option Int} {S O : Nat → Prop} {C : CC}
theorem Tw.growX (h : Tw W b ha mb S O m mr r nb tt ns fs F B0) (ho : OnlyS U W W') (hU : ∀ k, U k → B0.X k) {X' : Nat → Prop} (hX : ∀ k, X' k → B0.X k ∨ W.heap.size ≤ k ∧ k < W'.heap.size) : Tw W' b ha mb S O m mr r nb tt ns fs F ⟨B0.n, X'⟩ := by
  have hn : ∀ k, Foot b S O ns k → ¬ U k := fun k hk hu => h.xf k (hU k hu) hk
  obtain ⟨f0, f1, f2, f3, f4⟩ := h.cells ho (hn b (.inl (.inl rfl)))
  obtain ⟨Lo, hm⟩ := h.mq
  refine ⟨f0, f1, f2, f3, f4, h.ar.keep ho (fun k hk => hn k (.inl (.inr (.inl hk)))), ⟨Lo, hm.only ho fun k hk => hn k (.inl (.inr (.inr hk)))⟩, ?_, h.qn, h.dq, h.so, h.sb, h.ob, h.lo, h.z, fun k hk => ?_, fun k hk hf => ?_⟩
  · intro j a hj
    obtain ⟨A3, c3, A4, c4, q, o3, o4⟩ := h.qs j a hj
    have hg : ∀ k, Kx b S O ⟨B0.n, X'⟩ k → Kx b S O B0 k ∨ W.heap.size ≤ k := fun k hk => by
      rcases hk with hk | hk
      · exact .inl (.inl hk)
      · exact (hX k hk).imp .inr (·.1)
    exact ⟨A3, c3, A4, c4, q.stay ho (hn _ (.inr ⟨j, a, hj, rfl⟩)) (o3.mono fun k hk => .inr (hU k hk)) (o4.mono fun k hk => .inr (hU k hk)), o3.grow q.h.in hg, o4.grow q.l.in hg⟩
  · rcases hX k hk with z | z
    · exact Nat.lt_of_lt_of_le (h.xl k z) ho.size
    · exact z.2
  · rcases hX k hk with z | z
    · exact h.xf k z hf
    · have := h.flt k hf; omega
theorem Ta.growX (h : Ta W b T m mr c C B0 u t) (ho : OnlyS U W W') (hU : ∀ k, U k → B0.X k) {X' : Nat → Prop} (hX : ∀ k, X' k → B0.X k ∨ W.heap.size ≤ k ∧ k < W'.heap.size) : Ta W' b T m mr c C ⟨B0.n, X'⟩ u t := by
  obtain ⟨ns, g1, g2⟩ := h.is
  obtain ⟨ha, mb, S, O, nb, t, fs, F, h1, h2, h3, h4, h5, h6⟩ := g1.is
  exact ⟨ns, ⟨ha, mb, S, O, nb, t, fs, F, h1.growX ho hU hX, h2, h3, h4, h5, h6⟩, g2⟩
theorem Ta.putX (h : Ta W b T m mr c C B0 u t) (ho : OnlyS U W W') (hU : ∀ k, U k → B0.X k) : Ta W' b T m mr c C B0 u t := h.growX ho hU fun _ hk => .inl hk
theorem Ta.ownX (h : Ta W b T m mr c C B0 u t) (hb : Below W.heap.size W W') {X' : Nat → Prop} (hX : ∀ k, X' k → B0.X k ∨ W.heap.size ≤ k ∧ k < W'.heap.size) : Ta W' b T m mr c C ⟨B0.n, X'⟩ u t :=
  h.growX (OnlyS.of_below (S := fun _ => False) hb) (fun _ hk => hk.elim) hX
theorem Ta.lessX (h : Ta W b T m mr c C B0 u t) {X' : Nat → Prop} (hX : ∀ k, X' k → B0.X k) : Ta W b T m mr c C ⟨B0.n, X'⟩ u t := h.ownX (Below.refl _ _) fun k hk => .inl (hX k hk)
theorem Ta.xl (h : Ta W b T m mr c C B0 u t) {k : Nat} (hk : B0.X k) : k < W.heap.size ∧ ¬ T k := by
  obtain ⟨ns, g1, g2⟩ := h.is
  exact g1.xl hk
theorem Ta.t0 (h : Ta W b T m mr c C B0 u t) : ¬ T 0 := fun hk => by
  have := (h.lt hk).1
  obtain ⟨ns, g1, g2⟩ := h.is
  have := g1.z
  omega
def Ch (W : World) (T : Nat → Prop) (b m : Nat) (mr : Int) (B0 : Lo0) (c : Nat) (C : CC) (w' : World) : Prop :=
  ∃ T' u' t', Ta w' b T' m mr c C B0 u' t' ∧ OnlyS T W w' ∧ ∀ k, T' k → T k ∨ W.heap.size ≤ k
theorem Ch.start (h : Ta W b T m mr c C B0 u t) : Ch W T b m mr B0 c C W := ⟨T, u, t, h, OnlyS.refl _ _, fun _ hk => .inl hk⟩
theorem Ch.below (h : Ch W T b m mr B0 c C w) (hb : Below w.heap.size w w') : Ch W T b m mr B0 c C w' := by
  obtain ⟨T', u', t', h1, h2, h3⟩ := h
  exact ⟨T', u', t', h1.below hb, h2.trans (OnlyS.of_below hb), h3⟩
theorem Ch.more {c' : Nat} (h : Ch W T b m mr B0 c C w) (hc : c ≤ c') : Ch W T b m mr B0 c' C w := by
  obtain ⟨T', u', t', h1, h2, h3⟩ := h
  exact ⟨T', u', t', h1.more hc, h2, h3⟩
theorem Ch.down (hb : Below W.heap.size W W') (h : Ch W' T b m mr B0 c C w) : Ch W T b m mr B0 c C w := by
  obtain ⟨T', u', t', h1, h2, h3⟩ := h
  exact ⟨T', u', t', h1, (OnlyS.of_below hb).trans h2, fun k hk => (h3 k hk).imp id (Nat.le_trans hb.size)⟩
theorem Ch.thn {c' : Nat} {C' : CC} {T1 : Nat → Prop} (ho : OnlyS T W w) (hT : ∀ k, T1 k → T k ∨ W.heap.size ≤ k) (h : Ch w T1 b m mr B0 c' C' w') : Ch W T b m mr B0 c' C' w' := by
  obtain ⟨T', u', t', h1, h2, h3⟩ := h
  refine ⟨T', u', t', h1, ho.thn h2 hT, fun k hk => ?_⟩
  rcases h3 k hk with z | z
  · exact hT k z
  · exact .inr (Nat.le_trans ho.size z)
theorem Ch.lessX {X' : Nat → Prop} (h : Ch W T b m mr B0 c C w) (hX : ∀ k, X' k → B0.X k) : Ch W T b m mr ⟨B0.n, X'⟩ c C w := by
  obtain ⟨T', u', t', h1, h2, h3⟩ := h
  exact ⟨T', u', t', h1.lessX hX, h2, h3⟩
theorem Ta.blk (h : Ta W b T m mr c C B0 u t) (ho : OnlyS T W W') {k : Nat} (hk : B0.X k) : W'.heap[k]? = W.heap[k]? := ho.block k (h.xl hk).1 (h.xl hk).2
set_option maxHeartbeats 1000000 in
theorem Ta.stepH (ht : TabG W) (h : Ta W b T m mr c C B0 u t) (hm : m ≤ 1000) (hc : c ≤ 239) (tx : Int) (p : Pa.Pt) (md fl : Int) {s : Int × Int × CC} (hs : stT m mr tx p md fl C = s) :
    Calls Tryz.prog 45 #[tp b, .int .i64 tx, p.v, .int .i64 md, .int .i64 fl] W fun e w' => e = .returned (.tuple #[.int .i64 s.1, .int .i64 s.2.1]) ∧ Ch W T b m mr B0 (c + 1) s.2.2 w' := by
  obtain ⟨hf, hu, htt⟩ := h.ord
  subst hu htt
  have hx := box_below W (.cells (pcs p) 30)
  have HX := Lib.hid hx
  have HT := Lib.hid ht
  have HTa := Lib.hid h
  have HN := Lib.hid (fun (w1 : World) (hb : Below W.heap.size W w1) => (h.below hb).next hm (by omega) tx p md)
  have HB := Lib.hid (Pbx.new W p 30)
  have E1 := Lib.hid (fun q => st_err (m := m) (mr := mr) (tx := tx) (p := p) (md := md) (fl := fl) (C := C) q)
  have E2 := Lib.hid (fun q q1 => st_none (m := m) (mr := mr) (tx := tx) (p := p) (md := md) (fl := fl) (C := C) q q1)
  have E3 := Lib.hid (fun l q => st_ask (m := m) (mr := mr) (tx := tx) (p := p) (md := md) (fl := fl) (C := C) (l := l) q)
  clear h hf ht hx
  generalize nxL (heldL C tx) p md = n at *
  obtain ⟨⟨⟨la, lb, lc, ld, le⟩, lm⟩, is, er⟩ := n
  obtain ⟨b0, b1, b2, b3, b4⟩ := HB.out
  simp only at E1 E2 E3 HN
  by_cases her : er = 0
  · subst her
    cases is
    · obtain rfl : s = (1, 0, C) := hs.symm.trans (E2.out rfl rfl)
      clear E1 E2 E3
      obtain ⟨pa, pb, pc, pd, pee⟩ := p
      simp only at b0 b1 b2 b3 b4 HX HB HN
      go_enter Tryz.func45, Tryz.ntmps45
      go_wp2_with fail
      refine (HN.out _ HX.out).mono ?_
      rintro e w1 ⟨rfl, hb1⟩
      have HB1 := Lib.hid (HX.out.trans (hb1.mono HX.out.size))
      clear hb1 HN HX HB b0 b1 b2 b3 b4
      go_wp2_with fail
      go_ret2
      exact ⟨rfl, ((Ch.start HTa.out).below (HB1.out.trans ((box_below _ _).mono HB1.out.size))).more (Nat.le_succ c)⟩
    · obtain rfl := hs.symm.trans (E3.out _ rfl)
      clear E1 E2 E3 hs
      obtain ⟨pa, pb, pc, pd, pee⟩ := p
      simp only at b0 b1 b2 b3 b4 HX HB HN
      go_enter Tryz.func45, Tryz.ntmps45
      go_wp2_with fail
      refine (HN.out _ HX.out).mono ?_
      rintro e w1 ⟨rfl, hb1⟩
      have HB1 := Lib.hid (HX.out.trans (hb1.mono HX.out.size))
      clear hb1 HN HX HB b0 b1 b2 b3 b4
      have HL := Lib.hid (show Lk.Bx (w1.alloc (.cells #[.int .i64 la, .int .i64 lb, .int .i64 lc, .int .i64 ld, .int .i64 le, .int .i64 lm] 39)) w1.heap.size (⟨la, lb, lc, ld, le⟩, lm) from heap_alloc_new _ _)
      have HB2 := Lib.hid (HB1.out.trans ((box_below w1 (.cells #[.int .i64 la, .int .i64 lb, .int .i64 lc, .int .i64 ld, .int .i64 le, .int .i64 lm] 39)).mono HB1.out.size))
      obtain ⟨c0, c1, c2, c3, c4, c5, -⟩ := HL.out.at
      simp only [Nat.zero_add] at c0 c1 c2 c3 c4 c5
      go_wp2_with fail
      refine ((HTa.out.below HB2.out).ask (HT.out.later HB2.out) hc tx lm fl ⟨la, lb, lc, ld, le⟩).mono ?_
      rintro e w3 ⟨rfl, T', u', t', k1, k2, k3, -, -⟩
      have HC := Lib.hid (Ch.down HB2.out (show Ch _ T b m mr B0 (c + 1) _ w3 from ⟨T', u', t', k1, k2, k3⟩))
      clear k1 k2 k3
      go_wp2_with fail
      go_ret2
      exact ⟨rfl, HC.out⟩
  · have he0 : (er != 0) = true := by simpa using her
    obtain rfl : s = (0, er, C) := hs.symm.trans (E1.out her)
    clear E1 E2 E3
    obtain ⟨pa, pb, pc, pd, pee⟩ := p
    simp only at b0 b1 b2 b3 b4 HX HB HN
    go_enter Tryz.func45, Tryz.ntmps45
    go_wp2_with fail
    refine (HN.out _ HX.out).mono ?_
    rintro e w1 ⟨rfl, hb1⟩
    have HB1 := Lib.hid (HX.out.trans (hb1.mono HX.out.size))
    clear hb1 HN HX HB b0 b1 b2 b3 b4
    go_wp2_with fail
    go_ret2
    exact ⟨rfl, ((Ch.start HTa.out).below (HB1.out.trans ((box_below _ _).mono HB1.out.size))).more (Nat.le_succ c)⟩
end
end Go.Proofs.YtlhhopanegnliaaGreatDoor
namespace Go.Proofs.YtlhhopanegnliaaGreatDoor
open Go Go.RowKit Go.Shelf
set_option maxRecDepth 100000

theorem sum_sub {g : Pa.Pt → Nat} : ∀ {l1 l2 : List Pa.Pt}, l1.Nodup → l2.Nodup → (∀ q ∈ l1, q ∈ l2) → (∀ q ∈ l2, q ∉ l1 → g q = 0) → (l1.map g).sum = (l2.map g).sum
  | [], l2, _, _, _, h0 => by
    have : ∀ l : List Pa.Pt, (∀ q ∈ l, g q = 0) → (l.map g).sum = 0 := fun l hl => by
      induction l with
      | nil => rfl
      | cons a l ih => rw [List.map_cons, List.sum_cons, hl a List.mem_cons_self, ih fun q hq => hl q (List.mem_cons_of_mem _ hq)]
    rw [this l2 fun q hq => h0 q hq (by simp)]
    rfl
  | a :: l1, l2, h1, h2, hs, h0 => by
    obtain ⟨s, t, rfl⟩ := List.append_of_mem (hs a List.mem_cons_self)
    have h1' := List.nodup_cons.1 h1
    have hp : (s ++ a :: t).Perm (a :: (s ++ t)) := List.perm_middle
    have h2' := List.nodup_cons.1 (hp.nodup_iff.1 h2)
    have ih := sum_sub (g := g) (l1 := l1) (l2 := s ++ t) h1'.2 h2'.2 (fun q hq => by
      have hm := hp.mem_iff.1 (hs q (List.mem_cons_of_mem _ hq))
      rcases List.mem_cons.1 hm with rfl | hm
      · exact absurd hq h1'.1
      · exact hm) (fun q hq hn => h0 q (hp.mem_iff.2 (List.mem_cons_of_mem _ hq)) fun hm => by
      rcases List.mem_cons.1 hm with rfl | hm
      · exact h2'.1 hq
      · exact hn hm)
    rw [List.map_cons, List.sum_cons, ih, List.map_append, List.map_append, List.sum_append, List.sum_append, List.map_cons, List.sum_cons]
    omega
noncomputable def smC (f : Cx → Nat) (C : CC) : Nat := ((psOf C).map fun p => f (C p)).sum
section
variable {f : Cx → Nat} {C : CC} {p : Pa.Pt} {x : Cx} {tx : Int}
open Classical in
theorem smC_up (hf0 : f ([], []) = 0) (h : Fnt C) (h' : Fnt (upC C p x)) : smC f (upC C p x) + f (C p) = smC f C + f x := by
  have hn : (p :: (psOf C).filter fun q => q ≠ p).Nodup := List.nodup_cons.2 ⟨by simp, h.ord.nodup.filter _⟩
  have e1 : smC f C = ((p :: (psOf C).filter fun q => q ≠ p).map fun q => f (C q)).sum :=
    sum_sub h.ord.nodup hn (fun q hq => by
      by_cases e : q = p
      · rw [e]; exact List.mem_cons_self
      · exact List.mem_cons_of_mem _ (List.mem_filter.2 ⟨hq, by simpa using e⟩)) (fun q _ hq => by rw [h.non hq, hf0])
  have e2 : smC f (upC C p x) = ((p :: (psOf C).filter fun q => q ≠ p).map fun q => f (upC C p x q)).sum :=
    sum_sub h'.ord.nodup hn (fun q hq => by
      by_cases e : q = p
      · rw [e]; exact List.mem_cons_self
      · refine List.mem_cons_of_mem _ (List.mem_filter.2 ⟨(h.ord.mem q).2 ?_, by simpa using e⟩)
        have := (h'.ord.mem q).1 hq
        rw [upC_ne _ _ e] at this
        exact this) (fun q _ hq => by rw [h'.non hq, hf0])
  have e3 : (((psOf C).filter fun q => q ≠ p).map fun q => f (upC C p x q)) = ((psOf C).filter fun q => q ≠ p).map fun q => f (C q) :=
    List.map_congr_left fun q hq => by rw [upC_ne _ _ (by simpa using (List.mem_filter.1 hq).2)]
  rw [e1, e2, List.map_cons, List.map_cons, List.sum_cons, List.sum_cons, e3, upC_same]
  omega
noncomputable def wsC (C : CC) : Nat := smC (fun x => x.2.length) C
theorem ws_le (C : CC) : wsC C ≤ ttC C := by
  unfold wsC smC ttC
  generalize psOf C = ps
  induction ps with
  | nil => exact Nat.le_refl _
  | cons q ps ih =>
    have ih' : (ps.map fun p => (C p).2.length).sum ≤ (ps.map fun p => szC (C p)).sum := ih
    have hq : (C q).2.length ≤ szC (C q) := Nat.le_add_left _ _
    simp only [List.map_cons, List.sum_cons]
    omega
theorem wout_fewer {L : List Ws.Wt} {w : Ws.Wt} (hw : w ∈ L) (h1 : w.1 = tx) : (Ws.wout tx L).length < L.length := by
  unfold Ws.wout
  exact List.length_filter_lt_length_iff_exists.2 ⟨w, hw, by simp [h1]⟩
theorem can_fewer {H : List Hs.Hd} {L : List Ws.Wt} {w : Ws.Wt} (hw : w ∈ L) (h1 : w.1 = tx) : (can tx H L).told.length + (can tx H L).ws.length + 1 ≤ L.length := by
  have h0 : 0 ≤ Ws.fndI tx L := by
    rcases Int.lt_or_le (Ws.fndI tx L) 0 with h | h
    · exact absurd h1 (fnd_neg h w hw)
    · exact h
  have e := congrArg List.length (swp_split (Ws.wout tx L) H)
  rw [List.length_append] at e
  have := wout_fewer hw h1
  unfold can
  rw [if_pos (by simpa using h0)]
  unfold swept
  simp only
  omega
theorem rel_fewer {H : List Hs.Hd} {L : List Ws.Wt} : (rel tx H L).told.length + (rel tx H L).ws.length ≤ L.length := by
  unfold rel
  split
  · simp
  · have e := congrArg List.length (swp_split (Ws.wout tx L) (Hs.wout tx H))
    rw [List.length_append] at e
    have : (Ws.wout tx L).length ≤ L.length := List.length_filter_le _ _
    unfold swept
    simp only
    omega
noncomputable def cnT (tx : Int) : Nat → CC → List Ws.Wt × CC
  | 0, C => ([], C)
  | n + 1, C =>
    match waitL C tx with
    | none => ([], C)
    | some x => ((relT can C tx x.1).told ++ (cnT tx n (upC C x.1 ((relT can C tx x.1).hs, (relT can C tx x.1).ws))).1, (cnT tx n (upC C x.1 ((relT can C tx x.1).hs, (relT can C tx x.1).ws))).2)
noncomputable def rlT (tx : Int) : List Lk → CC → List Ws.Wt × CC
  | [], C => ([], C)
  | x :: l, C => ((relT rel C tx x.1).told ++ (rlT tx l (upC C x.1 ((relT rel C tx x.1).hs, (relT rel C tx x.1).ws))).1, (rlT tx l (upC C x.1 ((relT rel C tx x.1).hs, (relT rel C tx x.1).ws))).2)
theorem cn_none (h : waitL C tx = none) : ∀ n, cnT tx n C = ([], C)
  | 0 => rfl
  | n + 1 => by rw [cnT, h]
theorem cn_some {y : Pa.Pt × Ws.Wt} (h : waitL C tx = some y) (n : Nat) : cnT tx (n + 1) C = ((relT can C tx y.1).told ++ (cnT tx n (upC C y.1 ((relT can C tx y.1).hs, (relT can C tx y.1).ws))).1, (cnT tx n (upC C y.1 ((relT can C tx y.1).hs, (relT can C tx y.1).ws))).2) := by
  rw [cnT, h]
theorem relT_right {g : Int → List Hs.Hd → List Ws.Wt → Out} (h : Pa.rightB p = true) : relT g C tx p = g tx (C p).1 (C p).2 := by
  unfold relT
  rw [if_neg (by unfold errP; rw [h]; decide)]
theorem cn_fewer {y : Pa.Pt × Ws.Wt} (hf : Fnt C) (h : waitL C tx = some y) (hf' : Fnt (upC C y.1 ((relT can C tx y.1).hs, (relT can C tx y.1).ws))) :
    (relT can C tx y.1).told.length + wsC (upC C y.1 ((relT can C tx y.1).hs, (relT can C tx y.1).ws)) + 1 ≤ wsC C := by
  obtain ⟨h1, h2, h3⟩ := wait_at h
  have e := smC_up (f := fun x => x.2.length) rfl hf hf'
  have k := can_fewer (H := (C y.1).1) h2 h3
  rw [← relT_right (g := can) (C := C) (hf.ord.rt _ h1)] at k
  unfold wsC
  simp only at e
  omega
theorem rl_fewer {q : Pa.Pt} (hf : Fnt C) (hf' : Fnt (upC C q ((relT rel C tx q).hs, (relT rel C tx q).ws))) :
    (relT rel C tx q).told.length + wsC (upC C q ((relT rel C tx q).hs, (relT rel C tx q).ws)) ≤ wsC C := by
  have e := smC_up (f := fun x => x.2.length) rfl hf hf'
  have k : (relT rel C tx q).told.length + (relT rel C tx q).ws.length ≤ (C q).2.length := by
    unfold relT
    split
    · simp
    · exact rel_fewer
  unfold wsC
  simp only at e
  omega
end
end Go.Proofs.YtlhhopanegnliaaGreatDoor
