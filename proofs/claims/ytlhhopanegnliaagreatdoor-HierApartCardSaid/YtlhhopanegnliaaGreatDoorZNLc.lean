import Derived.Test.YtlhhopanegnliaaGreatDoorZNLb
import Derived.Maps.OwnSet
import Derived.Maps.Views
import Derived.DeepKeys4
namespace Go.Proofs.YtlhhopanegnliaaGreatDoor.Lk
open Go Go.RowKit Go.Shelf Go.Maps Go.ChangeShapes Pa
set_option maxRecDepth 100000

theorem law25 : Keyed Tryz.prog 30 := Keyed.of_law (deep_law_laid laidOut (m := 4) (by omega) (of_decide_eq_true (by kernel_rfl)) (by kernel_rfl) (by rw [Tryz.underlying30]))
def klP (p : Pt) : Lit := .string (keyBytes [.int .i64 p.a, .int .i64 p.b, .int .i64 p.c, .int .i64 p.d, .int .i64 p.e])
theorem lits_int (d : Nat) {n : Int} (h : wf64 n) : Tryz.prog.keyLits (d + 1) 3 [.int .i64 n] = some [.int .i64 n] := by
  simp [Program.keyLits, Tryz.underlying3, h]
theorem lits_arr (d : Nat) {a b c e : Int} (ha : wf64 a) (hb : wf64 b) (hc : wf64 c) (he : wf64 e) :
    Tryz.prog.keyLits (d + 2) 28 [.int .i64 a, .int .i64 b, .int .i64 c, .int .i64 e] = some [.int .i64 a, .int .i64 b, .int .i64 c, .int .i64 e] := by
  unfold Program.keyLits
  simp only [Tryz.underlying28, cells23, cells3]
  rw [if_pos (by rfl), show List.range 4 = [0, 1, 2, 3] from rfl]
  simp [lits_int d ha, lits_int d hb, lits_int d hc, lits_int d he]
theorem lits_path (d : Nat) {p : Pt} (h : FitP p) :
    Tryz.prog.keyLits (d + 3) 30 [.int .i64 p.a, .int .i64 p.b, .int .i64 p.c, .int .i64 p.d, .int .i64 p.e] = some [.int .i64 p.a, .int .i64 p.b, .int .i64 p.c, .int .i64 p.d, .int .i64 p.e] := by
  unfold Program.keyLits
  simp only [Tryz.underlying30, cells25]
  rw [if_pos ⟨by rfl, by simp⟩]
  simp [cells23, cells3, lits_arr d h.a h.b h.c h.d, lits_int (d + 1) h.e]
theorem key_type25 : Tryz.prog.keyType 30 = true := by kernel_rfl
theorem types_size : ∃ d, Tryz.prog.types.size + 1 = d + 3 := ⟨Tryz.prog.types.size - 2, by have : 2 < Tryz.prog.types.size := of_decide_eq_true (by kernel_rfl); omega⟩
theorem key_of {p : Pt} (h : FitP p) : keyOf Tryz.prog 30 p.v = some (klP p) := by
  obtain ⟨d, hd⟩ := types_size
  have hf : Value.formed Tryz.prog 30 p.v = true := by simp [Value.formed, Tryz.underlying30, cells25]
  unfold keyOf
  rw [Tryz.underlying30]
  simp only [key_type25, hf, Bool.and_self, if_true, hd]
  rw [show (p.v).cells.toList = [.int .i64 p.a, .int .i64 p.b, .int .i64 p.c, .int .i64 p.d, .int .i64 p.e] from rfl, lits_path d h]
  rfl
theorem kl_inj {p q : Pt} (hp : FitP p) (hq : FitP q) (h : klP p = klP q) : p = q := by
  have h1 := key_of hp
  have h2 := key_of hq
  rw [← h] at h2
  have := law25.inj h1 h2
  obtain ⟨a, b, c, d, e⟩ := p
  obtain ⟨a', b', c', d', e'⟩ := q
  simpa using this
def inL (xs : List Hd) (p : Pt) : Bool := xs.any fun x => eqP x.1 p
def MapL (W : World) (b n : Nat) (xs : List Hd) : Prop :=
  ∃ D : DataW Unit, W.ownsMap Tryz.prog 30 (plainElem Tryz.prog 3) b n D ∧ ∀ p, FitP p → Maps.has D (klP p) = inL xs p ∧ D.atKey (klP p) (.lit (.int .i64 0)) = .lit (.int .i64 (ofL xs p))
theorem MapL.made (W : World) : MapL (W.alloc (.map #[] 0)) W.heap.size 0 [] := ⟨.map [], World.ownsMap_made W Tryz.prog 30 _, fun _ _ => ⟨rfl, rfl⟩⟩
theorem MapL.keep {W W' : World} {b n : Nat} {xs : List Hd} (h : MapL W b n xs) (hb : W'.heap[b]? = W.heap[b]?) : MapL W' b n xs := by
  obtain ⟨D, ⟨es, clock, h1, h2⟩, h3⟩ := h
  exact ⟨D, ⟨es, clock, hb.trans h1, h2⟩, h3⟩
theorem MapL.lt {W : World} {b n : Nat} {xs : List Hd} (h : MapL W b n xs) : b < W.heap.size := by
  obtain ⟨D, h1, _⟩ := h
  exact h1.lt
theorem MapL.below {W W' : World} {b n : Nat} {xs : List Hd} (h : MapL W b n xs) (hb : Below W.heap.size W W') : MapL W' b n xs := h.keep (hb.block _ h.lt)
theorem zero3 (w : World) : (zeroValue 3).run Tryz.prog w = .ok (.int .i64 0) w := by kernel_rfl
theorem MapL.look_ok {W : World} {b n : Nat} {xs : List Hd} (h : MapL W b n xs) {p : Pt} (hp : FitP p) :
    (Instr.lookup 126 (.map (some b)) p.v true).run Tryz.prog W = .ok (.tuple #[.int .i64 (ofL xs p), .bool (inL xs p)]) W := by
  obtain ⟨D, h1, h4⟩ := h
  obtain ⟨v, ps, hrun, hv⟩ := h1.look_ok law25 Tryz.underlying126 (zero3 W) (plainElem_int Tryz.underlying3 (by decide)) (key_of hp)
  obtain ⟨e1, e2⟩ := h4 p hp
  obtain ⟨c, rfl, hc, -⟩ := plainElem_int_inv Tryz.underlying3 hv
  simp only [Prod.mk.injEq] at hc
  rw [e2] at hc
  have := hc.1
  simp at this
  rw [hrun, e1, ← this]
theorem MapL.look {W : World} {b n : Nat} {xs : List Hd} (h : MapL W b n xs) {p : Pt} (hp : FitP p) :
    (Instr.lookup 126 (.map (some b)) p.v false).run Tryz.prog W = .ok (.int .i64 (ofL xs p)) W := by
  obtain ⟨D, h1, h4⟩ := h
  obtain ⟨c, hrun, hat, -⟩ := h1.lookup_int law25 Tryz.underlying126 Tryz.underlying3 (zero3 W) (key_of hp)
  rw [(h4 p hp).2] at hat
  simp at hat
  rw [hrun, ← hat]
theorem of_snoc {p : Pt} : ∀ (xs : List Hd) (x : Hd), ofL (xs ++ [x]) p = if inL xs p then ofL xs p else if eqP x.1 p then x.2 else 0
  | [], x => by simp [ofL, inL]
  | y :: xs, x => by
    have ih := of_snoc (p := p) xs x
    simp only [List.cons_append, ofL, inL, List.any_cons] at ih ⊢
    by_cases hy : eqP y.1 p = true
    · simp [hy]
    · have hy' : eqP y.1 p = false := by simpa using hy
      simp only [hy', Bool.false_or, Bool.false_eq_true, if_false, ih]
      rfl
theorem in_snoc (xs : List Hd) (x : Hd) (p : Pt) : inL (xs ++ [x]) p = (inL xs p || eqP x.1 p) := by simp [inL]
theorem of_out {xs : List Hd} {p : Pt} (h : inL xs p = false) : ofL xs p = 0 := of_none fun x hx => by
  have := List.any_eq_false.1 h x hx
  simpa using this
theorem MapL.put {W : World} {b n : Nat} {xs : List Hd} (h : MapL W b n xs) {x : Hd} (hp : FitP x.1) (hn : inL xs x.1 = false) (hm : wf64 x.2) (hl : n ≤ 10000) :
    ∃ w', (Instr.mapUpdate 126 (.map (some b)) x.1.v (.int .i64 x.2)).run Tryz.prog W = .ok () w' ∧ MapL w' b (n + 1) (xs ++ [x]) ∧ W.grownBy w' (some b) := by
  obtain ⟨D, h1, h4⟩ := h
  obtain ⟨w', hrun, ho, hg⟩ := h1.update law25 Tryz.underlying126 (by unfold maxLen; omega) (key_of hp) (plainElem_int Tryz.underlying3 hm)
  have hM := h1.isMap
  refine ⟨w', hrun, ⟨_, ho, fun q hq => ?_⟩, hg⟩
  rw [in_snoc, of_snoc]
  by_cases e : x.1 = q
  · subst e
    rw [Maps.has_put_same hM (law25.key (key_of hp)), Maps.atKey_put_same hM (law25.key (key_of hp)), hn, eqP_self]
    simp
  · have e' : klP q ≠ klP x.1 := fun h => e (kl_inj hp hq h.symm)
    rw [Maps.has_put_other e', Maps.atKey_put_other e', (h4 q hq).1, (h4 q hq).2, eqP_ne e]
    cases hi : inL xs q
    · simp [of_out hi]
    · simp
end Go.Proofs.YtlhhopanegnliaaGreatDoor.Lk
namespace Go.Proofs.YtlhhopanegnliaaGreatDoor.Lk
open Go Go.RowKit Go.Shelf Pa
set_option maxRecDepth 100000
def levN (xs : List Hd) : List Pt → Nat := List.foldl (fun l a => max l (reN (kn (ofL xs a)))) 0
theorem lev_snoc (xs : List Hd) (ps : List Pt) (a : Pt) : levN xs (ps ++ [a]) = max (levN xs ps) (reN (kn (ofL xs a))) := by unfold levN; rw [List.foldl_append]; rfl
def levL (xs : List Hd) (p : Pt) : Nat := levN xs (waysP p)
theorem run_max_int (P : Program) (ts : Array TypeId) (t : TypeId) (x y : Nat) (w : World) :
    (Builtin.max_ ts t #[.int .i64 (x : Nat), .int .i64 (y : Nat)]).run P w = .ok (.int .i64 (max x y : Nat)) w := by
  rcases Nat.lt_or_ge x y with h | h
  · have e : max x y = y := by omega
    have h' : (x : Int) < y := by omega
    rw [e]
    simp [Builtin.max_, Builtin.max2, h']
  · have e : max x y = x := by omega
    have h' : ¬ (x : Int) < y := by omega
    rw [e]
    simp [Builtin.max_, Builtin.max2, h']
theorem take_next {α : Type} {l : List α} {k : Nat} (h : k < l.length) : l.take (k + 1) = l.take k ++ [l[k]] := List.take_succ_eq_append_getElem h
section
variable {W W' : World} {A : Option Addr} {c : Nat} {xs : List Hd}
set_option maxHeartbeats 2000000 in
theorem level_any (hr : Ls W A c xs) (hl : xs.length ≤ 1000) (q : Pt) :
    Calls Tryz.prog 22 #[.slice A xs.length c, q.v] W fun e w' => e = .returned (.int .i64 (levL xs q : Nat)) ∧ Below W.heap.size W w' := by
  have HO := Lib.hid (fun (w1 : World) (hb : Below W.heap.size W w1) (q : Pt) => of_any (hr.below hb) hl q)
  obtain ⟨ps, hps⟩ : ∃ ps, waysP q = ps := ⟨_, rfl⟩
  have h4 : ps.length ≤ 4 := by rw [← hps]; exact waysP_len q
  have HW := Lib.hid hps
  unfold levL
  rw [hps]
  have hx := Go.Proofs.YtlhhopanegnliaaGreatDoor.box_below W (.cells #[.int .i64 q.a, .int .i64 q.b, .int .i64 q.c, .int .i64 q.d, .int .i64 q.e] 30)
  have HX := Lib.hid hx
  clear hps hr hx
  obtain ⟨a, b, c', d, e⟩ := q
  simp only at HX
  generalize xs.length = len at *
  go_enter Tryz.func22, Tryz.ntmps22
  go_wp2_with fail
  refine (ways_any ⟨a, b, c', d, e⟩ _).mono ?_
  rintro r1 w1 ⟨v, rfl, hrow, hb1⟩
  rw [HW.out] at hrow
  have HB1 := Lib.hid (HX.out.trans (hb1.mono HX.out.size))
  clear hb1
  rcases hrow.row with ⟨rfl, rfl⟩ | ⟨g, cap, rfl, hg, hc⟩
  · go_wp2_with fail
    refine wp_loop_rounds 1 ?_
    rw [rounds_succ]
    go_wp2_with fail
    go_ret
    exact ⟨rfl, HB1.out⟩
  · have HC := Lib.hid hc
    obtain ⟨n, hn⟩ : ∃ n, ps.length = n := ⟨_, rfl⟩
    have HN := Lib.hid hn
    rw [hn] at h4
    rw [hn]
    clear hc hrow hn
    go_wp2_with fail
    go_loopw [5, 11] (fun l i wr => ∃ k : Nat, k ≤ n ∧ i = .int .i64 (k : Nat) ∧ l = .int .i64 (levN xs (ps.take k) : Nat) ∧ Below w1.heap.size w1 wr) (fun _ i _ => n - (intOf i).toNat)
    case atStart => exact ⟨0, by omega, rfl, rfl, Below.refl _ _⟩
    case round =>
      obtain ⟨k, hk, rfl, rfl, hb⟩ := hrel
      by_cases hlt : k < n
      · have i1 : (0 : Int) ≤ (k : Int) := by omega
        have i2 : (k : Int) < (n : Int) := by omega
        have hkl : k < ps.length := by rw [HN.out]; exact hlt
        obtain ⟨q0, q1, q2, q3, q4⟩ := HC.out k hkl
        obtain ⟨⟨x0, x1, x2, x3, x4⟩, hx⟩ : ∃ x, ps[k]'hkl = x := ⟨_, rfl⟩
        have HS := Lib.hid (lev_snoc xs (ps.take k) (ps[k]'hkl))
        rw [← take_next hkl, hx] at HS
        rw [hx] at q0 q1 q2 q3 q4
        simp only at q0 q1 q2 q3 q4
        obtain ⟨kc, _⟩ := kept hb
        have t0 := (kc g (k * 5) hg).trans q0
        have t1 := (kc g (k * 5 + 1) hg).trans q1
        have t2 := (kc g (k * 5 + 2) hg).trans q2
        have t3 := (kc g (k * 5 + 3) hg).trans q3
        have t4 := (kc g (k * 5 + 4) hg).trans q4
        have HBw := Lib.hid (hb.alloc hb.size (.cells #[.int .i64 x0, .int .i64 x1, .int .i64 x2, .int .i64 x3, .int .i64 x4] 30))
        clear q0 q1 q2 q3 q4 kc hx hb
        obtain ⟨l, hl⟩ : ∃ l, levN xs (ps.take k) = l := ⟨_, rfl⟩
        rw [hl] at HS ⊢
        clear hl
        go_wp2_with fail
        refine (HO.out _ (thenCall HB1.out HBw.out) ⟨x0, x1, x2, x3, x4⟩).mono ?_
        rintro e2 w2 ⟨rfl, hb2⟩
        have HB2 := Lib.hid (thenCall HBw.out hb2)
        obtain ⟨r, hr⟩ : ∃ r, ofL xs ⟨x0, x1, x2, x3, x4⟩ = r := ⟨_, rfl⟩
        rw [hr] at HS ⊢
        clear hr hb2 t0 t1 t2 t3 t4
        go_wp2_with fail
        refine (does_any r _).mono ?_
        rintro e3 w3 ⟨rfl, hb3⟩
        have HB3 := Lib.hid (thenCall HB2.out hb3)
        have hm := fun ts t => run_max_int Tryz.prog ts t l (reN (kn r))
        clear hb3
        go_wp2_with fail
        go_roundw
        case rel => exact ⟨k + 1, by omega, by go_num, by rw [HS.out], HB3.out⟩
        case measure => simp [intOf]; omega
      · obtain rfl : k = n := by omega
        have HT := Lib.hid (List.take_of_length_le (l := ps) (i := k) (Nat.le_of_eq HN.out))
        go_wp2_with fail
        go_ret
        exact ⟨by rw [HT.out]; rfl, thenCall HB1.out hb⟩
end
end Go.Proofs.YtlhhopanegnliaaGreatDoor.Lk
namespace Go.Proofs.YtlhhopanegnliaaGreatDoor.Lk
open Go Go.RowKit Go.Shelf Pa
set_option maxRecDepth 100000

theorem sup_l : ∀ i, i ≤ 6 → ∀ j, j ≤ 6 → covB (supN i j) i = true := by decide +kernel
theorem sup_r : ∀ i, i ≤ 6 → ∀ j, j ≤ 6 → covB (supN i j) j = true := by decide +kernel
theorem cov_anti : ∀ i, i ≤ 6 → ∀ j, j ≤ 6 → covB i j = true → covB j i = true → i = j := by decide +kernel
theorem cov_zero : ∀ j, j ≤ 6 → covB 0 j = true → j = 0 := by decide +kernel
theorem kn_par (j : Nat) : kn ((parN j : Nat) : Int) = parN j := by
  apply kn_nat
  unfold parN
  split
  · omega
  · split <;> omega
end Go.Proofs.YtlhhopanegnliaaGreatDoor.Lk
namespace Go.Proofs.YtlhhopanegnliaaGreatDoor.Lk
open Go Go.RowKit Go.Shelf Pa
set_option maxRecDepth 100000
structure LkAt (w : World) (B : Nat) (x : Hd) : Prop where
  c0 : w.cell? ⟨B, 0, none⟩ = some (.int .i64 x.1.a)
  c1 : w.cell? ⟨B, 1, none⟩ = some (.int .i64 x.1.b)
  c2 : w.cell? ⟨B, 2, none⟩ = some (.int .i64 x.1.c)
  c3 : w.cell? ⟨B, 3, none⟩ = some (.int .i64 x.1.d)
  c4 : w.cell? ⟨B, 4, none⟩ = some (.int .i64 x.1.e)
  c5 : w.cell? ⟨B, 5, none⟩ = some (.int .i64 x.2)
  lt : B < w.heap.size
theorem LkAt.later {W W' : World} {B : Nat} {x : Hd} (h : LkAt W B x) (hb : Below W.heap.size W W') : LkAt W' B x := by
  obtain ⟨k, _⟩ := kept hb
  exact ⟨(k _ _ h.lt).trans h.c0, (k _ _ h.lt).trans h.c1, (k _ _ h.lt).trans h.c2, (k _ _ h.lt).trans h.c3, (k _ _ h.lt).trans h.c4, (k _ _ h.lt).trans h.c5, Nat.lt_of_lt_of_le h.lt hb.size⟩
theorem LkAt.new (w : World) (x : Hd) : LkAt (w.alloc (.cells #[.int .i64 x.1.a, .int .i64 x.1.b, .int .i64 x.1.c, .int .i64 x.1.d, .int .i64 x.1.e, .int .i64 x.2] 39)) w.heap.size x := by
  refine ⟨?_, ?_, ?_, ?_, ?_, ?_, by simp⟩ <;> simp [go_sem]
theorem wgives {W0 : World} {f : Nat} {args : Array Value} {v : Value} (h : ∀ w, Below W0.heap.size W0 w → Calls Tryz.prog f args w fun e w' => e = .returned v ∧ Below w.heap.size w w') : Pa.Gives W0 f args v :=
  fun w' hb => (h w' hb).mono fun _ _ ⟨he, hb'⟩ => ⟨he, hb.trans (hb'.mono hb.size)⟩
end Go.Proofs.YtlhhopanegnliaaGreatDoor.Lk
namespace Go.Proofs.YtlhhopanegnliaaGreatDoor.Lk
open Go Go.RowKit Go.Shelf Pa
set_option maxRecDepth 100000

theorem wf_small {x : Int} (h0 : 0 ≤ x) (h1 : x ≤ 999) : wf64 x := by
  have e1 : IntKind.i64.min = -9223372036854775808 := by decide
  have e2 : IntKind.i64.max = 9223372036854775807 := by decide
  show (decide (IntKind.i64.min ≤ x) && decide (x ≤ IntKind.i64.max)) = true
  rw [decide_eq_true (by omega : IntKind.i64.min ≤ x), decide_eq_true (by omega : x ≤ IntKind.i64.max)]
  rfl
@[go_sem] theorem mk42 (W : World) : (Instr.makeMap 126 none).run Tryz.prog W = .ok (.map (some W.heap.size)) (W.alloc (.map #[] 0)) := by
  simp [Instr.makeMap, newObj]
  rfl
theorem fit_right {p : Pt} (h : rightB p = true) : FitP p := by
  obtain ⟨a, b, c, d, e⟩ := p
  have hf := (right_iff a b c d e).1 h
  exact ⟨wf_small hf.a0 hf.a9, wf_small hf.b0 hf.b9, wf_small hf.c0 hf.c9, wf_small hf.d0 hf.d9, wf_small (by have := hf.e1; simp; omega) (by have := hf.e4; simp; omega)⟩
def Rt1 (xs : List Hd) : Prop := (xs.map (·.1)).Nodup ∧ ∀ x ∈ xs, rightB x.1 = true ∧ 1 ≤ x.2 ∧ x.2 ≤ 6
def upB (xs : List Hd) (x : Hd) : Bool := x.1.e == 1 || covB (kn (ofL xs (cutP x.1 (x.1.e - 1)))) (parN (kn x.2))
def Rt (xs : List Hd) : Prop := Rt1 xs ∧ ∀ x ∈ xs, upB xs x = true
theorem in_iff {xs : List Hd} {p : Pt} : inL xs p = true ↔ p ∈ xs.map (·.1) := by
  unfold inL
  rw [List.any_eq_true, List.mem_map]
  constructor
  · rintro ⟨x, hx, he⟩
    exact ⟨x, hx, (eqP_iff _ _).1 he⟩
  · rintro ⟨x, hx, rfl⟩
    exact ⟨x, hx, eqP_self _⟩
theorem rt1_nil : Rt1 [] := ⟨by simp, by simp⟩
theorem rt1_snoc {xs : List Hd} {x : Hd} : Rt1 (xs ++ [x]) ↔ Rt1 xs ∧ inL xs x.1 = false ∧ rightB x.1 = true ∧ 1 ≤ x.2 ∧ x.2 ≤ 6 := by
  have hin : inL xs x.1 = false ↔ x.1 ∉ xs.map (·.1) := by rw [← in_iff]; simp
  unfold Rt1
  rw [List.map_append, List.nodup_append, hin]
  constructor
  · rintro ⟨⟨h1, -, h2⟩, h3⟩
    exact ⟨⟨h1, fun y hy => h3 y (by simp [hy])⟩, fun hm => h2 _ hm _ (by simp) rfl, h3 x (by simp)⟩
  · rintro ⟨⟨h1, h2⟩, h3, h4⟩
    refine ⟨⟨h1, by simp, fun a ha b hb => ?_⟩, fun y hy => ?_⟩
    · simp at hb
      subst hb
      rintro rfl
      exact h3 ha
    · rcases List.mem_append.1 hy with hy | hy
      · exact h2 y hy
      · simp at hy; subst hy; exact h4
theorem rt1_take {xs : List Hd} (h : Rt1 xs) (k : Nat) : Rt1 (xs.take k) :=
  ⟨by rw [List.map_take]; exact h.1.sublist (List.take_sublist _ _), fun x hx => h.2 x (List.take_subset _ _ hx)⟩
def Tells (W : World) (P : Prop) (e : Ending) (w' : World) : Prop := ∃ b : Bool, e = .returned (.bool b) ∧ (b = true ↔ P) ∧ Below W.heap.size W w'
theorem tells_no {W w' : World} {P : Prop} (hb : Below W.heap.size W w') (h : ¬ P) : Tells W P (.returned (.bool false)) w' := ⟨false, rfl, by simp [h], hb⟩
section
variable {W W' : World} {A : Option Addr} {c : Nat} {xs : List Hd}
structure R1 (W : World) (xs : List Hd) (j : Nat) (wr : World) : Prop where
  map : MapL wr W.heap.size j (xs.take j)
  ok : Rt1 (xs.take j)
  bel : Below W.heap.size W wr
structure R2 (W : World) (xs : List Hd) (n j : Nat) (wr : World) : Prop where
  map : MapL wr W.heap.size n xs
  ok : ∀ i (_ : i < j) (h : i < xs.length), upB xs xs[i] = true
  bel : Below W.heap.size W wr
theorem up_is {p : Pt} (h : rightB p = true) (h1 : p.e ≠ 1) : upV p = .tuple #[(cutP p (p.e - 1)).v, .bool true] := by unfold upV; rw [if_pos ⟨h, h1⟩]
theorem up_no {p : Pt} (h1 : p.e = 1) : upV p = .tuple #[.agg #[.int .i64 0, .int .i64 0, .int .i64 0, .int .i64 0, .int .i64 0], .bool false] := by unfold upV; rw [if_neg (fun q => q.2 h1)]
set_option maxHeartbeats 8000000 in
theorem right_any (hr : Ls W A c xs) (hl : xs.length ≤ 1000) (hf : ∀ x ∈ xs, FitP x.1) : Calls Tryz.prog 40 #[.slice A xs.length c] W (Tells W (Rt xs)) := by
  have HR := Lib.hid hr
  have HF := Lib.hid hf
  obtain ⟨n, hn⟩ : ∃ n, xs.length = n := ⟨_, rfl⟩
  have HN := Lib.hid hn
  have HM := Lib.hid (MapL.made W)
  have HB0 := Lib.hid (Go.Proofs.YtlhhopanegnliaaGreatDoor.box_below W (.map #[] 0))
  rw [hn] at hl ⊢
  clear hr hf hn
  go_enter Tryz.func40, Tryz.ntmps40
  go_wp2_with fail
  go_loopw [15] (fun t wr => ∃ j : Nat, j ≤ n ∧ t = .int .i64 j ∧ R1 W xs j wr) (fun t _ => n - (intOf t).toNat)
  case atStart => exact ⟨0, by omega, rfl, HM.out, rt1_nil, HB0.out⟩
  case round =>
    obtain ⟨j, hj, rfl, hR⟩ := hrel
    have HR1 := Lib.hid hR
    clear hR
    by_cases hjn : j < n
    · have hjl : j < xs.length := by rw [HN.out]; exact hjn
      have i1 : (0 : Int) ≤ (j : Int) := by omega
      have i2 : (j : Int) < (n : Int) := by omega
      obtain ⟨a, rfl, hh⟩ := (HR.out.below HR1.out.bel).here hjl
      obtain ⟨x, hx⟩ : ∃ x, xs[j] = x := ⟨_, rfl⟩
      rw [hx] at hh
      have HFx := Lib.hid (HF.out x (by rw [← hx]; exact List.getElem_mem hjl))
      have HT : Hid (xs.take (j + 1) = xs.take j ++ [x]) := by unfold Hid; rw [List.take_succ_eq_append_getElem hjl, hx]
      clear hx
      obtain ⟨c0, c1, c2, c3, c4, c5⟩ := hh
      have HBx := Lib.hid (Go.Proofs.YtlhhopanegnliaaGreatDoor.box_below wr (.cells #[.int .i64 x.1.a, .int .i64 x.1.b, .int .i64 x.1.c, .int .i64 x.1.d, .int .i64 x.1.e, .int .i64 x.2] 39))
      have HXx := Lib.hid (LkAt.new wr x)
      have hlk := (HR1.out.map.below HBx.out).look_ok HFx.out
      obtain ⟨⟨xa, xb, xc, xd, xe⟩, xm⟩ := x
      simp only at c0 c1 c2 c3 c4 c5 hlk HBx HXx
      cases hi : inL (xs.take j) ⟨xa, xb, xc, xd, xe⟩
      · rw [hi] at hlk
        have HM2 := Lib.hid (fun w => may_any ⟨xa, xb, xc, xd, xe⟩ w)
        cases hp : rightB ⟨xa, xb, xc, xd, xe⟩
        · rw [hp] at HM2
          have HNo : Hid (¬ Rt xs) := fun h => by
            have := rt1_take h.1 (j + 1)
            rw [HT.out, rt1_snoc] at this
            have := this.2.2.1
            simp only at this
            rw [hp] at this
            cases this
          go_wp2_with fail
          refine (HM2.out _).mono ?_
          rintro e1 w1 ⟨rfl, hb1⟩
          have HB1 := Lib.hid (thenCall HR1.out.bel (thenCall HBx.out hb1))
          clear hb1 c0 c1 c2 c3 c4 c5 hlk
          go_wp2_with fail
          go_ret
          exact tells_no HB1.out HNo.out
        · rw [hp] at HM2
          by_cases h1 : xm < 1
          · have HNo : Hid (¬ Rt xs) := fun h => by
              have := rt1_take h.1 (j + 1)
              rw [HT.out, rt1_snoc] at this
              have := this.2.2.2
              simp only at this
              omega
            go_wp2_with fail
            refine (HM2.out _).mono ?_
            rintro e1 w1 ⟨rfl, hb1⟩
            obtain ⟨d0, d1, d2, d3, d4, d5, hltx⟩ := HXx.out.later hb1
            simp only at d0 d1 d2 d3 d4 d5 hltx
            have HB1 := Lib.hid (thenCall HR1.out.bel (thenCall HBx.out hb1))
            clear hb1 c0 c1 c2 c3 c4 c5 hlk
            go_wp2_with fail
            go_ret
            exact tells_no HB1.out HNo.out
          · by_cases h6 : 6 < xm
            · have HNo : Hid (¬ Rt xs) := fun h => by
                have := rt1_take h.1 (j + 1)
                rw [HT.out, rt1_snoc] at this
                have := this.2.2.2
                simp only at this
                omega
              go_wp2_with fail
              refine (HM2.out _).mono ?_
              rintro e1 w1 ⟨rfl, hb1⟩
              obtain ⟨d0, d1, d2, d3, d4, d5, hltx⟩ := HXx.out.later hb1
              simp only at d0 d1 d2 d3 d4 d5 hltx
              have HB1 := Lib.hid (thenCall HR1.out.bel (thenCall HBx.out hb1))
              clear hb1 c0 c1 c2 c3 c4 c5 hlk
              go_wp2_with fail
              go_ret
              exact tells_no HB1.out HNo.out
            · have HR1' : Hid (Rt1 (xs.take (j + 1))) := by
                unfold Hid
                rw [HT.out, rt1_snoc]
                exact ⟨HR1.out.ok, hi, hp, by simp only; omega, by simp only; omega⟩
              have HIn := Lib.hid hi
              go_wp2_with fail
              refine (HM2.out _).mono ?_
              rintro e1 w1 ⟨rfl, hb1⟩
              obtain ⟨d0, d1, d2, d3, d4, d5, hltx⟩ := HXx.out.later hb1
              simp only at d0 d1 d2 d3 d4 d5 hltx
              have HB1 := Lib.hid (thenCall HR1.out.bel (thenCall HBx.out hb1))
              obtain ⟨w2, hrun, hm2, hg2⟩ := ((HR1.out.map.below HBx.out).below hb1).put (x := (⟨xa, xb, xc, xd, xe⟩, xm)) HFx.out HIn.out (wf_small (by simp only; omega) (by simp only; omega)) (by omega)
              simp only at hrun
              have HMm := Lib.hid hm2
              have HB2 := Lib.hid (HB1.out.grown hg2 HB1.out.size (fun q hq => by cases hq; exact Nat.le_refl _))
              clear hb1 c0 c1 c2 c3 c4 c5 hlk hm2 hg2 hi hp
              go_wp2_with fail
              go_roundw
              case rel => exact ⟨j + 1, by omega, by go_num, by rw [HT.out]; exact HMm.out, HR1'.out, HB2.out⟩
              case measure => simp [intOf]; omega
      · rw [hi] at hlk
        have HNo : Hid (¬ Rt xs) := fun h => by
          have := rt1_take h.1 (j + 1)
          rw [HT.out, rt1_snoc] at this
          have := this.2.1
          simp only at this
          rw [hi] at this
          cases this
        have HB1 := Lib.hid (thenCall HR1.out.bel HBx.out)
        go_wp2_with fail
        go_ret
        exact tells_no HB1.out HNo.out
    · obtain rfl : j = n := by omega
      have HTk : Hid (xs.take j = xs) := List.take_of_length_le (Nat.le_of_eq HN.out)
      have HMp := HR1.out.map
      have HOk := HR1.out.ok
      have HBl := HR1.out.bel
      rw [HTk.out] at HMp HOk
      have HR2 : Hid (R2 W xs j 0 wr) := ⟨HMp, fun i hi => by omega, HBl⟩
      have HOk := Lib.hid HOk
      clear HMp HBl HR1 HTk
      go_wp2_with fail
      go_loopw [51] (fun t w2 => ∃ i : Nat, i ≤ j ∧ t = .int .i64 i ∧ R2 W xs j i w2) (fun t _ => j - (intOf t).toNat)
      case atStart => exact ⟨0, by omega, rfl, HR2.out⟩
      case round =>
        obtain ⟨i, hi, rfl, hR⟩ := hrel
        have HR3 := Lib.hid hR
        clear hR HR2
        by_cases hij : i < j
        · have hil : i < xs.length := by rw [HN.out]; exact hij
          have i1 : (0 : Int) ≤ (i : Int) := by omega
          have i2 : (i : Int) < (j : Int) := by omega
          obtain ⟨a, rfl, hh⟩ := (HR.out.below HR3.out.bel).here hil
          obtain ⟨x, hx⟩ : ∃ x, xs[i] = x := ⟨_, rfl⟩
          rw [hx] at hh
          have HX := Lib.hid hx
          have HMem : Hid (x ∈ xs) := by rw [← hx]; exact List.getElem_mem hil
          have hright := (HOk.out.2 x HMem.out).1
          clear hx
          obtain ⟨c0, c1, c2, c3, c4, c5⟩ := hh
          have HBx := Lib.hid (Go.Proofs.YtlhhopanegnliaaGreatDoor.box_below wr (.cells #[.int .i64 x.1.a, .int .i64 x.1.b, .int .i64 x.1.c, .int .i64 x.1.d, .int .i64 x.1.e, .int .i64 x.2] 39))
          have HXx := Lib.hid (LkAt.new wr x)
          have HU := Lib.hid (fun w => up_any x.1 w)
          by_cases h1 : x.1.e = 1
          · rw [up_no h1] at HU
            have HOkx : Hid (upB xs x = true) := by unfold Hid upB; simp [h1]
            obtain ⟨⟨xa, xb, xc, xd, xe⟩, xm⟩ := x
            simp only at c0 c1 c2 c3 c4 c5 HBx HXx HU
            clear h1 hright
            go_wp2_with fail
            refine (HU.out _).mono ?_
            rintro e1 w1 ⟨rfl, hb1⟩
            have HB1 := Lib.hid (thenCall HBx.out hb1)
            clear hb1 c0 c1 c2 c3 c4 c5
            go_wp2_with fail
            have HBy := Lib.hid (Go.Proofs.YtlhhopanegnliaaGreatDoor.box_below w1 (.cells #[.int .i64 0, .int .i64 0, .int .i64 0, .int .i64 0, .int .i64 0] 30))
            generalize w1.alloc (.cells #[.int .i64 0, .int .i64 0, .int .i64 0, .int .i64 0, .int .i64 0] 30) = W1 at *
            refine Pa.wp_region_later W1 (by kernel_rfl) (by kernel_rfl) (Below.refl _ _) ?_
            repeat (go_big_quiet_step (fail))
            refine wpQuiet_nil ?_
            rintro _ ⟨⟨w4, hb4⟩, rfl⟩
            have HB4 := Lib.hid (thenCall (thenCall HB1.out HBy.out) hb4)
            clear hb4
            go_wp2_with fail
            go_roundw
            case rel =>
              refine ⟨i + 1, by omega, by go_num, HR3.out.map.below HB4.out, fun k hk hkl => ?_, thenCall HR3.out.bel HB4.out⟩
              by_cases e : k = i
              · subst e
                rw [HX.out]; exact HOkx.out
              · exact HR3.out.ok k (by omega) hkl
            case measure => simp [intOf]; omega
          · obtain ⟨u, hu⟩ : ∃ u, cutP x.1 (x.1.e - 1) = u := ⟨_, rfl⟩
            have hur : rightB u = true := by
              rw [← hu]
              have := right_depth hright
              exact cut_right hright (by omega) (by omega)
            have HFu := Lib.hid (fit_right hur)
            rw [up_is hright h1, hu] at HU
            have HUp : Hid (upB xs x = covB (kn (ofL xs u)) (parN (kn x.2))) := by unfold Hid upB; simp [h1, hu]
            obtain ⟨⟨xa, xb, xc, xd, xe⟩, xm⟩ := x
            obtain ⟨ua, ub, uc, ud, ue⟩ := u
            simp only at c0 c1 c2 c3 c4 c5 HBx HXx HU HUp
            clear h1 hright hu hur
            go_wp2_with fail
            refine (HU.out _).mono ?_
            rintro e1 w1 ⟨rfl, hb1⟩
            have HB1 := Lib.hid (thenCall HBx.out hb1)
            have HXy := Lib.hid (HXx.out.later hb1)
            clear hb1 c0 c1 c2 c3 c4 c5
            go_wp2_with fail
            have HBy := Lib.hid (Go.Proofs.YtlhhopanegnliaaGreatDoor.box_below w1 (.cells #[.int .i64 ua, .int .i64 ub, .int .i64 uc, .int .i64 ud, .int .i64 ue] 30))
            have hpt := PtAt.new w1 ua ub uc ud ue
            unfold boxed at hpt
            obtain ⟨p0, p1, p2, p3, p4, hltp⟩ := hpt
            obtain ⟨-, -, -, -, -, d5, hltx⟩ := HXy.out.later HBy.out
            have HMy := Lib.hid (HR3.out.map.below (thenCall HB1.out HBy.out))
            simp only at p0 p1 p2 p3 p4 hltp d5 hltx
            generalize w1.alloc (.cells #[.int .i64 ua, .int .i64 ub, .int .i64 uc, .int .i64 ud, .int .i64 ue] 30) = W1 at *
            obtain ⟨r, hr⟩ : ∃ r, ofL xs ⟨ua, ub, uc, ud, ue⟩ = r := ⟨_, rfl⟩
            have hlk : ∀ y : Pa.Later W1, (Instr.lookup 126 (.map (some W.heap.size)) (.agg #[.int .i64 ua, .int .i64 ub, .int .i64 uc, .int .i64 ud, .int .i64 ue]) false).run Tryz.prog y.w = .ok (.int .i64 r) y.w := fun y => by rw [← hr]; exact (HMy.out.below y.h).look HFu.out
            have gP : Pa.Gives W1 72 #[.int .i64 xm] (.int .i64 (parN (kn xm) : Nat)) := wgives fun w _ => parent_any xm w
            obtain ⟨res, hres⟩ : ∃ res, covB (kn r) (parN (kn xm)) = res := ⟨_, rfl⟩
            have gC : Pa.Gives W1 78 #[.int .i64 r, .int .i64 (parN (kn xm) : Nat)] (.bool res) := fun w' hb => by
              have := covers_any r ((parN (kn xm) : Nat) : Int) W1 w' hb
              rw [kn_par, hres] at this
              exact this
            have HUr : Hid (upB xs (⟨xa, xb, xc, xd, xe⟩, xm) = res) := by unfold Hid; rw [HUp.out, hr, hres]
            clear hr hres
            refine Pa.wp_region_later W1 (by kernel_rfl) (by kernel_rfl) (Below.refl _ _) ?_
            cases res
            · repeat (go_big_quiet_step (((first | go_at_call 72 | go_at_call 78); exact Pa.Gives.later (by with_reducible assumption))))
              refine wpQuiet_nil ?_
              rintro _ ⟨⟨w4, hb4⟩, rfl⟩
              have HB4 := Lib.hid (thenCall (thenCall HB1.out HBy.out) hb4)
              have HNo : Hid (¬ Rt xs) := fun h => by
                have := h.2 _ HMem.out
                rw [HUr.out] at this
                cases this
              clear hb4 gP gC hlk p0 p1 p2 p3 p4
              go_wp2_with fail
              go_ret
              exact tells_no (thenCall HR3.out.bel HB4.out) HNo.out
            · repeat (go_big_quiet_step (((first | go_at_call 72 | go_at_call 78); exact Pa.Gives.later (by with_reducible assumption))))
              refine wpQuiet_nil ?_
              rintro _ ⟨⟨w4, hb4⟩, rfl⟩
              have HB4 := Lib.hid (thenCall (thenCall HB1.out HBy.out) hb4)
              clear hb4 gP gC hlk p0 p1 p2 p3 p4
              go_wp2_with fail
              go_roundw
              case rel =>
                refine ⟨i + 1, by omega, by go_num, HR3.out.map.below HB4.out, fun k hk hkl => ?_, thenCall HR3.out.bel HB4.out⟩
                by_cases e : k = i
                · subst e
                  rw [HX.out]; exact HUr.out
                · exact HR3.out.ok k (by omega) hkl
              case measure => simp [intOf]; omega
        · obtain rfl : i = j := by omega
          have HYes : Hid (Rt xs) := ⟨HOk.out, fun x hx => by
            obtain ⟨k, hk, rfl⟩ := List.getElem_of_mem hx
            exact HR3.out.ok k (by rw [← HN.out]; exact hk) hk⟩
          go_wp2_with fail
          go_ret
          exact ⟨true, rfl, by simp [HYes.out], HR3.out.bel⟩
end
end Go.Proofs.YtlhhopanegnliaaGreatDoor.Lk
