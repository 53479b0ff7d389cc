/- The walk of the law on order. -/
import Derived.Test.YtmlljgijbffepaaB1
import Derived.Test.YtmlljgijbffepaaF2
import Derived.Test.YtmlljgijbffepaaF3
import Derived.Test.YtmlljgijbffepaaM4
import Derived.Deep.RegionHeld3
namespace Go.Proofs.Ytmlljgijbffepaa
open Go Go.RowKit

theorem upV_form (p : Pt) : ∃ a b c d e : Int, ∃ t : Bool, upV p = .tuple #[Pt.v ⟨a, b, c, d, e⟩, .bool t] := by
  unfold upV; split
  · exact ⟨_, _, _, _, _, _, rfl⟩
  · exact ⟨_, _, _, _, _, _, rfl⟩
theorem comV_form (p q : Pt) : ∃ a b c d e : Int, ∃ t : Bool, comV p q = .tuple #[Pt.v ⟨a, b, c, d, e⟩, .bool t] := by
  unfold comV; split
  · cases comL p q (min p.e.toNat q.e.toNat)
    · exact ⟨_, _, _, _, _, _, rfl⟩
    · exact ⟨_, _, _, _, _, _, rfl⟩
  · exact ⟨_, _, _, _, _, _, rfl⟩
theorem rup_is {p : Pt} {v : Value} (h : upV p = v) (w : World) : Calls Try.prog 8 #[p.v] w fun e w' => e = .returned v ∧ Below w.heap.size w w' := by
  subst h; exact rup_any p w
theorem com_is {p q : Pt} {v : Value} (h : comV p q = v) (w : World) : Calls Try.prog 9 #[p.v, q.v] w fun e w' => e = .returned v ∧ Below w.heap.size w w' := by
  subst h; exact common_any p q w
theorem rcom_is {p q : Pt} {v : Value} (h : comV p q = v) (w : World) : Calls Try.prog 10 #[p.v, q.v] w fun e w' => e = .returned v ∧ Below w.heap.size w w' := by
  subst h; rw [← com_same]; exact rcommon_list p q w (first_way p)
theorem rkid_is {p : Pt} {n : Int} {v : Value} (h : kidV p n = v) (w : World) : Calls Try.prog 12 #[p.v, .int .i64 n] w fun e w' => e = .returned v ∧ Below w.heap.size w w' := by
  subst h; exact rkid_any p n w
theorem rwi_g {w : World} {p q : Pt} {b : Bool} (h : wiB p q = b) : Gives w 17 #[p.v, q.v] (.bool b) := by
  subst h; rw [← wi_any]; exact Gives.of (rwithin_list p q)
theorem rless_g {w : World} {p q : Pt} {b : Bool} (h : lessB p q = b) : Gives w 19 #[p.v, q.v] (.bool b) := by
  subst h; exact Gives.of (rless_any p q)
theorem rkey_g {w : World} {p : Pt} {z : Int} (h : keyP p = z) : Gives w 21 #[p.v] (.int .u64 z) := by
  subst h; exact Gives.of (rkey_any p)
/-- a call that gives a row of nodes, from whatever later world -/
def GivesRow (W : World) (f : Nat) (args : Array Value) (ps : List Pt) : Prop :=
  ∀ w', Below W.heap.size W w' → Calls Try.prog f args w' fun e w'' => ∃ v, e = .returned v ∧ RowAt w'' v ps ∧ Below w'.heap.size w' w'' ∧ Below W.heap.size W w''
theorem ways_g (W : World) (p : Pt) : GivesRow W 14 #[p.v] (waysP p) := fun w' hb => (ways_any p w').mono fun _ _ ⟨v, he, hr, hb'⟩ => ⟨v, he, hr, hb', hb.trans (hb'.mono hb.size)⟩
theorem rways_g (W : World) (p : Pt) : GivesRow W 15 #[p.v] (waysP p) := fun w' hb => (rways_any p w').mono fun _ _ ⟨v, he, hr, hb'⟩ => ⟨v, he, hr, hb', hb.trans (hb'.mono hb.size)⟩
theorem same_g {W wa wb : World} {v v' : Value} {p : Pt} (hW : Below W.heap.size W wb) (ha : RowAt wa v (waysP p)) (hab : Below wa.heap.size wa wb) (hb : RowAt wb v' (waysP p)) :
    Calls Try.prog 13 #[v, v'] wb fun e w' => e = .returned (.bool true) ∧ Below W.heap.size W w' :=
  (same_rows (waysP_len p) (ha.later hab) hb).mono fun _ _ ⟨he, hb'⟩ => ⟨he, hW.trans (hb'.mono hW.size)⟩
theorem two_at {w w1 : World} {a b c d e a' b' c' d' e' : Int} (hb : Below (boxed (boxed w a b c d e) a' b' c' d' e').heap.size (boxed (boxed w a b c d e) a' b' c' d' e') w1) :
    PtAt w1 w.heap.size ⟨a, b, c, d, e⟩ ∧ PtAt w1 (w.heap.size + 1) ⟨a', b', c', d', e'⟩ ∧ Below w.heap.size w w1 := by
  have h0 := ((PtAt.new w a b c d e).alloc (.cells #[.int .i64 a', .int .i64 b', .int .i64 c', .int .i64 d', .int .i64 e'] 24)).later hb
  have h1 := (PtAt.new (boxed w a b c d e) a' b' c' d' e').later hb
  refine ⟨h0, by simpa using h1, ?_⟩
  exact (endBox (box_below w _) _).trans (hb.mono (by simp; omega))
def Holds (W w' : World) : Prop := Below W.heap.size W w' ∧ ∀ b o, b < W.heap.size → w'.cell? ⟨b, o, none⟩ = W.cell? ⟨b, o, none⟩
theorem holds_of {W w' : World} (h : Below W.heap.size W w') : Below W.heap.size W w' ∧ ∀ b o, b < W.heap.size → w'.cell? ⟨b, o, none⟩ = W.cell? ⟨b, o, none⟩ := ⟨h, (kept h).1⟩

set_option maxHeartbeats 8000000 in
set_option maxRecDepth 100000 in
theorem order_walk (p q : Pt) (n : Int) (w : World) :
    Calls Try.prog 3 #[p.v, q.v, .int .i64 n] w fun e w' => e = .returned (.bool true) ∧ Below w.heap.size w w' := by
  obtain ⟨r0, r1, r2, r3, r4, t1, hu⟩ := upV_form p
  obtain ⟨s0, s1, s2, s3, s4, t2, hc⟩ := comV_form p q
  obtain ⟨x0, x1, x2, x3, x4, t3, hk⟩ := kidV_form p n
  obtain ⟨wb, hwb⟩ : ∃ b, wiB p q = b := ⟨_, rfl⟩
  obtain ⟨lb, hlb⟩ : ∃ b, lessB p q = b := ⟨_, rfl⟩
  obtain ⟨K, hK⟩ : ∃ z, keyP p = z := ⟨_, rfl⟩
  have HU := Lib.hid hu; have HC := Lib.hid hc; have HK := Lib.hid hk; have HWB := Lib.hid hwb; have HLB := Lib.hid hlb; have HKK := Lib.hid hK
  clear hu hc hk hwb hlb hK
  have er : eqP ⟨r0, r1, r2, r3, r4⟩ ⟨r0, r1, r2, r3, r4⟩ = true := eqP_self _
  have es : eqP ⟨s0, s1, s2, s3, s4⟩ ⟨s0, s1, s2, s3, s4⟩ = true := eqP_self _
  have ex : eqP ⟨x0, x1, x2, x3, x4⟩ ⟨x0, x1, x2, x3, x4⟩ = true := eqP_self _
  obtain ⟨a, b, c, d, e⟩ := p
  obtain ⟨a', b', c', d', e'⟩ := q
  go_enter Try.func3, Try.ntmps3
  go_wp2_with fail
  refine (awake_any _).mono ?_
  rintro g1 w1 ⟨rfl, hb1⟩
  obtain ⟨hp, hq, hbe⟩ := two_at hb1
  clear hb1
  obtain ⟨hp0, hp1, hp2, hp3, hp4, hpl⟩ := id hp
  obtain ⟨hq0, hq1, hq2, hq3, hq4, hql⟩ := id hq
  go_wp2_with fail
  refine (up_is HU.out _).mono ?_
  rintro g2 w2 ⟨rfl, hb2⟩
  clear hp0 hp1 hp2 hp3 hp4 hq0 hq1 hq2 hq3 hq4 hpl hql
  replace hp := hp.later hb2
  replace hq := hq.later hb2
  replace hbe := thenCall hbe hb2
  clear hb2
  have np0 : ¬ w.heap.size = w2.heap.size := Nat.ne_of_lt hp.lt
  have nq0 : ¬ w.heap.size + 1 = w2.heap.size := Nat.ne_of_lt hq.lt
  obtain ⟨hp0, hp1, hp2, hp3, hp4, hpl⟩ := id hp
  obtain ⟨hq0, hq1, hq2, hq3, hq4, hql⟩ := id hq
  go_wp2_with fail
  refine (rup_is HU.out _).mono ?_
  rintro g3 w3 ⟨rfl, hb3⟩
  clear hp0 hp1 hp2 hp3 hp4 hq0 hq1 hq2 hq3 hq4 hpl hql
  replace hp := (hp.alloc _).later hb3
  replace hq := (hq.alloc _).later hb3
  have k1_ := (PtAt.new w2 r0 r1 r2 r3 r4).later hb3
  replace hbe := thenBox hbe hb3
  clear hb3
  have np1 : ¬ w.heap.size = w3.heap.size := Nat.ne_of_lt hp.lt
  have nq1 : ¬ w.heap.size + 1 = w3.heap.size := Nat.ne_of_lt hq.lt
  obtain ⟨hp0, hp1, hp2, hp3, hp4, hpl⟩ := id hp
  obtain ⟨hq0, hq1, hq2, hq3, hq4, hql⟩ := id hq
  go_wp2_with fail
  refine (com_is HC.out _).mono ?_
  rintro g4 w4 ⟨rfl, hb4⟩
  clear hp0 hp1 hp2 hp3 hp4 hq0 hq1 hq2 hq3 hq4 hpl hql
  replace hp := (hp.alloc _).later hb4
  replace hq := (hq.alloc _).later hb4
  replace k1_ := (k1_.alloc _).later hb4
  have k2_ := (PtAt.new w3 r0 r1 r2 r3 r4).later hb4
  replace hbe := thenBox hbe hb4
  clear hb4
  have np2 : ¬ w.heap.size = w4.heap.size := Nat.ne_of_lt hp.lt
  have nq2 : ¬ w.heap.size + 1 = w4.heap.size := Nat.ne_of_lt hq.lt
  obtain ⟨hp0, hp1, hp2, hp3, hp4, hpl⟩ := id hp
  obtain ⟨hq0, hq1, hq2, hq3, hq4, hql⟩ := id hq
  go_wp2_with fail
  refine (rcom_is HC.out _).mono ?_
  rintro g5 w5 ⟨rfl, hb5⟩
  clear hp0 hp1 hp2 hp3 hp4 hq0 hq1 hq2 hq3 hq4 hpl hql
  replace hp := (hp.alloc _).later hb5
  replace hq := (hq.alloc _).later hb5
  replace k1_ := (k1_.alloc _).later hb5
  replace k2_ := (k2_.alloc _).later hb5
  have k3_ := (PtAt.new w4 s0 s1 s2 s3 s4).later hb5
  replace hbe := thenBox hbe hb5
  clear hb5
  have np3 : ¬ w.heap.size = w5.heap.size := Nat.ne_of_lt hp.lt
  have nq3 : ¬ w.heap.size + 1 = w5.heap.size := Nat.ne_of_lt hq.lt
  obtain ⟨hp0, hp1, hp2, hp3, hp4, hpl⟩ := id hp
  obtain ⟨hq0, hq1, hq2, hq3, hq4, hql⟩ := id hq
  go_wp2_with fail
  refine (kid_is HK.out _).mono ?_
  rintro g6 w6 ⟨rfl, hb6⟩
  clear hp0 hp1 hp2 hp3 hp4 hq0 hq1 hq2 hq3 hq4 hpl hql
  replace hp := (hp.alloc _).later hb6
  replace hq := (hq.alloc _).later hb6
  replace k1_ := (k1_.alloc _).later hb6
  replace k2_ := (k2_.alloc _).later hb6
  replace k3_ := (k3_.alloc _).later hb6
  have k4_ := (PtAt.new w5 s0 s1 s2 s3 s4).later hb6
  replace hbe := thenBox hbe hb6
  clear hb6
  have np4 : ¬ w.heap.size = w6.heap.size := Nat.ne_of_lt hp.lt
  have nq4 : ¬ w.heap.size + 1 = w6.heap.size := Nat.ne_of_lt hq.lt
  obtain ⟨hp0, hp1, hp2, hp3, hp4, hpl⟩ := id hp
  obtain ⟨hq0, hq1, hq2, hq3, hq4, hql⟩ := id hq
  go_wp2_with fail
  refine (rkid_is HK.out _).mono ?_
  rintro g7 w7 ⟨rfl, hb7⟩
  clear hp0 hp1 hp2 hp3 hp4 hq0 hq1 hq2 hq3 hq4 hpl hql
  replace hp := (hp.alloc _).later hb7
  replace hq := (hq.alloc _).later hb7
  replace k1_ := (k1_.alloc _).later hb7
  replace k2_ := (k2_.alloc _).later hb7
  replace k3_ := (k3_.alloc _).later hb7
  replace k4_ := (k4_.alloc _).later hb7
  have k5_ := (PtAt.new w6 x0 x1 x2 x3 x4).later hb7
  replace hbe := thenBox hbe hb7
  clear hb7
  have np5 : ¬ w.heap.size = w7.heap.size := Nat.ne_of_lt hp.lt
  have nq5 : ¬ w.heap.size + 1 = w7.heap.size := Nat.ne_of_lt hq.lt
  replace hp := hp.alloc (.cells #[.int .i64 x0, .int .i64 x1, .int .i64 x2, .int .i64 x3, .int .i64 x4] 24)
  replace hq := hq.alloc (.cells #[.int .i64 x0, .int .i64 x1, .int .i64 x2, .int .i64 x3, .int .i64 x4] 24)
  replace k1_ := k1_.alloc (.cells #[.int .i64 x0, .int .i64 x1, .int .i64 x2, .int .i64 x3, .int .i64 x4] 24)
  replace k2_ := k2_.alloc (.cells #[.int .i64 x0, .int .i64 x1, .int .i64 x2, .int .i64 x3, .int .i64 x4] 24)
  replace k3_ := k3_.alloc (.cells #[.int .i64 x0, .int .i64 x1, .int .i64 x2, .int .i64 x3, .int .i64 x4] 24)
  replace k4_ := k4_.alloc (.cells #[.int .i64 x0, .int .i64 x1, .int .i64 x2, .int .i64 x3, .int .i64 x4] 24)
  replace k5_ := k5_.alloc (.cells #[.int .i64 x0, .int .i64 x1, .int .i64 x2, .int .i64 x3, .int .i64 x4] 24)
  have k6_ : PtAt (w7.alloc (.cells #[.int .i64 x0, .int .i64 x1, .int .i64 x2, .int .i64 x3, .int .i64 x4] 24)) w7.heap.size ⟨x0, x1, x2, x3, x4⟩ := PtAt.new w7 x0 x1 x2 x3 x4
  replace hbe := endBox hbe (.cells #[.int .i64 x0, .int .i64 x1, .int .i64 x2, .int .i64 x3, .int .i64 x4] 24)
  go_wp2_with fail
  generalize w7.alloc (.cells #[.int .i64 x0, .int .i64 x1, .int .i64 x2, .int .i64 x3, .int .i64 x4] 24) = W at hp hq k1_ k2_ k3_ k4_ k5_ k6_ hbe ⊢
  obtain ⟨hp0, hp1, hp2, hp3, hp4, hpl⟩ := hp
  obtain ⟨hq0, hq1, hq2, hq3, hq4, hql⟩ := hq
  obtain ⟨k1_0, k1_1, k1_2, k1_3, k1_4, k1_l⟩ := k1_
  obtain ⟨k2_0, k2_1, k2_2, k2_3, k2_4, k2_l⟩ := k2_
  obtain ⟨k3_0, k3_1, k3_2, k3_3, k3_4, k3_l⟩ := k3_
  obtain ⟨k4_0, k4_1, k4_2, k4_3, k4_4, k4_l⟩ := k4_
  obtain ⟨k5_0, k5_1, k5_2, k5_3, k5_4, k5_l⟩ := k5_
  obtain ⟨k6_0, k6_1, k6_2, k6_3, k6_4, k6_l⟩ := k6_
  have g14 := ways_g W ⟨a, b, c, d, e⟩
  have g15 := rways_g W ⟨a, b, c, d, e⟩
  have g16 : Gives W 16 #[Pt.v ⟨a, b, c, d, e⟩, Pt.v ⟨a', b', c', d', e'⟩] (.bool wb) := wi_g HWB.out
  have g17 : Gives W 17 #[Pt.v ⟨a, b, c, d, e⟩, Pt.v ⟨a', b', c', d', e'⟩] (.bool wb) := rwi_g HWB.out
  have g18 : Gives W 18 #[Pt.v ⟨a, b, c, d, e⟩, Pt.v ⟨a', b', c', d', e'⟩] (.bool lb) := less_g HLB.out
  have g19 : Gives W 19 #[Pt.v ⟨a, b, c, d, e⟩, Pt.v ⟨a', b', c', d', e'⟩] (.bool lb) := rless_g HLB.out
  have g20 : Gives W 20 #[Pt.v ⟨a, b, c, d, e⟩] (.int .u64 K) := key_g HKK.out
  have g21 : Gives W 21 #[Pt.v ⟨a, b, c, d, e⟩] (.int .u64 K) := rkey_g HKK.out
  have HB := Below.refl W.heap.size W
  first | go_region_held3 (fun w' => Below W.heap.size W w' ∧ ∀ b o, b < W.heap.size → w'.cell? ⟨b, o, none⟩ = W.cell? ⟨b, o, none⟩) (first | exact holds_of (by assumption) | exact holds_of (Below.drew (by assumption)) | exact holds_of (And.left (by assumption)) | exact holds_of (Below.drew (And.left (by assumption)))) (first | (go_at_call 14; refine (g14 _ (And.left (by assumption))).mono ?_; rintro ge wa ⟨va, rfl, hra, hca, hba⟩) | (go_at_call 15; refine (g15 _ (And.left (by assumption))).mono ?_; rintro ge wb1 ⟨vb, rfl, hrb, hcb, hbb⟩) | (go_at_call 13; refine (same_g (W := W) (by assumption) (by assumption) (by assumption) (by assumption)).mono ?_; rintro ge wc ⟨rfl, hbc⟩) | (go_at_call 16; refine Gives.useK (W := W) (by with_reducible assumption) (And.left (by assumption)) ?_; intro wz hbz) | (go_at_call 17; refine Gives.useK (W := W) (by with_reducible assumption) (And.left (by assumption)) ?_; intro wz hbz) | (go_at_call 18; refine Gives.useK (W := W) (by with_reducible assumption) (And.left (by assumption)) ?_; intro wz hbz) | (go_at_call 19; refine Gives.useK (W := W) (by with_reducible assumption) (And.left (by assumption)) ?_; intro wz hbz) | (go_at_call 20; refine Gives.useK (W := W) (by with_reducible assumption) (And.left (by assumption)) ?_; intro wz hbz) | (go_at_call 21; refine Gives.useK (W := W) (by with_reducible assumption) (And.left (by assumption)) ?_; intro wz hbz)) | fail "held"
  go_wp2
  go_ret
  exact ⟨rfl, thenCall hbe (by first | assumption | exact And.left (by assumption))⟩
end Go.Proofs.Ytmlljgijbffepaa
