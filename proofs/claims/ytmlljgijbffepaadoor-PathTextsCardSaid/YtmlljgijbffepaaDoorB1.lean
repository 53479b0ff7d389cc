/- The walk of the law on texts and keys. -/
import Derived.Test.YtmlljgijbffepaaDoorM1
import Derived.Test.YtmlljgijbffepaaDoorK1
import Derived.Test.YtmlljgijbffepaaDoorK2
namespace Go.Proofs.YtmlljgijbffepaaDoor
open Go Go.RowKit

theorem Gives.useL {W w' : World} {f : Nat} {args : Array Value} {v : Value} {Q : Ending → World → Prop} (h : Gives W f args v) (hb : Below W.heap.size W w') (hq : ∀ x : Later W, Q (.returned v) x.w) : Calls Tryd.prog f args w' Q :=
  (h w' hb).mono fun _ w'' ⟨he, hb'⟩ => he ▸ hq ⟨w'', hb'⟩
theorem key_g {w : World} {p : Pt} {z : Int} (h : keyP p = z) : Gives w 14 #[p.v] (.int .u64 z) := by
  subst h; exact Gives.of (key_any p)
theorem text_g {w : World} {p : Pt} {l : List UInt8} (ht : Tab w) (h : textP p = l) : Gives w 12 #[p.v] (.string ⟨l.toArray⟩) := by
  subst h
  exact fun w' hb => (text_any p w w' ht hb).mono fun _ _ ⟨he, hb'⟩ => ⟨he, hb.trans (hb'.mono hb.size)⟩
theorem parse_g {w : World} {l : List UInt8} {v : Value} (hl : l.length ≤ 100) (h : parseV l = v) : Gives w 6 #[.string ⟨l.toArray⟩] v :=
  Gives.of fun w' => parse_is ⟨l.toArray⟩ v w' (by show l.toArray.size ≤ _; unfold maxLen; simp; omega) (by simpa using h)
theorem Tab.on {w w' : World} (h : Tab w) (hb : Below w.heap.size w w') : Tab w' := fun w'' hb' => h w'' (hb.trans (hb'.mono hb.size))
/-- two nodes that have been laid, behind a call -/
theorem two_at {w w1 : World} {a b c d e a' b' c' d' e' : Int} (hb : Below (boxed (boxed w a b c d e) a' b' c' d' e').heap.size (boxed (boxed w a b c d e) a' b' c' d' e') w1) :
    PtAt w1 w.heap.size ⟨a, b, c, d, e⟩ ∧ PtAt w1 (w.heap.size + 1) ⟨a', b', c', d', e'⟩ ∧ Below w.heap.size w w1 := by
  have h0 := ((PtAt.new w a b c d e).alloc (.cells #[.int .i64 a', .int .i64 b', .int .i64 c', .int .i64 d', .int .i64 e'] 24)).later hb
  have h1 := (PtAt.new (boxed w a b c d e) a' b' c' d' e').later hb
  refine ⟨h0, by simpa using h1, ?_⟩
  exact (endBox (box_below w _) _).trans (hb.mono (by simp; omega))

theorem key_pos {p : Pt} (h : rightB p = true) : 1 ≤ keyP p := by
  obtain ⟨h1, h2, h3, h4⟩ := right_bd h
  unfold keyP
  rw [if_pos h]
  (repeat' split) <;> omega

set_option maxHeartbeats 2000000 in
theorem once_out (a b c d e a' b' c' d' e' : Int) (w : World) (rp rq : Bool) (hp : rightB ⟨a, b, c, d, e⟩ = rp) (hq : rightB ⟨a', b', c', d', e'⟩ = rq) (hno : rp = false ∨ rq = false) :
    Calls Tryd.prog 4 #[Pt.v ⟨a, b, c, d, e⟩, Pt.v ⟨a', b', c', d', e'⟩] w fun e w' => e = .returned (.bool true) ∧ Below w.heap.size w w' := by
  obtain ⟨K, hK⟩ : ∃ K, keyP ⟨a, b, c, d, e⟩ = K := ⟨_, rfl⟩
  have HP := Lib.hid hp; have HQ := Lib.hid hq; have HN := Lib.hid hno; have HK := Lib.hid hK
  clear hp hq hno hK
  go_enter Tryd.func4, Tryd.ntmps4
  go_wp2_with fail
  refine (awake_any _).mono ?_
  rintro r1 w1 ⟨rfl, hb1⟩
  obtain ⟨⟨c0, c1, c2, c3, c4, hl1⟩, ⟨d0, d1, d2, d3, d4, hl2⟩, hbe⟩ := two_at hb1
  clear hb1
  have gp : Gives w1 10 #[Pt.v ⟨a, b, c, d, e⟩] (.bool rp) := may_g HP.out
  have gq : Gives w1 10 #[Pt.v ⟨a', b', c', d', e'⟩] (.bool rq) := may_g HQ.out
  have gk : Gives w1 14 #[Pt.v ⟨a, b, c, d, e⟩] (.int .u64 K) := key_g HK.out
  cases rp
  · obtain rfl : K = 0 := by rw [← HK.out]; unfold keyP; rw [HP.out]; rfl
    go_wp2_with ((first | go_at_call 10 | go_at_call 14); refine Gives.useL (W := w1) (by with_reducible assumption) (by first | exact Later.h _ | exact Below.refl _ _) ?_; intro xl)
    go_ret
    exact ⟨rfl, thenCall hbe (Later.h _)⟩
  · cases rq
    · have hz : (K == 0) = false := by
        have := key_pos HP.out
        rw [HK.out] at this
        simp; omega
      go_wp2_with ((first | go_at_call 10 | go_at_call 14); refine Gives.useL (W := w1) (by with_reducible assumption) (by first | exact Later.h _ | exact Below.refl _ _) ?_; intro xl)
      go_ret
      exact ⟨rfl, thenCall hbe (Later.h _)⟩
    · have := HN.out; simp at this

set_option maxHeartbeats 4000000 in
set_option maxRecDepth 100000 in
theorem once_in (a b c d e a' b' c' d' e' : Int) (w : World) (ht0 : Tab w) (hp : rightB ⟨a, b, c, d, e⟩ = true) (hq : rightB ⟨a', b', c', d', e'⟩ = true) (K K' : Int) (l l' : List UInt8) (q : Bool)
    (hk : keyP ⟨a, b, c, d, e⟩ = K) (hk' : keyP ⟨a', b', c', d', e'⟩ = K') (hl : textP ⟨a, b, c, d, e⟩ = l) (hl' : textP ⟨a', b', c', d', e'⟩ = l') (hq0 : eqP ⟨a, b, c, d, e⟩ ⟨a', b', c', d', e'⟩ = q) (hkq : (K == K') = q) (hlq : (l == l') = q) (hlen : l.length ≤ 100) :
    Calls Tryd.prog 4 #[Pt.v ⟨a, b, c, d, e⟩, Pt.v ⟨a', b', c', d', e'⟩] w fun e w' => e = .returned (.bool true) ∧ Below w.heap.size w w' := by
  have hpp : eqP ⟨a, b, c, d, e⟩ ⟨a, b, c, d, e⟩ = true := eqP_self _
  have HB : Hid (parseV l = .tuple #[Pt.v ⟨a, b, c, d, e⟩, .int .i64 0]) := Lib.hid (by rw [← hl]; exact text_back hp)
  have HP := Lib.hid hp; have HQ := Lib.hid hq; have HK := Lib.hid hk; have HK' := Lib.hid hk'; have HL := Lib.hid hl; have HL' := Lib.hid hl'
  have HT := Lib.hid ht0
  clear hp hq hk hk' hl hl' ht0
  go_enter Tryd.func4, Tryd.ntmps4
  go_wp2_with fail
  refine (awake_any _).mono ?_
  rintro r1 w1 ⟨rfl, hb1⟩
  obtain ⟨hp1, hq1, hbe⟩ := two_at hb1
  clear hb1
  obtain ⟨c0, c1, c2, c3, c4, hl1⟩ := id hp1
  obtain ⟨d0, d1, d2, d3, d4, hl2⟩ := id hq1
  have ht1 := HT.out.on hbe
  have gp : Gives w1 10 #[Pt.v ⟨a, b, c, d, e⟩] (.bool true) := may_g HP.out
  have gq : Gives w1 10 #[Pt.v ⟨a', b', c', d', e'⟩] (.bool true) := may_g HQ.out
  have gt : Gives w1 12 #[Pt.v ⟨a, b, c, d, e⟩] (.string ⟨l.toArray⟩) := text_g ht1 HL.out
  have HT1 := Lib.hid ht1
  clear ht1
  go_wp2_with ((first | go_at_call 10 | go_at_call 12); refine Gives.useL (W := w1) (by with_reducible assumption) (by first | exact Later.h _ | exact Below.refl _ _) ?_; intro xl)
  refine ((parse_g hlen HB.out : Gives w1 _ _ _) _ (Later.h _)).mono ?_
  rintro r2 w2 ⟨rfl, hb2⟩
  have ht2 := HT1.out.on hb2
  have hbe2 := thenCall hbe hb2
  have hp2 := (hp1.later hb2).alloc (.cells #[.int .i64 a, .int .i64 b, .int .i64 c, .int .i64 d, .int .i64 e] 24)
  have hq2 := (hq1.later hb2).alloc (.cells #[.int .i64 a, .int .i64 b, .int .i64 c, .int .i64 d, .int .i64 e] 24)
  have hr2 : PtAt (w2.alloc (.cells #[.int .i64 a, .int .i64 b, .int .i64 c, .int .i64 d, .int .i64 e] 24)) w2.heap.size ⟨a, b, c, d, e⟩ := PtAt.new w2 a b c d e
  have hbe3 := endBox hbe2 (.cells #[.int .i64 a, .int .i64 b, .int .i64 c, .int .i64 d, .int .i64 e] 24)
  have ht3 : Tab (w2.alloc (.cells #[.int .i64 a, .int .i64 b, .int .i64 c, .int .i64 d, .int .i64 e] 24)) := ht2.on (box_below w2 _)
  clear hp1 hq1 c0 c1 c2 c3 c4 d0 d1 d2 d3 d4 ht2 gp gq gt hb2 hbe2
  go_wp2_with fail
  generalize w2.alloc (.cells #[.int .i64 a, .int .i64 b, .int .i64 c, .int .i64 d, .int .i64 e] 24) = W at hp2 hq2 hr2 hbe3 ht3 ⊢
  obtain ⟨c0, c1, c2, c3, c4, k1⟩ := hp2
  obtain ⟨d0, d1, d2, d3, d4, k2⟩ := hq2
  obtain ⟨e0, e1, e2, e3, e4, k3⟩ := hr2
  have gt : Gives W 12 #[Pt.v ⟨a, b, c, d, e⟩] (.string ⟨l.toArray⟩) := text_g ht3 HL.out
  have gt' : Gives W 12 #[Pt.v ⟨a', b', c', d', e'⟩] (.string ⟨l'.toArray⟩) := text_g ht3 HL'.out
  have gk : Gives W 14 #[Pt.v ⟨a, b, c, d, e⟩] (.int .u64 K) := key_g HK.out
  have gk' : Gives W 14 #[Pt.v ⟨a', b', c', d', e'⟩] (.int .u64 K') := key_g HK'.out
  cases q
  all_goals
    refine wp_region_later W (by kernel_rfl) (by kernel_rfl) (Below.refl _ _) ?_
    repeat (go_big_quiet_step (((first | go_at_call 12 | go_at_call 14); exact Gives.later (by with_reducible assumption))))
    refine wpQuiet_nil ?_
    rintro _ ⟨⟨w5, hb5⟩, rfl⟩
    go_wp2
    go_ret
    exact ⟨rfl, thenCall hbe3 hb5⟩

theorem once_walk (p q : Pt) (w : World) (ht : Tab w) : Calls Tryd.prog 4 #[p.v, q.v] w fun e w' => e = .returned (.bool true) ∧ Below w.heap.size w w' := by
  obtain ⟨a, b, c, d, e⟩ := p
  obtain ⟨a', b', c', d', e'⟩ := q
  cases hp : rightB ⟨a, b, c, d, e⟩
  · exact once_out a b c d e a' b' c' d' e' w _ _ hp rfl (.inl rfl)
  · cases hq : rightB ⟨a', b', c', d', e'⟩
    · exact once_out a b c d e a' b' c' d' e' w _ _ hp hq (.inr rfl)
    · refine once_in a b c d e a' b' c' d' e' w ht hp hq _ _ _ _ _ rfl rfl rfl rfl rfl ?_ ?_ (text_len _)
      · by_cases h : (⟨a, b, c, d, e⟩ : Pt) = ⟨a', b', c', d', e'⟩
        · rw [h, eqP_self]; simp
        · rw [eqP_ne h]; simp; exact fun k => h (key_inj hp hq k)
      · by_cases h : (⟨a, b, c, d, e⟩ : Pt) = ⟨a', b', c', d', e'⟩
        · rw [h, eqP_self]; simp
        · rw [eqP_ne h]; simp; exact fun k => h (text_inj hp hq k)
end Go.Proofs.YtmlljgijbffepaaDoor
