/- The walk of the law on the tree. -/
import Derived.Test.YtmlljgijbffepaaB1
import Derived.Test.YtmlljgijbffepaaM2
import Derived.Deep.DeepCutAuto
namespace Go.Proofs.Ytmlljgijbffepaa
open Go Go.RowKit

theorem below_two' (w : World) (o o' : Obj) : Below w.heap.size w ((w.alloc o).alloc o') := ((Below.refl _ _).alloc (Nat.le_refl _) _).alloc (by simp) _
theorem Gives.useL {W w' : World} {f : Nat} {args : Array Value} {v : Value} {Q : Ending → World → Prop} (h : Gives W f args v) (hb : Below W.heap.size W w') (hq : ∀ x : Later W, Q (.returned v) x.w) : Calls Try.prog f args w' Q :=
  (h w' hb).mono fun _ w'' ⟨he, hb'⟩ => he ▸ hq ⟨w'', hb'⟩
/-- three nodes that have been laid, behind a call -/
theorem three_at {w w1 : World} {a b c d e a' b' c' d' e' f g h i j : Int} (hb : Below (boxed (boxed (boxed w a b c d e) a' b' c' d' e') f g h i j).heap.size (boxed (boxed (boxed w a b c d e) a' b' c' d' e') f g h i j) w1) :
    PtAt w1 w.heap.size ⟨a, b, c, d, e⟩ ∧ PtAt w1 (w.heap.size + 1) ⟨a', b', c', d', e'⟩ ∧ PtAt w1 (w.heap.size + 1 + 1) ⟨f, g, h, i, j⟩ ∧ Below w.heap.size w w1 := by
  have h0 := (((PtAt.new w a b c d e).alloc (.cells #[.int .i64 a', .int .i64 b', .int .i64 c', .int .i64 d', .int .i64 e'] 24)).alloc (.cells #[.int .i64 f, .int .i64 g, .int .i64 h, .int .i64 i, .int .i64 j] 24)).later hb
  have h1 := ((PtAt.new (boxed w a b c d e) a' b' c' d' e').alloc (.cells #[.int .i64 f, .int .i64 g, .int .i64 h, .int .i64 i, .int .i64 j] 24)).later hb
  have h2 := (PtAt.new (boxed (boxed w a b c d e) a' b' c' d' e') f g h i j).later hb
  refine ⟨h0, by simpa using h1, by simpa using h2, ?_⟩
  exact (endBox (below_two' w _ _) _).trans (hb.mono (by simp; omega))

set_option maxHeartbeats 4000000 in
set_option maxRecDepth 100000 in
/-- not all three may be -/
theorem tree_out (a b c d e a' b' c' d' e' f g h i j : Int) (w : World) (rp rq rr wpq : Bool) (hp : rightB ⟨a, b, c, d, e⟩ = rp) (hq : rightB ⟨a', b', c', d', e'⟩ = rq) (hr : rightB ⟨f, g, h, i, j⟩ = rr) (hw : wiB ⟨a, b, c, d, e⟩ ⟨a', b', c', d', e'⟩ = wpq)
    (hno : rp = false ∨ rq = false ∨ rr = false) (him : wpq = true → rp = true ∧ rq = true) :
    Calls Try.prog 4 #[Pt.v ⟨a, b, c, d, e⟩, Pt.v ⟨a', b', c', d', e'⟩, Pt.v ⟨f, g, h, i, j⟩] w fun e w' => e = .returned (.bool true) ∧ Below w.heap.size w w' := by
  have HP := Lib.hid hp; have HQ := Lib.hid hq; have HR := Lib.hid hr; have HW := Lib.hid hw
  have HN := Lib.hid hno; have HI := Lib.hid him
  clear hp hq hr hw hno him
  go_enter Try.func4, Try.ntmps4
  go_wp2_with fail
  refine (awake_any _).mono ?_
  rintro r1 w1 ⟨rfl, hb1⟩
  obtain ⟨⟨c0, c1, c2, c3, c4, hl1⟩, ⟨d0, d1, d2, d3, d4, hl2⟩, ⟨e0, e1, e2, e3, e4, hl3⟩, hbe⟩ := three_at hb1
  clear hb1
  have gp : Gives w1 22 #[Pt.v ⟨a, b, c, d, e⟩] (.bool rp) := may_g HP.out
  have gq : Gives w1 22 #[Pt.v ⟨a', b', c', d', e'⟩] (.bool rq) := may_g HQ.out
  have gr : Gives w1 22 #[Pt.v ⟨f, g, h, i, j⟩] (.bool rr) := may_g HR.out
  have gw : Gives w1 16 #[Pt.v ⟨a, b, c, d, e⟩, Pt.v ⟨a', b', c', d', e'⟩] (.bool wpq) := wi_g HW.out
  cases wpq
  · cases rp
    · go_wp2_with ((first | go_at_call 22 | go_at_call 16 | go_at_call 18); refine Gives.useL (W := w1) (by with_reducible assumption) (by first | exact Later.h _ | exact Below.refl _ _) ?_; intro xl)
      go_ret
      exact ⟨rfl, thenCall hbe (Later.h _)⟩
    · cases rq
      · go_wp2_with ((first | go_at_call 22 | go_at_call 16 | go_at_call 18); refine Gives.useL (W := w1) (by with_reducible assumption) (by first | exact Later.h _ | exact Below.refl _ _) ?_; intro xl)
        go_ret
        exact ⟨rfl, thenCall hbe (Later.h _)⟩
      · cases rr
        · go_wp2_with ((first | go_at_call 22 | go_at_call 16 | go_at_call 18); refine Gives.useL (W := w1) (by with_reducible assumption) (by first | exact Later.h _ | exact Below.refl _ _) ?_; intro xl)
          go_ret
          exact ⟨rfl, thenCall hbe (Later.h _)⟩
        · have := HN.out; simp at this
  · obtain ⟨rfl, rfl⟩ := HI.out rfl
    cases rr
    · go_wp2_with ((first | go_at_call 22 | go_at_call 16 | go_at_call 18); refine Gives.useL (W := w1) (by with_reducible assumption) (by first | exact Later.h _ | exact Below.refl _ _) ?_; intro xl)
      go_ret
      exact ⟨rfl, thenCall hbe (Later.h _)⟩
    · have := HN.out; simp at this

/-- how three nodes lie to each other -/
structure Lie (p q r : Pt) (wpq wqr wpr wqp wrp wrq lpq lqr lpr lqp q0 : Bool) : Prop where
  hp : rightB p = true
  hq : rightB q = true
  hr : rightB r = true
  pq : wiB p q = wpq
  qr : wiB q r = wqr
  pr : wiB p r = wpr
  qp : wiB q p = wqp
  rp : wiB r p = wrp
  rq : wiB r q = wrq
  Lpq : lessB p q = lpq
  Lqr : lessB q r = lqr
  Lpr : lessB p r = lpr
  Lqp : lessB q p = lqp
  eqq : eqP p q = q0
  trans : wpq = true → wqr = true → wpr = true
  anti : wpq = true → wqp = true → q0 = true
  both : wrp = true → wrq = true → wpq = true ∨ wqp = true
  less : lpq = true → lqr = true → lpr = true
  total : q0 = true ∨ lpq = !lqp
  up : wpq = true → q0 = true ∨ lqp = true

set_option maxHeartbeats 8000000 in
set_option maxRecDepth 100000 in
theorem tree_in (a b c d e a' b' c' d' e' f g h i j : Int) (w : World) (wpq wqr wpr wqp wrp wrq lpq lqr lpr lqp q0 : Bool) (hl : Lie ⟨a, b, c, d, e⟩ ⟨a', b', c', d', e'⟩ ⟨f, g, h, i, j⟩ wpq wqr wpr wqp wrp wrq lpq lqr lpr lqp q0) :
    Calls Try.prog 4 #[Pt.v ⟨a, b, c, d, e⟩, Pt.v ⟨a', b', c', d', e'⟩, Pt.v ⟨f, g, h, i, j⟩] w fun e w' => e = .returned (.bool true) ∧ Below w.heap.size w w' := by
  have HL := Lib.hid hl
  clear hl
  go_enter Try.func4, Try.ntmps4
  go_wp2_with fail
  refine (awake_any _).mono ?_
  rintro r1 w1 ⟨rfl, hb1⟩
  obtain ⟨⟨c0, c1, c2, c3, c4, hl1⟩, ⟨d0, d1, d2, d3, d4, hl2⟩, ⟨e0, e1, e2, e3, e4, hl3⟩, hbe⟩ := three_at hb1
  clear hb1
  have gp : Gives w1 22 #[Pt.v ⟨a, b, c, d, e⟩] (.bool true) := may_g HL.out.hp
  have gq : Gives w1 22 #[Pt.v ⟨a', b', c', d', e'⟩] (.bool true) := may_g HL.out.hq
  have gr : Gives w1 22 #[Pt.v ⟨f, g, h, i, j⟩] (.bool true) := may_g HL.out.hr
  have gpq : Gives w1 16 #[Pt.v ⟨a, b, c, d, e⟩, Pt.v ⟨a', b', c', d', e'⟩] (.bool wpq) := wi_g HL.out.pq
  have gqr : Gives w1 16 #[Pt.v ⟨a', b', c', d', e'⟩, Pt.v ⟨f, g, h, i, j⟩] (.bool wqr) := wi_g HL.out.qr
  have gpr : Gives w1 16 #[Pt.v ⟨a, b, c, d, e⟩, Pt.v ⟨f, g, h, i, j⟩] (.bool wpr) := wi_g HL.out.pr
  have gqp : Gives w1 16 #[Pt.v ⟨a', b', c', d', e'⟩, Pt.v ⟨a, b, c, d, e⟩] (.bool wqp) := wi_g HL.out.qp
  have grp : Gives w1 16 #[Pt.v ⟨f, g, h, i, j⟩, Pt.v ⟨a, b, c, d, e⟩] (.bool wrp) := wi_g HL.out.rp
  have grq : Gives w1 16 #[Pt.v ⟨f, g, h, i, j⟩, Pt.v ⟨a', b', c', d', e'⟩] (.bool wrq) := wi_g HL.out.rq
  have gpp : Gives w1 16 #[Pt.v ⟨a, b, c, d, e⟩, Pt.v ⟨a, b, c, d, e⟩] (.bool true) := wi_g (tree_self HL.out.hp).1
  have kpq : Gives w1 18 #[Pt.v ⟨a, b, c, d, e⟩, Pt.v ⟨a', b', c', d', e'⟩] (.bool lpq) := less_g HL.out.Lpq
  have kqr : Gives w1 18 #[Pt.v ⟨a', b', c', d', e'⟩, Pt.v ⟨f, g, h, i, j⟩] (.bool lqr) := less_g HL.out.Lqr
  have kpr : Gives w1 18 #[Pt.v ⟨a, b, c, d, e⟩, Pt.v ⟨f, g, h, i, j⟩] (.bool lpr) := less_g HL.out.Lpr
  have kqp : Gives w1 18 #[Pt.v ⟨a', b', c', d', e'⟩, Pt.v ⟨a, b, c, d, e⟩] (.bool lqp) := less_g HL.out.Lqp
  have kpp : Gives w1 18 #[Pt.v ⟨a, b, c, d, e⟩, Pt.v ⟨a, b, c, d, e⟩] (.bool false) := less_g (tree_self HL.out.hp).2
  have he := HL.out.eqq
  have T1 := Lib.hid HL.out.trans
  have T2 := Lib.hid HL.out.anti
  have T3 := Lib.hid HL.out.both
  have T4 := Lib.hid HL.out.less
  have T5 := Lib.hid HL.out.total
  have T6 := Lib.hid HL.out.up
  clear HL
  go_upto_region 5 with ((first | go_at_call 22 | go_at_call 16 | go_at_call 18); refine Gives.useL (W := w1) (by with_reducible assumption) (by first | exact Later.h _ | exact Below.refl _ _) ?_; intro xl)
  go_cut [62] (fun s62 wx => s62 = .bool false ∧ ∃ x : Later w1, wx = x.w)
  case first =>
    cases wpq
    · go_wp2_with ((first | go_at_call 22 | go_at_call 16 | go_at_call 18); refine Gives.useL (W := w1) (by with_reducible assumption) (by first | exact Later.h _ | exact Below.refl _ _) ?_; intro xl)
      go_meet
      exact ⟨rfl, _, rfl⟩
    · cases wqr
      · cases wqp
        · go_wp2_with ((first | go_at_call 22 | go_at_call 16 | go_at_call 18); refine Gives.useL (W := w1) (by with_reducible assumption) (by first | exact Later.h _ | exact Below.refl _ _) ?_; intro xl)
          go_meet
          exact ⟨rfl, _, rfl⟩
        · obtain rfl := T2.out rfl rfl
          go_wp2_with ((first | go_at_call 22 | go_at_call 16 | go_at_call 18); refine Gives.useL (W := w1) (by with_reducible assumption) (by first | exact Later.h _ | exact Below.refl _ _) ?_; intro xl)
          go_meet
          exact ⟨rfl, _, rfl⟩
      · obtain rfl := T1.out rfl rfl
        cases wqp
        · go_wp2_with ((first | go_at_call 22 | go_at_call 16 | go_at_call 18); refine Gives.useL (W := w1) (by with_reducible assumption) (by first | exact Later.h _ | exact Below.refl _ _) ?_; intro xl)
          go_meet
          exact ⟨rfl, _, rfl⟩
        · obtain rfl := T2.out rfl rfl
          go_wp2_with ((first | go_at_call 22 | go_at_call 16 | go_at_call 18); refine Gives.useL (W := w1) (by with_reducible assumption) (by first | exact Later.h _ | exact Below.refl _ _) ?_; intro xl)
          go_meet
          exact ⟨rfl, _, rfl⟩
  case rest =>
    obtain ⟨rfl, x1, rfl⟩ := hcut
    go_upto_region 7 with ((first | go_at_call 22 | go_at_call 16 | go_at_call 18); refine Gives.useL (W := w1) (by with_reducible assumption) (by first | exact Later.h _ | exact Below.refl _ _) ?_; intro xl)
    go_cut [82] (fun s82 wx => s82 = .bool false ∧ ∃ x : Later w1, wx = x.w)
    case first =>
      cases wrp
      · go_wp2_with ((first | go_at_call 22 | go_at_call 16 | go_at_call 18); refine Gives.useL (W := w1) (by with_reducible assumption) (by first | exact Later.h _ | exact Below.refl _ _) ?_; intro xl)
        go_meet
        exact ⟨rfl, _, rfl⟩
      · cases wrq
        · go_wp2_with ((first | go_at_call 22 | go_at_call 16 | go_at_call 18); refine Gives.useL (W := w1) (by with_reducible assumption) (by first | exact Later.h _ | exact Below.refl _ _) ?_; intro xl)
          go_meet
          exact ⟨rfl, _, rfl⟩
        · cases wpq
          · obtain rfl : wqp = true := (T3.out rfl rfl).resolve_left Bool.false_ne_true
            go_wp2_with ((first | go_at_call 22 | go_at_call 16 | go_at_call 18); refine Gives.useL (W := w1) (by with_reducible assumption) (by first | exact Later.h _ | exact Below.refl _ _) ?_; intro xl)
            go_meet
            exact ⟨rfl, _, rfl⟩
          · go_wp2_with ((first | go_at_call 22 | go_at_call 16 | go_at_call 18); refine Gives.useL (W := w1) (by with_reducible assumption) (by first | exact Later.h _ | exact Below.refl _ _) ?_; intro xl)
            go_meet
            exact ⟨rfl, _, rfl⟩
    case rest =>
      obtain ⟨rfl, x2, rfl⟩ := hcut
      go_upto_region 9 with ((first | go_at_call 22 | go_at_call 16 | go_at_call 18); refine Gives.useL (W := w1) (by with_reducible assumption) (by first | exact Later.h _ | exact Below.refl _ _) ?_; intro xl)
      go_cut [96] (fun s96 wx => s96 = .bool false ∧ ∃ x : Later w1, wx = x.w)
      case first =>
        cases lpq
        · go_wp2_with ((first | go_at_call 22 | go_at_call 16 | go_at_call 18); refine Gives.useL (W := w1) (by with_reducible assumption) (by first | exact Later.h _ | exact Below.refl _ _) ?_; intro xl)
          go_meet
          exact ⟨rfl, _, rfl⟩
        · cases lqr
          · go_wp2_with ((first | go_at_call 22 | go_at_call 16 | go_at_call 18); refine Gives.useL (W := w1) (by with_reducible assumption) (by first | exact Later.h _ | exact Below.refl _ _) ?_; intro xl)
            go_meet
            exact ⟨rfl, _, rfl⟩
          · obtain rfl := T4.out rfl rfl
            go_wp2_with ((first | go_at_call 22 | go_at_call 16 | go_at_call 18); refine Gives.useL (W := w1) (by with_reducible assumption) (by first | exact Later.h _ | exact Below.refl _ _) ?_; intro xl)
            go_meet
            exact ⟨rfl, _, rfl⟩
      case rest =>
        obtain ⟨rfl, x3, rfl⟩ := hcut
        clear T1 T2 T3 T4
        go_upto_region 11 with ((first | go_at_call 22 | go_at_call 16 | go_at_call 18); refine Gives.useL (W := w1) (by with_reducible assumption) (by first | exact Later.h _ | exact Below.refl _ _) ?_; intro xl)
        cases q0
        · have h5 : lpq = !lqp := T5.out.resolve_left Bool.false_ne_true
          subst h5
          cases lqp
          · cases wpq
            · refine wp_region_later w1 (by kernel_rfl) (by kernel_rfl) (Later.h _) ?_
              repeat (go_big_quiet_step (((first | go_at_call 16 | go_at_call 18); exact Gives.later (by with_reducible assumption))))
              refine wpQuiet_nil ?_
              rintro _ ⟨⟨w5, hb5⟩, rfl⟩
              go_wp2
              go_ret
              exact ⟨rfl, thenCall hbe hb5⟩
            · rcases T6.out rfl with h | h <;> cases h
          · cases wpq
            · refine wp_region_later w1 (by kernel_rfl) (by kernel_rfl) (Later.h _) ?_
              repeat (go_big_quiet_step (((first | go_at_call 16 | go_at_call 18); exact Gives.later (by with_reducible assumption))))
              refine wpQuiet_nil ?_
              rintro _ ⟨⟨w5, hb5⟩, rfl⟩
              go_wp2
              go_ret
              exact ⟨rfl, thenCall hbe hb5⟩
            · refine wp_region_later w1 (by kernel_rfl) (by kernel_rfl) (Later.h _) ?_
              repeat (go_big_quiet_step (((first | go_at_call 16 | go_at_call 18); exact Gives.later (by with_reducible assumption))))
              refine wpQuiet_nil ?_
              rintro _ ⟨⟨w5, hb5⟩, rfl⟩
              go_wp2
              go_ret
              exact ⟨rfl, thenCall hbe hb5⟩
        · cases wpq
          · refine wp_region_later w1 (by kernel_rfl) (by kernel_rfl) (Later.h _) ?_
            repeat (go_big_quiet_step (((first | go_at_call 16 | go_at_call 18); exact Gives.later (by with_reducible assumption))))
            refine wpQuiet_nil ?_
            rintro _ ⟨⟨w5, hb5⟩, rfl⟩
            go_wp2
            go_ret
            exact ⟨rfl, thenCall hbe hb5⟩
          · refine wp_region_later w1 (by kernel_rfl) (by kernel_rfl) (Later.h _) ?_
            repeat (go_big_quiet_step (((first | go_at_call 16 | go_at_call 18); exact Gives.later (by with_reducible assumption))))
            refine wpQuiet_nil ?_
            rintro _ ⟨⟨w5, hb5⟩, rfl⟩
            go_wp2
            go_ret
            exact ⟨rfl, thenCall hbe hb5⟩

theorem wi_right {p q : Pt} (h : wiB p q = true) : rightB p = true ∧ rightB q = true := by
  unfold wiB at h
  simp only [Bool.and_eq_true] at h
  exact h.1.1
theorem tree_walk (p q r : Pt) (w : World) : Calls Try.prog 4 #[p.v, q.v, r.v] w fun e w' => e = .returned (.bool true) ∧ Below w.heap.size w w' := by
  obtain ⟨a, b, c, d, e⟩ := p
  obtain ⟨a', b', c', d', e'⟩ := q
  obtain ⟨f, g, h, i, j⟩ := r
  cases hp : rightB ⟨a, b, c, d, e⟩
  · exact tree_out a b c d e a' b' c' d' e' f g h i j w _ _ _ _ hp rfl rfl rfl (.inl rfl) fun k => by have := wi_right k; rw [hp] at this; exact this
  · cases hq : rightB ⟨a', b', c', d', e'⟩
    · exact tree_out a b c d e a' b' c' d' e' f g h i j w _ _ _ _ hp hq rfl rfl (.inr (.inl rfl)) fun k => by have := wi_right k; rw [hp, hq] at this; exact this
    · cases hr : rightB ⟨f, g, h, i, j⟩
      · exact tree_out a b c d e a' b' c' d' e' f g h i j w _ _ _ _ hp hq hr rfl (.inr (.inr rfl)) fun _ => ⟨rfl, rfl⟩
      · refine tree_in a b c d e a' b' c' d' e' f g h i j w _ _ _ _ _ _ _ _ _ _ _ ⟨hp, hq, hr, rfl, rfl, rfl, rfl, rfl, rfl, rfl, rfl, rfl, rfl, rfl, tree_trans hp hq hr, fun h1 h2 => ?_, tree_both hp hq hr, tree_less hp hq hr, ?_, fun h1 => ?_⟩
        · rw [tree_anti hp hq h1 h2]; exact eqP_self _
        · exact (tree_total hp hq).imp (fun k => (eqP_iff _ _).2 k) id
        · exact (tree_up hp hq h1).imp (fun k => (eqP_iff _ _).2 k) id
end Go.Proofs.Ytmlljgijbffepaa
