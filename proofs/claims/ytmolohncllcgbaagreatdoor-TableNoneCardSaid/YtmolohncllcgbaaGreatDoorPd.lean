/- Two nodes compared, and how often the tape was read: as the sort asks for it. -/
import Derived.Test.YtmolohncllcgbaaGreatDoorPk
import Derived.Test.YtmolohncllcgbaaGreatDoorSo
import Derived.Lib.Hide
namespace Go.Proofs.YtmolohncllcgbaaGreatDoor.Pa
open Go Go.RowKit
set_option maxRecDepth 100000

/-- what there was is as it was, and the tape was not turned back -/
structure BelowD (u v : World) : Prop where
  bel : Below u.heap.size u v
  drawn : u.drawn ≤ v.drawn
theorem BelowD.refl (w : World) : BelowD w w := ⟨Below.refl _ _, Nat.le_refl _⟩
theorem BelowD.trans {a b c : World} (h : BelowD a b) (k : BelowD b c) : BelowD a c := ⟨h.bel.trans (k.bel.mono h.bel.size), Nat.le_trans h.drawn k.drawn⟩
theorem BelowD.drew {a b : World} (h : BelowD a b) : BelowD a b.drew := ⟨h.bel.drew, Nat.le_succ_of_le h.drawn⟩
theorem box_belowD (w : World) (o : Obj) : BelowD w (w.alloc o) := ⟨box_below w o, Nat.le_refl _⟩
theorem below_pastD {w w1 : World} {o o' : Obj} (h : BelowD ((w.alloc o).alloc o') w1) : BelowD w w1 := ⟨below_past h.bel, h.drawn⟩
def GivesD (w0 : World) (f : Nat) (args : Array Value) (v : Value) : Prop :=
  ∀ w', BelowD w0 w' → Calls Tryz.prog f args w' fun e w'' => e = .returned v ∧ BelowD w0 w''
theorem GivesD.of {w0 : World} {f : Nat} {args : Array Value} {v : Value} (h : ∀ w, Calls Tryz.prog f args w fun e w' => e = .returned v ∧ BelowD w w') : GivesD w0 f args v :=
  fun w' hb => (h w').mono fun _ _ ⟨he, hb'⟩ => ⟨he, hb.trans hb'⟩
structure LaterD (W : World) where
  w : World
  h : BelowD W w
instance {W : World} : Inhabited (LaterD W) := ⟨⟨W, BelowD.refl _⟩⟩
@[go_sem] theorem LaterD.cell {W : World} (x : LaterD W) (b o : Nat) (h : b < W.heap.size) : x.w.cell? ⟨b, o, none⟩ = W.cell? ⟨b, o, none⟩ := x.h.bel.cell (p := ⟨b, o, none⟩) h
theorem wp_region_laterD {P : Program} (W : World) {id : Nat} {Q : Exit → Act → World → Prop} {a : Act} {w : World} {l : List Oper} (hm : P.follows .mixedOrders = true) (hB : Region.lexB .any l.toArray = true)
    (hw : BelowD W w)
    (h : wpQuiet P l.toArray (fun w' => ∃ x : LaterD W, w' = x.w) (fun a' => ∀ w', (∃ x : LaterD W, w' = x.w) → Q .normal a' w') l a) : (Code.region id l.toArray true).wp P Q a w :=
  wp_region_quiet (C := fun w' => ∃ x : LaterD W, w' = x.w) hm hB ⟨⟨w.drew, hw.drew⟩, rfl⟩ (by simpa using h)
theorem GivesD.later {W : World} {f : Nat} {args : Array Value} {v : Value} {x : LaterD W} (h : GivesD W f args v) :
    Calls Tryz.prog f args x.w fun e w'' => e = .returned v ∧ ∃ y : LaterD W, w'' = y.w :=
  (h x.w x.h).mono fun _ w'' ⟨he, hb⟩ => ⟨he, ⟨w'', hb⟩, rfl⟩
set_option maxHeartbeats 1000000 in
theorem may_inD (a b c d e : Int) (w : World) (he : e = 1 ∨ e = 2 ∨ e = 3 ∨ e = 4) :
    Calls Tryz.prog 74 #[Pt.v ⟨a, b, c, d, e⟩] w fun e' w' => e' = .returned (.bool (allB (atN a b c d e))) ∧ BelowD w w' := by
  obtain ⟨f, hf⟩ : ∃ f, atN a b c d e = f := ⟨_, rfl⟩
  have f0 : atB a 0 e = f 0 := by rw [← hf]; rfl
  have f1 : atB b 1 e = f 1 := by rw [← hf]; rfl
  have f2 : atB c 2 e = f 2 := by rw [← hf]; rfl
  have f3 : atB d 3 e = f 3 := by rw [← hf]; rfl
  rw [hf]
  clear hf
  unfold atB at f0 f1 f2 f3
  replace f0 := Lib.hid f0
  replace f1 := Lib.hid f1
  replace f2 := Lib.hid f2
  replace f3 := Lib.hid f3
  rcases he with rfl | rfl | rfl | rfl
  all_goals
    go_enter Tryz.func74, Tryz.ntmps74
    go_wp2
    go_loop [15] (fun i => Idx (Seen f) i) (fun i => (4 - intOf i).toNat)
    case atStart => exact .inl ⟨rfl, seen0 f⟩
    case round =>
      rcases hrel with ⟨rfl, hs⟩ | ⟨rfl, hs⟩ | ⟨rfl, hs⟩ | ⟨rfl, hs⟩ | ⟨rfl, hs⟩
      · cases h : numB a
        · go_wp2_with (go_at_call 105; ((with_reducible refine (num_no _ _ (by assumption)).mono ?_); rintro e w' ⟨rfl, rfl⟩))
          go_ret
          exact ⟨ret_bool (not_all (k := 0) (by omega) (by rw [← f0.out, h]; rfl)).symm, box_belowD _ _⟩
        · go_wp2_with (go_at_call 105; ((with_reducible refine (num_yes _ _ (by assumption)).mono ?_); rintro e w' ⟨rfl, rfl⟩))
          go_round
          case rel => exact .inr (.inl ⟨by go_num, hs.next (by rw [← f0.out, h]; rfl)⟩)
          case measure => simp [intOf]
      · cases h : numB b
        · go_wp2_with (go_at_call 105; ((with_reducible refine (num_no _ _ (by assumption)).mono ?_); rintro e w' ⟨rfl, rfl⟩))
          go_ret
          exact ⟨ret_bool (not_all (k := 1) (by omega) (by rw [← f1.out, h]; rfl)).symm, box_belowD _ _⟩
        · cases hz : (b != 0)
          all_goals
            go_wp2_with (go_at_call 105; ((with_reducible refine (num_yes _ _ (by assumption)).mono ?_); rintro e w' ⟨rfl, rfl⟩))
            first
            | (go_ret
               exact ⟨ret_bool (not_all (k := 1) (by omega) (by rw [← f1.out, h, hz]; rfl)).symm, box_belowD _ _⟩)
            | (go_round
               case rel => exact .inr (.inr (.inl ⟨by go_num, hs.next (by rw [← f1.out, h, hz]; rfl)⟩))
               case measure => simp [intOf])
      · cases h : numB c
        · go_wp2_with (go_at_call 105; ((with_reducible refine (num_no _ _ (by assumption)).mono ?_); rintro e w' ⟨rfl, rfl⟩))
          go_ret
          exact ⟨ret_bool (not_all (k := 2) (by omega) (by rw [← f2.out, h]; rfl)).symm, box_belowD _ _⟩
        · cases hz : (c != 0)
          all_goals
            go_wp2_with (go_at_call 105; ((with_reducible refine (num_yes _ _ (by assumption)).mono ?_); rintro e w' ⟨rfl, rfl⟩))
            first
            | (go_ret
               exact ⟨ret_bool (not_all (k := 2) (by omega) (by rw [← f2.out, h, hz]; rfl)).symm, box_belowD _ _⟩)
            | (go_round
               case rel => exact .inr (.inr (.inr (.inl ⟨by go_num, hs.next (by rw [← f2.out, h, hz]; rfl)⟩)))
               case measure => simp [intOf])
      · cases h : numB d
        · go_wp2_with (go_at_call 105; ((with_reducible refine (num_no _ _ (by assumption)).mono ?_); rintro e w' ⟨rfl, rfl⟩))
          go_ret
          exact ⟨ret_bool (not_all (k := 3) (by omega) (by rw [← f3.out, h]; rfl)).symm, box_belowD _ _⟩
        · cases hz : (d != 0)
          all_goals
            go_wp2_with (go_at_call 105; ((with_reducible refine (num_yes _ _ (by assumption)).mono ?_); rintro e w' ⟨rfl, rfl⟩))
            first
            | (go_ret
               exact ⟨ret_bool (not_all (k := 3) (by omega) (by rw [← f3.out, h, hz]; rfl)).symm, box_belowD _ _⟩)
            | (go_round
               case rel => exact .inr (.inr (.inr (.inr ⟨by go_num, hs.next (by rw [← f3.out, h, hz]; rfl)⟩)))
               case measure => simp [intOf])
      · go_wp2
        go_ret
        exact ⟨ret_bool hs.all.symm, box_belowD _ _⟩
theorem may_anyD (p : Pt) (w : World) :
    Calls Tryz.prog 74 #[p.v] w fun e w' => e = .returned (.bool (rightB p)) ∧ BelowD w w' := by
  by_cases h : 1 ≤ p.e ∧ p.e ≤ 4
  · rw [rightB_in h.1 h.2]
    obtain ⟨a, b, c, d, e⟩ := p
    exact may_inD a b c d e w (by simp only at h; omega)
  · rw [rightB_out h]
    obtain ⟨a, b, c, d, e⟩ := p
    simp only at h
    by_cases h1 : 1 ≤ e
    · have h4 : 4 < e := by omega
      have h1' : ¬ e < 1 := by omega
      clear h
      go_enter Tryz.func74, Tryz.ntmps74
      go_wp2
      go_ret
      exact ⟨rfl, box_belowD _ _⟩
    · have h1' : e < 1 := by omega
      clear h
      go_enter Tryz.func74, Tryz.ntmps74
      go_wp2
      go_ret
      exact ⟨rfl, box_belowD _ _⟩
theorem may_gD {w : World} {p : Pt} {b : Bool} (h : rightB p = b) : GivesD w 74 #[p.v] (.bool b) := by
  subst h; exact GivesD.of (may_anyD p)
theorem compare_gD {w : World} {a b c d a' b' c' d' : Int} {k k' : Nat} (h : k ≤ 4) (h' : k' ≤ 4) :
    GivesD (boxed (boxed w a b c d k) a' b' c' d' k') 127 #[.slice (some ⟨w.heap.size, 0, none⟩) k 4, .slice (some ⟨w.heap.size + 1, 0, none⟩) k' 4] (.int .i64 (cmpL ([a, b, c, d].take k) ([a', b', c', d'].take k'))) := by
  intro w' hb
  obtain ⟨h1, _⟩ := kept hb.bel
  have i1 : InCells w' w.heap.size ([a, b, c, d].take k) := by
    apply take_cells
    all_goals rw [h1 _ _ (by simp; omega)]
    all_goals simp [go_sem]
  have i2 : InCells w' (w.heap.size + 1) ([a', b', c', d'].take k') := by
    apply take_cells
    all_goals rw [h1 _ _ (by simp)]
    all_goals simp [go_sem]
  have := compare_any _ _ _ _ w' (by rw [take_len h]; exact h) (by rw [take_len h']; exact h') i1 i2
  rw [take_len h, take_len h'] at this
  exact this.mono fun _ _ ⟨he, hw⟩ => ⟨he, hw ▸ hb⟩

set_option maxHeartbeats 2000000 in
theorem less_anyD (p q : Pt) (w : World) :
    Calls Tryz.prog 95 #[p.v, q.v] w fun e w' => e = .returned (.bool (lessB p q)) ∧ BelowD w w' := by
  obtain ⟨a, b, c, d, e⟩ := p
  obtain ⟨a', b', c', d', e'⟩ := q
  cases hr : rightB ⟨a, b, c, d, e⟩
  · have gp := may_gD (w := (boxed (boxed w a b c d e) a' b' c' d' e')) hr
    have HV := Lib.hid (show lessB ⟨a, b, c, d, e⟩ ⟨a', b', c', d', e'⟩ = false by simp [lessB, hr])
    clear hr
    go_enter Tryz.func95, Tryz.ntmps95
    go_wp2
    refine wp_region_laterD (boxed (boxed w a b c d e) a' b' c' d' e') (by kernel_rfl) (by kernel_rfl) (BelowD.refl _) ?_
    repeat (go_big_quiet_step (((first | go_at_call 74 | go_at_call 127); exact GivesD.later (by with_reducible assumption))))
    refine wpQuiet_nil ?_
    rintro _ ⟨⟨w1, hb1⟩, rfl⟩
    go_wp2
    go_ret
    exact ⟨ret_bool HV.out.symm, below_pastD hb1⟩
  · cases hq : rightB ⟨a', b', c', d', e'⟩
    · have gp := may_gD (w := (boxed (boxed w a b c d e) a' b' c' d' e')) hr
      have gq := may_gD (w := (boxed (boxed w a b c d e) a' b' c' d' e')) hq
      have HV := Lib.hid (show lessB ⟨a, b, c, d, e⟩ ⟨a', b', c', d', e'⟩ = false by simp [lessB, hq])
      clear hr hq
      go_enter Tryz.func95, Tryz.ntmps95
      go_wp2
      refine wp_region_laterD (boxed (boxed w a b c d e) a' b' c' d' e') (by kernel_rfl) (by kernel_rfl) (BelowD.refl _) ?_
      repeat (go_big_quiet_step (((first | go_at_call 74 | go_at_call 127); exact GivesD.later (by with_reducible assumption))))
      refine wpQuiet_nil ?_
      rintro _ ⟨⟨w1, hb1⟩, rfl⟩
      go_wp2
      go_ret
      exact ⟨ret_bool HV.out.symm, below_pastD hb1⟩
    · have hd := right_depth hr
      have hd' := right_depth hq
      simp only at hd hd'
      obtain ⟨k, rfl⟩ : ∃ k : Nat, e = k := ⟨e.toNat, by omega⟩
      obtain ⟨k', rfl⟩ : ∃ k' : Nat, e' = k' := ⟨e'.toNat, by omega⟩
      have hk : k ≤ 4 := by omega
      have hk' : k' ≤ 4 := by omega
      have gp := may_gD (w := (boxed (boxed w a b c d k) a' b' c' d' k')) hr
      have gq := may_gD (w := (boxed (boxed w a b c d k) a' b' c' d' k')) hq
      have gc := compare_gD (w := w) (a := a) (b := b) (c := c) (d := d) (a' := a') (b' := b') (c' := c') (d' := d') hk hk'
      have HV := Lib.hid (show lessB ⟨a, b, c, d, k⟩ ⟨a', b', c', d', k'⟩ = decide (cmpL ([a, b, c, d].take k) ([a', b', c', d'].take k') < 0) by unfold lessB; rw [hr, hq]; rfl)
      have i1 : (0 : Int) ≤ (k : Int) := by omega
      have i2 : (k : Int) ≤ 4 := by omega
      have i3 : (0 : Int) ≤ (k' : Int) := by omega
      have i4 : (k' : Int) ≤ 4 := by omega
      clear hr hq hd hd'
      generalize cmpL ([a, b, c, d].take k) ([a', b', c', d'].take k') = z at *
      go_enter Tryz.func95, Tryz.ntmps95
      go_wp2
      refine wp_region_laterD (boxed (boxed w a b c d k) a' b' c' d' k') (by kernel_rfl) (by kernel_rfl) (BelowD.refl _) ?_
      repeat (go_big_quiet_step (((first | go_at_call 74 | go_at_call 127); exact GivesD.later (by with_reducible assumption))))
      refine wpQuiet_nil ?_
      rintro _ ⟨⟨w1, hb1⟩, rfl⟩
      go_wp2
      go_ret
      exact ⟨ret_bool HV.out.symm, below_pastD hb1⟩
/-- how two nodes compare -/
def cmpP (p q : Pt) : Int := if lessB p q then -1 else if lessB q p then 1 else 0
theorem tcompare_any (p q : Pt) (W : World) : Calls Tryz.prog 59 #[p.v, q.v] W fun e w' => e = .returned (.int .i64 (cmpP p q)) ∧ BelowD W w' := by
  have HX := Lib.hid ((box_belowD W (.cells #[.int .i64 p.a, .int .i64 p.b, .int .i64 p.c, .int .i64 p.d, .int .i64 p.e] 30)).trans (box_belowD _ (.cells #[.int .i64 q.a, .int .i64 q.b, .int .i64 q.c, .int .i64 q.d, .int .i64 q.e] 30)))
  have H1 := Lib.hid (fun w => less_anyD p q w)
  have H2 := Lib.hid (fun w => less_anyD q p w)
  have HC := Lib.hid (show cmpP p q = if lessB p q then -1 else if lessB q p then 1 else 0 from rfl)
  generalize cmpP p q = z at *
  generalize lessB p q = x at *
  generalize lessB q p = y at *
  obtain ⟨a, b, c, d, e⟩ := p
  obtain ⟨a', b', c', d', e'⟩ := q
  go_enter Tryz.func59, Tryz.ntmps59
  go_wp2_with fail
  refine (H1.out _).mono ?_
  rintro r w1 ⟨rfl, hb1⟩
  obtain ⟨h1, _⟩ := kept hb1.bel
  have c0 := (h1 W.heap.size 0 (by simp; try omega)).trans (show _ = some (.int .i64 a) by simp [go_sem])
  have c1 := (h1 W.heap.size 1 (by simp; try omega)).trans (show _ = some (.int .i64 b) by simp [go_sem])
  have c2 := (h1 W.heap.size 2 (by simp; try omega)).trans (show _ = some (.int .i64 c) by simp [go_sem])
  have c3 := (h1 W.heap.size 3 (by simp; try omega)).trans (show _ = some (.int .i64 d) by simp [go_sem])
  have c4 := (h1 W.heap.size 4 (by simp; try omega)).trans (show _ = some (.int .i64 e) by simp [go_sem])
  have g0 := (h1 (W.heap.size + 1) 0 (by simp; try omega)).trans (show _ = some (.int .i64 a') by simp [go_sem])
  have g1 := (h1 (W.heap.size + 1) 1 (by simp; try omega)).trans (show _ = some (.int .i64 b') by simp [go_sem])
  have g2 := (h1 (W.heap.size + 1) 2 (by simp; try omega)).trans (show _ = some (.int .i64 c') by simp [go_sem])
  have g3 := (h1 (W.heap.size + 1) 3 (by simp; try omega)).trans (show _ = some (.int .i64 d') by simp [go_sem])
  have g4 := (h1 (W.heap.size + 1) 4 (by simp; try omega)).trans (show _ = some (.int .i64 e') by simp [go_sem])
  have HX1 := Lib.hid (HX.out.trans hb1)
  clear hb1 h1
  cases x
  · go_wp2_with fail
    refine (H2.out _).mono ?_
    rintro r w2 ⟨rfl, hb2⟩
    have HX2 := Lib.hid (HX1.out.trans hb2)
    clear hb2 c0 c1 c2 c3 c4 g0 g1 g2 g3 g4
    cases y
    · go_wp2_with fail
      go_ret
      exact ⟨by rw [HC.out]; rfl, HX2.out⟩
    · go_wp2_with fail
      go_ret
      exact ⟨by rw [HC.out]; rfl, HX2.out⟩
  · clear c0 c1 c2 c3 c4 g0 g1 g2 g3 g4
    go_wp2_with fail
    go_ret
    exact ⟨by rw [HC.out]; rfl, HX1.out⟩
end Go.Proofs.YtmolohncllcgbaaGreatDoor.Pa
