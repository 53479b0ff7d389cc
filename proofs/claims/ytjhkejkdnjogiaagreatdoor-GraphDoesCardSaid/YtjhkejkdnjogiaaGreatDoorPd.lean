/- Two nodes compared, and how often the tape was read: as the sort asks for it. -/
import Derived.Test.YtjhkejkdnjogiaaGreatDoorPa
import Derived.Test.YtjhkejkdnjogiaaGreatDoorSo
import Derived.Lib.Hide
import Derived.Test.YtjhkejkdnjogiaaGreatDoorR1
namespace Go.Proofs.YtjhkejkdnjogiaaGreatDoor.Pa
open Go Go.RowKit
set_option maxRecDepth 100000

/-- what there was is as it was, and the tape was not turned back -/
structure BelowD (u v : World) : Prop where
  bel : Below u.heap.size u v
  drawn : u.drawn ≤ v.drawn
theorem BelowD.refl (w : World) : BelowD w w := ⟨Below.refl _ _, Nat.le_refl _⟩
theorem BelowD.trans {a b c : World} (h : BelowD a b) (k : BelowD b c) : BelowD a c := ⟨h.bel.trans (k.bel.mono h.bel.size), Nat.le_trans h.drawn k.drawn⟩
theorem BelowD.drew {a b : World} (h : BelowD a b) : BelowD a b.drew := ⟨h.bel.drew, Nat.le_succ_of_le h.drawn⟩
theorem box_belowD (w : World) (o : Obj) : BelowD w (w.alloc o) := ⟨box_below w o, Nat.le_refl _⟩
theorem below_pastD {w w1 : World} {o o' : Obj} (h : BelowD ((w.alloc o).alloc o') w1) : BelowD w w1 := ⟨below_past h.bel, h.drawn⟩
def GivesD (w0 : World) (f : Nat) (args : Array Value) (v : Value) : Prop :=
  ∀ w', BelowD w0 w' → Calls Tryz.prog f args w' fun e w'' => e = .returned v ∧ BelowD w0 w''
theorem GivesD.of {w0 : World} {f : Nat} {args : Array Value} {v : Value} (h : ∀ w, Calls Tryz.prog f args w fun e w' => e = .returned v ∧ BelowD w w') : GivesD w0 f args v :=
  fun w' hb => (h w').mono fun _ _ ⟨he, hb'⟩ => ⟨he, hb.trans hb'⟩
structure LaterD (W : World) where
  w : World
  h : BelowD W w
instance {W : World} : Inhabited (LaterD W) := ⟨⟨W, BelowD.refl _⟩⟩
@[go_sem] theorem LaterD.cell {W : World} (x : LaterD W) (b o : Nat) (h : b < W.heap.size) : x.w.cell? ⟨b, o, none⟩ = W.cell? ⟨b, o, none⟩ := x.h.bel.cell (p := ⟨b, o, none⟩) h
theorem wp_region_laterD {P : Program} (W : World) {id : Nat} {Q : Exit → Act → World → Prop} {a : Act} {w : World} {l : List Oper} (hm : P.follows .mixedOrders = true) (hB : Region.lexB .any l.toArray = true)
    (hw : BelowD W w)
    (h : wpQuiet P l.toArray (fun w' => ∃ x : LaterD W, w' = x.w) (fun a' => ∀ w', (∃ x : LaterD W, w' = x.w) → Q .normal a' w') l a) : (Code.region id l.toArray true).wp P Q a w :=
  wp_region_quiet (C := fun w' => ∃ x : LaterD W, w' = x.w) hm hB ⟨⟨w.drew, hw.drew⟩, rfl⟩ (by simpa using h)
theorem GivesD.later {W : World} {f : Nat} {args : Array Value} {v : Value} {x : LaterD W} (h : GivesD W f args v) :
    Calls Tryz.prog f args x.w fun e w'' => e = .returned v ∧ ∃ y : LaterD W, w'' = y.w :=
  (h x.w x.h).mono fun _ w'' ⟨he, hb⟩ => ⟨he, ⟨w'', hb⟩, rfl⟩
set_option maxHeartbeats 1000000 in
theorem may_inD (a b c d e : Int) (w : World) (he : e = 1 ∨ e = 2 ∨ e = 3 ∨ e = 4) :
    Calls Tryz.prog 85 #[Pt.v ⟨a, b, c, d, e⟩] w fun e' w' => e' = .returned (.bool (allB (atN a b c d e))) ∧ BelowD w w' := by
  obtain ⟨f, hf⟩ : ∃ f, atN a b c d e = f := ⟨_, rfl⟩
  have f0 : atB a 0 e = f 0 := by rw [← hf]; rfl
  have f1 : atB b 1 e = f 1 := by rw [← hf]; rfl
  have f2 : atB c 2 e = f 2 := by rw [← hf]; rfl
  have f3 : atB d 3 e = f 3 := by rw [← hf]; rfl
  rw [hf]
  clear hf
  unfold atB at f0 f1 f2 f3
  replace f0 := Lib.hid f0
  replace f1 := Lib.hid f1
  replace f2 := Lib.hid f2
  replace f3 := Lib.hid f3
  rcases he with rfl | rfl | rfl | rfl
  all_goals
    go_enter Tryz.func85, Tryz.ntmps85
    go_wp2
    go_loop [15] (fun i => Idx (Seen f) i) (fun i => (4 - intOf i).toNat)
    case atStart => exact .inl ⟨rfl, seen0 f⟩
    case round =>
      rcases hrel with ⟨rfl, hs⟩ | ⟨rfl, hs⟩ | ⟨rfl, hs⟩ | ⟨rfl, hs⟩ | ⟨rfl, hs⟩
      · cases h : numB a
        · go_wp2_with (go_at_call 129; ((with_reducible refine (num_no _ _ (by assumption)).mono ?_); rintro e w' ⟨rfl, rfl⟩))
          go_ret
          exact ⟨ret_bool (not_all (k := 0) (by omega) (by rw [← f0.out, h]; rfl)).symm, box_belowD _ _⟩
        · go_wp2_with (go_at_call 129; ((with_reducible refine (num_yes _ _ (by assumption)).mono ?_); rintro e w' ⟨rfl, rfl⟩))
          go_round
          case rel => exact .inr (.inl ⟨by go_num, hs.next (by rw [← f0.out, h]; rfl)⟩)
          case measure => simp [intOf]
      · cases h : numB b
        · go_wp2_with (go_at_call 129; ((with_reducible refine (num_no _ _ (by assumption)).mono ?_); rintro e w' ⟨rfl, rfl⟩))
          go_ret
          exact ⟨ret_bool (not_all (k := 1) (by omega) (by rw [← f1.out, h]; rfl)).symm, box_belowD _ _⟩
        · cases hz : (b != 0)
          all_goals
            go_wp2_with (go_at_call 129; ((with_reducible refine (num_yes _ _ (by assumption)).mono ?_); rintro e w' ⟨rfl, rfl⟩))
            first
            | (go_ret
               exact ⟨ret_bool (not_all (k := 1) (by omega) (by rw [← f1.out, h, hz]; rfl)).symm, box_belowD _ _⟩)
            | (go_round
               case rel => exact .inr (.inr (.inl ⟨by go_num, hs.next (by rw [← f1.out, h, hz]; rfl)⟩))
               case measure => simp [intOf])
      · cases h : numB c
        · go_wp2_with (go_at_call 129; ((with_reducible refine (num_no _ _ (by assumption)).mono ?_); rintro e w' ⟨rfl, rfl⟩))
          go_ret
          exact ⟨ret_bool (not_all (k := 2) (by omega) (by rw [← f2.out, h]; rfl)).symm, box_belowD _ _⟩
        · cases hz : (c != 0)
          all_goals
            go_wp2_with (go_at_call 129; ((with_reducible refine (num_yes _ _ (by assumption)).mono ?_); rintro e w' ⟨rfl, rfl⟩))
            first
            | (go_ret
               exact ⟨ret_bool (not_all (k := 2) (by omega) (by rw [← f2.out, h, hz]; rfl)).symm, box_belowD _ _⟩)
            | (go_round
               case rel => exact .inr (.inr (.inr (.inl ⟨by go_num, hs.next (by rw [← f2.out, h, hz]; rfl)⟩)))
               case measure => simp [intOf])
      · cases h : numB d
        · go_wp2_with (go_at_call 129; ((with_reducible refine (num_no _ _ (by assumption)).mono ?_); rintro e w' ⟨rfl, rfl⟩))
          go_ret
          exact ⟨ret_bool (not_all (k := 3) (by omega) (by rw [← f3.out, h]; rfl)).symm, box_belowD _ _⟩
        · cases hz : (d != 0)
          all_goals
            go_wp2_with (go_at_call 129; ((with_reducible refine (num_yes _ _ (by assumption)).mono ?_); rintro e w' ⟨rfl, rfl⟩))
            first
            | (go_ret
               exact ⟨ret_bool (not_all (k := 3) (by omega) (by rw [← f3.out, h, hz]; rfl)).symm, box_belowD _ _⟩)
            | (go_round
               case rel => exact .inr (.inr (.inr (.inr ⟨by go_num, hs.next (by rw [← f3.out, h, hz]; rfl)⟩)))
               case measure => simp [intOf])
      · go_wp2
        go_ret
        exact ⟨ret_bool hs.all.symm, box_belowD _ _⟩
theorem may_anyD (p : Pt) (w : World) :
    Calls Tryz.prog 85 #[p.v] w fun e w' => e = .returned (.bool (rightB p)) ∧ BelowD w w' := by
  by_cases h : 1 ≤ p.e ∧ p.e ≤ 4
  · rw [rightB_in h.1 h.2]
    obtain ⟨a, b, c, d, e⟩ := p
    exact may_inD a b c d e w (by simp only at h; omega)
  · rw [rightB_out h]
    obtain ⟨a, b, c, d, e⟩ := p
    simp only at h
    by_cases h1 : 1 ≤ e
    · have h4 : 4 < e := by omega
      have h1' : ¬ e < 1 := by omega
      clear h
      go_enter Tryz.func85, Tryz.ntmps85
      go_wp2
      go_ret
      exact ⟨rfl, box_belowD _ _⟩
    · have h1' : e < 1 := by omega
      clear h
      go_enter Tryz.func85, Tryz.ntmps85
      go_wp2
      go_ret
      exact ⟨rfl, box_belowD _ _⟩
theorem may_gD {w : World} {p : Pt} {b : Bool} (h : rightB p = b) : GivesD w 85 #[p.v] (.bool b) := by
  subst h; exact GivesD.of (may_anyD p)
theorem compare_gD {w : World} {a b c d a' b' c' d' : Int} {k k' : Nat} (h : k ≤ 4) (h' : k' ≤ 4) :
    GivesD (boxed (boxed w a b c d k) a' b' c' d' k') 154 #[.slice (some ⟨w.heap.size, 0, none⟩) k 4, .slice (some ⟨w.heap.size + 1, 0, none⟩) k' 4] (.int .i64 (cmpL ([a, b, c, d].take k) ([a', b', c', d'].take k'))) := by
  intro w' hb
  obtain ⟨h1, _⟩ := kept hb.bel
  have i1 : InCells w' w.heap.size ([a, b, c, d].take k) := by
    apply take_cells
    all_goals rw [h1 _ _ (by simp; omega)]
    all_goals simp [go_sem]
  have i2 : InCells w' (w.heap.size + 1) ([a', b', c', d'].take k') := by
    apply take_cells
    all_goals rw [h1 _ _ (by simp)]
    all_goals simp [go_sem]
  have := compare_any _ _ _ _ w' (by rw [take_len h]; exact h) (by rw [take_len h']; exact h') i1 i2
  rw [take_len h, take_len h'] at this
  exact this.mono fun _ _ ⟨he, hw⟩ => ⟨he, hw ▸ hb⟩

set_option maxHeartbeats 2000000 in
theorem less_anyD (p q : Pt) (w : World) :
    Calls Tryz.prog 115 #[p.v, q.v] w fun e w' => e = .returned (.bool (lessB p q)) ∧ BelowD w w' := by
  obtain ⟨a, b, c, d, e⟩ := p
  obtain ⟨a', b', c', d', e'⟩ := q
  cases hr : rightB ⟨a, b, c, d, e⟩
  · have gp := may_gD (w := (boxed (boxed w a b c d e) a' b' c' d' e')) hr
    have HV := Lib.hid (show lessB ⟨a, b, c, d, e⟩ ⟨a', b', c', d', e'⟩ = false by simp [lessB, hr])
    clear hr
    go_enter Tryz.func115, Tryz.ntmps115
    go_wp2
    refine wp_region_laterD (boxed (boxed w a b c d e) a' b' c' d' e') (by kernel_rfl) (by kernel_rfl) (BelowD.refl _) ?_
    repeat (go_big_quiet_step (((first | go_at_call 85 | go_at_call 154); exact GivesD.later (by with_reducible assumption))))
    refine wpQuiet_nil ?_
    rintro _ ⟨⟨w1, hb1⟩, rfl⟩
    go_wp2
    go_ret
    exact ⟨ret_bool HV.out.symm, below_pastD hb1⟩
  · cases hq : rightB ⟨a', b', c', d', e'⟩
    · have gp := may_gD (w := (boxed (boxed w a b c d e) a' b' c' d' e')) hr
      have gq := may_gD (w := (boxed (boxed w a b c d e) a' b' c' d' e')) hq
      have HV := Lib.hid (show lessB ⟨a, b, c, d, e⟩ ⟨a', b', c', d', e'⟩ = false by simp [lessB, hq])
      clear hr hq
      go_enter Tryz.func115, Tryz.ntmps115
      go_wp2
      refine wp_region_laterD (boxed (boxed w a b c d e) a' b' c' d' e') (by kernel_rfl) (by kernel_rfl) (BelowD.refl _) ?_
      repeat (go_big_quiet_step (((first | go_at_call 85 | go_at_call 154); exact GivesD.later (by with_reducible assumption))))
      refine wpQuiet_nil ?_
      rintro _ ⟨⟨w1, hb1⟩, rfl⟩
      go_wp2
      go_ret
      exact ⟨ret_bool HV.out.symm, below_pastD hb1⟩
    · have hd := right_depth hr
      have hd' := right_depth hq
      simp only at hd hd'
      obtain ⟨k, rfl⟩ : ∃ k : Nat, e = k := ⟨e.toNat, by omega⟩
      obtain ⟨k', rfl⟩ : ∃ k' : Nat, e' = k' := ⟨e'.toNat, by omega⟩
      have hk : k ≤ 4 := by omega
      have hk' : k' ≤ 4 := by omega
      have gp := may_gD (w := (boxed (boxed w a b c d k) a' b' c' d' k')) hr
      have gq := may_gD (w := (boxed (boxed w a b c d k) a' b' c' d' k')) hq
      have gc := compare_gD (w := w) (a := a) (b := b) (c := c) (d := d) (a' := a') (b' := b') (c' := c') (d' := d') hk hk'
      have HV := Lib.hid (show lessB ⟨a, b, c, d, k⟩ ⟨a', b', c', d', k'⟩ = decide (cmpL ([a, b, c, d].take k) ([a', b', c', d'].take k') < 0) by unfold lessB; rw [hr, hq]; rfl)
      have i1 : (0 : Int) ≤ (k : Int) := by omega
      have i2 : (k : Int) ≤ 4 := by omega
      have i3 : (0 : Int) ≤ (k' : Int) := by omega
      have i4 : (k' : Int) ≤ 4 := by omega
      clear hr hq hd hd'
      generalize cmpL ([a, b, c, d].take k) ([a', b', c', d'].take k') = z at *
      go_enter Tryz.func115, Tryz.ntmps115
      go_wp2
      refine wp_region_laterD (boxed (boxed w a b c d k) a' b' c' d' k') (by kernel_rfl) (by kernel_rfl) (BelowD.refl _) ?_
      repeat (go_big_quiet_step (((first | go_at_call 85 | go_at_call 154); exact GivesD.later (by with_reducible assumption))))
      refine wpQuiet_nil ?_
      rintro _ ⟨⟨w1, hb1⟩, rfl⟩
      go_wp2
      go_ret
      exact ⟨ret_bool HV.out.symm, below_pastD hb1⟩
/-- how two nodes compare -/
def cmpP (p q : Pt) : Int := if lessB p q then -1 else if lessB q p then 1 else 0
theorem tcompare_any (p q : Pt) (W : World) : Calls Tryz.prog 77 #[p.v, q.v] W fun e w' => e = .returned (.int .i64 (cmpP p q)) ∧ BelowD W w' := by
  have HX := Lib.hid ((box_belowD W (.cells #[.int .i64 p.a, .int .i64 p.b, .int .i64 p.c, .int .i64 p.d, .int .i64 p.e] 25)).trans (box_belowD _ (.cells #[.int .i64 q.a, .int .i64 q.b, .int .i64 q.c, .int .i64 q.d, .int .i64 q.e] 25)))
  have H1 := Lib.hid (fun w => less_anyD p q w)
  have H2 := Lib.hid (fun w => less_anyD q p w)
  have HC := Lib.hid (show cmpP p q = if lessB p q then -1 else if lessB q p then 1 else 0 from rfl)
  generalize cmpP p q = z at *
  generalize lessB p q = x at *
  generalize lessB q p = y at *
  obtain ⟨a, b, c, d, e⟩ := p
  obtain ⟨a', b', c', d', e'⟩ := q
  go_enter Tryz.func77, Tryz.ntmps77
  go_wp2_with fail
  refine (H1.out _).mono ?_
  rintro r w1 ⟨rfl, hb1⟩
  obtain ⟨h1, _⟩ := kept hb1.bel
  have c0 := (h1 W.heap.size 0 (by simp; try omega)).trans (show _ = some (.int .i64 a) by simp [go_sem])
  have c1 := (h1 W.heap.size 1 (by simp; try omega)).trans (show _ = some (.int .i64 b) by simp [go_sem])
  have c2 := (h1 W.heap.size 2 (by simp; try omega)).trans (show _ = some (.int .i64 c) by simp [go_sem])
  have c3 := (h1 W.heap.size 3 (by simp; try omega)).trans (show _ = some (.int .i64 d) by simp [go_sem])
  have c4 := (h1 W.heap.size 4 (by simp; try omega)).trans (show _ = some (.int .i64 e) by simp [go_sem])
  have g0 := (h1 (W.heap.size + 1) 0 (by simp; try omega)).trans (show _ = some (.int .i64 a') by simp [go_sem])
  have g1 := (h1 (W.heap.size + 1) 1 (by simp; try omega)).trans (show _ = some (.int .i64 b') by simp [go_sem])
  have g2 := (h1 (W.heap.size + 1) 2 (by simp; try omega)).trans (show _ = some (.int .i64 c') by simp [go_sem])
  have g3 := (h1 (W.heap.size + 1) 3 (by simp; try omega)).trans (show _ = some (.int .i64 d') by simp [go_sem])
  have g4 := (h1 (W.heap.size + 1) 4 (by simp; try omega)).trans (show _ = some (.int .i64 e') by simp [go_sem])
  have HX1 := Lib.hid (HX.out.trans hb1)
  clear hb1 h1
  cases x
  · go_wp2_with fail
    refine (H2.out _).mono ?_
    rintro r w2 ⟨rfl, hb2⟩
    have HX2 := Lib.hid (HX1.out.trans hb2)
    clear hb2 c0 c1 c2 c3 c4 g0 g1 g2 g3 g4
    cases y
    · go_wp2_with fail
      go_ret
      exact ⟨by rw [HC.out]; rfl, HX2.out⟩
    · go_wp2_with fail
      go_ret
      exact ⟨by rw [HC.out]; rfl, HX2.out⟩
  · clear c0 c1 c2 c3 c4 g0 g1 g2 g3 g4
    go_wp2_with fail
    go_ret
    exact ⟨by rw [HC.out]; rfl, HX1.out⟩
end Go.Proofs.YtjhkejkdnjogiaaGreatDoor.Pa
/- A row of nodes, sorted by the library. -/
namespace Go.Proofs.YtjhkejkdnjogiaaGreatDoor.Pa
open Go Go.RowKit Go.Shelf Go.Lib Go.Sort
set_option maxRecDepth 100000

/-- a list of numbers ahead of another one -/
theorem cmpL_self : ∀ l : List Int, cmpL l l = 0
  | [] => rfl
  | a :: l => by rw [cmpL, if_neg (by omega), if_neg (by omega)]; exact cmpL_self l
theorem cmpL_anti : ∀ l q : List Int, cmpL q l = - cmpL l q
  | [], [] => rfl
  | [], _ :: _ => rfl
  | _ :: _, [] => rfl
  | a :: l, b :: q => by
    have ih := cmpL_anti l q
    simp only [cmpL]
    by_cases h1 : a < b
    · simp only [if_neg (show ¬ b < a by omega), if_pos h1]; omega
    · by_cases h2 : b < a
      · simp only [if_neg h1, if_pos h2]
      · simp only [if_neg h1, if_neg h2]; exact ih
theorem cmpL_eq : ∀ l q : List Int, cmpL l q = 0 → l = q
  | [], [], _ => rfl
  | [], _ :: _, h => by simp [cmpL] at h
  | _ :: _, [], h => by simp [cmpL] at h
  | a :: l, b :: q, h => by
    rw [cmpL] at h
    by_cases h1 : a < b
    · rw [if_pos h1] at h; omega
    · by_cases h2 : b < a
      · rw [if_neg h1, if_pos h2] at h; omega
      · rw [if_neg h1, if_neg h2] at h
        rw [cmpL_eq l q h, show a = b by omega]
theorem cmpL_tr : ∀ l q r : List Int, cmpL l q < 0 → cmpL q r < 0 → cmpL l r < 0
  | [], [], _, h, _ => by simp [cmpL] at h
  | [], _ :: _, [], _, h => by simp [cmpL] at h
  | [], _ :: _, _ :: _, _, _ => by simp [cmpL]
  | _ :: _, [], _, h, _ => by simp [cmpL] at h
  | _ :: _, _ :: _, [], _, h => by simp [cmpL] at h
  | a :: l, b :: q, c :: r, h, k => by
    rw [cmpL] at h k ⊢
    by_cases h1 : a < b
    · by_cases k1 : b < c
      · rw [if_pos (by omega)]; omega
      · by_cases k2 : c < b
        · rw [if_neg k1, if_pos k2] at k; omega
        · rw [if_pos (by omega)]; omega
    · by_cases h2 : b < a
      · rw [if_neg h1, if_pos h2] at h; omega
      · rw [if_neg h1, if_neg h2] at h
        by_cases k1 : b < c
        · rw [if_pos (by omega)]; omega
        · by_cases k2 : c < b
          · rw [if_neg k1, if_pos k2] at k; omega
          · rw [if_neg k1, if_neg k2] at k
            rw [if_neg (by omega), if_neg (by omega)]
            exact cmpL_tr l q r h k
theorem nums_inj {p q : Pt} (hp : rightB p = true) (hq : rightB q = true) (h : numsP p = numsP q) : p = q := by
  unfold numsP at h
  rcases node_shape hp with ⟨a, rfl⟩ | ⟨a, b, rfl⟩ | ⟨a, b, c, rfl⟩ | ⟨a, b, c, d, rfl⟩ <;>
    rcases node_shape hq with ⟨a', rfl⟩ | ⟨a', b', rfl⟩ | ⟨a', b', c', rfl⟩ | ⟨a', b', c', d', rfl⟩ <;>
    simp at h <;> simp [h]
/-- nodes that may be -/
abbrev RPt : Type := { p : Pt // rightB p = true }
instance : Inhabited RPt := ⟨⟨⟨1, 0, 0, 0, 1⟩, by decide⟩⟩
theorem less_right (x y : RPt) : lessB x.1 y.1 = decide (cmpL (numsP x.1) (numsP y.1) < 0) := by unfold lessB; rw [x.2, y.2]; rfl
def cmpR (x y : RPt) : Int := cmpP x.1 y.1
theorem lt_less (x y : RPt) : ltOf cmpR x y = lessB x.1 y.1 := by
  unfold ltOf cmpR cmpP
  cases h1 : lessB x.1 y.1
  · cases h2 : lessB y.1 x.1 <;> simp
  · simp
theorem less_tr {p q r : Pt} (h : lessB p q = true) (k : lessB q r = true) : lessB p r = true := by
  unfold lessB at *
  simp only [Bool.and_eq_true, decide_eq_true_iff] at *
  exact ⟨⟨h.1.1, k.1.2⟩, cmpL_tr _ _ _ h.2 k.2⟩
theorem less_irr (p : Pt) : lessB p p = false := by
  unfold lessB
  rw [cmpL_self]
  simp
theorem less_tot (x y : RPt) (h1 : lessB x.1 y.1 = false) (h2 : lessB y.1 x.1 = false) : x = y := by
  rw [less_right] at h1 h2
  have a1 := of_decide_eq_false h1
  have a2 := of_decide_eq_false h2
  rw [cmpL_anti] at a2
  exact Subtype.ext (nums_inj x.2 y.2 (cmpL_eq _ _ (by omega)))
theorem swoR : SWO (ltOf cmpR) where
  irrefl x := by rw [lt_less]; exact less_irr _
  trans x y z h1 h2 := by rw [lt_less] at *; exact less_tr h1 h2
  ntrans x y z h1 h2 := by
    rw [lt_less] at *
    cases hz : lessB x.1 z.1
    · rfl
    · cases hy : lessB y.1 x.1
      · have := less_tot x y h1 hy
        subst this
        rw [hz] at h2; cases h2
      · have := less_tr hy hz
        rw [h2] at this; cases this
theorem totR (x y : RPt) (h1 : ltOf cmpR x y = false) (h2 : ltOf cmpR y x = false) : x = y := by
  rw [lt_less] at *
  exact less_tot x y h1 h2
/-- the cells of a node -/
def encN (p : Pt) : List Value := [.int .i64 p.a, .int .i64 p.b, .int .i64 p.c, .int .i64 p.d, .int .i64 p.e]
def encR (x : RPt) : List Value := encN x.1
def flatN (xs : List Pt) : List Value := xs.flatMap encN
theorem flatN_cons (x : Pt) (xs : List Pt) : flatN (x :: xs) = encN x ++ flatN xs := by simp [flatN]
theorem flatN_snoc (xs : List Pt) (x : Pt) : flatN (xs ++ [x]) = flatN xs ++ encN x := by simp [flatN]
theorem flatN_length (xs : List Pt) : (flatN xs).length = xs.length * 5 := by
  induction xs with
  | nil => rfl
  | cons x xs ih => rw [flatN_cons, List.length_append, ih]; simp [encN]; omega
theorem flatN_at (xs : List Pt) (i j : Nat) (h : i < xs.length) (hj : j < 5) : (flatN xs)[i * 5 + j]? = (encN xs[i])[j]? := by
  induction xs generalizing i with
  | nil => simp at h
  | cons x xs ih =>
    cases i with
    | zero => rw [flatN_cons, Nat.zero_mul, Nat.zero_add, List.getElem?_append_left (by simpa [encN] using hj)]; rfl
    | succ i =>
      rw [flatN_cons, List.getElem?_append_right (by simp [encN]; omega), show (i + 1) * 5 + j - (encN x).length = i * 5 + j by simp [encN]; omega, ih i (by simpa using h)]
      simp
def vals (xs : List RPt) : List Pt := xs.map (·.1)
theorem vals_length (xs : List RPt) : (vals xs).length = xs.length := by simp [vals]
/-- nodes in order -/
def srt (xs : List RPt) : List RPt := xs.mergeSort fun x y => !(ltOf cmpR) y x
theorem srt_perm (xs : List RPt) : (srt xs).Perm xs := List.mergeSort_perm _ _
theorem srt_length (xs : List RPt) : (srt xs).length = xs.length := (srt_perm xs).length_eq
theorem srt_sorted (xs : List RPt) : (srt xs).Pairwise (fun x y => lessB y.1 x.1 = false) := by
  have h := List.pairwise_mergeSort (le := fun x y => !(ltOf cmpR) y x)
    (fun a b c h1 h2 => by simp only [Bool.not_eq_true'] at *; exact swoR.ntrans c b a h2 h1)
    (fun a b => by
      simp only [Bool.or_eq_true, Bool.not_eq_true']
      cases h : ltOf cmpR b a
      · exact .inl rfl
      · right
        cases h2 : ltOf cmpR a b
        · rfl
        · have := swoR.trans _ _ _ h h2
          rw [swoR.irrefl] at this; cases this) xs
  refine h.imp ?_
  intro a b hab
  simpa [lt_less] using hab
theorem grown_of {W w' : World} (h : BelowD W w') : ∃ q os', w' = grow (W.drewN q) os' := by
  have hd := h.drawn
  replace h := h.bel
  refine ⟨w'.drawn - W.drawn, w'.heap.extract W.heap.size w'.heap.size, ?_⟩
  obtain ⟨h1, t1, d1, o1, u1⟩ := w'
  obtain ⟨h2, t2, d2, o2, u2⟩ := W
  have e1 := h.os
  have e2 := h.tape
  have e3 := h.output
  have e4 := h.size
  have e5 := h.block
  simp only at e1 e2 e3 e4 e5 hd
  subst e1 e2 e3
  unfold grow
  simp only [World.drewN, World.mk.injEq]
  refine ⟨?_, trivial, by omega, trivial, trivial⟩
  apply Array.ext_getElem?
  intro k
  rw [Array.getElem?_append]
  by_cases hk : k < h2.size
  · rw [if_pos hk]; exact e5 k hk
  · rw [if_neg hk, Array.getElem?_extract]
    by_cases hk2 : k < h1.size
    · rw [if_pos (by omega)]; congr 1; omega
    · rw [if_neg (by omega)]; simp; omega
theorem cmpLays (blk off size : Nat) (w : World) : CmpLays Tryz.prog 77 #[] encR 5 cmpR blk off size w :=
  fun _ _ _ _ x y => (tcompare_any x.1 y.1 _).mono fun _ _ ⟨he, hb⟩ => ⟨he, grown_of hb⟩
theorem flatK_flat (xs : List RPt) : flatK encR 5 xs.toArray = (flatN (vals xs)).toArray := by
  apply Array.ext
  · simp [flatN_length, vals_length]
  · intro t h1 h2
    simp [flatN_length, vals_length] at h2
    have ht : t < xs.toArray.size * 5 := by simpa using h2
    have hd : t / 5 < xs.length := by omega
    have hm : t % 5 < 5 := Nat.mod_lt _ (by omega)
    have e1 : (flatK encR 5 xs.toArray)[t] = (encR xs.toArray[t / 5]!)[t % 5]! := by
      rw [← get_flatK encR 5 xs.toArray t ht, getElem!_pos _ t h1]
    rw [e1]
    have e2 : xs.toArray[t / 5]! = xs[t / 5] := by rw [getElem!_pos _ _ (by simpa using hd)]; simp
    rw [e2]
    have f1 := flatN_at (vals xs) (t / 5) (t % 5) (by rw [vals_length]; exact hd) hm
    have h3 : t < (flatN (vals xs)).length := by rw [flatN_length, vals_length]; exact h2
    show _ = (flatN (vals xs))[t]
    rw [show t / 5 * 5 + t % 5 = t by omega, List.getElem?_eq_getElem h3] at f1
    have e3 : (vals xs)[t / 5]'(by rw [vals_length]; exact hd) = xs[t / 5].1 := by simp [vals]
    rw [e3] at f1
    have h5 : t % 5 < (encN xs[t / 5].1).length := by simpa [encN] using hm
    rw [List.getElem?_eq_getElem h5] at f1
    simp only [Option.some.injEq] at f1
    rw [f1]
    exact getElem!_pos (encN xs[t / 5].1) (t % 5) h5
/-- a row of nodes of one's own -/
abbrev Row (W : World) (base : Nat) (v : Value) (xs : List Pt) : Prop := W.ownsRow base 25 5 v xs.length (flatN xs)
theorem row_holds {W : World} {base g n cap : Nat} {xs : List RPt} (h : Row W base (.slice (some ⟨g, 0, none⟩) n cap) (vals xs)) : HoldsK encR 5 W g 0 xs.toArray := by
  unfold HoldsK
  rw [flatK_flat]
  intro j hj
  have hj' : j < (flatN (vals xs)).length := by simpa using hj
  have h1 := h.cells (g := g) rfl j _ (List.getElem?_eq_getElem hj')
  rw [add_at] at h1
  rcases h.2 with ⟨h0, _⟩ | ⟨g', cap', cur, e, _, hb, _⟩
  · cases h0
  · cases e
    refine ⟨?_, by rw [Nat.zero_add]; unfold World.frozen?; simp [hb]⟩
    rw [Nat.zero_add, h1, getElem!_pos _ j hj]
    simp
theorem sort_heap {w : World} {g m : Nat} {xs : List RPt} {os : Array Obj} {cur : Array Value} (hg : w.heap[g]? = some (.cells cur 25 (0, 0))) :
    (sortWorldK encR 5 w g 0 m xs.toArray os).heap[g]? = some (.cells (putCells id 0 (flatN (vals xs)).toArray cur) 25 (0, 0)) ∧
    (∀ k, k ≠ g → k < w.heap.size → (sortWorldK encR 5 w g 0 m xs.toArray os).heap[k]? = w.heap[k]?) ∧ w.heap.size ≤ (sortWorldK encR 5 w g 0 m xs.toArray os).heap.size := by
  have hlt := (Array.getElem?_eq_some_iff.1 hg).1
  have e : (Go.Sort.ahead w m).heap = w.heap := rfl
  unfold sortWorldK putRowK putRow mapBlock grow
  rw [flatK_flat, e]
  refine ⟨?_, fun k hk hks => ?_, ?_⟩
  · simp only [Array.getElem?_append, Array.size_modify]
    rw [if_pos hlt, Array.getElem?_modify, if_pos rfl, hg]
    rfl
  · simp only [Array.getElem?_append, Array.size_modify]
    rw [if_pos hks, Array.getElem?_modify, if_neg (Ne.symm hk)]
  · simp
theorem sort_row {w : World} {base g n cap m : Nat} {xs ys : List RPt} {os : Array Obj} (h : Row w base (.slice (some ⟨g, 0, none⟩) n cap) (vals xs)) (hl : ys.length = xs.length) :
    Row (sortWorldK encR 5 w g 0 m ys.toArray os) base (.slice (some ⟨g, 0, none⟩) n cap) (vals ys) := by
  have hl' : (vals ys).length = (vals xs).length := by rw [vals_length, vals_length, hl]
  rcases h.2 with ⟨h0, _⟩ | ⟨g', cap', cur, e, hb, hg, h1, h2, h3, h4⟩
  · cases h0
  · cases e
    refine ⟨flatN_length _, .inr ⟨g, cap, _, by rw [hl'], hb, (sort_heap hg).1, by rw [hl']; exact h1, h2, by simp [putCells, h3], ?_⟩⟩
    apply List.ext_getElem?
    intro k
    rw [List.getElem?_take]
    by_cases hk : k < (vals ys).length * 5
    · rw [if_pos hk, Array.getElem?_toList]
      have hc : k < cur.size := by rw [h3]; rw [hl'] at hk; omega
      have hf : k < (flatN (vals ys)).length := by rw [flatN_length]; exact hk
      unfold putCells
      rw [Array.getElem?_mapIdx, Array.getElem?_eq_getElem hc]
      simp only [Option.map_some, Nat.zero_le, Nat.zero_add, true_and, List.size_toArray]
      rw [if_pos hf, List.getElem?_eq_getElem hf, Nat.sub_zero, getElem!_pos _ k (by simpa using hf)]
      simp
    · rw [if_neg hk, List.getElem?_eq_none (by rw [flatN_length]; omega)]
theorem sortf_any {w : World} {base : Nat} {v : Value} {xs : List RPt} (h : Row w base v (vals xs)) (hl : xs.length ≤ 1000) :
    Calls Tryz.prog 76 #[v, .func (.func 77) #[] #[]] w fun e w' => e = .returned (.tuple #[]) ∧ Row w' base v (vals (srt xs)) ∧ Below base w w' ∧ OnlyS (fun k => v.ownBlock = some k) w w' := by
  have eg : ∀ args w, (callFunc 77 args).run Tryz.prog w = .ok (.enter 77 args) w := enters_of Tryz.func77 (by kernel_rfl) rfl
  by_cases h0 : xs = []
  · subst h0
    have e : srt [] = [] := by simp [srt]
    rw [e]
    have : ∃ p cap, v = .slice p 0 cap := by
      rcases h.2 with ⟨rfl, _⟩ | ⟨g', cap', cur, rfl, _⟩
      · exact ⟨_, _, rfl⟩
      · exact ⟨_, _, rfl⟩
    obtain ⟨p, cap, rfl⟩ := this
    have hc := AnyF.slices_SortFunc_none sortA p cap (.func (.func 77) #[] #[]) w
    refine Calls.mono (f := 76) hc ?_
    rintro e w' ⟨rfl, rfl⟩
    exact ⟨rfl, h, Below.refl _ _, OnlyS.refl _ _⟩
  · rcases h.2 with ⟨rfl, hn⟩ | ⟨g, cap, cur, rfl, hb, hg, h1, h2, h3, h4⟩
    · exact absurd (List.length_eq_zero_iff.1 (by rw [vals_length] at hn; exact hn)) h0
    · have hlt := (Array.getElem?_eq_some_iff.1 hg).1
      have hh := row_holds h
      rw [vals_length] at h ⊢
      have hc := AnyQ.slices_SortFunc_total sortA 5 Tryz.isAgg25 Tryz.sizeOf25 encR (fun _ => rfl) (fun x v hv => by simp [encR, encN] at hv; rcases hv with rfl | rfl | rfl | rfl | rfl <;> rfl) cmpR swoR 77 #[] g 0 cap xs.toArray w eg (cmpLays _ _ _ _) hh hlt (by simp; omega) totR
      refine Calls.mono (f := 76) hc ?_
      rintro e w' ⟨rfl, n, os, rfl⟩
      have hsz := (sort_heap (m := n) (xs := srt xs) (os := os) hg)
      refine ⟨rfl, sort_row h (srt_length xs), ⟨rfl, rfl, rfl, hsz.2.2, fun k hk => hsz.2.1 k (by omega) (by omega)⟩, ⟨rfl, rfl, rfl, hsz.2.2, fun k hk hn => hsz.2.1 k (fun e => hn (by rw [e]; rfl)) hk⟩⟩
end Go.Proofs.YtjhkejkdnjogiaaGreatDoor.Pa
