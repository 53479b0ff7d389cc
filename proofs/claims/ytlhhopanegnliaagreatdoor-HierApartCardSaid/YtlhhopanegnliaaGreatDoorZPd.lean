import Derived.Test.YtlhhopanegnliaaGreatDoorPa
import Derived.Test.YtlhhopanegnliaaGreatDoorZUs
import Derived.Lib.Hide
import Derived.Test.YtlhhopanegnliaaGreatDoorR1
import Derived.Test.YtlhhopanegnliaaGreatDoorZTg
namespace Go.Proofs.YtlhhopanegnliaaGreatDoor.Pa
open Go Go.RowKit
set_option maxRecDepth 100000
structure BelowD (u v : World) : Prop where
  bel : Below u.heap.size u v
  drawn : u.drawn ≤ v.drawn
theorem BelowD.refl (w : World) : BelowD w w := ⟨Below.refl _ _, Nat.le_refl _⟩
theorem BelowD.trans {a b c : World} (h : BelowD a b) (k : BelowD b c) : BelowD a c := ⟨h.bel.trans (k.bel.mono h.bel.size), Nat.le_trans h.drawn k.drawn⟩
theorem BelowD.drew {a b : World} (h : BelowD a b) : BelowD a b.drew := ⟨h.bel.drew, Nat.le_succ_of_le h.drawn⟩
theorem box_belowD (w : World) (o : Obj) : BelowD w (w.alloc o) := ⟨box_below w o, Nat.le_refl _⟩
theorem below_pastD {w w1 : World} {o o' : Obj} (h : BelowD ((w.alloc o).alloc o') w1) : BelowD w w1 := ⟨below_past h.bel, h.drawn⟩
def GivesD (w0 : World) (f : Nat) (args : Array Value) (v : Value) : Prop :=
  ∀ w', BelowD w0 w' → Calls Tryz.prog f args w' fun e w'' => e = .returned v ∧ BelowD w0 w''
theorem GivesD.of {w0 : World} {f : Nat} {args : Array Value} {v : Value} (h : ∀ w, Calls Tryz.prog f args w fun e w' => e = .returned v ∧ BelowD w w') : GivesD w0 f args v :=
  fun w' hb => (h w').mono fun _ _ ⟨he, hb'⟩ => ⟨he, hb.trans hb'⟩
structure LaterD (W : World) where
  w : World
  h : BelowD W w
instance {W : World} : Inhabited (LaterD W) := ⟨⟨W, BelowD.refl _⟩⟩
@[go_sem] theorem LaterD.cell {W : World} (x : LaterD W) (b o : Nat) (h : b < W.heap.size) : x.w.cell? ⟨b, o, none⟩ = W.cell? ⟨b, o, none⟩ := x.h.bel.cell (p := ⟨b, o, none⟩) h
theorem wp_region_laterD {P : Program} (W : World) {id : Nat} {Q : Exit → Act → World → Prop} {a : Act} {w : World} {l : List Oper} (hm : P.follows .mixedOrders = true) (hB : Region.lexB .any l.toArray = true)
    (hw : BelowD W w)
    (h : wpQuiet P l.toArray (fun w' => ∃ x : LaterD W, w' = x.w) (fun a' => ∀ w', (∃ x : LaterD W, w' = x.w) → Q .normal a' w') l a) : (Code.region id l.toArray true).wp P Q a w :=
  wp_region_quiet (C := fun w' => ∃ x : LaterD W, w' = x.w) hm hB ⟨⟨w.drew, hw.drew⟩, rfl⟩ (by simpa using h)
theorem GivesD.later {W : World} {f : Nat} {args : Array Value} {v : Value} {x : LaterD W} (h : GivesD W f args v) :
    Calls Tryz.prog f args x.w fun e w'' => e = .returned v ∧ ∃ y : LaterD W, w'' = y.w :=
  (h x.w x.h).mono fun _ w'' ⟨he, hb⟩ => ⟨he, ⟨w'', hb⟩, rfl⟩
set_option maxHeartbeats 1000000 in
theorem may_inD (a b c d e : Int) (w : World) (he : e = 1 ∨ e = 2 ∨ e = 3 ∨ e = 4) :
    Calls Tryz.prog 70 #[Pt.v ⟨a, b, c, d, e⟩] w fun e' w' => e' = .returned (.bool (allB (atN a b c d e))) ∧ BelowD w w' := by
  obtain ⟨f, hf⟩ : ∃ f, atN a b c d e = f := ⟨_, rfl⟩
  have f0 : atB a 0 e = f 0 := by rw [← hf]; rfl
  have f1 : atB b 1 e = f 1 := by rw [← hf]; rfl
  have f2 : atB c 2 e = f 2 := by rw [← hf]; rfl
  have f3 : atB d 3 e = f 3 := by rw [← hf]; rfl
  rw [hf]
  clear hf
  unfold atB at f0 f1 f2 f3
  replace f0 := Lib.hid f0
  replace f1 := Lib.hid f1
  replace f2 := Lib.hid f2
  replace f3 := Lib.hid f3
  rcases he with rfl | rfl | rfl | rfl
  all_goals
    go_enter Tryz.func70, Tryz.ntmps70
    go_wp2
    go_loop [15] (fun i => Idx (Seen f) i) (fun i => (4 - intOf i).toNat)
    case atStart => exact .inl ⟨rfl, seen0 f⟩
    case round =>
      rcases hrel with ⟨rfl, hs⟩ | ⟨rfl, hs⟩ | ⟨rfl, hs⟩ | ⟨rfl, hs⟩ | ⟨rfl, hs⟩
      · cases h : numB a
        · go_wp2_with (go_at_call 121; ((with_reducible refine (num_no _ _ (by assumption)).mono ?_); rintro e w' ⟨rfl, rfl⟩))
          go_ret
          exact ⟨ret_bool (not_all (k := 0) (by omega) (by rw [← f0.out, h]; rfl)).symm, box_belowD _ _⟩
        · go_wp2_with (go_at_call 121; ((with_reducible refine (num_yes _ _ (by assumption)).mono ?_); rintro e w' ⟨rfl, rfl⟩))
          go_round
          case rel => exact .inr (.inl ⟨by go_num, hs.next (by rw [← f0.out, h]; rfl)⟩)
          case measure => simp [intOf]
      · cases h : numB b
        · go_wp2_with (go_at_call 121; ((with_reducible refine (num_no _ _ (by assumption)).mono ?_); rintro e w' ⟨rfl, rfl⟩))
          go_ret
          exact ⟨ret_bool (not_all (k := 1) (by omega) (by rw [← f1.out, h]; rfl)).symm, box_belowD _ _⟩
        · cases hz : (b != 0)
          all_goals
            go_wp2_with (go_at_call 121; ((with_reducible refine (num_yes _ _ (by assumption)).mono ?_); rintro e w' ⟨rfl, rfl⟩))
            first
            | (go_ret
               exact ⟨ret_bool (not_all (k := 1) (by omega) (by rw [← f1.out, h, hz]; rfl)).symm, box_belowD _ _⟩)
            | (go_round
               case rel => exact .inr (.inr (.inl ⟨by go_num, hs.next (by rw [← f1.out, h, hz]; rfl)⟩))
               case measure => simp [intOf])
      · cases h : numB c
        · go_wp2_with (go_at_call 121; ((with_reducible refine (num_no _ _ (by assumption)).mono ?_); rintro e w' ⟨rfl, rfl⟩))
          go_ret
          exact ⟨ret_bool (not_all (k := 2) (by omega) (by rw [← f2.out, h]; rfl)).symm, box_belowD _ _⟩
        · cases hz : (c != 0)
          all_goals
            go_wp2_with (go_at_call 121; ((with_reducible refine (num_yes _ _ (by assumption)).mono ?_); rintro e w' ⟨rfl, rfl⟩))
            first
            | (go_ret
               exact ⟨ret_bool (not_all (k := 2) (by omega) (by rw [← f2.out, h, hz]; rfl)).symm, box_belowD _ _⟩)
            | (go_round
               case rel => exact .inr (.inr (.inr (.inl ⟨by go_num, hs.next (by rw [← f2.out, h, hz]; rfl)⟩)))
               case measure => simp [intOf])
      · cases h : numB d
        · go_wp2_with (go_at_call 121; ((with_reducible refine (num_no _ _ (by assumption)).mono ?_); rintro e w' ⟨rfl, rfl⟩))
          go_ret
          exact ⟨ret_bool (not_all (k := 3) (by omega) (by rw [← f3.out, h]; rfl)).symm, box_belowD _ _⟩
        · cases hz : (d != 0)
          all_goals
            go_wp2_with (go_at_call 121; ((with_reducible refine (num_yes _ _ (by assumption)).mono ?_); rintro e w' ⟨rfl, rfl⟩))
            first
            | (go_ret
               exact ⟨ret_bool (not_all (k := 3) (by omega) (by rw [← f3.out, h, hz]; rfl)).symm, box_belowD _ _⟩)
            | (go_round
               case rel => exact .inr (.inr (.inr (.inr ⟨by go_num, hs.next (by rw [← f3.out, h, hz]; rfl)⟩)))
               case measure => simp [intOf])
      · go_wp2
        go_ret
        exact ⟨ret_bool hs.all.symm, box_belowD _ _⟩
theorem may_anyD (p : Pt) (w : World) :
    Calls Tryz.prog 70 #[p.v] w fun e w' => e = .returned (.bool (rightB p)) ∧ BelowD w w' := by
  by_cases h : 1 ≤ p.e ∧ p.e ≤ 4
  · rw [rightB_in h.1 h.2]
    obtain ⟨a, b, c, d, e⟩ := p
    exact may_inD a b c d e w (by simp only at h; omega)
  · rw [rightB_out h]
    obtain ⟨a, b, c, d, e⟩ := p
    simp only at h
    by_cases h1 : 1 ≤ e
    · have h4 : 4 < e := by omega
      have h1' : ¬ e < 1 := by omega
      clear h
      go_enter Tryz.func70, Tryz.ntmps70
      go_wp2
      go_ret
      exact ⟨rfl, box_belowD _ _⟩
    · have h1' : e < 1 := by omega
      clear h
      go_enter Tryz.func70, Tryz.ntmps70
      go_wp2
      go_ret
      exact ⟨rfl, box_belowD _ _⟩
theorem may_gD {w : World} {p : Pt} {b : Bool} (h : rightB p = b) : GivesD w 70 #[p.v] (.bool b) := by
  subst h; exact GivesD.of (may_anyD p)
theorem compare_gD {w : World} {a b c d a' b' c' d' : Int} {k k' : Nat} (h : k ≤ 4) (h' : k' ≤ 4) :
    GivesD (boxed (boxed w a b c d k) a' b' c' d' k') 178 #[.slice (some ⟨w.heap.size, 0, none⟩) k 4, .slice (some ⟨w.heap.size + 1, 0, none⟩) k' 4] (.int .i64 (cmpL ([a, b, c, d].take k) ([a', b', c', d'].take k'))) := by
  intro w' hb
  obtain ⟨h1, _⟩ := kept hb.bel
  have i1 : InCells w' w.heap.size ([a, b, c, d].take k) := by
    apply take_cells
    all_goals rw [h1 _ _ (by simp; omega)]
    all_goals simp [go_sem]
  have i2 : InCells w' (w.heap.size + 1) ([a', b', c', d'].take k') := by
    apply take_cells
    all_goals rw [h1 _ _ (by simp)]
    all_goals simp [go_sem]
  have := compare_any _ _ _ _ w' (by rw [take_len h]; exact h) (by rw [take_len h']; exact h') i1 i2
  rw [take_len h, take_len h'] at this
  exact this.mono fun _ _ ⟨he, hw⟩ => ⟨he, hw ▸ hb⟩

set_option maxHeartbeats 2000000 in
theorem less_anyD (p q : Pt) (w : World) :
    Calls Tryz.prog 139 #[p.v, q.v] w fun e w' => e = .returned (.bool (lessB p q)) ∧ BelowD w w' := by
  obtain ⟨a, b, c, d, e⟩ := p
  obtain ⟨a', b', c', d', e'⟩ := q
  cases hr : rightB ⟨a, b, c, d, e⟩
  · have gp := may_gD (w := (boxed (boxed w a b c d e) a' b' c' d' e')) hr
    have HV := Lib.hid (show lessB ⟨a, b, c, d, e⟩ ⟨a', b', c', d', e'⟩ = false by simp [lessB, hr])
    clear hr
    go_enter Tryz.func139, Tryz.ntmps139
    go_wp2
    refine wp_region_laterD (boxed (boxed w a b c d e) a' b' c' d' e') (by kernel_rfl) (by kernel_rfl) (BelowD.refl _) ?_
    repeat (go_big_quiet_step (((first | go_at_call 70 | go_at_call 178); exact GivesD.later (by with_reducible assumption))))
    refine wpQuiet_nil ?_
    rintro _ ⟨⟨w1, hb1⟩, rfl⟩
    go_wp2
    go_ret
    exact ⟨ret_bool HV.out.symm, below_pastD hb1⟩
  · cases hq : rightB ⟨a', b', c', d', e'⟩
    · have gp := may_gD (w := (boxed (boxed w a b c d e) a' b' c' d' e')) hr
      have gq := may_gD (w := (boxed (boxed w a b c d e) a' b' c' d' e')) hq
      have HV := Lib.hid (show lessB ⟨a, b, c, d, e⟩ ⟨a', b', c', d', e'⟩ = false by simp [lessB, hq])
      clear hr hq
      go_enter Tryz.func139, Tryz.ntmps139
      go_wp2
      refine wp_region_laterD (boxed (boxed w a b c d e) a' b' c' d' e') (by kernel_rfl) (by kernel_rfl) (BelowD.refl _) ?_
      repeat (go_big_quiet_step (((first | go_at_call 70 | go_at_call 178); exact GivesD.later (by with_reducible assumption))))
      refine wpQuiet_nil ?_
      rintro _ ⟨⟨w1, hb1⟩, rfl⟩
      go_wp2
      go_ret
      exact ⟨ret_bool HV.out.symm, below_pastD hb1⟩
    · have hd := right_depth hr
      have hd' := right_depth hq
      simp only at hd hd'
      obtain ⟨k, rfl⟩ : ∃ k : Nat, e = k := ⟨e.toNat, by omega⟩
      obtain ⟨k', rfl⟩ : ∃ k' : Nat, e' = k' := ⟨e'.toNat, by omega⟩
      have hk : k ≤ 4 := by omega
      have hk' : k' ≤ 4 := by omega
      have gp := may_gD (w := (boxed (boxed w a b c d k) a' b' c' d' k')) hr
      have gq := may_gD (w := (boxed (boxed w a b c d k) a' b' c' d' k')) hq
      have gc := compare_gD (w := w) (a := a) (b := b) (c := c) (d := d) (a' := a') (b' := b') (c' := c') (d' := d') hk hk'
      have HV := Lib.hid (show lessB ⟨a, b, c, d, k⟩ ⟨a', b', c', d', k'⟩ = decide (cmpL ([a, b, c, d].take k) ([a', b', c', d'].take k') < 0) by unfold lessB; rw [hr, hq]; rfl)
      have i1 : (0 : Int) ≤ (k : Int) := by omega
      have i2 : (k : Int) ≤ 4 := by omega
      have i3 : (0 : Int) ≤ (k' : Int) := by omega
      have i4 : (k' : Int) ≤ 4 := by omega
      clear hr hq hd hd'
      generalize cmpL ([a, b, c, d].take k) ([a', b', c', d'].take k') = z at *
      go_enter Tryz.func139, Tryz.ntmps139
      go_wp2
      refine wp_region_laterD (boxed (boxed w a b c d k) a' b' c' d' k') (by kernel_rfl) (by kernel_rfl) (BelowD.refl _) ?_
      repeat (go_big_quiet_step (((first | go_at_call 70 | go_at_call 178); exact GivesD.later (by with_reducible assumption))))
      refine wpQuiet_nil ?_
      rintro _ ⟨⟨w1, hb1⟩, rfl⟩
      go_wp2
      go_ret
      exact ⟨ret_bool HV.out.symm, below_pastD hb1⟩
def cmpP (p q : Pt) : Int := if lessB p q then -1 else if lessB q p then 1 else 0
theorem tcompare_any (p q : Pt) (W : World) : Calls Tryz.prog 87 #[p.v, q.v] W fun e w' => e = .returned (.int .i64 (cmpP p q)) ∧ BelowD W w' := by
  have HX := Lib.hid ((box_belowD W (.cells #[.int .i64 p.a, .int .i64 p.b, .int .i64 p.c, .int .i64 p.d, .int .i64 p.e] 30)).trans (box_belowD _ (.cells #[.int .i64 q.a, .int .i64 q.b, .int .i64 q.c, .int .i64 q.d, .int .i64 q.e] 30)))
  have H1 := Lib.hid (fun w => less_anyD p q w)
  have H2 := Lib.hid (fun w => less_anyD q p w)
  have HC := Lib.hid (show cmpP p q = if lessB p q then -1 else if lessB q p then 1 else 0 from rfl)
  generalize cmpP p q = z at *
  generalize lessB p q = x at *
  generalize lessB q p = y at *
  obtain ⟨a, b, c, d, e⟩ := p
  obtain ⟨a', b', c', d', e'⟩ := q
  go_enter Tryz.func87, Tryz.ntmps87
  go_wp2_with fail
  refine (H1.out _).mono ?_
  rintro r w1 ⟨rfl, hb1⟩
  obtain ⟨h1, _⟩ := kept hb1.bel
  have c0 := (h1 W.heap.size 0 (by simp; try omega)).trans (show _ = some (.int .i64 a) by simp [go_sem])
  have c1 := (h1 W.heap.size 1 (by simp; try omega)).trans (show _ = some (.int .i64 b) by simp [go_sem])
  have c2 := (h1 W.heap.size 2 (by simp; try omega)).trans (show _ = some (.int .i64 c) by simp [go_sem])
  have c3 := (h1 W.heap.size 3 (by simp; try omega)).trans (show _ = some (.int .i64 d) by simp [go_sem])
  have c4 := (h1 W.heap.size 4 (by simp; try omega)).trans (show _ = some (.int .i64 e) by simp [go_sem])
  have g0 := (h1 (W.heap.size + 1) 0 (by simp; try omega)).trans (show _ = some (.int .i64 a') by simp [go_sem])
  have g1 := (h1 (W.heap.size + 1) 1 (by simp; try omega)).trans (show _ = some (.int .i64 b') by simp [go_sem])
  have g2 := (h1 (W.heap.size + 1) 2 (by simp; try omega)).trans (show _ = some (.int .i64 c') by simp [go_sem])
  have g3 := (h1 (W.heap.size + 1) 3 (by simp; try omega)).trans (show _ = some (.int .i64 d') by simp [go_sem])
  have g4 := (h1 (W.heap.size + 1) 4 (by simp; try omega)).trans (show _ = some (.int .i64 e') by simp [go_sem])
  have HX1 := Lib.hid (HX.out.trans hb1)
  clear hb1 h1
  cases x
  · go_wp2_with fail
    refine (H2.out _).mono ?_
    rintro r w2 ⟨rfl, hb2⟩
    have HX2 := Lib.hid (HX1.out.trans hb2)
    clear hb2 c0 c1 c2 c3 c4 g0 g1 g2 g3 g4
    cases y
    · go_wp2_with fail
      go_ret
      exact ⟨by rw [HC.out]; rfl, HX2.out⟩
    · go_wp2_with fail
      go_ret
      exact ⟨by rw [HC.out]; rfl, HX2.out⟩
  · clear c0 c1 c2 c3 c4 g0 g1 g2 g3 g4
    go_wp2_with fail
    go_ret
    exact ⟨by rw [HC.out]; rfl, HX1.out⟩
end Go.Proofs.YtlhhopanegnliaaGreatDoor.Pa
namespace Go.Proofs.YtlhhopanegnliaaGreatDoor.Pa
open Go Go.RowKit Go.Shelf Go.Lib Go.Sort
set_option maxRecDepth 100000

theorem cmpL_anti : ∀ l q : List Int, cmpL q l = - cmpL l q
  | [], [] => rfl
  | [], _ :: _ => rfl
  | _ :: _, [] => rfl
  | a :: l, b :: q => by
    have ih := cmpL_anti l q
    simp only [cmpL]
    by_cases h1 : a < b
    · simp only [if_neg (show ¬ b < a by omega), if_pos h1]; omega
    · by_cases h2 : b < a
      · simp only [if_neg h1, if_pos h2]
      · simp only [if_neg h1, if_neg h2]; exact ih
theorem cmpL_eq : ∀ l q : List Int, cmpL l q = 0 → l = q
  | [], [], _ => rfl
  | [], _ :: _, h => by simp [cmpL] at h
  | _ :: _, [], h => by simp [cmpL] at h
  | a :: l, b :: q, h => by
    rw [cmpL] at h
    by_cases h1 : a < b
    · rw [if_pos h1] at h; omega
    · by_cases h2 : b < a
      · rw [if_neg h1, if_pos h2] at h; omega
      · rw [if_neg h1, if_neg h2] at h
        rw [cmpL_eq l q h, show a = b by omega]
theorem cmpL_tr : ∀ l q r : List Int, cmpL l q < 0 → cmpL q r < 0 → cmpL l r < 0
  | [], [], _, h, _ => by simp [cmpL] at h
  | [], _ :: _, [], _, h => by simp [cmpL] at h
  | [], _ :: _, _ :: _, _, _ => by simp [cmpL]
  | _ :: _, [], _, h, _ => by simp [cmpL] at h
  | _ :: _, _ :: _, [], _, h => by simp [cmpL] at h
  | a :: l, b :: q, c :: r, h, k => by
    rw [cmpL] at h k ⊢
    by_cases h1 : a < b
    · by_cases k1 : b < c
      · rw [if_pos (by omega)]; omega
      · by_cases k2 : c < b
        · rw [if_neg k1, if_pos k2] at k; omega
        · rw [if_pos (by omega)]; omega
    · by_cases h2 : b < a
      · rw [if_neg h1, if_pos h2] at h; omega
      · rw [if_neg h1, if_neg h2] at h
        by_cases k1 : b < c
        · rw [if_pos (by omega)]; omega
        · by_cases k2 : c < b
          · rw [if_neg k1, if_pos k2] at k; omega
          · rw [if_neg k1, if_neg k2] at k
            rw [if_neg (by omega), if_neg (by omega)]
            exact cmpL_tr l q r h k
abbrev RPt : Type := { p : Pt // rightB p = true }
instance : Inhabited RPt := ⟨⟨⟨1, 0, 0, 0, 1⟩, by decide⟩⟩
theorem less_right (x y : RPt) : lessB x.1 y.1 = decide (cmpL (numsP x.1) (numsP y.1) < 0) := by unfold lessB; rw [x.2, y.2]; rfl
def cmpR (x y : RPt) : Int := cmpP x.1 y.1
theorem lt_less (x y : RPt) : ltOf cmpR x y = lessB x.1 y.1 := by
  unfold ltOf cmpR cmpP
  cases h1 : lessB x.1 y.1
  · cases h2 : lessB y.1 x.1 <;> simp
  · simp
theorem less_tr {p q r : Pt} (h : lessB p q = true) (k : lessB q r = true) : lessB p r = true := by
  unfold lessB at *
  simp only [Bool.and_eq_true, decide_eq_true_iff] at *
  exact ⟨⟨h.1.1, k.1.2⟩, cmpL_tr _ _ _ h.2 k.2⟩
theorem less_irr (p : Pt) : lessB p p = false := by
  unfold lessB
  rw [cmpL_self]
  simp
theorem less_tot (x y : RPt) (h1 : lessB x.1 y.1 = false) (h2 : lessB y.1 x.1 = false) : x = y := by
  rw [less_right] at h1 h2
  have a1 := of_decide_eq_false h1
  have a2 := of_decide_eq_false h2
  rw [cmpL_anti] at a2
  exact Subtype.ext (nums_inj x.2 y.2 (cmpL_eq _ _ (by omega)))
theorem swoR : SWO (ltOf cmpR) where
  irrefl x := by rw [lt_less]; exact less_irr _
  trans x y z h1 h2 := by rw [lt_less] at *; exact less_tr h1 h2
  ntrans x y z h1 h2 := by
    rw [lt_less] at *
    cases hz : lessB x.1 z.1
    · rfl
    · cases hy : lessB y.1 x.1
      · have := less_tot x y h1 hy
        subst this
        rw [hz] at h2; cases h2
      · have := less_tr hy hz
        rw [h2] at this; cases this
theorem totR (x y : RPt) (h1 : ltOf cmpR x y = false) (h2 : ltOf cmpR y x = false) : x = y := by
  rw [lt_less] at *
  exact less_tot x y h1 h2
def encN (p : Pt) : List Value := [.int .i64 p.a, .int .i64 p.b, .int .i64 p.c, .int .i64 p.d, .int .i64 p.e]
def encR (x : RPt) : List Value := encN x.1
def flatN (xs : List Pt) : List Value := xs.flatMap encN
theorem flatN_cons (x : Pt) (xs : List Pt) : flatN (x :: xs) = encN x ++ flatN xs := by simp [flatN]
theorem flatN_snoc (xs : List Pt) (x : Pt) : flatN (xs ++ [x]) = flatN xs ++ encN x := by simp [flatN]
theorem flatN_length (xs : List Pt) : (flatN xs).length = xs.length * 5 := by
  induction xs with
  | nil => rfl
  | cons x xs ih => rw [flatN_cons, List.length_append, ih]; simp [encN]; omega
theorem flatN_at (xs : List Pt) (i j : Nat) (h : i < xs.length) (hj : j < 5) : (flatN xs)[i * 5 + j]? = (encN xs[i])[j]? := by
  induction xs generalizing i with
  | nil => simp at h
  | cons x xs ih =>
    cases i with
    | zero => rw [flatN_cons, Nat.zero_mul, Nat.zero_add, List.getElem?_append_left (by simpa [encN] using hj)]; rfl
    | succ i =>
      rw [flatN_cons, List.getElem?_append_right (by simp [encN]; omega), show (i + 1) * 5 + j - (encN x).length = i * 5 + j by simp [encN]; omega, ih i (by simpa using h)]
      simp
def vals (xs : List RPt) : List Pt := xs.map (·.1)
theorem vals_length (xs : List RPt) : (vals xs).length = xs.length := by simp [vals]
def srt (xs : List RPt) : List RPt := xs.mergeSort fun x y => !(ltOf cmpR) y x
theorem srt_perm (xs : List RPt) : (srt xs).Perm xs := List.mergeSort_perm _ _
theorem srt_length (xs : List RPt) : (srt xs).length = xs.length := (srt_perm xs).length_eq
theorem srt_sorted (xs : List RPt) : (srt xs).Pairwise (fun x y => lessB y.1 x.1 = false) := by
  have h := List.pairwise_mergeSort (le := fun x y => !(ltOf cmpR) y x)
    (fun a b c h1 h2 => by simp only [Bool.not_eq_true'] at *; exact swoR.ntrans c b a h2 h1)
    (fun a b => by
      simp only [Bool.or_eq_true, Bool.not_eq_true']
      cases h : ltOf cmpR b a
      · exact .inl rfl
      · right
        cases h2 : ltOf cmpR a b
        · rfl
        · have := swoR.trans _ _ _ h h2
          rw [swoR.irrefl] at this; cases this) xs
  refine h.imp ?_
  intro a b hab
  simpa [lt_less] using hab
theorem grown_of {W w' : World} (h : BelowD W w') : ∃ q os', w' = grow (W.drewN q) os' := by
  have hd := h.drawn
  replace h := h.bel
  refine ⟨w'.drawn - W.drawn, w'.heap.extract W.heap.size w'.heap.size, ?_⟩
  obtain ⟨h1, t1, d1, o1, u1⟩ := w'
  obtain ⟨h2, t2, d2, o2, u2⟩ := W
  have e1 := h.os
  have e2 := h.tape
  have e3 := h.output
  have e4 := h.size
  have e5 := h.block
  simp only at e1 e2 e3 e4 e5 hd
  subst e1 e2 e3
  unfold grow
  simp only [World.drewN, World.mk.injEq]
  refine ⟨?_, trivial, by omega, trivial, trivial⟩
  apply Array.ext_getElem?
  intro k
  rw [Array.getElem?_append]
  by_cases hk : k < h2.size
  · rw [if_pos hk]; exact e5 k hk
  · rw [if_neg hk, Array.getElem?_extract]
    by_cases hk2 : k < h1.size
    · rw [if_pos (by omega)]; congr 1; omega
    · rw [if_neg (by omega)]; simp; omega
theorem cmpLays (blk off size : Nat) (w : World) : CmpLays Tryz.prog 87 #[] encR 5 cmpR blk off size w :=
  fun _ _ _ _ x y => (tcompare_any x.1 y.1 _).mono fun _ _ ⟨he, hb⟩ => ⟨he, grown_of hb⟩
theorem flatK_flat (xs : List RPt) : flatK encR 5 xs.toArray = (flatN (vals xs)).toArray := by
  apply Array.ext
  · simp [flatN_length, vals_length]
  · intro t h1 h2
    simp [flatN_length, vals_length] at h2
    have ht : t < xs.toArray.size * 5 := by simpa using h2
    have hd : t / 5 < xs.length := by omega
    have hm : t % 5 < 5 := Nat.mod_lt _ (by omega)
    have e1 : (flatK encR 5 xs.toArray)[t] = (encR xs.toArray[t / 5]!)[t % 5]! := by
      rw [← get_flatK encR 5 xs.toArray t ht, getElem!_pos _ t h1]
    rw [e1]
    have e2 : xs.toArray[t / 5]! = xs[t / 5] := by rw [getElem!_pos _ _ (by simpa using hd)]; simp
    rw [e2]
    have f1 := flatN_at (vals xs) (t / 5) (t % 5) (by rw [vals_length]; exact hd) hm
    have h3 : t < (flatN (vals xs)).length := by rw [flatN_length, vals_length]; exact h2
    show _ = (flatN (vals xs))[t]
    rw [show t / 5 * 5 + t % 5 = t by omega, List.getElem?_eq_getElem h3] at f1
    have e3 : (vals xs)[t / 5]'(by rw [vals_length]; exact hd) = xs[t / 5].1 := by simp [vals]
    rw [e3] at f1
    have h5 : t % 5 < (encN xs[t / 5].1).length := by simpa [encN] using hm
    rw [List.getElem?_eq_getElem h5] at f1
    simp only [Option.some.injEq] at f1
    rw [f1]
    exact getElem!_pos (encN xs[t / 5].1) (t % 5) h5
abbrev Row (W : World) (base : Nat) (v : Value) (xs : List Pt) : Prop := W.ownsRow base 30 5 v xs.length (flatN xs)
theorem row_holds {W : World} {base g n cap : Nat} {xs : List RPt} (h : Row W base (.slice (some ⟨g, 0, none⟩) n cap) (vals xs)) : HoldsK encR 5 W g 0 xs.toArray := by
  unfold HoldsK
  rw [flatK_flat]
  intro j hj
  have hj' : j < (flatN (vals xs)).length := by simpa using hj
  have h1 := h.cells (g := g) rfl j _ (List.getElem?_eq_getElem hj')
  rw [add_at] at h1
  rcases h.2 with ⟨h0, _⟩ | ⟨g', cap', cur, e, _, hb, _⟩
  · cases h0
  · cases e
    refine ⟨?_, by rw [Nat.zero_add]; unfold World.frozen?; simp [hb]⟩
    rw [Nat.zero_add, h1, getElem!_pos _ j hj]
    simp
theorem sort_heap {w : World} {g m : Nat} {xs : List RPt} {os : Array Obj} {cur : Array Value} (hg : w.heap[g]? = some (.cells cur 30 (0, 0))) :
    (sortWorldK encR 5 w g 0 m xs.toArray os).heap[g]? = some (.cells (putCells id 0 (flatN (vals xs)).toArray cur) 30 (0, 0)) ∧
    (∀ k, k ≠ g → k < w.heap.size → (sortWorldK encR 5 w g 0 m xs.toArray os).heap[k]? = w.heap[k]?) ∧ w.heap.size ≤ (sortWorldK encR 5 w g 0 m xs.toArray os).heap.size := by
  have hlt := (Array.getElem?_eq_some_iff.1 hg).1
  have e : (Go.Sort.ahead w m).heap = w.heap := rfl
  unfold sortWorldK putRowK putRow mapBlock grow
  rw [flatK_flat, e]
  refine ⟨?_, fun k hk hks => ?_, ?_⟩
  · simp only [Array.getElem?_append, Array.size_modify]
    rw [if_pos hlt, Array.getElem?_modify, if_pos rfl, hg]
    rfl
  · simp only [Array.getElem?_append, Array.size_modify]
    rw [if_pos hks, Array.getElem?_modify, if_neg (Ne.symm hk)]
  · simp
theorem sort_row {w : World} {base g n cap m : Nat} {xs ys : List RPt} {os : Array Obj} (h : Row w base (.slice (some ⟨g, 0, none⟩) n cap) (vals xs)) (hl : ys.length = xs.length) :
    Row (sortWorldK encR 5 w g 0 m ys.toArray os) base (.slice (some ⟨g, 0, none⟩) n cap) (vals ys) := by
  have hl' : (vals ys).length = (vals xs).length := by rw [vals_length, vals_length, hl]
  rcases h.2 with ⟨h0, _⟩ | ⟨g', cap', cur, e, hb, hg, h1, h2, h3, h4⟩
  · cases h0
  · cases e
    refine ⟨flatN_length _, .inr ⟨g, cap, _, by rw [hl'], hb, (sort_heap hg).1, by rw [hl']; exact h1, h2, by simp [putCells, h3], ?_⟩⟩
    apply List.ext_getElem?
    intro k
    rw [List.getElem?_take]
    by_cases hk : k < (vals ys).length * 5
    · rw [if_pos hk, Array.getElem?_toList]
      have hc : k < cur.size := by rw [h3]; rw [hl'] at hk; omega
      have hf : k < (flatN (vals ys)).length := by rw [flatN_length]; exact hk
      unfold putCells
      rw [Array.getElem?_mapIdx, Array.getElem?_eq_getElem hc]
      simp only [Option.map_some, Nat.zero_le, Nat.zero_add, true_and, List.size_toArray]
      rw [if_pos hf, List.getElem?_eq_getElem hf, Nat.sub_zero, getElem!_pos _ k (by simpa using hf)]
      simp
    · rw [if_neg hk, List.getElem?_eq_none (by rw [flatN_length]; omega)]
theorem sortf_any {w : World} {base : Nat} {v : Value} {xs : List RPt} (h : Row w base v (vals xs)) (hl : xs.length ≤ 1000) :
    Calls Tryz.prog 86 #[v, .func (.func 87) #[] #[]] w fun e w' => e = .returned (.tuple #[]) ∧ Row w' base v (vals (srt xs)) ∧ Below base w w' ∧ OnlyS (fun k => v.ownBlock = some k) w w' := by
  have eg : ∀ args w, (callFunc 87 args).run Tryz.prog w = .ok (.enter 87 args) w := enters_of Tryz.func87 (by kernel_rfl) rfl
  by_cases h0 : xs = []
  · subst h0
    have e : srt [] = [] := by simp [srt]
    rw [e]
    have : ∃ p cap, v = .slice p 0 cap := by
      rcases h.2 with ⟨rfl, _⟩ | ⟨g', cap', cur, rfl, _⟩
      · exact ⟨_, _, rfl⟩
      · exact ⟨_, _, rfl⟩
    obtain ⟨p, cap, rfl⟩ := this
    have hc := AnyF.slices_SortFunc_none sortA p cap (.func (.func 87) #[] #[]) w
    refine Calls.mono (f := 86) hc ?_
    rintro e w' ⟨rfl, rfl⟩
    exact ⟨rfl, h, Below.refl _ _, OnlyS.refl _ _⟩
  · rcases h.2 with ⟨rfl, hn⟩ | ⟨g, cap, cur, rfl, hb, hg, h1, h2, h3, h4⟩
    · exact absurd (List.length_eq_zero_iff.1 (by rw [vals_length] at hn; exact hn)) h0
    · have hlt := (Array.getElem?_eq_some_iff.1 hg).1
      have hh := row_holds h
      rw [vals_length] at h ⊢
      have hc := AnyQ.slices_SortFunc_total sortA 5 Tryz.isAgg30 Tryz.sizeOf30 encR (fun _ => rfl) (fun x v hv => by simp [encR, encN] at hv; rcases hv with rfl | rfl | rfl | rfl | rfl <;> rfl) cmpR swoR 87 #[] g 0 cap xs.toArray w eg (cmpLays _ _ _ _) hh hlt (by simp; omega) totR
      refine Calls.mono (f := 86) hc ?_
      rintro e w' ⟨rfl, n, os, rfl⟩
      have hsz := (sort_heap (m := n) (xs := srt xs) (os := os) hg)
      refine ⟨rfl, sort_row h (srt_length xs), ⟨rfl, rfl, rfl, hsz.2.2, fun k hk => hsz.2.1 k (by omega) (by omega)⟩, ⟨rfl, rfl, rfl, hsz.2.2, fun k hk hn => hsz.2.1 k (fun e => hn (by rw [e]; rfl)) hk⟩⟩
end Go.Proofs.YtlhhopanegnliaaGreatDoor.Pa
namespace Go.Proofs.YtlhhopanegnliaaGreatDoor
open Go Go.RowKit Go.Shelf
attribute [local go_sem] Oper.semAt_some
set_option maxRecDepth 100000

theorem keeps_only {S T : Nat → Prop} {W W' : World} (ho : OnlyS T W W') (hS : ∀ k, S k → k < W.heap.size ∧ ¬ T k) : Keeps S W W' := ⟨ho.size, fun k hk => ho.block k (hS k hk).1 (hS k hk).2⟩
structure CP (n0 D0 : Nat) (w W : World) (ps : List Pa.Pt) (v : Value) : Prop where
  bn : Boxed W n0 89 v
  rn : Pa.Row W D0 v ps
  bel : Below n0 w W
  sz : D0 ≤ W.heap.size
theorem CP.turn {n0 D0 : Nat} {w W W' : World} {ps : List Pa.Pt} {v : Value} (h : CP n0 D0 w W ps v) (t : Turn D0 W W') (h1 : n0 ≤ D0) (h2 : n0 ≤ w.heap.size) : CP n0 D0 w W' ps v :=
  ⟨Abides.boxed _ _ _ _ _ _ h.bn t, An.row_turn h.rn t, t.below h.bel h1 h2, Nat.le_trans h.sz t.size⟩
theorem CP.step {n0 D0 : Nat} {w W w1 : World} {ps : List Pa.Pt} {p : Pa.Pt} {v v' : Value} {tmp : Obj} (h : CP n0 D0 w W ps v) (h1 : n0 < D0) (h2 : n0 ≤ W.heap.size) (hown : w1.ownsRow D0 30 5 v' (ps.length + 1) (Pa.flatN ps ++ Pa.encN p)) (hgrow : (W.alloc tmp).grownBy w1 v.ownBlock) :
    Boxed w1 n0 89 v ∧ CP n0 D0 w (w1.setCell ⟨n0, 0, none⟩ v') (ps ++ [p]) v' ∧ KeepsOthers W (w1.setCell ⟨n0, 0, none⟩ v') ∧ OnlyS (fun j => j = n0 ∨ v.ownBlock = some j) W (w1.setCell ⟨n0, 0, none⟩ v') := by
  obtain ⟨a1, a2, a3, a4, a5⟩ := h.bn.appended (by decide) (row_base h.rn (Nat.le_of_lt h1)) h2 (Nat.le_refl _) (row_base hown (Nat.le_of_lt h1)) hgrow
  refine ⟨a1, ⟨a2, ?_, h.bel.trans a5, Nat.le_trans h.sz (An.app_only (v' := v') hgrow).size⟩, a4, An.app_only hgrow⟩
  have := ownsRow_setCell_below hown (a := ⟨n0, 0, none⟩) h1 v'
  show (w1.setCell ⟨n0, 0, none⟩ v').ownsRow D0 30 5 v' (ps ++ [p]).length (Pa.flatN (ps ++ [p]))
  rw [List.length_append, Pa.flatN_snoc]
  exact this
theorem new_node (W : World) (p : Pa.Pt) : ∀ j u, (Pa.encN p)[j]? = some u → (W.alloc (.cells (pcs p) 30)).cell? ((⟨W.heap.size, 0, none⟩ : Addr).add j) = some u := by
  intro j u hj
  rw [add_at]
  match j, hj with
  | 0, hj => simp [Pa.encN] at hj; subst hj; simp [go_sem]
  | 1, hj => simp [Pa.encN] at hj; subst hj; simp [go_sem]
  | 2, hj => simp [Pa.encN] at hj; subst hj; simp [go_sem]
  | 3, hj => simp [Pa.encN] at hj; subst hj; simp [go_sem]
  | 4, hj => simp [Pa.encN] at hj; subst hj; simp [go_sem]
theorem one_node (p : Pa.Pt) : ∀ u ∈ Pa.encN p, u.oneCell' = true := by
  intro u hu
  simp [Pa.encN] at hu
  rcases hu with rfl | rfl | rfl | rfl | rfl <;> rfl
theorem info_node : (Tryz.prog.info? 30).map (fun i => (i.zero, i.size, i.bytes)) = some (some (.agg #[.int .i64 0, .int .i64 0, .int .i64 0, .int .i64 0, .int .i64 0]), 5, 40) := by kernel_rfl
def CPI (n0 D0 : Nat) (w : World) (pre : List An.Told) (W : World) : Prop := ∃ v, CP n0 D0 w W (pre.map fun x => x.2.1) v
def PathsOf (w : World) (ps : List Pa.Pt) (e : Ending) (w' : World) : Prop :=
  ∃ B v, e = .returned (.func (.func 140) #[] #[tp B]) ∧ Boxed w' B 89 v ∧ Pa.Row w' w.heap.size v ps ∧ Below w.heap.size w w' ∧ w.heap.size ≤ B
theorem values_any (A : Option Addr) (n c : Nat) (W : World) : Calls Tryz.prog 88 #[.slice A n c] W fun e w' => e = .returned (.func (.func 140) #[] #[tp W.heap.size]) ∧ Boxed w' W.heap.size 89 (.slice A n c) ∧ Below W.heap.size W w' := by
  go_enter Tryz.func88, Tryz.ntmps88
  go_wp2
  go_ret
  exact ⟨rfl, Boxed.new W _ _, box_below _ _⟩
set_option maxHeartbeats 4000000 in
theorem paths_any {tpv pv x1 : Value} {mv rv : Int} {xs : List An.Told} {rs : List Pa.RPt} {w : World} (hI : ∀ W, Below w.heap.size w W → Calls Tryz.prog 67 #[tpv] W fun e w' => e = .returned (tv pv x1 (.int .i64 mv) (.int .i64 rv)) ∧ Below W.heap.size W w')
    (hs : ∀ W, Below w.heap.size w W → Tells Tryz.prog 135 #[pv] #[] An.encT (· < W.heap.size) xs W) (hr : (xs.map fun x => x.2.1) = Pa.vals rs) (hl : xs.length ≤ 1000) :
    Calls Tryz.prog 48 #[tpv] w (PathsOf w (Pa.vals (Pa.srt rs))) := by
  refine (callsIn_wide (n := 9)).1 ?_
  refine callsIn_of_wp_marks Tryz.func48 rfl trivial ?_ rfl
  simp only [Tryz.ntmps48, List.size_toArray, List.length_cons, List.length_nil, Nat.reduceAdd, Nat.reduceSub, Array.replicate_succ, Array.replicate_zero, List.push_toArray, List.append_toArray, List.nil_append, List.cons_append]
  refine wpIn_wide.2 ?_
  have HI := Lib.hid (hI _ (box_below w (.cells #[.slice none 0 0] 89)))
  have HS := Lib.hid hs
  have HRs := Lib.hid hr
  clear hI hs hr
  go_wp2_with fail
  refine HI.out.mono ?_
  rintro e w1 ⟨rfl, hb1⟩
  have HBx := Lib.hid ((Boxed.new w 89 (.slice none 0 0)))
  have hbw := (box_below w (.cells #[.slice none 0 0] 89)).trans (hb1.mono (box_below w _).size)
  have HB1 := Lib.hid hbw
  have HU := Lib.hid (An.used_any (HS.out w1 hbw) (by omega))
  have hbx1 : Boxed w1 w.heap.size 89 (.slice none 0 0) := (hb1.block _ (by simp)).trans HBx.out
  have HX1 := Lib.hid hbx1
  clear hb1 hbw HI HBx hbx1
  go_wp2_with fail
  refine HU.out.mono ?_
  rintro e w3 ⟨vn, vt, rfl, hcol⟩
  have HCol := Lib.hid hcol
  have hlt1 : w.heap.size < w1.heap.size := by have := HX1.out.lt; exact this
  have hx3 : Boxed w3 w.heap.size 89 (.slice none 0 0) := (hcol.bel.block _ hlt1).trans HX1.out
  have hz3 := hcol.bel.size
  have HF := Lib.hid (show CP w.heap.size w3.heap.size w w3 [] (.slice none 0 0) from ⟨hx3, World.ownsRow_nil _ _ _ _, HB1.out.trans (hcol.bel.mono HB1.out.size), Nat.le_refl _⟩)
  have hD : w.heap.size < w3.heap.size := Nat.lt_of_lt_of_le hlt1 hz3
  clear hx3 HU HX1 hcol
  go_wp2_with fail
  refine (wpIn_wide (n := 9)).1 ?_
  obtain ⟨i0, hi, hz0, hz1, hz2⟩ := info_parts info_node
  refine wp_range (α := An.Told) (encs := An.encT) (xs := xs) (S := An.OfCol w1.heap.size vn vt) rfl (enters_of Tryz.func136 (by kernel_rfl) rfl) (An.seq_tells HCol.out (by omega)) (fun k hk => (HCol.out.lt hk).2) (fun _ => rfl)
    (CPI w.heap.size w3.heap.size w) (fun _ _ _ => False)
    (fun pre x a' W => CPI w.heap.size w3.heap.size w pre W ∧ ∃ B, An.BxT W B x.2.1 x.2.2 ∧
      a' = { tmps := #[tpv, undef, .nilFunc, tp w.heap.size, undef, tp B, tpv, tv pv x1 (.int .i64 mv) (.int .i64 rv), pv, .func (.func 136) #[] #[tp w1.heap.size, tp (w1.heap.size + 1)], .int .i64 (x.1 : Int), An.hv x.2.1 x.2.2, undef, undef, undef, undef, undef, undef, undef, undef, undef], defers := [] })
    ?hI ?hIx ?hA ⟨_, HF.out⟩ ?assign ?body ?done ?stop
  case hI =>
    rintro s X Y ⟨v, h⟩ t
    exact ⟨v, h.turn t (Nat.le_of_lt hD) (Nat.le_refl _)⟩
  case hIx => exact fun _ _ _ _ h _ => h
  case hA =>
    rintro s x a' X Y ⟨⟨v, h⟩, B, hB, h6⟩ t
    exact ⟨⟨v, h.turn t (Nat.le_of_lt hD) (Nat.le_refl _)⟩, B, t.cells _ _ hB rfl, h6⟩
  case assign =>
    rintro l pre x W ⟨v, hi⟩
    have HC := Lib.hid (show CPI w.heap.size w3.heap.size w pre (W.alloc (.cells (An.hca x.2.1 x.2.2) 70)) from ⟨v, hi.turn (Turn.later (box_below W (.cells (An.hca x.2.1 x.2.2) 70))) (Nat.le_of_lt hD) (Nat.le_refl _)⟩)
    have HB := Lib.hid (show An.BxT (W.alloc (.cells (An.hca x.2.1 x.2.2) 70)) W.heap.size x.2.1 x.2.2 from World.alloc_heap_new W _)
    have HKf := Lib.hid (An.keepsFrom_box w3.heap.size W (.cells (An.hca x.2.1 x.2.2) 70))
    have HKs := Lib.hid (keeps_of (S := An.OfCol w1.heap.size vn vt) (box_below W (.cells (An.hca x.2.1 x.2.2) 70)) (fun k hk => Nat.lt_of_lt_of_le (HCol.out.lt hk).2 hi.sz))
    clear hi
    obtain ⟨xi, ⟨pa, pb, pc, pd, pe⟩, xq⟩ := x
    gi_wp2
    exact ⟨HKf.out, HKs.out, HC.out, HB.out⟩
  case body =>
    rintro l pre x post a' W hx ⟨⟨v, hc⟩, B, hB, rfl⟩
    have hlen : (pre.map fun x => x.2.1).length < 1000 := by
      have := congrArg List.length hx
      simp at this
      simp
      omega
    have c0 := hc.bn.cell
    have f0 := hc.bn.frozen
    have hzW := hc.bel.size
    have hsz := hc.sz
    have hBn := hB.not_box hc.bn
    have hb := hB.cells
    have d0 := hb.c0
    have d1 := hb.c1
    have d2 := hb.c2
    have d3 := hb.c3
    have d4 := hb.c4
    have HE := Lib.hid (show ((pre ++ [x]).map fun x => x.2.1) = (pre.map fun x => x.2.1) ++ [x.2.1] by simp)
    have HRow := Lib.hid (fun k (hk : v.ownBlock = some k) => hc.rn.lt k hk)
    clear hx hB hb
    generalize (pre.map fun x => x.2.1) = ps at *
    obtain ⟨xi, ⟨pa, pb, pc, pd, pe⟩, xq⟩ := x
    simp only at d0 d1 d2 d3 d4 HE
    gi_wp2_with (gi_at_builtin; refine wpListIn_append_own_at _ rfl (.tmp 12) (.tmp 15) 89 rfl w3.heap.size 30 i0 (.agg #[.int .i64 0, .int .i64 0, .int .i64 0, .int .i64 0, .int .i64 0]) 5 40 Tryz.underlying89 hi hz0 hz1 hz2 rfl (by decide) _ _ _ rfl (hc.rn.alloc _) ⟨W.heap.size, 0, none⟩ 1 1 (Pa.encN ⟨pa, pb, pc, pd, pe⟩) rfl rfl (new_node W _) (one_node _) (by unfold maxLen; omega) (by omega) (by simp; omega) ?_; intro v' w5 hown' hgrow _ hat; obtain ⟨g', cap', rfl⟩ := ownsRow_succ hown'; obtain ⟨hv1, hc2, hk2, ho2⟩ := hc.step hD hzW hown' hgrow; have hc1 := hv1.cell; have hf1 := hv1.frozen)
    have HC2 := Lib.hid hc2
    have HK := Lib.hid hk2
    have HO := Lib.hid ho2
    clear hown' hgrow hat hc2 hk2 ho2 hc
    gi_wp2
    refine ⟨HK.out.from _, keeps_only HO.out (fun k hk => ⟨Nat.lt_of_lt_of_le (HCol.out.lt hk).2 hsz, ?_⟩), ?_⟩
    · have h1 := HCol.out.lt hk
      rintro (q | q)
      · omega
      · have := HRow.out k q
        omega
    · unfold CPI
      rw [HE.out]
      exact ⟨_, HC2.out⟩
  case done =>
    rintro D X hDD ⟨v, hf⟩ hd
    have HDd := Lib.hid hd
    rw [HRs.out] at hf
    have HF1 := Lib.hid hf
    have c0 := hf.bn.cell
    have hl2 : rs.length ≤ 1000 := by
      have := congrArg List.length HRs.out
      simp [Pa.vals_length] at this
      omega
    have HSo := Lib.hid (Pa.sortf_any hf.rn hl2)
    clear hf hd
    dsimp only [Exit.inBlock, Exit.then]
    rename_i hK0
    refine hK0 _ _ ?_
    clear hK0
    go_wp2_with fail
    refine HSo.out.mono ?_
    rintro e w5 ⟨rfl, hrow, hb5, ho5⟩
    have hdn : v.ownBlock ≠ some D := fun e => by
      rcases HF1.out.rn.2 with ⟨rfl, _⟩ | ⟨g, cap, cur, rfl, _, hg, _⟩
      · simp [Value.ownBlock] at e
      · simp [Value.ownBlock] at e
        subst e
        rw [HDd.out] at hg
        cases hg
    have hd5 := (ho5.block D (Array.getElem?_eq_some_iff.1 HDd.out).1 hdn).trans HDd.out
    have hbn5 : Boxed w5 w.heap.size 89 v := (ho5.block _ HF1.out.bn.lt (fun e => HF1.out.bn.not_row (by decide) HF1.out.rn e.symm)).trans HF1.out.bn
    have c5 := hbn5.cell
    have HR5 := Lib.hid (row_base hrow (Nat.le_of_lt hD))
    have HB5 := Lib.hid (HF1.out.bel.trans ((OnlyS.below (S := fun k => v.ownBlock = some k) ho5 (fun k hk => Nat.le_trans (Nat.le_of_lt hD) (HF1.out.rn.lt k hk).1) HF1.out.bel.size)))
    obtain ⟨A, c, rfl, -⟩ := row_slice hrow
    have HV := Lib.hid (values_any A (Pa.vals (Pa.srt rs)).length c w5)
    have HD5 := Lib.hid hd5
    have HL5 := Lib.hid (show D < w5.heap.size from (Array.getElem?_eq_some_iff.1 hd5).1)
    clear hrow hb5 ho5 hdn hd5 hbn5 HSo c0
    generalize hnn : (Pa.vals (Pa.srt rs)).length = nn at *
    have HN := Lib.hid hnn
    clear hnn
    go_wp2_with fail
    refine HV.out.mono ?_
    rintro e w6 ⟨rfl, hbox, hb6⟩
    have hd6 := (hb6.block D HL5.out).trans HD5.out
    have HBox := Lib.hid hbox
    have HR6 := Lib.hid (row_below HR5.out hb6)
    have HB6 := Lib.hid (HB5.out.trans (hb6.mono HB5.out.size))
    have hsz6 : w.heap.size ≤ w5.heap.size := HB5.out.size
    clear hbox hb6 HV c5
    go_wp2_with fail
    refine ⟨by simp, .inl ⟨_, _, rfl, run_takeDeferred hd6, ?_⟩⟩
    have ht := Turn.put (B := w.heap.size) (.deferred none) (Nat.le_trans (Nat.le_of_lt hD) hDD) hd6 rfl
    exact ⟨_, results_tmp rfl _ _ _, _, _, rfl, Abides.boxed _ _ _ _ _ _ HBox.out ht, (by unfold Pa.Row; rw [HN.out]; exact An.row_turn HR6.out ht), ht.below HB6.out (Nat.le_refl _) (Nat.le_refl _), hsz6⟩
  case stop =>
    rintro D c pre post W _ _ h _
    exact h.elim
end Go.Proofs.YtlhhopanegnliaaGreatDoor
namespace Go.Proofs.YtlhhopanegnliaaGreatDoor
open Go Go.RowKit Go.Shelf
attribute [local go_sem] Oper.semAt_some
set_option maxRecDepth 100000

theorem node_cell {W : World} {base g n c : Nat} {ps : List Pa.Pt} (h : W.ownsRow base 30 5 (.slice (some ⟨g, 0, none⟩) n c) ps.length (Pa.flatN ps)) {i j : Nat} (hi : i < ps.length) (hj : j < 5) {u : Value} (hu : (Pa.encN ps[i])[j]? = some u) : W.cell? ⟨g, i * 5 + j, none⟩ = some u := by
  have := h.cells (g := g) rfl (i * 5 + j) u ((Pa.flatN_at ps i j hi hj).trans hu)
  rw [add_at] at this
  exact this
theorem take_node (xs : List Pa.Pt) {j : Nat} (h : j < xs.length) : xs = xs.take j ++ xs[j] :: xs.drop (j + 1) ∧ xs.take (j + 1) = xs.take j ++ [xs[j]] :=
  ⟨by rw [← List.drop_eq_getElem_cons h, List.take_append_drop], List.take_succ_eq_append_getElem h⟩
abbrev encP (p : Pa.Pt) : Array Value := #[p.v]
def OfRow (B : Nat) (v : Value) (k : Nat) : Prop := k = B ∨ v.ownBlock = some k
set_option maxHeartbeats 2000000 in
theorem vals_tells {w : World} {B base : Nat} {v : Value} {ps : List Pa.Pt} (hbx : Boxed w B 89 v) (hr : Pa.Row w base v ps) (hl : ps.length ≤ 5000) :
    Tells Tryz.prog 140 #[] #[tp B] encP (OfRow B v) ps w := by
  intro l J Jx W hW hJ hY h0
  have hlt : ∀ k, OfRow B v k → k < w.heap.size := fun k hk => by
    rcases hk with rfl | hk
    · exact hbx.lt
    · exact (hr.lt k hk).2
  have HT : ∀ W', Keeps (OfRow B v) W W' → W.heap.size ≤ W'.heap.size ∧ Boxed W' B 89 v ∧ Pa.Row W' base v ps := fun W' hk =>
    ⟨hk.size, (hk.block B (.inl rfl)).trans ((hW.block B hbx.lt).trans hbx), row_keep hr fun g hg => (hk.block g (.inr hg)).trans (hW.block g (hr.lt g hg).2)⟩
  have HTT := Lib.hid HT
  have HJ := Lib.hid hJ
  have HY := Lib.hid hY
  have HLt := Lib.hid (fun k (hk : OfRow B v k) => Nat.lt_of_lt_of_le (hlt k hk) hW.size)
  obtain ⟨A, c, hA, hA2⟩ := row_slice hr
  subst hA
  have c0 := (HT W (Keeps.refl _ _)).2.1.cell
  have HA := Lib.hid hA2
  obtain ⟨n, hn⟩ : ∃ n, ps.length = n := ⟨_, rfl⟩
  have HN := Lib.hid hn
  rw [hn] at c0 hl
  clear hJ hY hbx hr hW HT hA2 hn hlt
  refine callsIn_of_wp Tryz.func140 rfl trivial ?_ rfl
  simp only [Tryz.ntmps140, List.size_toArray, List.length_cons, List.length_nil, Nat.reduceAdd, Nat.reduceSub, Array.replicate_succ, Array.replicate_zero, List.push_toArray, List.append_toArray, List.nil_append, List.cons_append]
  gi_wp2
  gi_loopw [7] (fun t wr => ∃ j : Nat, j ≤ n ∧ t = .int .i64 j ∧ J (ps.take j) wr ∧ Keeps (OfRow B (.slice A ps.length c)) W wr) (fun t _ => n - (intOf t).toNat)
  case atStart => exact ⟨0, by omega, rfl, by simpa using h0, Keeps.refl _ _⟩
  case round =>
    obtain ⟨j, hj, rfl, hjj, hbj⟩ := hrel
    clear c0 h0
    by_cases hjn : j < n
    · have hjl : j < ps.length := by rw [HN.out]; exact hjn
      obtain ⟨hz, h3, h4⟩ := HTT.out _ hbj
      rcases HA.out with q | ⟨ga, rfl⟩
      · have := HN.out; omega
      have c2 := fun (k : Nat) (hk : k < 5) (u : Value) => node_cell h4 hjl hk (u := u)
      obtain ⟨p, hp⟩ : ∃ p, ps[j] = p := ⟨_, rfl⟩
      rw [hp] at c2
      have b0 := c2 0 (by omega) _ rfl
      have b1 := c2 1 (by omega) _ rfl
      have b2 := c2 2 (by omega) _ rfl
      have b3 := c2 3 (by omega) _ rfl
      have b4 := c2 4 (by omega) _ rfl
      rw [Nat.add_zero] at b0
      obtain ⟨hs1, hs2⟩ := take_node ps hjl
      rw [hp] at hs1 hs2
      have hb1 := box_below wr (.cells (pcs p) 30)
      obtain ⟨fn, tmps, assign, body, hy, hR⟩ := HY.out _ p _ _ hs1 (HJ.out _ _ _ hjj hb1)
      have HS := Lib.hid hs2
      have HP := Lib.hid (show ps = (ps.take j ++ [p]) ++ ps.drop (j + 1) by rw [List.append_assoc]; exact hs1)
      have HK := Lib.hid (hbj.trans (keeps_of hb1 (fun k hk => Nat.lt_of_lt_of_le (HLt.out k hk) hz)))
      clear hs1 hs2 hp hjl h3 h4 hbj hjj c2 hb1 hz
      obtain ⟨pa, pb, pc, pd, pe⟩ := p
      simp only at b0 b1 b2 b3 b4
      gi_wp2
      refine hR.mono ?_
      rintro e W3 (⟨rfl, hJ3, hk3⟩ | ⟨rfl, hJx3⟩)
      · have HB3 := Lib.hid (HK.out.trans hk3)
        clear hy hR b0 b1 b2 b3 b4 hk3
        gi_wp2
        go_roundw
        case rel => exact ⟨j + 1, by omega, by go_num, by rw [HS.out]; exact hJ3, HB3.out⟩
        case measure => simp [intOf]; omega
      · gi_wp2
        refine bodyPost_ret (results_none rfl _ _ _) rfl ?_
        exact ⟨⟨_, rfl⟩, .inr ⟨_, _, HP.out, hJx3⟩⟩
    · obtain rfl : j = n := by omega
      gi_wp2
      go_end0
      refine ⟨⟨_, rfl⟩, .inl ?_⟩
      rw [List.take_of_length_le (Nat.le_of_eq HN.out)] at hjj
      exact hjj
end Go.Proofs.YtlhhopanegnliaaGreatDoor
