/- The contract of the document's answer on a node's text. -/
import Derived.Test.YtmlljgijbffepaaDoorD1
import Derived.Test.YtmlljgijbffepaaDoorA9
namespace Go.Proofs.YtmlljgijbffepaaDoor
open Go Go.RowKit

theorem Gives.useK {W w' : World} {f : Nat} {args : Array Value} {v : Value} {Q : Ending → World → Prop} (h : Gives W f args v) (hb : Below W.heap.size W w') (hq : ∀ w'', Below W.heap.size W w'' → Q (.returned v) w'') : Calls Tryd.prog f args w' Q :=
  (h w' hb).mono fun _ w'' ⟨he, hb'⟩ => he ▸ hq w'' hb'
theorem dec_g {w : World} {n : Int} {l : List UInt8} (h0 : 0 ≤ n) (h9 : n ≤ 999) (h : Lib.itoa n = l) : Gives w 21 #[.int .i64 n] (.string ⟨l.toArray⟩) := by
  subst h; exact Gives.of fun w => dec_any n w h0 h9
theorem cat (x y : List UInt8) (hx : x.length ≤ 100) (hy : y.length ≤ 100) (w : World) : (Op.stringOp .add ⟨x.toArray⟩ ⟨y.toArray⟩).run Tryd.prog w = .ok (.string ⟨(x ++ y).toArray⟩) w :=
  run_string_add_lists w _ _ (by omega) (by omega)

set_option maxHeartbeats 2000000 in
theorem rtext_any (p : Pt) (w : World) :
    Calls Tryd.prog 13 #[p.v] w fun e w' => e = .returned (.string ⟨(textP p).toArray⟩) ∧ Below w.heap.size w w' := by
  obtain ⟨a, b, c, d, e⟩ := p
  cases hr : rightB ⟨a, b, c, d, e⟩
  · have HV := Lib.hid (show textP ⟨a, b, c, d, e⟩ = [] by simp [textP, hr])
    go_enter Tryd.func13, Tryd.ntmps13
    go_wp2_with (go_at_call 11; ((with_reducible refine (rright_any ⟨a, b, c, d, e⟩ _).mono ?_); rintro e1 w1 ⟨rfl, hb1⟩; rw [hr]))
    go_ret
    exact ⟨ret_str HV.out.symm, below_box hb1⟩
  · have hd := right_depth hr
    have hbd := right_bd hr
    simp only at hd hbd
    obtain ⟨⟨a0, a9⟩, ⟨b0, b9⟩, ⟨g0, g9⟩, ⟨d0, d9⟩⟩ := hbd
    have la := itoa_len a a0 a9
    have lb := itoa_len b b0 b9
    have lc := itoa_len c g0 g9
    have ld := itoa_len d d0 d9
    rcases (by omega : e = 1 ∨ e = 2 ∨ e = 3 ∨ e = 4) with rfl | rfl | rfl | rfl
    · have HV := Lib.hid (show textP ⟨a, b, c, d, 1⟩ = Lib.itoa a by simp [textP, hr])
      have gr : Gives (boxed w a b c d 1) 11 #[Pt.v ⟨a, b, c, d, 1⟩] (.bool true) := rright_g hr
      obtain ⟨i0, hi0⟩ : ∃ l, Lib.itoa a = l := ⟨_, rfl⟩
      have g0_ : Gives (boxed w a b c d 1) 21 #[.int .i64 a] (.string ⟨i0.toArray⟩) := dec_g a0 a9 hi0
      rw [hi0] at HV la
      obtain ⟨z1, hz1⟩ : ∃ l, i0 = l := ⟨_, rfl⟩
      have q0 : ∀ w : World, (Op.stringOp .add ⟨#[]⟩ ⟨i0.toArray⟩).run Tryd.prog w = .ok (.string ⟨z1.toArray⟩) w := fun w => by rw [← hz1]; exact cat [] i0 (by simp) (by omega) w
      rw [hz1] at HV
      clear hd hr hi0 hz1 
      go_enter Tryd.func13, Tryd.ntmps13
      go_wp2_with fail
      refine Gives.useK gr (Below.refl _ _) ?_
      intro w1 hb1
      obtain ⟨c0, c1, c2, c3, c4⟩ := kept_one hb1
      go_wp2_with fail
      clear c0 c1 c2 c3 c4
      go_loopw [3, 4] (fun s i wr => ((i = .int .i64 0 ∧ s = .string ⟨#[]⟩) ∨ (i = .int .i64 1 ∧ s = .string ⟨z1.toArray⟩)) ∧ Below (boxed w a b c d 1).heap.size (boxed w a b c d 1) wr) (fun _ i _ => (1 - intOf i).toNat)
      case atStart => exact ⟨.inl ⟨rfl, rfl⟩, hb1⟩
      case round =>
        obtain ⟨hrel, hb⟩ := hrel
        obtain ⟨c0, c1, c2, c3, c4⟩ := kept_one hb
        rcases hrel with ⟨rfl, rfl⟩ | ⟨rfl, rfl⟩
        · go_wp2_with fail
          refine Gives.useK g0_ hb ?_
          intro w2 hb2
          clear c0 c1 c2 c3 c4
          go_wp2_with fail
          go_roundw
          case rel => exact ⟨.inr (⟨by go_num, rfl⟩), hb2⟩
          case measure => simp [intOf]
        · go_wp2_with fail
          go_ret
          exact ⟨ret_str HV.out.symm, below_box hb⟩
    · have HV := Lib.hid (show textP ⟨a, b, c, d, 2⟩ = Lib.itoa a ++ [46] ++ Lib.itoa b by simp [textP, hr])
      have gr : Gives (boxed w a b c d 2) 11 #[Pt.v ⟨a, b, c, d, 2⟩] (.bool true) := rright_g hr
      obtain ⟨i0, hi0⟩ : ∃ l, Lib.itoa a = l := ⟨_, rfl⟩
      have g0_ : Gives (boxed w a b c d 2) 21 #[.int .i64 a] (.string ⟨i0.toArray⟩) := dec_g a0 a9 hi0
      rw [hi0] at HV la
      obtain ⟨i1, hi1⟩ : ∃ l, Lib.itoa b = l := ⟨_, rfl⟩
      have g1_ : Gives (boxed w a b c d 2) 21 #[.int .i64 b] (.string ⟨i1.toArray⟩) := dec_g b0 b9 hi1
      rw [hi1] at HV lb
      obtain ⟨z1, hz1⟩ : ∃ l, i0 = l := ⟨_, rfl⟩
      obtain ⟨z2, hz2⟩ : ∃ l, i0 ++ [46] ++ i1 = l := ⟨_, rfl⟩
      have q0 : ∀ w : World, (Op.stringOp .add ⟨#[]⟩ ⟨i0.toArray⟩).run Tryd.prog w = .ok (.string ⟨z1.toArray⟩) w := fun w => by rw [← hz1]; exact cat [] i0 (by simp) (by omega) w
      obtain ⟨y1, hy1⟩ : ∃ l, z1 ++ [46] = l := ⟨_, rfl⟩
      have q1 : ∀ w : World, (Op.stringOp .add ⟨z1.toArray⟩ ⟨#[46]⟩).run Tryd.prog w = .ok (.string ⟨y1.toArray⟩) w := fun w => by rw [← hy1]; exact cat z1 [46] (by rw [← hz1]; (try simp); omega) (by simp) w
      have r1 : ∀ w : World, (Op.stringOp .add ⟨y1.toArray⟩ ⟨i1.toArray⟩).run Tryd.prog w = .ok (.string ⟨z2.toArray⟩) w := fun w => by rw [← hz2, show i0 ++ [46] ++ i1 = y1 ++ i1 by rw [← hy1, ← hz1]]; exact cat y1 i1 (by rw [← hy1, ← hz1]; (try simp); omega) (by omega) w
      rw [hz2] at HV
      clear hd hr hi0 hi1 hz1 hz2 hy1
      go_enter Tryd.func13, Tryd.ntmps13
      go_wp2_with fail
      refine Gives.useK gr (Below.refl _ _) ?_
      intro w1 hb1
      obtain ⟨c0, c1, c2, c3, c4⟩ := kept_one hb1
      go_wp2_with fail
      clear c0 c1 c2 c3 c4
      go_loopw [3, 4] (fun s i wr => ((i = .int .i64 0 ∧ s = .string ⟨#[]⟩) ∨ (i = .int .i64 1 ∧ s = .string ⟨z1.toArray⟩) ∨ (i = .int .i64 2 ∧ s = .string ⟨z2.toArray⟩)) ∧ Below (boxed w a b c d 2).heap.size (boxed w a b c d 2) wr) (fun _ i _ => (2 - intOf i).toNat)
      case atStart => exact ⟨.inl ⟨rfl, rfl⟩, hb1⟩
      case round =>
        obtain ⟨hrel, hb⟩ := hrel
        obtain ⟨c0, c1, c2, c3, c4⟩ := kept_one hb
        rcases hrel with ⟨rfl, rfl⟩ | ⟨rfl, rfl⟩ | ⟨rfl, rfl⟩
        · go_wp2_with fail
          refine Gives.useK g0_ hb ?_
          intro w2 hb2
          clear c0 c1 c2 c3 c4
          go_wp2_with fail
          go_roundw
          case rel => exact ⟨.inr (.inl ⟨by go_num, rfl⟩), hb2⟩
          case measure => simp [intOf]
        · go_wp2_with fail
          refine Gives.useK g1_ hb ?_
          intro w2 hb2
          clear c0 c1 c2 c3 c4
          go_wp2_with fail
          go_roundw
          case rel => exact ⟨.inr (.inr (⟨by go_num, rfl⟩)), hb2⟩
          case measure => simp [intOf]
        · go_wp2_with fail
          go_ret
          exact ⟨ret_str HV.out.symm, below_box hb⟩
    · have HV := Lib.hid (show textP ⟨a, b, c, d, 3⟩ = Lib.itoa a ++ [46] ++ Lib.itoa b ++ [46] ++ Lib.itoa c by simp [textP, hr])
      have gr : Gives (boxed w a b c d 3) 11 #[Pt.v ⟨a, b, c, d, 3⟩] (.bool true) := rright_g hr
      obtain ⟨i0, hi0⟩ : ∃ l, Lib.itoa a = l := ⟨_, rfl⟩
      have g0_ : Gives (boxed w a b c d 3) 21 #[.int .i64 a] (.string ⟨i0.toArray⟩) := dec_g a0 a9 hi0
      rw [hi0] at HV la
      obtain ⟨i1, hi1⟩ : ∃ l, Lib.itoa b = l := ⟨_, rfl⟩
      have g1_ : Gives (boxed w a b c d 3) 21 #[.int .i64 b] (.string ⟨i1.toArray⟩) := dec_g b0 b9 hi1
      rw [hi1] at HV lb
      obtain ⟨i2, hi2⟩ : ∃ l, Lib.itoa c = l := ⟨_, rfl⟩
      have g2_ : Gives (boxed w a b c d 3) 21 #[.int .i64 c] (.string ⟨i2.toArray⟩) := dec_g g0 g9 hi2
      rw [hi2] at HV lc
      obtain ⟨z1, hz1⟩ : ∃ l, i0 = l := ⟨_, rfl⟩
      obtain ⟨z2, hz2⟩ : ∃ l, i0 ++ [46] ++ i1 = l := ⟨_, rfl⟩
      obtain ⟨z3, hz3⟩ : ∃ l, i0 ++ [46] ++ i1 ++ [46] ++ i2 = l := ⟨_, rfl⟩
      have q0 : ∀ w : World, (Op.stringOp .add ⟨#[]⟩ ⟨i0.toArray⟩).run Tryd.prog w = .ok (.string ⟨z1.toArray⟩) w := fun w => by rw [← hz1]; exact cat [] i0 (by simp) (by omega) w
      obtain ⟨y1, hy1⟩ : ∃ l, z1 ++ [46] = l := ⟨_, rfl⟩
      have q1 : ∀ w : World, (Op.stringOp .add ⟨z1.toArray⟩ ⟨#[46]⟩).run Tryd.prog w = .ok (.string ⟨y1.toArray⟩) w := fun w => by rw [← hy1]; exact cat z1 [46] (by rw [← hz1]; (try simp); omega) (by simp) w
      have r1 : ∀ w : World, (Op.stringOp .add ⟨y1.toArray⟩ ⟨i1.toArray⟩).run Tryd.prog w = .ok (.string ⟨z2.toArray⟩) w := fun w => by rw [← hz2, show i0 ++ [46] ++ i1 = y1 ++ i1 by rw [← hy1, ← hz1]]; exact cat y1 i1 (by rw [← hy1, ← hz1]; (try simp); omega) (by omega) w
      obtain ⟨y2, hy2⟩ : ∃ l, z2 ++ [46] = l := ⟨_, rfl⟩
      have q2 : ∀ w : World, (Op.stringOp .add ⟨z2.toArray⟩ ⟨#[46]⟩).run Tryd.prog w = .ok (.string ⟨y2.toArray⟩) w := fun w => by rw [← hy2]; exact cat z2 [46] (by rw [← hz2]; (try simp); omega) (by simp) w
      have r2 : ∀ w : World, (Op.stringOp .add ⟨y2.toArray⟩ ⟨i2.toArray⟩).run Tryd.prog w = .ok (.string ⟨z3.toArray⟩) w := fun w => by rw [← hz3, show i0 ++ [46] ++ i1 ++ [46] ++ i2 = y2 ++ i2 by rw [← hy2, ← hz2]]; exact cat y2 i2 (by rw [← hy2, ← hz2]; (try simp); omega) (by omega) w
      rw [hz3] at HV
      clear hd hr hi0 hi1 hi2 hz1 hz2 hz3 hy1 hy2
      go_enter Tryd.func13, Tryd.ntmps13
      go_wp2_with fail
      refine Gives.useK gr (Below.refl _ _) ?_
      intro w1 hb1
      obtain ⟨c0, c1, c2, c3, c4⟩ := kept_one hb1
      go_wp2_with fail
      clear c0 c1 c2 c3 c4
      go_loopw [3, 4] (fun s i wr => ((i = .int .i64 0 ∧ s = .string ⟨#[]⟩) ∨ (i = .int .i64 1 ∧ s = .string ⟨z1.toArray⟩) ∨ (i = .int .i64 2 ∧ s = .string ⟨z2.toArray⟩) ∨ (i = .int .i64 3 ∧ s = .string ⟨z3.toArray⟩)) ∧ Below (boxed w a b c d 3).heap.size (boxed w a b c d 3) wr) (fun _ i _ => (3 - intOf i).toNat)
      case atStart => exact ⟨.inl ⟨rfl, rfl⟩, hb1⟩
      case round =>
        obtain ⟨hrel, hb⟩ := hrel
        obtain ⟨c0, c1, c2, c3, c4⟩ := kept_one hb
        rcases hrel with ⟨rfl, rfl⟩ | ⟨rfl, rfl⟩ | ⟨rfl, rfl⟩ | ⟨rfl, rfl⟩
        · go_wp2_with fail
          refine Gives.useK g0_ hb ?_
          intro w2 hb2
          clear c0 c1 c2 c3 c4
          go_wp2_with fail
          go_roundw
          case rel => exact ⟨.inr (.inl ⟨by go_num, rfl⟩), hb2⟩
          case measure => simp [intOf]
        · go_wp2_with fail
          refine Gives.useK g1_ hb ?_
          intro w2 hb2
          clear c0 c1 c2 c3 c4
          go_wp2_with fail
          go_roundw
          case rel => exact ⟨.inr (.inr (.inl ⟨by go_num, rfl⟩)), hb2⟩
          case measure => simp [intOf]
        · go_wp2_with fail
          refine Gives.useK g2_ hb ?_
          intro w2 hb2
          clear c0 c1 c2 c3 c4
          go_wp2_with fail
          go_roundw
          case rel => exact ⟨.inr (.inr (.inr (⟨by go_num, rfl⟩))), hb2⟩
          case measure => simp [intOf]
        · go_wp2_with fail
          go_ret
          exact ⟨ret_str HV.out.symm, below_box hb⟩
    · have HV := Lib.hid (show textP ⟨a, b, c, d, 4⟩ = Lib.itoa a ++ [46] ++ Lib.itoa b ++ [46] ++ Lib.itoa c ++ [46] ++ Lib.itoa d by simp [textP, hr])
      have gr : Gives (boxed w a b c d 4) 11 #[Pt.v ⟨a, b, c, d, 4⟩] (.bool true) := rright_g hr
      obtain ⟨i0, hi0⟩ : ∃ l, Lib.itoa a = l := ⟨_, rfl⟩
      have g0_ : Gives (boxed w a b c d 4) 21 #[.int .i64 a] (.string ⟨i0.toArray⟩) := dec_g a0 a9 hi0
      rw [hi0] at HV la
      obtain ⟨i1, hi1⟩ : ∃ l, Lib.itoa b = l := ⟨_, rfl⟩
      have g1_ : Gives (boxed w a b c d 4) 21 #[.int .i64 b] (.string ⟨i1.toArray⟩) := dec_g b0 b9 hi1
      rw [hi1] at HV lb
      obtain ⟨i2, hi2⟩ : ∃ l, Lib.itoa c = l := ⟨_, rfl⟩
      have g2_ : Gives (boxed w a b c d 4) 21 #[.int .i64 c] (.string ⟨i2.toArray⟩) := dec_g g0 g9 hi2
      rw [hi2] at HV lc
      obtain ⟨i3, hi3⟩ : ∃ l, Lib.itoa d = l := ⟨_, rfl⟩
      have g3_ : Gives (boxed w a b c d 4) 21 #[.int .i64 d] (.string ⟨i3.toArray⟩) := dec_g d0 d9 hi3
      rw [hi3] at HV ld
      obtain ⟨z1, hz1⟩ : ∃ l, i0 = l := ⟨_, rfl⟩
      obtain ⟨z2, hz2⟩ : ∃ l, i0 ++ [46] ++ i1 = l := ⟨_, rfl⟩
      obtain ⟨z3, hz3⟩ : ∃ l, i0 ++ [46] ++ i1 ++ [46] ++ i2 = l := ⟨_, rfl⟩
      obtain ⟨z4, hz4⟩ : ∃ l, i0 ++ [46] ++ i1 ++ [46] ++ i2 ++ [46] ++ i3 = l := ⟨_, rfl⟩
      have q0 : ∀ w : World, (Op.stringOp .add ⟨#[]⟩ ⟨i0.toArray⟩).run Tryd.prog w = .ok (.string ⟨z1.toArray⟩) w := fun w => by rw [← hz1]; exact cat [] i0 (by simp) (by omega) w
      obtain ⟨y1, hy1⟩ : ∃ l, z1 ++ [46] = l := ⟨_, rfl⟩
      have q1 : ∀ w : World, (Op.stringOp .add ⟨z1.toArray⟩ ⟨#[46]⟩).run Tryd.prog w = .ok (.string ⟨y1.toArray⟩) w := fun w => by rw [← hy1]; exact cat z1 [46] (by rw [← hz1]; (try simp); omega) (by simp) w
      have r1 : ∀ w : World, (Op.stringOp .add ⟨y1.toArray⟩ ⟨i1.toArray⟩).run Tryd.prog w = .ok (.string ⟨z2.toArray⟩) w := fun w => by rw [← hz2, show i0 ++ [46] ++ i1 = y1 ++ i1 by rw [← hy1, ← hz1]]; exact cat y1 i1 (by rw [← hy1, ← hz1]; (try simp); omega) (by omega) w
      obtain ⟨y2, hy2⟩ : ∃ l, z2 ++ [46] = l := ⟨_, rfl⟩
      have q2 : ∀ w : World, (Op.stringOp .add ⟨z2.toArray⟩ ⟨#[46]⟩).run Tryd.prog w = .ok (.string ⟨y2.toArray⟩) w := fun w => by rw [← hy2]; exact cat z2 [46] (by rw [← hz2]; (try simp); omega) (by simp) w
      have r2 : ∀ w : World, (Op.stringOp .add ⟨y2.toArray⟩ ⟨i2.toArray⟩).run Tryd.prog w = .ok (.string ⟨z3.toArray⟩) w := fun w => by rw [← hz3, show i0 ++ [46] ++ i1 ++ [46] ++ i2 = y2 ++ i2 by rw [← hy2, ← hz2]]; exact cat y2 i2 (by rw [← hy2, ← hz2]; (try simp); omega) (by omega) w
      obtain ⟨y3, hy3⟩ : ∃ l, z3 ++ [46] = l := ⟨_, rfl⟩
      have q3 : ∀ w : World, (Op.stringOp .add ⟨z3.toArray⟩ ⟨#[46]⟩).run Tryd.prog w = .ok (.string ⟨y3.toArray⟩) w := fun w => by rw [← hy3]; exact cat z3 [46] (by rw [← hz3]; (try simp); omega) (by simp) w
      have r3 : ∀ w : World, (Op.stringOp .add ⟨y3.toArray⟩ ⟨i3.toArray⟩).run Tryd.prog w = .ok (.string ⟨z4.toArray⟩) w := fun w => by rw [← hz4, show i0 ++ [46] ++ i1 ++ [46] ++ i2 ++ [46] ++ i3 = y3 ++ i3 by rw [← hy3, ← hz3]]; exact cat y3 i3 (by rw [← hy3, ← hz3]; (try simp); omega) (by omega) w
      rw [hz4] at HV
      clear hd hr hi0 hi1 hi2 hi3 hz1 hz2 hz3 hz4 hy1 hy2 hy3
      go_enter Tryd.func13, Tryd.ntmps13
      go_wp2_with fail
      refine Gives.useK gr (Below.refl _ _) ?_
      intro w1 hb1
      obtain ⟨c0, c1, c2, c3, c4⟩ := kept_one hb1
      go_wp2_with fail
      clear c0 c1 c2 c3 c4
      go_loopw [3, 4] (fun s i wr => ((i = .int .i64 0 ∧ s = .string ⟨#[]⟩) ∨ (i = .int .i64 1 ∧ s = .string ⟨z1.toArray⟩) ∨ (i = .int .i64 2 ∧ s = .string ⟨z2.toArray⟩) ∨ (i = .int .i64 3 ∧ s = .string ⟨z3.toArray⟩) ∨ (i = .int .i64 4 ∧ s = .string ⟨z4.toArray⟩)) ∧ Below (boxed w a b c d 4).heap.size (boxed w a b c d 4) wr) (fun _ i _ => (4 - intOf i).toNat)
      case atStart => exact ⟨.inl ⟨rfl, rfl⟩, hb1⟩
      case round =>
        obtain ⟨hrel, hb⟩ := hrel
        obtain ⟨c0, c1, c2, c3, c4⟩ := kept_one hb
        rcases hrel with ⟨rfl, rfl⟩ | ⟨rfl, rfl⟩ | ⟨rfl, rfl⟩ | ⟨rfl, rfl⟩ | ⟨rfl, rfl⟩
        · go_wp2_with fail
          refine Gives.useK g0_ hb ?_
          intro w2 hb2
          clear c0 c1 c2 c3 c4
          go_wp2_with fail
          go_roundw
          case rel => exact ⟨.inr (.inl ⟨by go_num, rfl⟩), hb2⟩
          case measure => simp [intOf]
        · go_wp2_with fail
          refine Gives.useK g1_ hb ?_
          intro w2 hb2
          clear c0 c1 c2 c3 c4
          go_wp2_with fail
          go_roundw
          case rel => exact ⟨.inr (.inr (.inl ⟨by go_num, rfl⟩)), hb2⟩
          case measure => simp [intOf]
        · go_wp2_with fail
          refine Gives.useK g2_ hb ?_
          intro w2 hb2
          clear c0 c1 c2 c3 c4
          go_wp2_with fail
          go_roundw
          case rel => exact ⟨.inr (.inr (.inr (.inl ⟨by go_num, rfl⟩))), hb2⟩
          case measure => simp [intOf]
        · go_wp2_with fail
          refine Gives.useK g3_ hb ?_
          intro w2 hb2
          clear c0 c1 c2 c3 c4
          go_wp2_with fail
          go_roundw
          case rel => exact ⟨.inr (.inr (.inr (.inr (⟨by go_num, rfl⟩)))), hb2⟩
          case measure => simp [intOf]
        · go_wp2_with fail
          go_ret
          exact ⟨ret_str HV.out.symm, below_box hb⟩
end Go.Proofs.YtmlljgijbffepaaDoor
