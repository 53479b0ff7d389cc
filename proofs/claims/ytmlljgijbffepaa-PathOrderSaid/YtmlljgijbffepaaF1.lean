/- The contracts of the document's answers on one node, the second part. -/
import Derived.Test.YtmlljgijbffepaaA9
namespace Go.Proofs.Ytmlljgijbffepaa
open Go Go.RowKit

set_option maxHeartbeats 1000000 in
theorem front_1 (a b c d e : Int) (w : World) :
    Calls Try.prog 26 #[Pt.v ⟨a, b, c, d, e⟩, .int .i64 1] w fun r w' => r = .returned (Pt.v ⟨a, 0, 0, 0, 1⟩) ∧ Below w.heap.size w w' := by
  go_enter Try.func26, Try.ntmps26
  go_wp2
  refine wp_loop_rounds 4 ?_
  rw [rounds_succ]
  go_wp2
  rw [rounds_succ]
  go_wp2
  rw [rounds_succ]
  go_wp2
  rw [rounds_succ]
  go_wp2
  exact bodyPost_ret (v := Pt.v ⟨a, 0, 0, 0, 1⟩) (by simp [results, Try.results26, go_sem]) rfl ⟨rfl, ((Below.refl _ _).alloc (Nat.le_refl _) _).alloc (by simp) _⟩
set_option maxHeartbeats 1000000 in
theorem front_2 (a b c d e : Int) (w : World) :
    Calls Try.prog 26 #[Pt.v ⟨a, b, c, d, e⟩, .int .i64 2] w fun r w' => r = .returned (Pt.v ⟨a, b, 0, 0, 2⟩) ∧ Below w.heap.size w w' := by
  go_enter Try.func26, Try.ntmps26
  go_wp2
  refine wp_loop_rounds 3 ?_
  rw [rounds_succ]
  go_wp2
  rw [rounds_succ]
  go_wp2
  rw [rounds_succ]
  go_wp2
  exact bodyPost_ret (v := Pt.v ⟨a, b, 0, 0, 2⟩) (by simp [results, Try.results26, go_sem]) rfl ⟨rfl, ((Below.refl _ _).alloc (Nat.le_refl _) _).alloc (by simp) _⟩
set_option maxHeartbeats 1000000 in
theorem front_3 (a b c d e : Int) (w : World) :
    Calls Try.prog 26 #[Pt.v ⟨a, b, c, d, e⟩, .int .i64 3] w fun r w' => r = .returned (Pt.v ⟨a, b, c, 0, 3⟩) ∧ Below w.heap.size w w' := by
  go_enter Try.func26, Try.ntmps26
  go_wp2
  refine wp_loop_rounds 2 ?_
  rw [rounds_succ]
  go_wp2
  rw [rounds_succ]
  go_wp2
  exact bodyPost_ret (v := Pt.v ⟨a, b, c, 0, 3⟩) (by simp [results, Try.results26, go_sem]) rfl ⟨rfl, ((Below.refl _ _).alloc (Nat.le_refl _) _).alloc (by simp) _⟩
set_option maxHeartbeats 1000000 in
theorem front_4 (a b c d e : Int) (w : World) :
    Calls Try.prog 26 #[Pt.v ⟨a, b, c, d, e⟩, .int .i64 4] w fun r w' => r = .returned (Pt.v ⟨a, b, c, d, 4⟩) ∧ Below w.heap.size w w' := by
  go_enter Try.func26, Try.ntmps26
  go_wp2
  refine wp_loop_rounds 1 ?_
  rw [rounds_succ]
  go_wp2
  exact bodyPost_ret (v := Pt.v ⟨a, b, c, d, 4⟩) (by simp [results, Try.results26, go_sem]) rfl ⟨rfl, ((Below.refl _ _).alloc (Nat.le_refl _) _).alloc (by simp) _⟩
theorem front_any (p : Pt) (k : Int) (w : World) (h1 : 1 ≤ k) (h4 : k ≤ 4) :
    Calls Try.prog 26 #[p.v, .int .i64 k] w fun r w' => r = .returned (cutP p k).v ∧ Below w.heap.size w w' := by
  obtain ⟨a, b, c, d, e⟩ := p
  rcases (by omega : k = 1 ∨ k = 2 ∨ k = 3 ∨ k = 4) with rfl | rfl | rfl | rfl
  · exact front_1 a b c d e w
  · exact front_2 a b c d e w
  · exact front_3 a b c d e w
  · exact front_4 a b c d e w
set_option maxHeartbeats 1000000 in
theorem rup_any (p : Pt) (w : World) :
    Calls Try.prog 8 #[p.v] w fun e w' => e = .returned (upV p) ∧ Below w.heap.size w w' := by
  obtain ⟨a, b, c, d, e⟩ := p
  cases hr : rightB ⟨a, b, c, d, e⟩
  · have HV := Lib.hid (show upV ⟨a, b, c, d, e⟩ = .tuple #[Pt.v ⟨0, 0, 0, 0, 0⟩, .bool false] by simp [upV, hr])
    go_enter Try.func8, Try.ntmps8
    go_wp2_with (go_at_call 25; ((with_reducible refine (rright_any ⟨a, b, c, d, e⟩ _).mono ?_); rintro e1 w1 ⟨rfl, hb1⟩; rw [hr]; obtain ⟨hc1, hf1⟩ := kept hb1))
    exact bodyPost_ret (v := .tuple #[Pt.v ⟨0, 0, 0, 0, 0⟩, .bool false]) (by simp [results, Try.results8, go_sem, hc1]) rfl ⟨by rw [HV.out], below_set5 (below_past hb1) (by omega) _ _ _ _ _⟩
  · have hd := right_depth hr
    simp only at hd
    by_cases h1 : e = 1
    · have HV := Lib.hid (show upV ⟨a, b, c, d, e⟩ = .tuple #[Pt.v ⟨0, 0, 0, 0, 0⟩, .bool false] by simp [upV, h1])
      have h1' : (e == 1) = true := by simp [h1]
      clear h1
      go_enter Try.func8, Try.ntmps8
      go_wp2_with (go_at_call 25; ((with_reducible refine (rright_any ⟨a, b, c, d, e⟩ _).mono ?_); rintro e1 w1 ⟨rfl, hb1⟩; rw [hr]; obtain ⟨hc1, hf1⟩ := kept hb1))
      exact bodyPost_ret (v := .tuple #[Pt.v ⟨0, 0, 0, 0, 0⟩, .bool false]) (by simp [results, Try.results8, go_sem, hc1]) rfl ⟨by rw [HV.out], below_set5 (below_past hb1) (by omega) _ _ _ _ _⟩
    · have HV := Lib.hid (show upV ⟨a, b, c, d, e⟩ = .tuple #[(cutP ⟨a, b, c, d, e⟩ (e - 1)).v, .bool true] by simp [upV, h1, hr])
      have h1' : (e == 1) = false := by simp [h1]
      have h2 : 2 ≤ e := by omega
      have h4 : e ≤ 4 := hd.2
      clear h1 hd
      go_enter Try.func8, Try.ntmps8
      go_wp2_with (first | (go_at_call 25; ((with_reducible refine (rright_any ⟨a, b, c, d, e⟩ _).mono ?_); rintro e1 w1 ⟨rfl, hb1⟩; rw [hr]; obtain ⟨hc1, hf1⟩ := kept hb1; have hz1 : w.heap.size + 1 < w1.heap.size := lt_two hb1)) | (go_at_call 26; ((with_reducible refine (front_any ⟨a, b, c, d, e⟩ (e - 1) _ (by omega) (by omega)).mono ?_); rintro e2 w2 ⟨rfl, hb2⟩; obtain ⟨hc2, hf2⟩ := kept hb2)))
      exact bodyPost_ret (v := .tuple #[(cutP ⟨a, b, c, d, e⟩ (e - 1)).v, .bool true]) (by simp [results, Try.results8, go_sem, hc2, hc1, hz1]) rfl ⟨by rw [HV.out], below_set5 ((below_past hb1).trans (hb2.mono (by omega))) (by omega) _ _ _ _ _⟩

theorem Gives.useK {W w' : World} {f : Nat} {args : Array Value} {v : Value} {Q : Ending → World → Prop} (h : Gives W f args v) (hb : Below W.heap.size W w') (hq : ∀ w'', Below W.heap.size W w'' → Q (.returned v) w'') : Calls Try.prog f args w' Q :=
  (h w' hb).mono fun _ w'' ⟨he, hb'⟩ => he ▸ hq w'' hb'

set_option maxHeartbeats 2000000 in
theorem rkey_any (p : Pt) (w : World) :
    Calls Try.prog 21 #[p.v] w fun e w' => e = .returned (.int .u64 (keyP p)) ∧ Below w.heap.size w w' := by
  obtain ⟨a, b, c, d, e⟩ := p
  cases hr : rightB ⟨a, b, c, d, e⟩
  · have HV := Lib.hid (show keyP ⟨a, b, c, d, e⟩ = 0 by simp [keyP, hr])
    go_enter Try.func21, Try.ntmps21
    go_wp2
    refine wp_loop_rounds 1 ?_
    rw [rounds_succ]
    go_wp2_with (go_at_call 25; ((with_reducible refine (rright_any ⟨a, b, c, d, e⟩ _).mono ?_); rintro e1 w1 ⟨rfl, hb1⟩; rw [hr]))
    go_ret
    exact ⟨ret_int HV.out.symm, below_box hb1⟩
  · have hd := right_depth hr
    have hbd := right_bd hr
    simp only at hd hbd
    obtain ⟨⟨a0, a9⟩, ⟨b0, b9⟩, ⟨g0, g9⟩, ⟨d0, d9⟩⟩ := hbd
    rcases (by omega : e = 1 ∨ e = 2 ∨ e = 3 ∨ e = 4) with rfl | rfl | rfl | rfl
    · have HV := Lib.hid (show keyP ⟨a, b, c, d, 1⟩ = a + 1 by simp [keyP, hr])
      have gr : Gives (boxed w a b c d 1) 25 #[Pt.v ⟨a, b, c, d, 1⟩] (.bool true) := rright_g hr
      clear hd hr
      go_enter Try.func21, Try.ntmps21
      go_wp2
      go_loopw [3, 4] (fun key i wr => ((i = .int .i64 0 ∧ key = .int .u64 (0)) ∨ (i = .int .i64 1 ∧ key = .int .u64 (a + 1))) ∧ Below (boxed w a b c d 1).heap.size (boxed w a b c d 1) wr) (fun _ i _ => (1 - intOf i).toNat)
      case atStart => exact ⟨.inl ⟨rfl, rfl⟩, Below.refl _ _⟩
      case round =>
        obtain ⟨hrel, hb⟩ := hrel
        obtain ⟨c0, c1, c2, c3, c4⟩ := kept_one hb
        rcases hrel with ⟨rfl, rfl⟩ | ⟨rfl, rfl⟩
        · go_wp2_with fail
          refine Gives.useK gr hb ?_
          intro w2 hb2
          clear c0 c1 c2 c3 c4
          obtain ⟨c0, c1, c2, c3, c4⟩ := kept_one hb2
          go_wp2_with fail
          go_roundw
          case rel => exact ⟨.inr (⟨by go_num, by go_num⟩), hb2⟩
          case measure => simp [intOf]
        · go_wp2_with fail
          refine Gives.useK gr hb ?_
          intro w2 hb2
          clear c0 c1 c2 c3 c4
          obtain ⟨c0, c1, c2, c3, c4⟩ := kept_one hb2
          go_wp2_with fail
          go_ret
          exact ⟨ret_int HV.out.symm, below_box hb2⟩
    · have HV := Lib.hid (show keyP ⟨a, b, c, d, 2⟩ = (a + 1) * 1001 + b + 1 by simp [keyP, hr])
      have gr : Gives (boxed w a b c d 2) 25 #[Pt.v ⟨a, b, c, d, 2⟩] (.bool true) := rright_g hr
      clear hd hr
      go_enter Try.func21, Try.ntmps21
      go_wp2
      go_loopw [3, 4] (fun key i wr => ((i = .int .i64 0 ∧ key = .int .u64 (0)) ∨ (i = .int .i64 1 ∧ key = .int .u64 (a + 1)) ∨ (i = .int .i64 2 ∧ key = .int .u64 ((a + 1) * 1001 + b + 1))) ∧ Below (boxed w a b c d 2).heap.size (boxed w a b c d 2) wr) (fun _ i _ => (2 - intOf i).toNat)
      case atStart => exact ⟨.inl ⟨rfl, rfl⟩, Below.refl _ _⟩
      case round =>
        obtain ⟨hrel, hb⟩ := hrel
        obtain ⟨c0, c1, c2, c3, c4⟩ := kept_one hb
        rcases hrel with ⟨rfl, rfl⟩ | ⟨rfl, rfl⟩ | ⟨rfl, rfl⟩
        · go_wp2_with fail
          refine Gives.useK gr hb ?_
          intro w2 hb2
          clear c0 c1 c2 c3 c4
          obtain ⟨c0, c1, c2, c3, c4⟩ := kept_one hb2
          go_wp2_with fail
          go_roundw
          case rel => exact ⟨.inr (.inl ⟨by go_num, by go_num⟩), hb2⟩
          case measure => simp [intOf]
        · go_wp2_with fail
          refine Gives.useK gr hb ?_
          intro w2 hb2
          clear c0 c1 c2 c3 c4
          obtain ⟨c0, c1, c2, c3, c4⟩ := kept_one hb2
          go_wp2_with fail
          go_roundw
          case rel => exact ⟨.inr (.inr (⟨by go_num, by go_num⟩)), hb2⟩
          case measure => simp [intOf]
        · go_wp2_with fail
          refine Gives.useK gr hb ?_
          intro w2 hb2
          clear c0 c1 c2 c3 c4
          obtain ⟨c0, c1, c2, c3, c4⟩ := kept_one hb2
          go_wp2_with fail
          go_ret
          exact ⟨ret_int HV.out.symm, below_box hb2⟩
    · have HV := Lib.hid (show keyP ⟨a, b, c, d, 3⟩ = ((a + 1) * 1001 + b + 1) * 1001 + c + 1 by simp [keyP, hr])
      have gr : Gives (boxed w a b c d 3) 25 #[Pt.v ⟨a, b, c, d, 3⟩] (.bool true) := rright_g hr
      clear hd hr
      go_enter Try.func21, Try.ntmps21
      go_wp2
      go_loopw [3, 4] (fun key i wr => ((i = .int .i64 0 ∧ key = .int .u64 (0)) ∨ (i = .int .i64 1 ∧ key = .int .u64 (a + 1)) ∨ (i = .int .i64 2 ∧ key = .int .u64 ((a + 1) * 1001 + b + 1)) ∨ (i = .int .i64 3 ∧ key = .int .u64 (((a + 1) * 1001 + b + 1) * 1001 + c + 1))) ∧ Below (boxed w a b c d 3).heap.size (boxed w a b c d 3) wr) (fun _ i _ => (3 - intOf i).toNat)
      case atStart => exact ⟨.inl ⟨rfl, rfl⟩, Below.refl _ _⟩
      case round =>
        obtain ⟨hrel, hb⟩ := hrel
        obtain ⟨c0, c1, c2, c3, c4⟩ := kept_one hb
        rcases hrel with ⟨rfl, rfl⟩ | ⟨rfl, rfl⟩ | ⟨rfl, rfl⟩ | ⟨rfl, rfl⟩
        · go_wp2_with fail
          refine Gives.useK gr hb ?_
          intro w2 hb2
          clear c0 c1 c2 c3 c4
          obtain ⟨c0, c1, c2, c3, c4⟩ := kept_one hb2
          go_wp2_with fail
          go_roundw
          case rel => exact ⟨.inr (.inl ⟨by go_num, by go_num⟩), hb2⟩
          case measure => simp [intOf]
        · go_wp2_with fail
          refine Gives.useK gr hb ?_
          intro w2 hb2
          clear c0 c1 c2 c3 c4
          obtain ⟨c0, c1, c2, c3, c4⟩ := kept_one hb2
          go_wp2_with fail
          go_roundw
          case rel => exact ⟨.inr (.inr (.inl ⟨by go_num, by go_num⟩)), hb2⟩
          case measure => simp [intOf]
        · go_wp2_with fail
          refine Gives.useK gr hb ?_
          intro w2 hb2
          clear c0 c1 c2 c3 c4
          obtain ⟨c0, c1, c2, c3, c4⟩ := kept_one hb2
          go_wp2_with fail
          go_roundw
          case rel => exact ⟨.inr (.inr (.inr (⟨by go_num, by go_num⟩))), hb2⟩
          case measure => simp [intOf]
        · go_wp2_with fail
          refine Gives.useK gr hb ?_
          intro w2 hb2
          clear c0 c1 c2 c3 c4
          obtain ⟨c0, c1, c2, c3, c4⟩ := kept_one hb2
          go_wp2_with fail
          go_ret
          exact ⟨ret_int HV.out.symm, below_box hb2⟩
    · have HV := Lib.hid (show keyP ⟨a, b, c, d, 4⟩ = (((a + 1) * 1001 + b + 1) * 1001 + c + 1) * 1001 + d + 1 by simp [keyP, hr])
      have gr : Gives (boxed w a b c d 4) 25 #[Pt.v ⟨a, b, c, d, 4⟩] (.bool true) := rright_g hr
      clear hd hr
      go_enter Try.func21, Try.ntmps21
      go_wp2
      go_loopw [3, 4] (fun key i wr => ((i = .int .i64 0 ∧ key = .int .u64 (0)) ∨ (i = .int .i64 1 ∧ key = .int .u64 (a + 1)) ∨ (i = .int .i64 2 ∧ key = .int .u64 ((a + 1) * 1001 + b + 1)) ∨ (i = .int .i64 3 ∧ key = .int .u64 (((a + 1) * 1001 + b + 1) * 1001 + c + 1)) ∨ (i = .int .i64 4 ∧ key = .int .u64 ((((a + 1) * 1001 + b + 1) * 1001 + c + 1) * 1001 + d + 1))) ∧ Below (boxed w a b c d 4).heap.size (boxed w a b c d 4) wr) (fun _ i _ => (4 - intOf i).toNat)
      case atStart => exact ⟨.inl ⟨rfl, rfl⟩, Below.refl _ _⟩
      case round =>
        obtain ⟨hrel, hb⟩ := hrel
        obtain ⟨c0, c1, c2, c3, c4⟩ := kept_one hb
        rcases hrel with ⟨rfl, rfl⟩ | ⟨rfl, rfl⟩ | ⟨rfl, rfl⟩ | ⟨rfl, rfl⟩ | ⟨rfl, rfl⟩
        · go_wp2_with fail
          refine Gives.useK gr hb ?_
          intro w2 hb2
          clear c0 c1 c2 c3 c4
          obtain ⟨c0, c1, c2, c3, c4⟩ := kept_one hb2
          go_wp2_with fail
          go_roundw
          case rel => exact ⟨.inr (.inl ⟨by go_num, by go_num⟩), hb2⟩
          case measure => simp [intOf]
        · go_wp2_with fail
          refine Gives.useK gr hb ?_
          intro w2 hb2
          clear c0 c1 c2 c3 c4
          obtain ⟨c0, c1, c2, c3, c4⟩ := kept_one hb2
          go_wp2_with fail
          go_roundw
          case rel => exact ⟨.inr (.inr (.inl ⟨by go_num, by go_num⟩)), hb2⟩
          case measure => simp [intOf]
        · go_wp2_with fail
          refine Gives.useK gr hb ?_
          intro w2 hb2
          clear c0 c1 c2 c3 c4
          obtain ⟨c0, c1, c2, c3, c4⟩ := kept_one hb2
          go_wp2_with fail
          go_roundw
          case rel => exact ⟨.inr (.inr (.inr (.inl ⟨by go_num, by go_num⟩))), hb2⟩
          case measure => simp [intOf]
        · go_wp2_with fail
          refine Gives.useK gr hb ?_
          intro w2 hb2
          clear c0 c1 c2 c3 c4
          obtain ⟨c0, c1, c2, c3, c4⟩ := kept_one hb2
          go_wp2_with fail
          go_roundw
          case rel => exact ⟨.inr (.inr (.inr (.inr (⟨by go_num, by go_num⟩)))), hb2⟩
          case measure => simp [intOf]
        · go_wp2_with fail
          refine Gives.useK gr hb ?_
          intro w2 hb2
          clear c0 c1 c2 c3 c4
          obtain ⟨c0, c1, c2, c3, c4⟩ := kept_one hb2
          go_wp2_with fail
          go_ret
          exact ⟨ret_int HV.out.symm, below_box hb2⟩
end Go.Proofs.Ytmlljgijbffepaa
