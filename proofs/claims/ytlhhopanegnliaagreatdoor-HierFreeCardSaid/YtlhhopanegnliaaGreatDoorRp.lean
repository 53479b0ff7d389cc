/- The document's answers on nodes: whether one may be; which of two is less. -/
import Derived.Test.YtlhhopanegnliaaGreatDoorPa
import Derived.BigQuiet
namespace Go.Proofs.YtlhhopanegnliaaGreatDoor.Pa
open Go Go.RowKit
set_option maxRecDepth 100000

theorem cmpL_me : ∀ l : List Int, cmpL l l = 0
  | [] => rfl
  | a :: l => by rw [cmpL, if_neg (by omega), if_neg (by omega)]; exact cmpL_me l
theorem less_self (p : Pt) : lessB p p = false := by
  unfold lessB
  rw [cmpL_me]
  simp
theorem nums_one {p q : Pt} (hp : rightB p = true) (hq : rightB q = true) (h : numsP p = numsP q) : p = q := by
  unfold numsP at h
  rcases node_shape hp with ⟨a, rfl⟩ | ⟨a, b, rfl⟩ | ⟨a, b, c, rfl⟩ | ⟨a, b, c, d, rfl⟩ <;>
    rcases node_shape hq with ⟨a', rfl⟩ | ⟨a', b', rfl⟩ | ⟨a', b', c', rfl⟩ | ⟨a', b', c', d', rfl⟩ <;>
    simp at h <;> simp [h]
theorem Gives.keepK {W w' : World} {f : Nat} {args : Array Value} {v : Value} {Q : Ending → World → Prop} (h : Gives W f args v) (hb : Below W.heap.size W w') (hq : ∀ w'', Below W.heap.size W w'' → Q (.returned v) w'') : Calls Tryz.prog f args w' Q :=
  (h w' hb).mono fun _ w'' ⟨he, hb'⟩ => he ▸ hq w'' hb'
theorem num_cases (n : Int) : (numB n = false ∧ n < 0) ∨ (numB n = false ∧ ¬ n < 0 ∧ 999 < n) ∨ (numB n = true ∧ ¬ n < 0 ∧ ¬ 999 < n) := by
  unfold numB
  by_cases h : n < 0
  · exact .inl ⟨decide_eq_false (by omega), h⟩
  · by_cases h' : 999 < n
    · exact .inr (.inl ⟨decide_eq_false (by omega), h, h'⟩)
    · exact .inr (.inr ⟨decide_eq_true (by omega), h, h'⟩)
set_option maxHeartbeats 2000000 in
theorem rright_in (a b c d e : Int) (w : World) (he : e = 1 ∨ e = 2 ∨ e = 3 ∨ e = 4) :
    Calls Tryz.prog 33 #[Pt.v ⟨a, b, c, d, e⟩] w fun e' w' => e' = .returned (.bool (allB (atN a b c d e))) ∧ Below w.heap.size w w' := by
  obtain ⟨f, hf⟩ : ∃ f, atN a b c d e = f := ⟨_, rfl⟩
  have f0 : atB a 0 e = f 0 := by rw [← hf]; rfl
  have f1 : atB b 1 e = f 1 := by rw [← hf]; rfl
  have f2 : atB c 2 e = f 2 := by rw [← hf]; rfl
  have f3 : atB d 3 e = f 3 := by rw [← hf]; rfl
  rw [hf]
  clear hf
  unfold atB at f0 f1 f2 f3
  replace f0 := Lib.hid f0
  replace f1 := Lib.hid f1
  replace f2 := Lib.hid f2
  replace f3 := Lib.hid f3
  rcases he with rfl | rfl | rfl | rfl
  all_goals
    go_enter Tryz.func33, Tryz.ntmps33
    go_wp2
    go_loop [3] (fun i => Idx (Seen f) i) (fun i => (4 - intOf i).toNat)
    case atStart => exact .inl ⟨rfl, seen0 f⟩
    case round =>
      rcases hrel with ⟨rfl, hs⟩ | ⟨rfl, hs⟩ | ⟨rfl, hs⟩ | ⟨rfl, hs⟩ | ⟨rfl, hs⟩
      · rcases num_cases a with ⟨h, h1⟩ | ⟨h, h1, h2⟩ | ⟨h, h1, h2⟩
        · go_wp2
          go_ret
          exact ⟨ret_bool (not_all (k := 0) (by omega) (by rw [← f0.out, h]; rfl)).symm, box_below _ _⟩
        · go_wp2
          go_ret
          exact ⟨ret_bool (not_all (k := 0) (by omega) (by rw [← f0.out, h]; rfl)).symm, box_below _ _⟩
        · cases hz : (a != 0)
          all_goals
            go_wp2
            first
            | (go_ret
               exact ⟨ret_bool (not_all (k := 0) (by omega) (by rw [← f0.out, h, hz]; rfl)).symm, box_below _ _⟩)
            | (go_round
               case rel => (refine .inr (.inl ⟨by go_num, hs.next ?_⟩); rw [← f0.out, h, hz]; rfl)
               case measure => simp [intOf])
      · rcases num_cases b with ⟨h, h1⟩ | ⟨h, h1, h2⟩ | ⟨h, h1, h2⟩
        · go_wp2
          go_ret
          exact ⟨ret_bool (not_all (k := 1) (by omega) (by rw [← f1.out, h]; rfl)).symm, box_below _ _⟩
        · go_wp2
          go_ret
          exact ⟨ret_bool (not_all (k := 1) (by omega) (by rw [← f1.out, h]; rfl)).symm, box_below _ _⟩
        · cases hz : (b != 0)
          all_goals
            go_wp2
            first
            | (go_ret
               exact ⟨ret_bool (not_all (k := 1) (by omega) (by rw [← f1.out, h, hz]; rfl)).symm, box_below _ _⟩)
            | (go_round
               case rel => (refine .inr (.inr (.inl ⟨by go_num, hs.next ?_⟩)); rw [← f1.out, h, hz]; rfl)
               case measure => simp [intOf])
      · rcases num_cases c with ⟨h, h1⟩ | ⟨h, h1, h2⟩ | ⟨h, h1, h2⟩
        · go_wp2
          go_ret
          exact ⟨ret_bool (not_all (k := 2) (by omega) (by rw [← f2.out, h]; rfl)).symm, box_below _ _⟩
        · go_wp2
          go_ret
          exact ⟨ret_bool (not_all (k := 2) (by omega) (by rw [← f2.out, h]; rfl)).symm, box_below _ _⟩
        · cases hz : (c != 0)
          all_goals
            go_wp2
            first
            | (go_ret
               exact ⟨ret_bool (not_all (k := 2) (by omega) (by rw [← f2.out, h, hz]; rfl)).symm, box_below _ _⟩)
            | (go_round
               case rel => (refine .inr (.inr (.inr (.inl ⟨by go_num, hs.next ?_⟩))); rw [← f2.out, h, hz]; rfl)
               case measure => simp [intOf])
      · rcases num_cases d with ⟨h, h1⟩ | ⟨h, h1, h2⟩ | ⟨h, h1, h2⟩
        · go_wp2
          go_ret
          exact ⟨ret_bool (not_all (k := 3) (by omega) (by rw [← f3.out, h]; rfl)).symm, box_below _ _⟩
        · go_wp2
          go_ret
          exact ⟨ret_bool (not_all (k := 3) (by omega) (by rw [← f3.out, h]; rfl)).symm, box_below _ _⟩
        · cases hz : (d != 0)
          all_goals
            go_wp2
            first
            | (go_ret
               exact ⟨ret_bool (not_all (k := 3) (by omega) (by rw [← f3.out, h, hz]; rfl)).symm, box_below _ _⟩)
            | (go_round
               case rel => (refine .inr (.inr (.inr (.inr (⟨by go_num, hs.next ?_⟩)))); rw [← f3.out, h, hz]; rfl)
               case measure => simp [intOf])
      · go_wp2
        go_ret
        exact ⟨ret_bool hs.all.symm, box_below _ _⟩
theorem rright_any (p : Pt) (w : World) :
    Calls Tryz.prog 33 #[p.v] w fun e w' => e = .returned (.bool (rightB p)) ∧ Below w.heap.size w w' := by
  by_cases h : 1 ≤ p.e ∧ p.e ≤ 4
  · rw [rightB_in h.1 h.2]
    obtain ⟨a, b, c, d, e⟩ := p
    exact rright_in a b c d e w (by simp only at h; omega)
  · rw [rightB_out h]
    obtain ⟨a, b, c, d, e⟩ := p
    simp only at h
    by_cases h1 : 1 ≤ e
    · have h4 : 4 < e := by omega
      have h1' : ¬ e < 1 := by omega
      clear h
      go_enter Tryz.func33, Tryz.ntmps33
      go_wp2
      go_ret
      exact ⟨rfl, box_below _ _⟩
    · have h1' : e < 1 := by omega
      clear h
      go_enter Tryz.func33, Tryz.ntmps33
      go_wp2
      go_ret
      exact ⟨rfl, box_below _ _⟩
theorem rright_g {w : World} {p : Pt} {b : Bool} (h : rightB p = b) : Gives w 33 #[p.v] (.bool b) := by
  subst h; exact Gives.of (rright_any p)

theorem cmpL_zero : ∀ l q : List Int, cmpL l q = 0 → l = q
  | [], [], _ => rfl
  | [], _ :: _, h => by simp [cmpL] at h
  | _ :: _, [], h => by simp [cmpL] at h
  | x :: r, y :: q, h => by
    rw [cmpL] at h
    split at h
    · omega
    · split at h
      · omega
      · have := cmpL_zero r q h
        have hxy : x = y := by omega
        rw [this, hxy]
theorem two_cells {w w' : World} {a b c d e a' b' c' d' e' : Int} (hb : Below (boxed (boxed w a b c d e) a' b' c' d' e').heap.size (boxed (boxed w a b c d e) a' b' c' d' e') w') :
    w'.cell? ⟨w.heap.size, 0, none⟩ = some (.int .i64 a) ∧ w'.cell? ⟨w.heap.size, 1, none⟩ = some (.int .i64 b) ∧ w'.cell? ⟨w.heap.size, 2, none⟩ = some (.int .i64 c) ∧ w'.cell? ⟨w.heap.size, 3, none⟩ = some (.int .i64 d) ∧ w'.cell? ⟨w.heap.size, 4, none⟩ = some (.int .i64 e) ∧ w'.cell? ⟨w.heap.size + 1, 0, none⟩ = some (.int .i64 a') ∧ w'.cell? ⟨w.heap.size + 1, 1, none⟩ = some (.int .i64 b') ∧ w'.cell? ⟨w.heap.size + 1, 2, none⟩ = some (.int .i64 c') ∧ w'.cell? ⟨w.heap.size + 1, 3, none⟩ = some (.int .i64 d') ∧ w'.cell? ⟨w.heap.size + 1, 4, none⟩ = some (.int .i64 e') := by
  obtain ⟨h1, _⟩ := kept hb
  refine ⟨?_, ?_, ?_, ?_, ?_, ?_, ?_, ?_, ?_, ?_⟩
  all_goals first | rw [h1 _ _ (by simp; omega)] | rw [h1 _ _ (by simp)]
  all_goals simp [go_sem]

set_option maxHeartbeats 2000000 in
theorem rless_out (a b c d e a' b' c' d' e' : Int) (w : World) (rp rq q : Bool) (hp : rightB ⟨a, b, c, d, e⟩ = rp) (hq : rightB ⟨a', b', c', d', e'⟩ = rq) (he : eqP ⟨a, b, c, d, e⟩ ⟨a', b', c', d', e'⟩ = q) (h : rp = false ∨ rq = false ∨ q = true) :
    Calls Tryz.prog 30 #[Pt.v ⟨a, b, c, d, e⟩, Pt.v ⟨a', b', c', d', e'⟩] w fun e w' => e = .returned (.bool false) ∧ Below w.heap.size w w' := by
  have gp : Gives (boxed (boxed w a b c d e) a' b' c' d' e') 33 #[Pt.v ⟨a, b, c, d, e⟩] (.bool rp) := rright_g hp
  have gq : Gives (boxed (boxed w a b c d e) a' b' c' d' e') 33 #[Pt.v ⟨a', b', c', d', e'⟩] (.bool rq) := rright_g hq
  have H := Lib.hid h
  clear h hp hq
  cases rp
  · go_enter Tryz.func30, Tryz.ntmps30
    go_wp2_with (go_at_call 33; refine Gives.keepK (W := (boxed (boxed w a b c d e) a' b' c' d' e')) (by with_reducible assumption) (by first | assumption | exact Below.refl _ _) ?_; intro w2 hb2; obtain ⟨c0, c1, c2, c3, c4, d0, d1, d2, d3, d4⟩ := two_cells hb2)
    go_ret
    exact ⟨rfl, below_past hb2⟩
  · cases rq
    · go_enter Tryz.func30, Tryz.ntmps30
      go_wp2_with fail
      refine Gives.keepK gp (Below.refl _ _) ?_
      intro w2 hb2
      obtain ⟨c0, c1, c2, c3, c4, d0, d1, d2, d3, d4⟩ := two_cells hb2
      go_wp2_with fail
      refine Gives.keepK gq hb2 ?_
      intro w3 hb3
      go_wp2_with fail
      go_ret
      exact ⟨rfl, below_past hb3⟩
    · cases q
      · have := H.out; simp at this
      · go_enter Tryz.func30, Tryz.ntmps30
        go_wp2_with fail
        refine Gives.keepK gp (Below.refl _ _) ?_
        intro w2 hb2
        obtain ⟨c0, c1, c2, c3, c4, d0, d1, d2, d3, d4⟩ := two_cells hb2
        go_wp2_with fail
        refine Gives.keepK gq hb2 ?_
        intro w3 hb3
        clear c0 c1 c2 c3 c4 d0 d1 d2 d3 d4
        obtain ⟨c0, c1, c2, c3, c4, d0, d1, d2, d3, d4⟩ := two_cells hb3
        go_wp2_with fail
        go_ret
        exact ⟨rfl, below_past hb3⟩

def LRel (l q : List Int) (k : Nat) : Prop := k ≤ l.length ∧ k ≤ q.length ∧ cmpL (l.drop k) (q.drop k) = cmpL l q

set_option maxHeartbeats 4000000 in
theorem rless_in (a b c d a' b' c' d' : Int) (k k' : Nat) (w : World) (hp : rightB ⟨a, b, c, d, k⟩ = true) (hq : rightB ⟨a', b', c', d', k'⟩ = true) (he : eqP ⟨a, b, c, d, k⟩ ⟨a', b', c', d', k'⟩ = false) (k1 : 1 ≤ k) (k4 : k ≤ 4) (k1' : 1 ≤ k') (k4' : k' ≤ 4) :
    Calls Tryz.prog 30 #[Pt.v ⟨a, b, c, d, k⟩, Pt.v ⟨a', b', c', d', k'⟩] w fun e w' => e = .returned (.bool (decide (cmpL ([a, b, c, d].take k) ([a', b', c', d'].take k') < 0))) ∧ Below w.heap.size w w' := by
  have gp : Gives (boxed (boxed w a b c d k) a' b' c' d' k') 33 #[Pt.v ⟨a, b, c, d, k⟩] (.bool true) := rright_g hp
  have gq : Gives (boxed (boxed w a b c d k) a' b' c' d' k') 33 #[Pt.v ⟨a', b', c', d', k'⟩] (.bool true) := rright_g hq
  have HD : Hid ([a, b, c, d].take k ≠ [a', b', c', d'].take k') := Lib.hid fun h => by
    have : (⟨a, b, c, d, k⟩ : Pt) = ⟨a', b', c', d', k'⟩ := nums_one hp hq (by simpa [numsP] using h)
    rw [this, eqP_self] at he; cases he
  obtain ⟨l, hl⟩ : ∃ l, [a, b, c, d].take k = l := ⟨_, rfl⟩
  obtain ⟨q, hq'⟩ : ∃ q, [a', b', c', d'].take k' = q := ⟨_, rfl⟩
  have HLl : Hid (l.length = k) := Lib.hid (by rw [← hl]; exact take_len k4)
  have HLq : Hid (q.length = k') := Lib.hid (by rw [← hq']; exact take_len k4')
  have HA : Hid (∀ i (h : i < l.length) (h' : i < 4), l[i] = [a, b, c, d][i]) := Lib.hid (by subst hl; intro i h h'; exact List.getElem_take)
  have HB : Hid (∀ i (h : i < q.length) (h' : i < 4), q[i] = [a', b', c', d'][i]) := Lib.hid (by subst hq'; intro i h h'; exact List.getElem_take)
  rw [hl, hq'] at HD
  rw [hl, hq']
  clear hp hq hl hq'
  go_enter Tryz.func30, Tryz.ntmps30
  go_wp2_with fail
  refine Gives.keepK gp (Below.refl _ _) ?_
  intro w2 hb2
  obtain ⟨c0, c1, c2, c3, c4, d0, d1, d2, d3, d4⟩ := two_cells hb2
  go_wp2_with fail
  refine Gives.keepK gq hb2 ?_
  intro w3 hb3
  clear c0 c1 c2 c3 c4 d0 d1 d2 d3 d4
  obtain ⟨c0, c1, c2, c3, c4, d0, d1, d2, d3, d4⟩ := two_cells hb3
  go_wp2_with fail
  clear c0 c1 c2 c3 c4 d0 d1 d2 d3 d4
  go_loopw [5] (fun i wr => Idx (LRel l q) i ∧ Below (boxed (boxed w a b c d k) a' b' c' d' k').heap.size (boxed (boxed w a b c d k) a' b' c' d' k') wr) (fun i _ => (4 - intOf i).toNat)
  case atStart => exact ⟨.inl ⟨rfl, by unfold LRel; simp⟩, hb3⟩
  case round =>
    obtain ⟨hrel, hb⟩ := hrel
    obtain ⟨c0, c1, c2, c3, c4, d0, d1, d2, d3, d4⟩ := two_cells hb
    have hLl := HLl.out
    have hLq := HLq.out
    rcases hrel with ⟨rfl, h1, h2, h3⟩ | ⟨rfl, h1, h2, h3⟩ | ⟨rfl, h1, h2, h3⟩ | ⟨rfl, h1, h2, h3⟩ | ⟨rfl, h1, h2, h3⟩
    · have HE := Lib.hid h3; clear h3
      by_cases hk : k ≤ 0
      · omega
      · by_cases hk' : k' ≤ 0
        · omega
        · have m1 : 0 < l.length := by omega
          have m2 : 0 < q.length := by omega
          have x1 : l[0] = a := HA.out 0 m1 (by omega)
          have y1 : q[0] = a' := HB.out 0 m2 (by omega)
          have hi : ¬ (k : Int) ≤ 0 := by omega
          have hi' : ¬ (k' : Int) ≤ 0 := by omega
          by_cases hv : a < a'
          · have HC := Lib.hid (cmpL_lt m1 m2 (by rw [x1, y1]; exact hv))
            have hn : (a != a') = true := by simp; omega
            clear hLl hLq h1 h2 x1 y1
            go_wp2_with fail
            refine wp_region_later (boxed (boxed w a b c d k) a' b' c' d' k') (by kernel_rfl) (by kernel_rfl) (by first | assumption | exact hb) ?_
            repeat (go_big_quiet_step (fail))
            refine wpQuiet_nil ?_
            rintro _ ⟨⟨w4, hb4⟩, rfl⟩
            go_wp2_with fail
            refine wp_region_later (boxed (boxed w a b c d k) a' b' c' d' k') (by kernel_rfl) (by kernel_rfl) (by first | assumption | exact hb) ?_
            repeat (go_big_quiet_step (fail))
            refine wpQuiet_nil ?_
            rintro _ ⟨⟨w5, hb5⟩, rfl⟩
            go_wp2_with fail
            go_ret
            exact ⟨ret_bool (by rw [← HE.out, HC.out]; first | rfl | (simp; omega)), below_past hb5⟩
          · by_cases hv2 : a' < a
            · have HC := Lib.hid (cmpL_gt m1 m2 (by rw [x1, y1]; exact hv2))
              have hn : (a != a') = true := by simp; omega
              clear hLl hLq h1 h2 x1 y1
              go_wp2_with fail
              refine wp_region_later (boxed (boxed w a b c d k) a' b' c' d' k') (by kernel_rfl) (by kernel_rfl) (by first | assumption | exact hb) ?_
              repeat (go_big_quiet_step (fail))
              refine wpQuiet_nil ?_
              rintro _ ⟨⟨w4, hb4⟩, rfl⟩
              go_wp2_with fail
              refine wp_region_later (boxed (boxed w a b c d k) a' b' c' d' k') (by kernel_rfl) (by kernel_rfl) (by first | assumption | exact hb) ?_
              repeat (go_big_quiet_step (fail))
              refine wpQuiet_nil ?_
              rintro _ ⟨⟨w5, hb5⟩, rfl⟩
              go_wp2_with fail
              go_ret
              exact ⟨ret_bool (by rw [← HE.out, HC.out]; first | rfl | (simp; omega)), below_past hb5⟩
            · have HC := Lib.hid (cmpL_on m1 m2 (by rw [x1, y1]; omega))
              have hn : (a != a') = false := by simp; omega
              clear hLl hLq h1 h2 x1 y1 hv hv2
              go_wp2_with fail
              refine wp_region_later (boxed (boxed w a b c d k) a' b' c' d' k') (by kernel_rfl) (by kernel_rfl) (by first | assumption | exact hb) ?_
              repeat (go_big_quiet_step (fail))
              refine wpQuiet_nil ?_
              rintro _ ⟨⟨w4, hb4⟩, rfl⟩
              go_wp2_with fail
              go_roundw
              case rel => exact ⟨.inr (.inl ⟨by go_num, by omega, by omega, HC.out.symm.trans HE.out⟩), hb4⟩
              case measure => simp [intOf]
    · have HE := Lib.hid h3; clear h3
      by_cases hk : k ≤ 1
      · have hlt : 1 < q.length := by
          rcases Nat.lt_or_ge 1 q.length with z | z
          · exact z
          · exfalso
            have := cmpL_same (l := l) (q := q) (k := 1) (by omega) (by omega)
            rw [HE.out] at this
            exact HD.out (cmpL_zero _ _ this)
        have HC := Lib.hid (cmpL_end (l := l) (q := q) (k := 1) (by omega) hlt)
        have hi : (k : Int) ≤ 1 := by omega
        clear hLl hLq h1 h2
        go_wp2_with fail
        go_ret
        exact ⟨ret_bool (by rw [← HE.out, HC.out]; first | rfl | (simp; omega)), below_past hb⟩
      · by_cases hk' : k' ≤ 1
        · have HC := Lib.hid (cmpL_long (l := l) (q := q) (k := 1) (by omega) (by omega))
          have hi : ¬ (k : Int) ≤ 1 := by omega
          have hi' : (k' : Int) ≤ 1 := by omega
          clear hLl hLq h1 h2
          go_wp2_with fail
          go_ret
          exact ⟨ret_bool (by rw [← HE.out, HC.out]; first | rfl | (simp; omega)), below_past hb⟩
        · have m1 : 1 < l.length := by omega
          have m2 : 1 < q.length := by omega
          have x1 : l[1] = b := HA.out 1 m1 (by omega)
          have y1 : q[1] = b' := HB.out 1 m2 (by omega)
          have hi : ¬ (k : Int) ≤ 1 := by omega
          have hi' : ¬ (k' : Int) ≤ 1 := by omega
          by_cases hv : b < b'
          · have HC := Lib.hid (cmpL_lt m1 m2 (by rw [x1, y1]; exact hv))
            have hn : (b != b') = true := by simp; omega
            clear hLl hLq h1 h2 x1 y1
            go_wp2_with fail
            refine wp_region_later (boxed (boxed w a b c d k) a' b' c' d' k') (by kernel_rfl) (by kernel_rfl) (by first | assumption | exact hb) ?_
            repeat (go_big_quiet_step (fail))
            refine wpQuiet_nil ?_
            rintro _ ⟨⟨w4, hb4⟩, rfl⟩
            go_wp2_with fail
            refine wp_region_later (boxed (boxed w a b c d k) a' b' c' d' k') (by kernel_rfl) (by kernel_rfl) (by first | assumption | exact hb) ?_
            repeat (go_big_quiet_step (fail))
            refine wpQuiet_nil ?_
            rintro _ ⟨⟨w5, hb5⟩, rfl⟩
            go_wp2_with fail
            go_ret
            exact ⟨ret_bool (by rw [← HE.out, HC.out]; first | rfl | (simp; omega)), below_past hb5⟩
          · by_cases hv2 : b' < b
            · have HC := Lib.hid (cmpL_gt m1 m2 (by rw [x1, y1]; exact hv2))
              have hn : (b != b') = true := by simp; omega
              clear hLl hLq h1 h2 x1 y1
              go_wp2_with fail
              refine wp_region_later (boxed (boxed w a b c d k) a' b' c' d' k') (by kernel_rfl) (by kernel_rfl) (by first | assumption | exact hb) ?_
              repeat (go_big_quiet_step (fail))
              refine wpQuiet_nil ?_
              rintro _ ⟨⟨w4, hb4⟩, rfl⟩
              go_wp2_with fail
              refine wp_region_later (boxed (boxed w a b c d k) a' b' c' d' k') (by kernel_rfl) (by kernel_rfl) (by first | assumption | exact hb) ?_
              repeat (go_big_quiet_step (fail))
              refine wpQuiet_nil ?_
              rintro _ ⟨⟨w5, hb5⟩, rfl⟩
              go_wp2_with fail
              go_ret
              exact ⟨ret_bool (by rw [← HE.out, HC.out]; first | rfl | (simp; omega)), below_past hb5⟩
            · have HC := Lib.hid (cmpL_on m1 m2 (by rw [x1, y1]; omega))
              have hn : (b != b') = false := by simp; omega
              clear hLl hLq h1 h2 x1 y1 hv hv2
              go_wp2_with fail
              refine wp_region_later (boxed (boxed w a b c d k) a' b' c' d' k') (by kernel_rfl) (by kernel_rfl) (by first | assumption | exact hb) ?_
              repeat (go_big_quiet_step (fail))
              refine wpQuiet_nil ?_
              rintro _ ⟨⟨w4, hb4⟩, rfl⟩
              go_wp2_with fail
              go_roundw
              case rel => exact ⟨.inr (.inr (.inl ⟨by go_num, by omega, by omega, HC.out.symm.trans HE.out⟩)), hb4⟩
              case measure => simp [intOf]
    · have HE := Lib.hid h3; clear h3
      by_cases hk : k ≤ 2
      · have hlt : 2 < q.length := by
          rcases Nat.lt_or_ge 2 q.length with z | z
          · exact z
          · exfalso
            have := cmpL_same (l := l) (q := q) (k := 2) (by omega) (by omega)
            rw [HE.out] at this
            exact HD.out (cmpL_zero _ _ this)
        have HC := Lib.hid (cmpL_end (l := l) (q := q) (k := 2) (by omega) hlt)
        have hi : (k : Int) ≤ 2 := by omega
        clear hLl hLq h1 h2
        go_wp2_with fail
        go_ret
        exact ⟨ret_bool (by rw [← HE.out, HC.out]; first | rfl | (simp; omega)), below_past hb⟩
      · by_cases hk' : k' ≤ 2
        · have HC := Lib.hid (cmpL_long (l := l) (q := q) (k := 2) (by omega) (by omega))
          have hi : ¬ (k : Int) ≤ 2 := by omega
          have hi' : (k' : Int) ≤ 2 := by omega
          clear hLl hLq h1 h2
          go_wp2_with fail
          go_ret
          exact ⟨ret_bool (by rw [← HE.out, HC.out]; first | rfl | (simp; omega)), below_past hb⟩
        · have m1 : 2 < l.length := by omega
          have m2 : 2 < q.length := by omega
          have x1 : l[2] = c := HA.out 2 m1 (by omega)
          have y1 : q[2] = c' := HB.out 2 m2 (by omega)
          have hi : ¬ (k : Int) ≤ 2 := by omega
          have hi' : ¬ (k' : Int) ≤ 2 := by omega
          by_cases hv : c < c'
          · have HC := Lib.hid (cmpL_lt m1 m2 (by rw [x1, y1]; exact hv))
            have hn : (c != c') = true := by simp; omega
            clear hLl hLq h1 h2 x1 y1
            go_wp2_with fail
            refine wp_region_later (boxed (boxed w a b c d k) a' b' c' d' k') (by kernel_rfl) (by kernel_rfl) (by first | assumption | exact hb) ?_
            repeat (go_big_quiet_step (fail))
            refine wpQuiet_nil ?_
            rintro _ ⟨⟨w4, hb4⟩, rfl⟩
            go_wp2_with fail
            refine wp_region_later (boxed (boxed w a b c d k) a' b' c' d' k') (by kernel_rfl) (by kernel_rfl) (by first | assumption | exact hb) ?_
            repeat (go_big_quiet_step (fail))
            refine wpQuiet_nil ?_
            rintro _ ⟨⟨w5, hb5⟩, rfl⟩
            go_wp2_with fail
            go_ret
            exact ⟨ret_bool (by rw [← HE.out, HC.out]; first | rfl | (simp; omega)), below_past hb5⟩
          · by_cases hv2 : c' < c
            · have HC := Lib.hid (cmpL_gt m1 m2 (by rw [x1, y1]; exact hv2))
              have hn : (c != c') = true := by simp; omega
              clear hLl hLq h1 h2 x1 y1
              go_wp2_with fail
              refine wp_region_later (boxed (boxed w a b c d k) a' b' c' d' k') (by kernel_rfl) (by kernel_rfl) (by first | assumption | exact hb) ?_
              repeat (go_big_quiet_step (fail))
              refine wpQuiet_nil ?_
              rintro _ ⟨⟨w4, hb4⟩, rfl⟩
              go_wp2_with fail
              refine wp_region_later (boxed (boxed w a b c d k) a' b' c' d' k') (by kernel_rfl) (by kernel_rfl) (by first | assumption | exact hb) ?_
              repeat (go_big_quiet_step (fail))
              refine wpQuiet_nil ?_
              rintro _ ⟨⟨w5, hb5⟩, rfl⟩
              go_wp2_with fail
              go_ret
              exact ⟨ret_bool (by rw [← HE.out, HC.out]; first | rfl | (simp; omega)), below_past hb5⟩
            · have HC := Lib.hid (cmpL_on m1 m2 (by rw [x1, y1]; omega))
              have hn : (c != c') = false := by simp; omega
              clear hLl hLq h1 h2 x1 y1 hv hv2
              go_wp2_with fail
              refine wp_region_later (boxed (boxed w a b c d k) a' b' c' d' k') (by kernel_rfl) (by kernel_rfl) (by first | assumption | exact hb) ?_
              repeat (go_big_quiet_step (fail))
              refine wpQuiet_nil ?_
              rintro _ ⟨⟨w4, hb4⟩, rfl⟩
              go_wp2_with fail
              go_roundw
              case rel => exact ⟨.inr (.inr (.inr (.inl ⟨by go_num, by omega, by omega, HC.out.symm.trans HE.out⟩))), hb4⟩
              case measure => simp [intOf]
    · have HE := Lib.hid h3; clear h3
      by_cases hk : k ≤ 3
      · have hlt : 3 < q.length := by
          rcases Nat.lt_or_ge 3 q.length with z | z
          · exact z
          · exfalso
            have := cmpL_same (l := l) (q := q) (k := 3) (by omega) (by omega)
            rw [HE.out] at this
            exact HD.out (cmpL_zero _ _ this)
        have HC := Lib.hid (cmpL_end (l := l) (q := q) (k := 3) (by omega) hlt)
        have hi : (k : Int) ≤ 3 := by omega
        clear hLl hLq h1 h2
        go_wp2_with fail
        go_ret
        exact ⟨ret_bool (by rw [← HE.out, HC.out]; first | rfl | (simp; omega)), below_past hb⟩
      · by_cases hk' : k' ≤ 3
        · have HC := Lib.hid (cmpL_long (l := l) (q := q) (k := 3) (by omega) (by omega))
          have hi : ¬ (k : Int) ≤ 3 := by omega
          have hi' : (k' : Int) ≤ 3 := by omega
          clear hLl hLq h1 h2
          go_wp2_with fail
          go_ret
          exact ⟨ret_bool (by rw [← HE.out, HC.out]; first | rfl | (simp; omega)), below_past hb⟩
        · have m1 : 3 < l.length := by omega
          have m2 : 3 < q.length := by omega
          have x1 : l[3] = d := HA.out 3 m1 (by omega)
          have y1 : q[3] = d' := HB.out 3 m2 (by omega)
          have hi : ¬ (k : Int) ≤ 3 := by omega
          have hi' : ¬ (k' : Int) ≤ 3 := by omega
          by_cases hv : d < d'
          · have HC := Lib.hid (cmpL_lt m1 m2 (by rw [x1, y1]; exact hv))
            have hn : (d != d') = true := by simp; omega
            clear hLl hLq h1 h2 x1 y1
            go_wp2_with fail
            refine wp_region_later (boxed (boxed w a b c d k) a' b' c' d' k') (by kernel_rfl) (by kernel_rfl) (by first | assumption | exact hb) ?_
            repeat (go_big_quiet_step (fail))
            refine wpQuiet_nil ?_
            rintro _ ⟨⟨w4, hb4⟩, rfl⟩
            go_wp2_with fail
            refine wp_region_later (boxed (boxed w a b c d k) a' b' c' d' k') (by kernel_rfl) (by kernel_rfl) (by first | assumption | exact hb) ?_
            repeat (go_big_quiet_step (fail))
            refine wpQuiet_nil ?_
            rintro _ ⟨⟨w5, hb5⟩, rfl⟩
            go_wp2_with fail
            go_ret
            exact ⟨ret_bool (by rw [← HE.out, HC.out]; first | rfl | (simp; omega)), below_past hb5⟩
          · by_cases hv2 : d' < d
            · have HC := Lib.hid (cmpL_gt m1 m2 (by rw [x1, y1]; exact hv2))
              have hn : (d != d') = true := by simp; omega
              clear hLl hLq h1 h2 x1 y1
              go_wp2_with fail
              refine wp_region_later (boxed (boxed w a b c d k) a' b' c' d' k') (by kernel_rfl) (by kernel_rfl) (by first | assumption | exact hb) ?_
              repeat (go_big_quiet_step (fail))
              refine wpQuiet_nil ?_
              rintro _ ⟨⟨w4, hb4⟩, rfl⟩
              go_wp2_with fail
              refine wp_region_later (boxed (boxed w a b c d k) a' b' c' d' k') (by kernel_rfl) (by kernel_rfl) (by first | assumption | exact hb) ?_
              repeat (go_big_quiet_step (fail))
              refine wpQuiet_nil ?_
              rintro _ ⟨⟨w5, hb5⟩, rfl⟩
              go_wp2_with fail
              go_ret
              exact ⟨ret_bool (by rw [← HE.out, HC.out]; first | rfl | (simp; omega)), below_past hb5⟩
            · have HC := Lib.hid (cmpL_on m1 m2 (by rw [x1, y1]; omega))
              have hn : (d != d') = false := by simp; omega
              clear hLl hLq h1 h2 x1 y1 hv hv2
              go_wp2_with fail
              refine wp_region_later (boxed (boxed w a b c d k) a' b' c' d' k') (by kernel_rfl) (by kernel_rfl) (by first | assumption | exact hb) ?_
              repeat (go_big_quiet_step (fail))
              refine wpQuiet_nil ?_
              rintro _ ⟨⟨w4, hb4⟩, rfl⟩
              go_wp2_with fail
              go_roundw
              case rel => exact ⟨.inr (.inr (.inr (.inr (⟨by go_num, by omega, by omega, HC.out.symm.trans HE.out⟩)))), hb4⟩
              case measure => simp [intOf]
    · exfalso
      have := cmpL_same (l := l) (q := q) (k := 4) (by omega) (by omega)
      rw [h3] at this
      exact HD.out (cmpL_zero _ _ this)
theorem rless_any (p q : Pt) (w : World) :
    Calls Tryz.prog 30 #[p.v, q.v] w fun e w' => e = .returned (.bool (lessB p q)) ∧ Below w.heap.size w w' := by
  obtain ⟨a, b, c, d, e⟩ := p
  obtain ⟨a', b', c', d', e'⟩ := q
  cases hp : rightB ⟨a, b, c, d, e⟩
  · rw [show lessB ⟨a, b, c, d, e⟩ ⟨a', b', c', d', e'⟩ = false by simp [lessB, hp]]
    exact rless_out a b c d e a' b' c' d' e' w _ _ _ hp rfl rfl (.inl rfl)
  · cases hq : rightB ⟨a', b', c', d', e'⟩
    · rw [show lessB ⟨a, b, c, d, e⟩ ⟨a', b', c', d', e'⟩ = false by simp [lessB, hq]]
      exact rless_out a b c d e a' b' c' d' e' w _ _ _ hp hq rfl (.inr (.inl rfl))
    · cases he : eqP ⟨a, b, c, d, e⟩ ⟨a', b', c', d', e'⟩
      · have hd := right_depth hp
        have hd' := right_depth hq
        simp only at hd hd'
        obtain ⟨k, rfl⟩ : ∃ k : Nat, e = k := ⟨e.toNat, by omega⟩
        obtain ⟨k', rfl⟩ : ∃ k' : Nat, e' = k' := ⟨e'.toNat, by omega⟩
        rw [show lessB ⟨a, b, c, d, k⟩ ⟨a', b', c', d', k'⟩ = decide (cmpL ([a, b, c, d].take k) ([a', b', c', d'].take k') < 0) by unfold lessB; rw [hp, hq]; rfl]
        exact rless_in a b c d a' b' c' d' k k' w hp hq he (by omega) (by omega) (by omega) (by omega)
      · rw [show lessB ⟨a, b, c, d, e⟩ ⟨a', b', c', d', e'⟩ = false by rw [(eqP_iff _ _).1 he]; exact less_self _]
        exact rless_out a b c d e a' b' c' d' e' w _ _ _ hp hq he (.inr (.inr rfl))
end Go.Proofs.YtlhhopanegnliaaGreatDoor.Pa
