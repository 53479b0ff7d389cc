/- The walk of the law that what is told of a key is what was put last and not dropped. -/
import Derived.Test.YtbeeekpofbhljaaB2
import Derived.Test.YtbeeekpofbhljaaD1
namespace Go.Proofs.Ytbeeekpofbhljaa
open Go Go.RowKit Go.Shelf
attribute [local go_sem] Oper.semAt_some

theorem map_long (A : Option Addr) (L c : Nat) (key : Int) (w : World) (h : 200 < L) (hm : L ≤ maxLen) :
    Calls Try.prog 3 #[.slice A L c, .int .u64 key] w fun e w' => e = .returned (.bool true) ∧ Below w.heap.size w w' := by
  unfold maxLen at hm
  have h3 : decide ((200 : Int) < (L : Int)) = true := by simp; omega
  have h4 : (200 : Int) < (L : Int) := by omega
  go_enter Try.func3, Try.ntmps3
  go_wp2_with fail
  refine (awake_any _).mono ?_
  rintro e w1 ⟨rfl, hb1⟩
  go_wp2_with fail
  go_ret
  exact ⟨rfl, hb1⟩
/-- what is told of a key -/
def tol (want : Int) (has : Bool) : Option Int := if has then some want else none
/-- the state at the loop's head -/
def Hm (w W : World) (L b k : Nat) (key want : Int) (has : Bool) : Prop := ∃ n t F, One w W L b (fun _ => False) n t F ∧ n ≤ 4 + k ∧ -(k : Int) ≤ t ∧ t ≤ k ∧ t ≤ 2 * (n : Int) ∧ F key = tol want has
/-- a deed's box, and the map behind the deed -/
def Hd (w W : World) (L b k Bd : Nat) (key kd x y : Int) (want : Int) (has : Bool) : Prop := Hm w W L b k key want has ∧ W.heap[Bd]? = some (.cells #[.int .i64 kd, .int .u64 x, .int .i64 y] 28)
def NoneI (w : World) (Bk : Nat) (W : World) : Prop := Boxed W Bk 3 (.int .i64 0) ∧ Below w.heap.size w W
theorem NoneI.abides {w : World} {Bk C : Nat} (h : w.heap.size ≤ C) : Abides C (NoneI w Bk) := by
  rintro W W' ⟨h1, h2⟩ t
  exact ⟨Abides.boxed _ _ _ _ _ _ h1 t, t.below h2 h (Nat.le_refl _)⟩
/-- the deed's part of a round -/
theorem deed_put {w W : World} {L b k Bd n : Nat} {t key kd x y want : Int} {has : Bool} {F : Int → Option Int} (ho : One w W L b (fun i => False ∨ i = Bd) n t F) (hd : W.heap[Bd]? = some (.cells #[.int .i64 kd, .int .u64 x, .int .i64 y] 28)) (hux : U x) (hn : n ≤ 4 + k) (hk : k < 200) (ht0 : -(k : Int) ≤ t) (ht1 : t ≤ k) (ht2 : t ≤ 2 * (n : Int)) (hF : F key = tol want has) :
    Calls Try.prog 7 #[wp b, .int .u64 x, .int .i64 y] W fun e w' => ∃ u, e = .returned (.bool u) ∧ Hd w w' L b (k + 1) Bd key kd x y (if x = key then y else want) (if x = key then true else has) := by
  refine (ho.put hux y (by omega) ht2 (by omega)).mono ?_
  rintro e w2 ⟨n', t', u, rfl, ho2, hs, g1, g2, g3, g4, g5, -⟩
  refine ⟨u, rfl, ⟨n', t', _, ho2.less (fun _ h => h.elim), by omega, by omega, by omega, g5, ?_⟩, (hs Bd (.inr rfl)).trans hd⟩
  unfold putF
  by_cases hx : x = key
  · rw [if_pos hx.symm, if_pos hx, if_pos hx]; rfl
  · rw [if_neg (fun h => hx h.symm), if_neg hx, if_neg hx]; exact hF
theorem deed_drop {w W : World} {L b k Bd n : Nat} {t key kd x y want : Int} {has : Bool} {F : Int → Option Int} (ho : One w W L b (fun i => False ∨ i = Bd) n t F) (hd : W.heap[Bd]? = some (.cells #[.int .i64 kd, .int .u64 x, .int .i64 y] 28)) (hux : U x) (hn : n ≤ 4 + k) (hk : k < 200) (ht0 : -(k : Int) ≤ t) (ht1 : t ≤ k) (ht2 : t ≤ 2 * (n : Int)) (hF : F key = tol want has) :
    Calls Try.prog 8 #[wp b, .int .u64 x] W fun e w' => ∃ u, e = .returned (.bool u) ∧ Hd w w' L b (k + 1) Bd key kd x y (if x = key then y else want) (if x = key then false else has) := by
  refine (ho.drop hux (by omega) ht2 (by omega)).mono ?_
  rintro e w2 ⟨n', t', u, rfl, ho2, hs, g1, g2, g3, g4⟩
  refine ⟨u, rfl, ⟨n', t', _, ho2.less (fun _ h => h.elim), by omega, by omega, by omega, g4, ?_⟩, (hs Bd (.inr rfl)).trans hd⟩
  unfold putF
  by_cases hx : x = key
  · rw [if_pos hx.symm, if_pos hx, if_pos hx]; rfl
  · rw [if_neg (fun h => hx h.symm), if_neg hx, if_neg hx]; exact hF
theorem Hd.deed {w W : World} {L b k Bd : Nat} {key kd x y want : Int} {has : Bool} (h : Hd w W L b k Bd key kd x y want has) :
    W.cell? ⟨Bd, 0, none⟩ = some (.int .i64 kd) ∧ W.cell? ⟨Bd, 1, none⟩ = some (.int .u64 x) ∧ W.cell? ⟨Bd, 2, none⟩ = some (.int .i64 y) := by
  have := h.2
  refine ⟨?_, ?_, ?_⟩ <;> simp [World.cell?, this]
theorem Hm.get {w W : World} {L b k : Nat} {key want : Int} {has : Bool} (h : Hm w W L b k key want has) (hu : U key) : Calls Try.prog 9 #[wp b, .int .u64 key] W fun e w' => e = .returned (gotV (tol want has)) ∧ Hm w w' L b k key want has := by
  obtain ⟨n, t, F, ho, h1, h2, h3, h4, hF⟩ := h
  refine (ho.get hu).mono ?_
  rintro e w' ⟨rfl, j, rfl⟩
  rw [hF]
  exact ⟨rfl, n, t, F, ho.below (drew_below _ _), h1, h2, h3, h4, hF⟩
theorem Hm.drewN {w W : World} {L b k : Nat} {key want : Int} {has : Bool} (h : Hm w W L b k key want has) (j : Nat) : Hm w (W.drewN j) L b k key want has := by
  obtain ⟨n, t, F, ho, h1⟩ := h
  exact ⟨n, t, F, ho.below (drew_below _ _), h1⟩
theorem Hm.bel {w W : World} {L b k : Nat} {key want : Int} {has : Bool} (h : Hm w W L b k key want has) : Below w.heap.size w W := by
  obtain ⟨n, t, F, ho, _⟩ := h
  exact ho.bel
set_option maxHeartbeats 16000000 in
set_option maxRecDepth 100000 in
theorem map_short (A : Option Addr) (N c : Nat) (key : Int) (w : World) (h : ¬ 200 < N) (hin : InD w A N) (hu : U key) :
    Calls Try.prog 3 #[.slice A N c, .int .u64 key] w fun e w' => e = .returned (.bool true) ∧ Below w.heap.size w w' := by
  have I := Lib.hid hin
  have HU := Lib.hid hu
  clear hin hu
  have h3 : decide ((200 : Int) < (N : Int)) = false := by simp; omega
  have h4 : ¬ (200 : Int) < (N : Int) := by omega
  refine (callsIn_wide (n := 9)).1 ?_
  refine callsIn_of_wp_marks Try.func3 rfl trivial ?_ rfl
  simp only [Try.ntmps3, List.size_toArray, List.length_cons, List.length_nil, Nat.reduceAdd, Nat.reduceSub, Array.replicate_succ, Array.replicate_zero, List.push_toArray, List.append_toArray, List.nil_append, List.cons_append]
  refine wpIn_wide.2 ?_
  go_wp2_with fail
  refine (awake_any _).mono ?_
  rintro e w1 ⟨rfl, hb1⟩
  go_wp2_with fail
  refine (one_new w w1 hb1).mono ?_
  rintro e w2 ⟨rfl, ho⟩
  have H0 := Lib.hid ho
  clear ho hb1
  generalize w1.heap.size + 1 = b at *
  generalize w1.heap.size = L at H0 ⊢
  go_wp2_with fail
  go_loopw [6, 7, 24] (fun x6 x7 t wr => ∃ (k : Nat) (want : Int) (has : Bool), k ≤ N ∧ t = .int .i64 k ∧ x6 = .int .i64 want ∧ x7 = .bool has ∧ Hm w wr L b k key want has) (fun _ _ t _ => N - (intOf t).toNat)
  case atStart => exact ⟨0, 0, false, by omega, rfl, rfl, rfl, 4, 0, _, H0.out, by omega, by omega, by omega, by omega, rfl⟩
  case round =>
    obtain ⟨k, want, has, hk, rfl, rfl, rfl, hm⟩ := hrel
    have H := Lib.hid hm
    clear hm H0
    by_cases hlt : k < N
    · obtain ⟨ad, kd, x, y, rfl, ⟨c0, c1, c2⟩, hux⟩ := I.out.at H.out.bel hlt
      obtain ⟨n, t, F, ho, hn, ht0, ht1, ht2, hF⟩ := H.out
      have hbx : (wr.alloc (.cells #[.int .i64 kd, .int .u64 x, .int .i64 y] 28)).heap[wr.heap.size]? = some (.cells #[.int .i64 kd, .int .u64 x, .int .i64 y] 28) := World.alloc_heap_new _ _
      have HP := Lib.hid (deed_put (ho.box (.cells #[.int .i64 kd, .int .u64 x, .int .i64 y] 28)) hbx hux hn (by omega) ht0 ht1 ht2 hF)
      have HR := Lib.hid (deed_drop (ho.box (.cells #[.int .i64 kd, .int .u64 x, .int .i64 y] 28)) hbx hux hn (by omega) ht0 ht1 ht2 hF)
      clear hux H ho hn ht0 ht1 ht2 hF hbx
      by_cases hk0 : kd = 0
      · subst hk0
        go_wp2_with fail
        clear c0 c1 c2 HR
        generalize wr.alloc (.cells #[.int .i64 0, .int .u64 x, .int .i64 y] 28) = W0 at HP ⊢
        generalize wr.heap.size = Bd at HP ⊢
        refine HP.out.mono ?_
        rintro e w2 ⟨u, rfl, hd⟩
        clear HP
        by_cases hx : x = key
        · subst hx
          rw [if_pos rfl, if_pos rfl] at hd
          obtain ⟨d0, d1, d2⟩ := hd.deed
          have H2 := Lib.hid hd.1
          clear hd
          go_wp2_with fail
          go_quiet (fail)
          rename_i nq
          have H3 := Lib.hid (H2.out.drewN nq)
          clear H2 d0 d1 d2
          generalize w2.drewN nq = w3 at H3 ⊢
          go_wp2_with fail
          refine (H3.out.get HU.out).mono ?_
          rintro e w4 ⟨rfl, hm4⟩
          have H4 := Lib.hid hm4
          clear hm4 H3
          rw [show gotV (tol y true) = .tuple #[.int .i64 y, .bool true] from rfl]
          go_wp2_with fail
          refine ⟨⟨k + 1, y, true, by omega, by congr 1, rfl, rfl, H4.out⟩, by simp [intOf]; omega⟩
        · have dx : (x == key) = false := by simpa using hx
          rw [if_neg hx, if_neg hx] at hd
          obtain ⟨d0, d1, d2⟩ := hd.deed
          have H2 := Lib.hid hd.1
          clear hd
          go_wp2_with fail
          refine (H2.out.get HU.out).mono ?_
          rintro e w4 ⟨rfl, hm4⟩
          have H4 := Lib.hid hm4
          clear hm4 H2 d0 d1 d2
          cases has
          · rw [show gotV (tol want false) = .tuple #[.int .i64 0, .bool false] from rfl]
            go_wp2_with fail
            refine ⟨⟨k + 1, want, false, by omega, by congr 1, rfl, rfl, H4.out⟩, by simp [intOf]; omega⟩
          · rw [show gotV (tol want true) = .tuple #[.int .i64 want, .bool true] from rfl]
            go_wp2_with fail
            refine ⟨⟨k + 1, want, true, by omega, by congr 1, rfl, rfl, H4.out⟩, by simp [intOf]; omega⟩
      · have hkd : (kd == 0) = false := by simpa using hk0
        go_wp2_with fail
        clear c0 c1 c2 HP
        generalize wr.alloc (.cells #[.int .i64 kd, .int .u64 x, .int .i64 y] 28) = W0 at HR ⊢
        generalize wr.heap.size = Bd at HR ⊢
        refine HR.out.mono ?_
        rintro e w2 ⟨u, rfl, hd⟩
        clear HR
        by_cases hx : x = key
        · subst hx
          rw [if_pos rfl, if_pos rfl] at hd
          obtain ⟨d0, d1, d2⟩ := hd.deed
          have H2 := Lib.hid hd.1
          clear hd
          go_wp2_with fail
          go_quiet (fail)
          rename_i nq
          have H3 := Lib.hid (H2.out.drewN nq)
          clear H2 d0 d1 d2
          generalize w2.drewN nq = w3 at H3 ⊢
          go_wp2_with fail
          refine (H3.out.get HU.out).mono ?_
          rintro e w4 ⟨rfl, hm4⟩
          have H4 := Lib.hid hm4
          clear hm4 H3
          rw [show gotV (tol y false) = .tuple #[.int .i64 0, .bool false] from rfl]
          go_wp2_with fail
          refine ⟨⟨k + 1, y, false, by omega, by congr 1, rfl, by simp, H4.out⟩, by simp [intOf]; omega⟩
        · have dx : (x == key) = false := by simpa using hx
          rw [if_neg hx, if_neg hx] at hd
          obtain ⟨d0, d1, d2⟩ := hd.deed
          have H2 := Lib.hid hd.1
          clear hd
          go_wp2_with fail
          refine (H2.out.get HU.out).mono ?_
          rintro e w4 ⟨rfl, hm4⟩
          have H4 := Lib.hid hm4
          clear hm4 H2 d0 d1 d2
          cases has
          · rw [show gotV (tol want false) = .tuple #[.int .i64 0, .bool false] from rfl]
            go_wp2_with fail
            refine ⟨⟨k + 1, want, false, by omega, by congr 1, rfl, rfl, H4.out⟩, by simp [intOf]; omega⟩
          · rw [show gotV (tol want true) = .tuple #[.int .i64 want, .bool true] from rfl]
            go_wp2_with fail
            refine ⟨⟨k + 1, want, true, by omega, by congr 1, rfl, rfl, H4.out⟩, by simp [intOf]; omega⟩
    · obtain rfl : k = N := by omega
      have HB := Lib.hid H.out.bel
      clear H I
      go_wp2_with (go_at_call 9; ((with_reducible refine (get_none wr key).mono ?_); rintro e w' ⟨rfl, rfl⟩))
      have hbox : Boxed (wr.alloc (.cells #[.int .i64 0] 3)) wr.heap.size 3 (.int .i64 0) := Boxed.new _ _ _
      have hb4 : Below w.heap.size w (wr.alloc (.cells #[.int .i64 0] 3)) := HB.out.alloc HB.out.size _
      generalize wr.heap.size = Bk at hbox ⊢
      generalize wr.alloc (.cells #[.int .i64 0] 3) = w4 at hbox hb4 ⊢
      refine (all_none w4).mono ?_
      rintro e w5 ⟨rfl, hc5, hb5⟩
      have HI : Hid (NoneI w Bk w5) := Lib.hid ⟨(hb5.block _ hbox.lt).trans hbox, hb4.trans (hb5.mono hb4.size)⟩
      have HT := Lib.hid (none_tells hc5)
      have hz5 := HI.out.2.size
      generalize w4.heap.size = n0 at HT ⊢
      clear hc5 hb5 hb4 hbox HB
      go_wp2_with fail
      refine (wpIn_wide (n := 9)).1 ?_
      refine wp_range (α := Value × Value) (encs := fun x => #[x.1, x.2]) (xs := []) (S := fun _ => False) rfl (enters_of Try.func21 (by kernel_rfl) rfl) HT.out (fun _ hk => hk.elim) (fun _ => rfl)
        (fun _ W => NoneI w Bk W) (fun _ _ _ => False) (fun _ _ _ W => NoneI w Bk W) ?hI ?hIx ?hA HI.out ?assign ?body ?done ?stop
      case hI => exact fun _ => NoneI.abides hz5
      case hIx => exact fun _ _ _ _ h _ => h
      case hA => exact fun _ _ _ => NoneI.abides hz5
      case assign =>
        rintro l pre x W hi
        have HI := Lib.hid hi
        clear hi
        gi_wp2
        exact ⟨KeepsFrom.refl _ _, Keeps.refl _ _, HI.out⟩
      case body =>
        rintro l pre x post a' W hx _
        simp at hx
      case stop =>
        rintro D c pre post W _ _ h _
        exact h.elim
      case done =>
        rintro D W hD ⟨hbx, hbl⟩ hd
        have c0 := hbx.cell
        have HD := Lib.hid hd
        have HBl := Lib.hid hbl
        clear hbx hd hbl HI HT
        go_wp2_with fail
        go_quiet ((first
          | (go_at_call 7; exact Calls.quiet_of_same ((put_none _ _ _).mono fun _ _ ⟨a, b⟩ => ⟨a, b.symm⟩))
          | (go_at_call 8; exact Calls.quiet_of_same ((drop_none _ _).mono fun _ _ ⟨a, b⟩ => ⟨a, b.symm⟩))
          | (go_at_call 11; exact Calls.quiet_of_same ((len_none _).mono fun _ _ ⟨a, b⟩ => ⟨a, b.symm⟩))
          | (go_at_call 12; exact Calls.quiet_of_same ((buckets_none _).mono fun _ _ ⟨a, b⟩ => ⟨a, b.symm⟩))
          | (go_at_call 13; exact Calls.quiet_of_same ((bucket_none _ _).mono fun _ _ ⟨a, b⟩ => ⟨a, b.symm⟩))))
        rename_i nq
        have hd2 : (W.drewN nq).heap[D]? = some (.deferred (some [])) := HD.out
        have hb2 : Below w.heap.size w (W.drewN nq) := ⟨HBl.out.os, HBl.out.tape, HBl.out.output, HBl.out.size, HBl.out.block⟩
        have HD2 := Lib.hid hd2
        have HB2 := Lib.hid hb2
        generalize W.drewN nq = W9 at HD2 HB2 ⊢
        clear hd2 hb2 HD HBl c0
        go_wp2_with fail
        refine ⟨by simp, .inl ⟨_, _, rfl, run_takeDeferred HD2.out, ?_⟩⟩
        exact ⟨_, results_tmp rfl _ _ _, rfl, put_below HB2.out (by omega) HD2.out _⟩
theorem map_walk (A : Option Addr) (N c : Nat) (key : Int) (w : World) (hm : N ≤ maxLen) (hin : InD w A N) (hu : U key) :
    Calls Try.prog 3 #[.slice A N c, .int .u64 key] w fun e w' => e = .returned (.bool true) ∧ Below w.heap.size w w' := by
  by_cases h : 200 < N
  · exact map_long A N c key w h hm
  · exact map_short A N c key w h hin hu
end Go.Proofs.Ytbeeekpofbhljaa
