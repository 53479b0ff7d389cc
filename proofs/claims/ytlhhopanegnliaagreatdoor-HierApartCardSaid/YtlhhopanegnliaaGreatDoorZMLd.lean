import Derived.Test.YtlhhopanegnliaaGreatDoorZNLc
import Derived.Scope
import Derived.Test.YtlhhopanegnliaaGreatDoorZNPb
namespace Go.Proofs.YtlhhopanegnliaaGreatDoor.Lk
open Go Go.RowKit Go.Shelf Pa
set_option maxRecDepth 100000

theorem planned_any (m : Int) (w : World) :
    Calls Tryz.prog 71 #[.int .i64 m] w fun e w' => e = .returned (.bool (plB m)) ∧ w = w' := by
  unfold plB
  go_enter Tryz.func71, Tryz.ntmps71
  go_wp2_with fail
  all_goals (go_ret; refine ⟨?_, rfl⟩; simp [*])
def leastI (p : Pt) (m : Int) (a : Pt) : Int := if eqP a p then m else (parN (kn m) : Nat)
def moreN (xs : List Hd) (p : Pt) (m : Int) (a : Pt) : Nat := supN (kn (ofL xs a)) (kn (leastI p m a))
def itemL (xs : List Hd) (p : Pt) (m : Int) (a : Pt) : List Hd := if ((moreN xs p m a : Nat) : Int) != ofL xs a then [(a, (moreN xs p m a : Nat))] else []
def brkB (xs : List Hd) (p : Pt) (m : Int) (a : Pt) : Bool := !(eqP a p) && decide (reN (kn m) ≤ reN (kn (ofL xs a)))
def planG (xs : List Hd) (p : Pt) (m : Int) (ks : List Pt) : List Hd := (ks.takeWhile (fun a => !brkB xs p m a)).flatMap (itemL xs p m)
def planL (xs : List Hd) (p : Pt) (m : Int) : List Hd := if rightB p && plB m then planG xs p m (waysP p) else []
def planE (p : Pt) (m : Int) : Int := if rightB p && plB m then 0 else 1
def preL (xs : List Hd) (p : Pt) (m : Int) (ks : List Pt) (k : Nat) : List Hd := (ks.take k).flatMap (itemL xs p m)
theorem pre_next {xs : List Hd} {p : Pt} {m : Int} {ks : List Pt} {k : Nat} (h : k < ks.length) : preL xs p m ks (k + 1) = preL xs p m ks k ++ itemL xs p m ks[k] := by
  unfold preL
  rw [List.take_succ_eq_append_getElem h, List.flatMap_append]
  simp
theorem takeWhile_stop {α : Type} {f : α → Bool} : ∀ {l : List α} {k : Nat} (h : k < l.length), (∀ i (hi : i < k), f (l[i]'(by omega)) = true) → f l[k] = false → l.takeWhile f = l.take k
  | x :: l, 0, _, _, hf => by simp at hf; simp [hf]
  | x :: l, k + 1, h, ha, hf => by
    have h1 := ha 0 (by omega)
    have h2 := takeWhile_stop (l := l) (k := k) (by simpa using h) (fun i hi => ha (i + 1) (by omega)) hf
    simp at h1
    simp [h1, h2]
theorem takeWhile_whole {α : Type} {f : α → Bool} : ∀ {l : List α}, (∀ i (hi : i < l.length), f l[i] = true) → l.takeWhile f = l
  | [], _ => rfl
  | x :: l, ha => by
    have h1 := ha 0 (by simp)
    have h2 := takeWhile_whole (l := l) (fun i hi => ha (i + 1) (by simpa using hi))
    simp at h1
    simp [h1, h2]
theorem item_len (xs : List Hd) (p : Pt) (m : Int) (a : Pt) : (itemL xs p m a).length ≤ 1 := by unfold itemL; split <;> simp
theorem flat_len1 {α β : Type} {f : α → List β} (h : ∀ a, (f a).length ≤ 1) : ∀ l : List α, (l.flatMap f).length ≤ l.length
  | [] => by simp
  | a :: l => by have := flat_len1 h l; have := h a; simp only [List.flatMap_cons, List.length_append, List.length_cons]; omega
theorem pre_len (xs : List Hd) (p : Pt) (m : Int) (ks : List Pt) (k : Nat) : (preL xs p m ks k).length ≤ k := by
  have := flat_len1 (item_len xs p m) (ks.take k)
  rw [List.length_take] at this
  unfold preL; omega
theorem item_yes {xs : List Hd} {p a : Pt} {m r L : Int} {S : Nat} (hr : ofL xs a = r) (hl : leastI p m a = L) (hS : supN (kn r) (kn L) = S) (hne : (((S : Nat) : Int) != r) = true) : itemL xs p m a = [(a, ((S : Nat) : Int))] := by
  unfold itemL moreN
  rw [hr, hl, hS, if_pos hne]
theorem item_no {xs : List Hd} {p a : Pt} {m r L : Int} {S : Nat} (hr : ofL xs a = r) (hl : leastI p m a = L) (hS : supN (kn r) (kn L) = S) (hne : (((S : Nat) : Int) != r) = false) : itemL xs p m a = [] := by
  unfold itemL moreN
  rw [hr, hl, hS, hne]
  simp
def ListsE (W : World) (xs : List Hd) (er : Int) (e : Ending) (w' : World) : Prop := ∃ A c, e = .returned (.tuple #[.slice A xs.length c, .int .i64 er]) ∧ Ls w' A c xs ∧ Below W.heap.size W w'
section
variable {W W' : World} {A : Option Addr} {c : Nat} {xs : List Hd}
set_option maxHeartbeats 4000000 in
theorem plan_any (hr : Ls W A c xs) (hl : xs.length ≤ 1000) (q : Pt) (m : Int) :
    Calls Tryz.prog 32 #[.slice A xs.length c, q.v, .int .i64 m] W (ListsE W (planL xs q m) (planE q m)) := by
  have HO := Lib.hid (fun (w1 : World) (hb : Below W.heap.size W w1) (q : Pt) => of_any (hr.below hb) hl q)
  obtain ⟨ps, hps⟩ : ∃ ps, waysP q = ps := ⟨_, rfl⟩
  have h4 : ps.length ≤ 4 := by rw [← hps]; exact waysP_len q
  have HW := Lib.hid hps
  have HX := Lib.hid (Go.Proofs.YtlhhopanegnliaaGreatDoor.box_below W (.cells #[.int .i64 q.a, .int .i64 q.b, .int .i64 q.c, .int .i64 q.d, .int .i64 q.e] 30))
  have HP0 := Lib.hid (PtAt.new W q.a q.b q.c q.d q.e)
  have HM := Lib.hid (fun w => may_any q w)
  clear hr
  generalize xs.length = len at *
  cases hR : rightB q
  · have HE : Hid (planE q m = 1) := by unfold Hid planE; simp [hR]
    have HL : Hid (planL xs q m = []) := by unfold Hid planL; simp [hR]
    unfold ListsE
    rw [HL.out, HE.out]
    rw [hR] at HM
    clear hR hps HW h4
    obtain ⟨a, b, c', d, e⟩ := q
    simp only at HX
    go_enter Tryz.func32, Tryz.ntmps32
    go_wp2_with fail
    refine wp_scope_straight ?_
    go_wp2_with fail
    refine (HM.out _).mono ?_
    rintro r1 w1 ⟨rfl, hb1⟩
    go_wp2_with fail
    dsimp only [Exit.noGoto]
    go_ret2
    exact ⟨none, 0, rfl, Ls.nils _, HX.out.trans (hb1.mono HX.out.size)⟩
  cases hP : plB m
  · have HE : Hid (planE q m = 1) := by unfold Hid planE; simp [hP]
    have HL : Hid (planL xs q m = []) := by unfold Hid planL; simp [hP]
    unfold ListsE
    rw [HL.out, HE.out]
    rw [hR] at HM
    have HQ := Lib.hid (fun w => planned_any m w)
    rw [hP] at HQ
    clear hR hps HW h4 hP
    obtain ⟨a, b, c', d, e⟩ := q
    simp only at HX
    go_enter Tryz.func32, Tryz.ntmps32
    go_wp2_with fail
    refine wp_scope_straight ?_
    go_wp2_with fail
    refine (HM.out _).mono ?_
    rintro r1 w1 ⟨rfl, hb1⟩
    have HB1 := Lib.hid (HX.out.trans (hb1.mono HX.out.size))
    clear hb1
    go_wp2_with fail
    refine (HQ.out _).mono ?_
    rintro r2 w2 ⟨rfl, rfl⟩
    go_wp2_with fail
    dsimp only [Exit.noGoto]
    go_ret2
    exact ⟨none, 0, rfl, Ls.nils _, HB1.out⟩
  have HE : Hid (planE q m = 0) := by unfold Hid planE; simp [hR, hP]
  have HL : Hid (planL xs q m = planG xs q m ps) := by unfold Hid planL; simp [hR, hP, hps]
  unfold ListsE
  rw [HL.out, HE.out]
  rw [hR] at HM
  have HQ := Lib.hid (fun w => planned_any m w)
  rw [hP] at HQ
  clear hR hps hP HL HE
  obtain ⟨a, b, c', d, e⟩ := q
  simp only at HX HP0
  go_enter Tryz.func32, Tryz.ntmps32
  go_wp2_with fail
  refine wp_scope_straight ?_
  go_wp2_with fail
  refine (HM.out _).mono ?_
  rintro r1 w1 ⟨rfl, hb1⟩
  have HB1 := Lib.hid (HX.out.trans (hb1.mono HX.out.size))
  have HP1 := Lib.hid (HP0.out.later hb1)
  have hp1 := HP1.out
  obtain ⟨p0, p1, p2, p3, p4, hlt1⟩ := hp1
  clear hb1
  go_wp2_with fail
  refine (HQ.out _).mono ?_
  rintro r2 w2 ⟨rfl, rfl⟩
  clear HM HQ
  go_wp2_with fail
  refine wp_label ?_
  go_wp2_with fail
  refine (ways_any ⟨a, b, c', d, e⟩ _).mono ?_
  rintro r3 w3 ⟨v, rfl, hrow, hb3⟩
  rw [HW.out] at hrow
  have HB3 := Lib.hid (thenCall HB1.out hb3)
  have HP3 := Lib.hid (HP1.out.later hb3)
  clear hb3 p0 p1 p2 p3 p4
  rcases hrow.row with ⟨rfl, rfl⟩ | ⟨g, cap, rfl, hg, hc⟩
  · go_wp2_with fail
    refine wp_loop_rounds 1 ?_
    rw [rounds_succ]
    go_wp2_with fail
    dsimp only [Exit.noGoto]
    go_ret2
    exact ⟨none, 0, rfl, Ls.nils _, HB3.out⟩
  · have HC := Lib.hid hc
    obtain ⟨n, hn⟩ : ∃ n, ps.length = n := ⟨_, rfl⟩
    have HN := Lib.hid hn
    rw [hn] at h4
    rw [hn]
    clear hc hrow hn
    go_wp2_with fail
    go_loopw [8, 25] (fun l i wr => ∃ k : Nat, k ≤ n ∧ i = .int .i64 (k : Nat) ∧ Row wr w3.heap.size l (preL xs ⟨a, b, c', d, e⟩ m ps k) ∧ (∀ j (_ : j < k) (h : j < ps.length), brkB xs ⟨a, b, c', d, e⟩ m ps[j] = false) ∧ Below w3.heap.size w3 wr) (fun _ i _ => n - (intOf i).toNat)
    case atStart => exact ⟨0, by omega, rfl, World.ownsRow_nil _ _ _ _, fun j hj => by omega, Below.refl _ _⟩
    case round =>
      obtain ⟨k, hk, rfl, hown, hbrk, hb⟩ := hrel
      have HRow := Lib.hid hown
      have HBrk := Lib.hid hbrk
      have HB := Lib.hid hb
      clear hown hbrk
      by_cases hlt : k < n
      · have i1 : (0 : Int) ≤ (k : Int) := by omega
        have i2 : (k : Int) < (n : Int) := by omega
        have hkl : k < ps.length := by rw [HN.out]; exact hlt
        obtain ⟨q0, q1, q2, q3, q4⟩ := HC.out k hkl
        obtain ⟨⟨x0, x1, x2, x3, x4⟩, hx⟩ : ∃ x, ps[k]'hkl = x := ⟨_, rfl⟩
        have HXk := Lib.hid hx
        rw [hx] at q0 q1 q2 q3 q4
        simp only at q0 q1 q2 q3 q4
        obtain ⟨kc, _⟩ := kept hb
        have t0 := (kc g (k * 5) hg).trans q0
        have t1 := (kc g (k * 5 + 1) hg).trans q1
        have t2 := (kc g (k * 5 + 2) hg).trans q2
        have t3 := (kc g (k * 5 + 3) hg).trans q3
        have t4 := (kc g (k * 5 + 4) hg).trans q4
        have HBw := Lib.hid (Go.Proofs.YtlhhopanegnliaaGreatDoor.box_below wr (.cells #[.int .i64 x0, .int .i64 x1, .int .i64 x2, .int .i64 x3, .int .i64 x4] 30))
        have HBx := Lib.hid (PtAt.new wr x0 x1 x2 x3 x4)
        clear q0 q1 q2 q3 q4 kc hx hb
        go_wp2_with fail
        refine (HO.out _ (thenCall (thenCall HB3.out HB.out) HBw.out) ⟨x0, x1, x2, x3, x4⟩).mono ?_
        rintro e4 w4 ⟨rfl, hb4⟩
        have HBx4 := Lib.hid (HBx.out.later hb4)
        have HB4 := Lib.hid (thenCall HBw.out hb4)
        clear t0 t1 t2 t3 t4 hb4
        obtain ⟨r, hr⟩ : ∃ r, ofL xs ⟨x0, x1, x2, x3, x4⟩ = r := ⟨_, rfl⟩
        have HR := Lib.hid hr
        rw [hr]
        clear hr
        go_wp2_with fail
        refine (parent_any m _).mono ?_
        rintro e5 w5 ⟨rfl, hb5⟩
        have HBx5 := Lib.hid (HBx4.out.later hb5)
        have HB5 := Lib.hid (thenCall HB4.out hb5)
        clear hb5
        obtain ⟨c0, c1, c2, c3, c4, hl5⟩ := HBx5.out
        obtain ⟨d0, d1, d2, d3, d4, hl5'⟩ := HP3.out.later (thenCall HB.out HB5.out)
        cases hE : eqP ⟨x0, x1, x2, x3, x4⟩ ⟨a, b, c', d, e⟩
        · by_cases hge : (reN (kn m) : Int) ≤ (reN (kn r) : Int)
          · have HK : Hid (brkB xs ⟨a, b, c', d, e⟩ m (ps[k]'hkl) = true) := by
              unfold Hid brkB
              rw [HXk.out, hE, HR.out]
              simp
              omega
            have HT := Lib.hid (takeWhile_stop (f := fun u => !brkB xs ⟨a, b, c', d, e⟩ m u) hkl (fun i hi => by simp [HBrk.out i hi (by omega)]) (by simp [HK.out]))
            obtain ⟨A', c'', rfl, hls⟩ := HRow.out.ls
            have HLs := Lib.hid hls
            clear hls
            go_wp2_with fail
            refine (does_any r _).mono ?_
            rintro e6 w6 ⟨rfl, hb6⟩
            have HB6 := Lib.hid (thenCall HB5.out hb6)
            clear hb6 c0 c1 c2 c3 c4 d0 d1 d2 d3 d4
            go_wp2_with fail
            refine (does_any m _).mono ?_
            rintro e7 w7 ⟨rfl, hb7⟩
            have HB7 := Lib.hid (thenCall HB6.out hb7)
            clear hb7
            go_wp2_with fail
            dsimp only [Exit.noGoto]
            go_ret2
            have hpg : planG xs ⟨a, b, c', d, e⟩ m ps = preL xs ⟨a, b, c', d, e⟩ m ps k := by
              unfold planG preL
              rw [HT.out]
            rw [hpg]
            exact ⟨A', c'', rfl, HLs.out.below HB7.out, thenCall HB3.out (thenCall HB.out HB7.out)⟩
          · have HK : Hid (brkB xs ⟨a, b, c', d, e⟩ m ⟨x0, x1, x2, x3, x4⟩ = false) := by
              unfold Hid brkB
              rw [hE, HR.out]
              simp
              omega
            have HL : Hid (leastI ⟨a, b, c', d, e⟩ m ⟨x0, x1, x2, x3, x4⟩ = (parN (kn m) : Nat)) := by
              unfold Hid leastI
              rw [hE]
              simp
            go_wp2_with fail
            refine (does_any r _).mono ?_
            rintro e6 w6 ⟨rfl, hb6⟩
            have HBx6 := Lib.hid (HBx5.out.later hb6)
            have HB6 := Lib.hid (thenCall HB5.out hb6)
            clear hb6 c0 c1 c2 c3 c4 d0 d1 d2 d3 d4 hl5
            go_wp2_with fail
            refine (does_any m _).mono ?_
            rintro e7 w7 ⟨rfl, hb7⟩
            have HBx7 := Lib.hid (HBx6.out.later hb7)
            have HB7 := Lib.hid (thenCall HB6.out hb7)
            clear hb7
            obtain ⟨c0, c1, c2, c3, c4, hl5⟩ := HBx7.out
            go_wp2_with fail
            refine (sup_any r (parN (kn m) : Nat) _ _ (Below.refl _ _)).mono ?_
            rintro e8 w8 ⟨rfl, hb8⟩
            have HBx8 := Lib.hid (HBx7.out.later hb8)
            have HB8 := Lib.hid (thenCall HB7.out hb8)
            clear c0 c1 c2 c3 c4 hl5 hb8
            obtain ⟨c0, c1, c2, c3, c4, hl5⟩ := HBx8.out
            obtain ⟨S, hS⟩ : ∃ S, supN (kn r) (kn (parN (kn m) : Nat)) = S := ⟨_, rfl⟩
            have HS := Lib.hid hS
            rw [hS]
            clear hS
            cases hne : (((S : Nat) : Int) != r)
            · have HI := Lib.hid (item_no HR.out HL.out HS.out hne)
              go_wp2_with fail
              go_roundw
              case rel =>
                refine ⟨k + 1, by omega, by go_num, ?_, fun j hj h => ?_, thenCall HB.out HB8.out⟩
                · rw [pre_next hkl, HXk.out, HI.out, List.append_nil]
                  exact row_below HRow.out HB8.out
                · by_cases e : j = k
                  · subst e
                    rw [HXk.out]; exact HK.out
                  · exact HBrk.out j (by omega) h
              case measure => simp [intOf]; omega
            · have HI := Lib.hid (item_yes HR.out HL.out HS.out hne)
              have hrow6 := row_below (row_below HRow.out HB8.out) (Go.Proofs.YtlhhopanegnliaaGreatDoor.box_below w8 (.cells #[.int .i64 x0, .int .i64 x1, .int .i64 x2, .int .i64 x3, .int .i64 x4, .int .i64 S] 39))
              have hle8 : w3.heap.size ≤ (w8.alloc (.cells #[.int .i64 x0, .int .i64 x1, .int .i64 x2, .int .i64 x3, .int .i64 x4, .int .i64 S] 39)).heap.size := Nat.le_trans (thenCall HB.out HB8.out).size (Go.Proofs.YtlhhopanegnliaaGreatDoor.box_below _ _).size
              have hpl := pre_len xs ⟨a, b, c', d, e⟩ m ps k
              obtain ⟨v', w9, hrun, hrow9, hg9, -⟩ := Row.app hrow6 (box_ls w8 (⟨x0, x1, x2, x3, x4⟩, (S : Int))) (by simp; omega) hle8 35
              have HB9 := Lib.hid (((thenCall HB.out HB8.out).alloc (thenCall HB.out HB8.out).size _).trans (Row.app_below hrow6 hg9 hle8))
              have HRow9 := Lib.hid hrow9
              clear hrow6 hrow9 hg9 hle8 hpl
              go_wp2_with (at_builtin; refine Lib.wpList_append_run _ rfl _ _ _ _ rfl _ _ rfl rfl _ _ hrun ?_)
              go_roundw
              case rel =>
                refine ⟨k + 1, by omega, by go_num, ?_, fun j hj h => ?_, HB9.out⟩
                · rw [pre_next hkl, HXk.out, HI.out]
                  exact HRow9.out
                · by_cases e : j = k
                  · subst e
                    rw [HXk.out]; exact HK.out
                  · exact HBrk.out j (by omega) h
              case measure => simp [intOf]; omega
        · have HK : Hid (brkB xs ⟨a, b, c', d, e⟩ m ⟨x0, x1, x2, x3, x4⟩ = false) := by
            unfold Hid brkB
            rw [hE]
            simp
          have HL : Hid (leastI ⟨a, b, c', d, e⟩ m ⟨x0, x1, x2, x3, x4⟩ = m) := by
            unfold Hid leastI
            rw [hE]
            simp
          go_wp2_with fail
          refine (sup_any r m _ _ (Below.refl _ _)).mono ?_
          rintro e8 w8 ⟨rfl, hb8⟩
          have HBx8 := Lib.hid (HBx5.out.later hb8)
          have HB8 := Lib.hid (thenCall HB5.out hb8)
          clear c0 c1 c2 c3 c4 hl5 hb8
          obtain ⟨c0, c1, c2, c3, c4, hl5⟩ := HBx8.out
          obtain ⟨S, hS⟩ : ∃ S, supN (kn r) (kn m) = S := ⟨_, rfl⟩
          have HS := Lib.hid hS
          rw [hS]
          clear hS
          cases hne : (((S : Nat) : Int) != r)
          · have HI := Lib.hid (item_no HR.out HL.out HS.out hne)
            go_wp2_with fail
            go_roundw
            case rel =>
              refine ⟨k + 1, by omega, by go_num, ?_, fun j hj h => ?_, thenCall HB.out HB8.out⟩
              · rw [pre_next hkl, HXk.out, HI.out, List.append_nil]
                exact row_below HRow.out HB8.out
              · by_cases e : j = k
                · subst e
                  rw [HXk.out]; exact HK.out
                · exact HBrk.out j (by omega) h
            case measure => simp [intOf]; omega
          · have HI := Lib.hid (item_yes HR.out HL.out HS.out hne)
            have hrow6 := row_below (row_below HRow.out HB8.out) (Go.Proofs.YtlhhopanegnliaaGreatDoor.box_below w8 (.cells #[.int .i64 x0, .int .i64 x1, .int .i64 x2, .int .i64 x3, .int .i64 x4, .int .i64 S] 39))
            have hle8 : w3.heap.size ≤ (w8.alloc (.cells #[.int .i64 x0, .int .i64 x1, .int .i64 x2, .int .i64 x3, .int .i64 x4, .int .i64 S] 39)).heap.size := Nat.le_trans (thenCall HB.out HB8.out).size (Go.Proofs.YtlhhopanegnliaaGreatDoor.box_below _ _).size
            have hpl := pre_len xs ⟨a, b, c', d, e⟩ m ps k
            obtain ⟨v', w9, hrun, hrow9, hg9, -⟩ := Row.app hrow6 (box_ls w8 (⟨x0, x1, x2, x3, x4⟩, (S : Int))) (by simp; omega) hle8 35
            have HB9 := Lib.hid (((thenCall HB.out HB8.out).alloc (thenCall HB.out HB8.out).size _).trans (Row.app_below hrow6 hg9 hle8))
            have HRow9 := Lib.hid hrow9
            clear hrow6 hrow9 hg9 hle8 hpl
            go_wp2_with (at_builtin; refine Lib.wpList_append_run _ rfl _ _ _ _ rfl _ _ rfl rfl _ _ hrun ?_)
            go_roundw
            case rel =>
              refine ⟨k + 1, by omega, by go_num, ?_, fun j hj h => ?_, HB9.out⟩
              · rw [pre_next hkl, HXk.out, HI.out]
                exact HRow9.out
              · by_cases e : j = k
                · subst e
                  rw [HXk.out]; exact HK.out
                · exact HBrk.out j (by omega) h
            case measure => simp [intOf]; omega
      · obtain rfl : k = n := by omega
        have HT := Lib.hid (takeWhile_whole (f := fun u => !brkB xs ⟨a, b, c', d, e⟩ m u) (l := ps) (fun i hi => by simp [HBrk.out i (by rw [← HN.out]; exact hi) hi]))
        obtain ⟨A', c'', rfl, hls⟩ := HRow.out.ls
        have HLs := Lib.hid hls
        clear hls hb
        go_wp2_with fail
        dsimp only [Exit.noGoto]
        go_ret2
        have hpg : planG xs ⟨a, b, c', d, e⟩ m ps = preL xs ⟨a, b, c', d, e⟩ m ps k := by
          unfold planG preL
          rw [HT.out, ← HN.out, List.take_length]
        rw [hpg]
        exact ⟨A', c'', rfl, HLs.out, thenCall HB3.out HB.out⟩
end
end Go.Proofs.YtlhhopanegnliaaGreatDoor.Lk
namespace Go.Proofs.YtlhhopanegnliaaGreatDoor.Lk
open Go Go.RowKit Go.Shelf Pa
set_option maxRecDepth 100000

theorem pl_kn {m : Int} (h : plB m = true) : m = 3 ∨ m = 5 ∨ m = 6 := by
  unfold plB at h
  simp at h
  omega
theorem least_pos {p a : Pt} {m : Int} (h : plB m = true) : kn (leastI p m a) ≠ 0 := by
  unfold leastI
  rcases pl_kn h with rfl | rfl | rfl <;> split <;> decide
structure ItemOk (xs : List Hd) (p : Pt) (m : Int) (x : Hd) : Prop where
  way : x.1 ∈ waysP p
  more : x.2 = (moreN xs p m x.1 : Nat)
  not : covB (kn (ofL xs x.1)) (kn x.2) = false
  yes : covB (kn x.2) (kn (ofL xs x.1)) = true
theorem more_le (xs : List Hd) (p : Pt) (m : Int) (a : Pt) : moreN xs p m a ≤ 6 := supN_le _ _
theorem plan_item {xs : List Hd} {p : Pt} {m : Int} {x : Hd} (h : x ∈ planL xs p m) : rightB p = true ∧ plB m = true ∧ ItemOk xs p m x := by
  unfold planL at h
  split at h
  · rename_i hh
    simp at hh
    refine ⟨hh.1, hh.2, ?_⟩
    unfold planG at h
    obtain ⟨a, ha, hx⟩ := List.mem_flatMap.1 h
    have hw := List.takeWhile_subset _ ha
    unfold itemL at hx
    split at hx
    · rename_i hne
      simp at hx hne
      subst hx
      have hS := more_le xs p m a
      have k1 := kn_le (ofL xs a)
      have k2 := kn_le (leastI p m a)
      have kS : kn ((moreN xs p m a : Nat) : Int) = moreN xs p m a := kn_nat hS
      have y1 := sup_l _ k1 _ k2
      have y2 := sup_r _ k1 _ k2
      refine ⟨hw, rfl, ?_, ?_⟩
      · simp only [kS]
        cases hc : covB (kn (ofL xs a)) (moreN xs p m a)
        · rfl
        · have e := cov_anti _ k1 _ hS hc y1
          exfalso
          by_cases hr : 0 ≤ ofL xs a ∧ ofL xs a ≤ 6
          · have := kn_in hr.1 hr.2
            rw [e] at this
            exact hne this
          · have h0 := kn_out hr
            rw [h0] at e
            unfold moreN at e
            rw [← e] at y2
            exact least_pos hh.2 (cov_zero _ k2 y2)
      · simp only [kS]
        exact y1
    · simp at hx
  · simp at h
theorem ways_rise (p : Pt) : ∀ k, (waysL p k).Pairwise (fun a b => a.e < b.e) ∧ ∀ a ∈ waysL p k, a.e ≤ k
  | 0 => ⟨List.Pairwise.nil, by simp [waysL]⟩
  | k + 1 => by
    obtain ⟨h1, h2⟩ := ways_rise p k
    unfold waysL
    refine ⟨List.pairwise_append.2 ⟨h1, List.pairwise_singleton _ _, fun a ha b hb => ?_⟩, fun a ha => ?_⟩
    · simp at hb
      subst hb
      have := h2 a ha
      simp [cutP]; omega
    · rcases List.mem_append.1 ha with ha | ha
      · have := h2 a ha
        omega
      · simp at ha
        subst ha
        simp [cutP]
theorem item_cases (xs : List Hd) (p : Pt) (m : Int) (a : Pt) : itemL xs p m a = [] ∨ ∃ u, itemL xs p m a = [(a, u)] := by
  unfold itemL
  split
  · exact .inr ⟨_, rfl⟩
  · exact .inl rfl
theorem item_sub (xs : List Hd) (p : Pt) (m : Int) : ∀ ks : List Pt, (ks.flatMap (itemL xs p m)).map (·.1) |>.Sublist ks
  | [] => by simp
  | a :: ks => by
    have ih := item_sub xs p m ks
    simp only [List.flatMap_cons, List.map_append]
    rcases item_cases xs p m a with h | ⟨u, h⟩
    · rw [h]
      simpa using ih.cons a
    · rw [h]
      simpa using ih
theorem plan_sub (xs : List Hd) (p : Pt) (m : Int) : ((planL xs p m).map (·.1)).Sublist (waysP p) := by
  unfold planL
  split
  · exact (item_sub xs p m _).trans (List.takeWhile_sublist _)
  · simp
theorem plan_rise (xs : List Hd) (p : Pt) (m : Int) : (planL xs p m).Pairwise (fun a b => a.1.e < b.1.e) := by
  have h : (waysP p).Pairwise (fun a b => a.e < b.e) := by
    unfold waysP
    split
    · exact (ways_rise p _).1
    · exact List.Pairwise.nil
  exact (List.pairwise_map (f := fun x : Hd => x.1) (R := fun a b : Pt => a.e < b.e)).1 (h.sublist (plan_sub xs p m))
theorem plan_len (xs : List Hd) (p : Pt) (m : Int) : (planL xs p m).length ≤ 4 := by
  have h1 := (plan_sub xs p m).length_le
  rw [List.length_map] at h1
  exact Nat.le_trans h1 (waysP_len p)
end Go.Proofs.YtlhhopanegnliaaGreatDoor.Lk
namespace Go.Proofs.YtlhhopanegnliaaGreatDoor.Lk
open Go Go.RowKit Go.Shelf Pa
set_option maxRecDepth 100000
def withL : List Hd → Hd → List Hd
  | [], x => [x]
  | y :: ys, x => if eqP y.1 x.1 then x :: ys else y :: withL ys x
theorem flat_cons (x : Hd) (xs : List Hd) : flat (x :: xs) = .int .i64 x.1.a :: .int .i64 x.1.b :: .int .i64 x.1.c :: .int .i64 x.1.d :: .int .i64 x.1.e :: .int .i64 x.2 :: flat xs := by simp [flat, cellsW]
theorem set_six (x : Hd) : ∀ {zs : List Hd} {k : Nat}, k < zs.length →
    ((((((flat zs).set (k * 6) (.int .i64 x.1.a)).set (k * 6 + 1) (.int .i64 x.1.b)).set (k * 6 + 2) (.int .i64 x.1.c)).set (k * 6 + 3) (.int .i64 x.1.d)).set (k * 6 + 4) (.int .i64 x.1.e)).set (k * 6 + 5) (.int .i64 x.2) = flat (zs.set k x)
  | y :: zs, 0, _ => by simp [flat_cons]
  | y :: zs, k + 1, h => by
    have ih := set_six x (zs := zs) (k := k) (by simpa using h)
    rw [show (k + 1) * 6 = k * 6 + 6 by omega]
    simp only [flat_cons, List.set_cons_succ, ← ih]
abbrev put6 (W : World) (g o : Nat) (x : Hd) : World := (((((W.setCell ⟨g, o, none⟩ (.int .i64 x.1.a)).setCell ⟨g, o + 1, none⟩ (.int .i64 x.1.b)).setCell ⟨g, o + 2, none⟩ (.int .i64 x.1.c)).setCell ⟨g, o + 3, none⟩ (.int .i64 x.1.d)).setCell ⟨g, o + 4, none⟩ (.int .i64 x.1.e)).setCell ⟨g, o + 5, none⟩ (.int .i64 x.2)
theorem Row.put {W : World} {K g n cap : Nat} {xs : List Hd} (h : Row W K (.slice (some ⟨g, 0, none⟩) n cap) xs) (hn : xs.length = n) {k : Nat} (hk : k < xs.length) (x : Hd) : Row (put6 W g (k * 6) x) K (.slice (some ⟨g, 0, none⟩) n cap) (xs.set k x) := by
  unfold Row at h ⊢
  rw [hn] at h
  rw [List.length_set, hn, ← set_six x hk]
  exact row_store (row_store (row_store (row_store (row_store (row_store h _ _) _ _) _ _) _ _) _ _) _ _
structure Pl6 (W : World) (g o : Nat) (y : Hd) : Prop where
  c0 : W.cell? ⟨g, o, none⟩ = some (.int .i64 y.1.a)
  c1 : W.cell? ⟨g, o + 1, none⟩ = some (.int .i64 y.1.b)
  c2 : W.cell? ⟨g, o + 2, none⟩ = some (.int .i64 y.1.c)
  c3 : W.cell? ⟨g, o + 3, none⟩ = some (.int .i64 y.1.d)
  c4 : W.cell? ⟨g, o + 4, none⟩ = some (.int .i64 y.1.e)
  c5 : W.cell? ⟨g, o + 5, none⟩ = some (.int .i64 y.2)
  f0 : W.frozen? ⟨g, o, none⟩ = false
  f1 : W.frozen? ⟨g, o + 1, none⟩ = false
  f2 : W.frozen? ⟨g, o + 2, none⟩ = false
  f3 : W.frozen? ⟨g, o + 3, none⟩ = false
  f4 : W.frozen? ⟨g, o + 4, none⟩ = false
  f5 : W.frozen? ⟨g, o + 5, none⟩ = false
  lt : g < W.heap.size
theorem Row.at {W : World} {K g n cap : Nat} {xs : List Hd} (h : Row W K (.slice (some ⟨g, 0, none⟩) n cap) xs) {k : Nat} (hk : k < xs.length) : Pl6 W g (k * 6) xs[k] := by
  have hc : ∀ q u, q < 6 → (cellsW xs[k])[q]? = some u → W.cell? ⟨g, k * 6 + q, none⟩ = some u := fun q u hq hu => by
    have := h.cells (g := g) rfl (k * 6 + q) u ((flat_at xs k q hk hq).trans hu)
    rwa [add_at] at this
  have hf : ∀ o, W.frozen? ⟨g, o, none⟩ = false := fun o => by
    rcases h.2 with ⟨h0, _⟩ | ⟨g', cap', cur, e, _, hb, _⟩
    · cases h0
    · cases e
      unfold World.frozen?
      simp [hb]
  exact ⟨hc 0 _ (by omega) rfl, hc 1 _ (by omega) rfl, hc 2 _ (by omega) rfl, hc 3 _ (by omega) rfl, hc 4 _ (by omega) rfl, hc 5 _ (by omega) rfl, hf _, hf _, hf _, hf _, hf _, hf _, (h.lt g rfl).2⟩
theorem put6_only (W : World) (g o : Nat) (x : Hd) : OnlyS (· = g) W (put6 W g o x) :=
  (((((OnlyS.set g o W _).trans (OnlyS.set g _ _ _)).trans (OnlyS.set g _ _ _)).trans (OnlyS.set g _ _ _)).trans (OnlyS.set g _ _ _)).trans (OnlyS.set g _ _ _)
def Lists (W : World) (xs : List Hd) (e : Ending) (w' : World) : Prop := ∃ A c, e = .returned (.slice A xs.length c) ∧ Ls w' A c xs ∧ Below W.heap.size W w' ∧ ∀ a, A = some a → W.heap.size ≤ a.block
theorem Row.far {W : World} {K c n : Nat} {A : Option Addr} {xs : List Hd} (h : Row W K (.slice A n c) xs) : ∀ a, A = some a → K ≤ a.block := by
  rintro a rfl
  rcases h.2 with ⟨h1, -⟩ | ⟨g, cap, cur, h1, hb, -⟩
  · cases h1
  · cases h1; exact hb
end Go.Proofs.YtlhhopanegnliaaGreatDoor.Lk
namespace Go.Proofs.YtlhhopanegnliaaGreatDoor.Lk
open Go Go.RowKit Go.Shelf Pa
set_option maxRecDepth 100000

theorem set_blk {W : World} {g o : Nat} {cur : Array Value} {t : TypeId} {fr : Nat × Nat} (v : Value) (h : W.heap[g]? = some (.cells cur t fr)) : (W.setCell ⟨g, o, none⟩ v).heap[g]? = some (.cells (cur.setIfInBounds o v) t fr) := by
  obtain ⟨hlt, hk⟩ := Array.getElem?_eq_some_iff.1 h
  show (W.heap.modify g _)[g]? = _
  rw [Array.getElem?_eq_getElem (by rw [Array.size_modify]; exact hlt), Array.getElem_modify_self, hk]
  rfl
section
variable {W : World} {A : Option Addr} {c k : Nat} {xs : List Hd}
def tlA (A : Option Addr) (c k : Nat) : Option Addr := if c = k then A else A.map (·.add (k * 6))
theorem Ls.tl (h : Ls W A c xs) (hk : k ≤ xs.length) : Ls W (tlA A c k) (c - k) (xs.drop k) := by
  have hc := h.cap
  have hm := h.room
  unfold tlA
  by_cases e : c = k
  · rw [if_pos e]
    have e1 : xs.drop k = [] := List.drop_eq_nil_of_le (by omega)
    rw [e1]
    refine ⟨Nat.zero_le _, by omega, fun _ => by omega, fun _ _ j u hj => by simp [flat] at hj⟩
  · rw [if_neg e]
    cases A with
    | none => have := h.nil rfl; omega
    | some a =>
      by_cases e0 : k = 0
      · subst e0
        simpa [Addr.add] using h
      · have := h.tail (k := k) (by omega) hk
        simpa [Addr.add, show ¬ k * 6 = 0 by omega, show ¬ k = 0 by omega] using this
end
def Bx (w : World) (B : Nat) (x : Hd) : Prop := w.heap[B]? = some (.cells #[.int .i64 x.1.a, .int .i64 x.1.b, .int .i64 x.1.c, .int .i64 x.1.d, .int .i64 x.1.e, .int .i64 x.2] 39)
section
variable {w w' : World} {B C K : Nat} {x y : Hd}
theorem Bx.at (h : Bx w B x) : Pl6 w B 0 x := by
  have h' : w.heap[B]? = _ := h
  refine ⟨?_, ?_, ?_, ?_, ?_, ?_, ?_, ?_, ?_, ?_, ?_, ?_, (Array.getElem?_eq_some_iff.1 h').1⟩ <;> simp [World.cell?, World.frozen?, h']
theorem Bx.lt (h : Bx w B x) : B < w.heap.size := (Array.getElem?_eq_some_iff.1 h).1
theorem Bx.below (h : Bx w B x) (hb : Below w.heap.size w w') : Bx w' B x := (hb.block _ h.lt).trans h
theorem Bx.put (h : Bx w B x) (y : Hd) : Bx ((((((w.setCell ⟨B, 0, none⟩ (.int .i64 y.1.a)).setCell ⟨B, 1, none⟩ (.int .i64 y.1.b)).setCell ⟨B, 2, none⟩ (.int .i64 y.1.c)).setCell ⟨B, 3, none⟩ (.int .i64 y.1.d)).setCell ⟨B, 4, none⟩ (.int .i64 y.1.e)).setCell ⟨B, 5, none⟩ (.int .i64 y.2)) B y :=
  set_blk (o := 5) _ (set_blk (o := 4) _ (set_blk (o := 3) _ (set_blk (o := 2) _ (set_blk (o := 1) _ (set_blk (o := 0) _ h)))))
theorem Bx.beside (h : Bx w C x) (hne : C ≠ B) (y : Hd) : Bx ((((((w.setCell ⟨B, 0, none⟩ (.int .i64 y.1.a)).setCell ⟨B, 1, none⟩ (.int .i64 y.1.b)).setCell ⟨B, 2, none⟩ (.int .i64 y.1.c)).setCell ⟨B, 3, none⟩ (.int .i64 y.1.d)).setCell ⟨B, 4, none⟩ (.int .i64 y.1.e)).setCell ⟨B, 5, none⟩ (.int .i64 y.2)) C x :=
  ((((((((OnlyS.set B 0 w _).trans (OnlyS.set B 1 _ _)).trans (OnlyS.set B 2 _ _)).trans (OnlyS.set B 3 _ _)).trans (OnlyS.set B 4 _ _)).trans (OnlyS.set B 5 _ _)).block C h.lt hne)).trans h
end
end Go.Proofs.YtlhhopanegnliaaGreatDoor.Lk
namespace Go.Proofs.YtlhhopanegnliaaGreatDoor.Lk
open Go Go.RowKit Go.Shelf Pa
set_option maxRecDepth 100000
def eqH (x y : Hd) : Bool := eqP x.1 y.1 && x.2 == y.2
theorem eqH_iff (x y : Hd) : eqH x y = true ↔ x = y := by
  unfold eqH
  rw [Bool.and_eq_true, eqP_iff, beq_iff_eq]
  exact ⟨fun h => Prod.ext h.1 h.2, fun h => by rw [h]; exact ⟨rfl, rfl⟩⟩
@[go_sem ↓] theorem eq27 (n : Nat) (w : World) (a b c d e m a' b' c' d' e' m' : Int) :
    (Op.equalIn (n + 4) 39 (.agg #[.int .i64 a, .int .i64 b, .int .i64 c, .int .i64 d, .int .i64 e, .int .i64 m]) (.agg #[.int .i64 a', .int .i64 b', .int .i64 c', .int .i64 d', .int .i64 e', .int .i64 m'])).run Tryz.prog w
      = .ok (eqH (⟨a, b, c, d, e⟩, m) (⟨a', b', c', d', e'⟩, m')) w := by
  rw [run_equalIn_struct w (n + 3) 39 _ _ (by kernel_rfl) (by kernel_rfl)]
  simp [go_sem, eq24]
  unfold eqH
  by_cases h1 : eqP ⟨a, b, c, d, e⟩ ⟨a', b', c', d', e'⟩ = true <;> by_cases h2 : m = m' <;> simp [h1, h2]
theorem eqH_self (x : Hd) : eqH x x = true := (eqH_iff x x).2 rfl
end Go.Proofs.YtlhhopanegnliaaGreatDoor.Lk
namespace Go.Proofs.YtlhhopanegnliaaGreatDoor.Lk
open Go Go.RowKit Go.Shelf Pa
set_option maxRecDepth 100000

theorem cov_tr {i j k : Nat} (h1 : covB i j = true) (h2 : covB j k = true) : covB i k = true := by
  unfold covB at *
  simp at *
  omega
theorem cov_re {i j : Nat} (h : covB i j = true) : reN j ≤ reN i := by
  unfold covB at h
  simp at h
  exact h.1
theorem par_sup : ∀ A, A ≤ 6 → ∀ h, h ≤ 6 → ∀ L, L ≤ 6 → covB A (parN h) = true → covB A (parN L) = true → covB A (parN (supN h L)) = true := by decide +kernel
theorem par_par : ∀ j, j ≤ 6 → parN (parN j) = parN j := by decide +kernel
theorem cov_none (i : Nat) : covB i 0 = true := by unfold covB; simp [reN, imN]
theorem par_le (j : Nat) : parN j ≤ 6 := by
  unfold parN
  split
  · omega
  · split <;> omega

theorem of_with (ys : List Hd) (x : Hd) (q : Pt) : ofL (withL ys x) q = if eqP x.1 q then x.2 else ofL ys q := by
  induction ys with
  | nil => rfl
  | cons y ys ih =>
    unfold withL
    by_cases h : eqP y.1 x.1 = true
    · rw [if_pos h]
      have e := (eqP_iff _ _).1 h
      simp only [ofL]
      rw [e]
      split <;> rfl
    · rw [if_neg h]
      simp only [ofL]
      rw [ih]
      by_cases h1 : eqP y.1 q = true
      · have e := (eqP_iff _ _).1 h1
        have h2 : ¬ eqP x.1 q = true := fun h2 => h (by rw [(eqP_iff _ _).1 h2, e]; exact eqP_self _)
        rw [if_pos h1, if_neg h2, if_pos h1]
      · rw [if_neg h1, if_neg h1]
theorem map_with (ys : List Hd) (x : Hd) : (withL ys x).map (·.1) = if inL ys x.1 then ys.map (·.1) else ys.map (·.1) ++ [x.1] := by
  induction ys with
  | nil => rfl
  | cons y ys ih =>
    unfold withL
    by_cases h : eqP y.1 x.1 = true
    · rw [if_pos h]
      have hi : inL (y :: ys) x.1 = true := by unfold inL; simp [h]
      rw [if_pos hi]
      simp [(eqP_iff _ _).1 h]
    · have h' : eqP y.1 x.1 = false := by simpa using h
      rw [if_neg h, List.map_cons, ih]
      have hi : inL (y :: ys) x.1 = inL ys x.1 := by unfold inL; simp [h']
      rw [hi]
      split <;> simp
theorem mem_with {ys : List Hd} {x y : Hd} (hn : (ys.map (·.1)).Nodup) (h : y ∈ withL ys x) : y = x ∨ (y ∈ ys ∧ y.1 ≠ x.1) := by
  induction ys with
  | nil =>
    simp [withL] at h
    exact .inl h
  | cons z ys ih =>
    obtain ⟨h1, h2⟩ := List.nodup_cons.1 (show (z.1 :: ys.map (·.1)).Nodup from hn)
    unfold withL at h
    split at h
    · rename_i he
      have e := (eqP_iff _ _).1 he
      rcases List.mem_cons.1 h with rfl | h
      · exact .inl rfl
      · refine .inr ⟨by simp [h], fun q => h1 ?_⟩
        rw [e, ← q]
        exact List.mem_map_of_mem h
    · rename_i he
      rcases List.mem_cons.1 h with rfl | h
      · exact .inr ⟨by simp, fun q => he (by rw [q]; exact eqP_self _)⟩
      · rcases ih h2 h with rfl | ⟨h3, h4⟩
        · exact .inl rfl
        · exact .inr ⟨by simp [h3], h4⟩
theorem of_mem {ys : List Hd} {q : Pt} (h : ofL ys q ≠ 0) : ∃ y ∈ ys, y.1 = q ∧ y.2 = ofL ys q := by
  induction ys with
  | nil => exact absurd rfl h
  | cons y ys ih =>
    unfold ofL at h ⊢
    split at h
    · rename_i he
      rw [if_pos he]
      exact ⟨y, by simp, (eqP_iff _ _).1 he, rfl⟩
    · rename_i he
      rw [if_neg he]
      obtain ⟨z, h1, h2⟩ := ih h
      exact ⟨z, by simp [h1], h2⟩
theorem of_own {ys : List Hd} {y : Hd} (hn : (ys.map (·.1)).Nodup) (h : y ∈ ys) : ofL ys y.1 = y.2 := by
  induction ys with
  | nil => cases h
  | cons z ys ih =>
    obtain ⟨h1, h2⟩ := List.nodup_cons.1 (show (z.1 :: ys.map (·.1)).Nodup from hn)
    unfold ofL
    rcases List.mem_cons.1 h with rfl | h
    · rw [if_pos (eqP_self _)]
    · rw [if_neg, ih h2 h]
      intro he
      exact h1 (by rw [(eqP_iff _ _).1 he]; exact List.mem_map_of_mem h)
theorem rt_with {ys : List Hd} {x : Hd} (h : Rt ys) (hx : rightB x.1 = true) (h1 : 1 ≤ x.2) (h6 : x.2 ≤ 6) (hc : covB (kn x.2) (kn (ofL ys x.1)) = true)
    (hu : x.1.e = 1 ∨ covB (kn (ofL ys (cutP x.1 (x.1.e - 1)))) (parN (kn x.2)) = true) : Rt (withL ys x) := by
  have hn := h.1.1
  refine ⟨⟨?_, fun y hy => ?_⟩, fun y hy => ?_⟩
  · rw [map_with]
    split
    · exact hn
    · rename_i hi
      refine List.nodup_append.2 ⟨hn, by simp, fun a ha b hb => ?_⟩
      simp at hb
      subst hb
      rintro rfl
      exact hi (in_iff.2 ha)
  · rcases mem_with hn hy with rfl | ⟨hy, -⟩
    · exact ⟨hx, h1, h6⟩
    · exact h.1.2 y hy
  · unfold upB
    simp only [Bool.or_eq_true, beq_iff_eq]
    rcases mem_with hn hy with rfl | ⟨hy', hne⟩
    · rcases hu with hu | hu
      · exact .inl hu
      · right
        rw [of_with, if_neg]
        · exact hu
        · intro he
          have := congrArg Pt.e ((eqP_iff _ _).1 he)
          simp [cutP] at this
          omega
    · have hy2 := h.2 y hy'
      unfold upB at hy2
      simp only [Bool.or_eq_true, beq_iff_eq] at hy2
      rcases hy2 with hy2 | hy2
      · exact .inl hy2
      · right
        rw [of_with]
        split
        · rename_i he
          have e := (eqP_iff _ _).1 he
          rw [← e] at hy2
          exact cov_tr hc hy2
        · exact hy2
def nowL (xs : List Hd) (ls : List Hd) : List Hd := ls.foldl withL xs
theorem of_now_out (xs : List Hd) {q : Pt} : ∀ {ls : List Hd}, (∀ y ∈ ls, y.1 ≠ q) → ofL (nowL xs ls) q = ofL xs q := by
  intro ls
  unfold nowL
  induction ls generalizing xs with
  | nil => intro _; rfl
  | cons x ls ih =>
    intro h
    simp only [List.foldl_cons]
    rw [ih (withL xs x) (fun y hy => h y (by simp [hy])), of_with, if_neg]
    intro he
    exact h x (by simp) ((eqP_iff _ _).1 he)
theorem of_now_in (xs : List Hd) {x : Hd} : ∀ {ls : List Hd}, (ls.map (·.1)).Nodup → x ∈ ls → ofL (nowL xs ls) x.1 = x.2 := by
  intro ls
  unfold nowL
  induction ls generalizing xs with
  | nil => intro _ h; cases h
  | cons y ls ih =>
    intro hn h
    obtain ⟨h1, h2⟩ := List.nodup_cons.1 (show (y.1 :: ls.map (·.1)).Nodup from hn)
    simp only [List.foldl_cons]
    rcases List.mem_cons.1 h with rfl | h
    · have := of_now_out (withL xs x) (q := x.1) (ls := ls) (fun z hz e => h1 (by rw [← e]; exact List.mem_map_of_mem hz))
      unfold nowL at this
      rw [this, of_with, if_pos (eqP_self _)]
    · exact ih (withL xs y) h2 h
end Go.Proofs.YtlhhopanegnliaaGreatDoor.Lk
namespace Go.Proofs.YtlhhopanegnliaaGreatDoor.Lk
open Go Pa
set_option maxRecDepth 100000

theorem take_ways (p : Pt) : ∀ d t, t ≤ d → (waysL p d).take t = waysL p t
  | 0, t, h => by
    obtain rfl : t = 0 := by omega
    rfl
  | d + 1, t, h => by
    by_cases e : t = d + 1
    · subst e
      rw [List.take_of_length_le (by rw [waysL_len]; omega)]
    · rw [show waysL p (d + 1) = waysL p d ++ [cutP p ((d : Nat) + 1)] from rfl, List.take_append_of_le_length (by rw [waysL_len]; omega), take_ways p d t (by omega)]
theorem mem_ways {p a : Pt} : ∀ {t : Nat}, a ∈ waysL p t ↔ ∃ j : Nat, j < t ∧ a = cutP p ((j : Int) + 1)
  | 0 => by simp [waysL]
  | t + 1 => by
    unfold waysL
    rw [List.mem_append, mem_ways (t := t)]
    constructor
    · rintro (⟨j, hj, h⟩ | h)
      · exact ⟨j, by omega, h⟩
      · exact ⟨t, by omega, by simpa using h⟩
    · rintro ⟨j, hj, h⟩
      by_cases e : j = t
      · subst e; exact .inr (by simpa using h)
      · exact .inl ⟨j, by omega, h⟩
theorem cut_cut (p : Pt) {k l : Int} (h : k ≤ l) : cutP (cutP p l) k = cutP p k := by
  have f : ∀ (n : Int) (v : Int), (if n < k then (if n < l then v else 0) else 0) = if n < k then v else 0 := by
    intro n v
    by_cases h1 : n < k
    · rw [if_pos h1, if_pos (by omega), if_pos h1]
    · rw [if_neg h1, if_neg h1]
  unfold cutP
  simp only [f]
theorem cut_self {p : Pt} (hp : rightB p = true) : cutP p p.e = p := by
  obtain ⟨a, b, c, d, e⟩ := p
  have hf := (right_iff a b c d e).1 hp
  have h1 := hf.e1
  have h4 := hf.e4
  have hb := hf.zb
  have hc := hf.zc
  have hd := hf.zd
  unfold cutP
  simp only [Pt.mk.injEq, true_and, and_true]
  refine ⟨?_, ?_, ?_⟩
  · split
    · rfl
    · exact (hb (by omega)).symm
  · split
    · rfl
    · exact (hc (by omega)).symm
  · split
    · rfl
    · exact (hd (by omega)).symm
end Go.Proofs.YtlhhopanegnliaaGreatDoor.Lk
namespace Go.Proofs.YtlhhopanegnliaaGreatDoor.Lk
open Go Go.RowKit Go.Shelf Pa
set_option maxRecDepth 100000
def ksL (xs : List Hd) (p : Pt) (m : Int) : List Pt := (waysP p).takeWhile (fun a => !brkB xs p m a)
theorem plan_ks {xs : List Hd} {p : Pt} {m : Int} {x : Hd} (h : x ∈ planL xs p m) : x.1 ∈ ksL xs p m := by
  unfold planL at h
  split at h
  · unfold planG at h
    obtain ⟨a, ha, hx⟩ := List.mem_flatMap.1 h
    rcases item_cases xs p m a with h0 | ⟨u, h0⟩
    · rw [h0] at hx; cases hx
    · rw [h0] at hx
      simp at hx
      subst hx
      exact ha
  · cases h
theorem ks_is {xs : List Hd} {p : Pt} {m : Int} (hp : rightB p = true) : ∃ t : Nat, (t : Int) ≤ p.e ∧ ksL xs p m = waysL p t := by
  have hd := right_depth hp
  have h1 : ksL xs p m <+: waysP p := List.takeWhile_prefix _
  have h2 := List.prefix_iff_eq_take.1 h1
  have h3 := h1.length_le
  have hw : waysP p = waysL p p.e.toNat := by unfold waysP; rw [if_pos hp]
  rw [hw, waysL_len] at h3
  rw [hw, take_ways p _ _ h3] at h2
  exact ⟨_, by omega, h2⟩
theorem ks_up {xs : List Hd} {p a : Pt} {m : Int} (hp : rightB p = true) (h : a ∈ ksL xs p m) (h1 : a.e ≠ 1) : cutP a (a.e - 1) ∈ ksL xs p m ∧ a.e ≤ p.e := by
  obtain ⟨t, ht, hk⟩ := ks_is (xs := xs) (m := m) hp
  rw [hk] at h ⊢
  obtain ⟨j, hj, rfl⟩ := mem_ways.1 h
  have he : (cutP p ((j : Int) + 1)).e = (j : Int) + 1 := rfl
  rw [he] at h1 ⊢
  rw [cut_cut p (by omega)]
  exact ⟨mem_ways.2 ⟨j - 1, by omega, by congr 1; omega⟩, by omega⟩
theorem plan_nodup (xs : List Hd) (p : Pt) (m : Int) : ((planL xs p m).map (·.1)).Nodup := by
  refine List.pairwise_map.2 ((plan_rise xs p m).imp ?_)
  intro a b h e
  rw [e] at h
  omega
theorem cov_self (i : Nat) : covB i i = true := by unfold covB; simp
theorem more_l (xs : List Hd) (p : Pt) (m : Int) (a : Pt) : covB (moreN xs p m a) (kn (ofL xs a)) = true := sup_l _ (kn_le _) _ (kn_le _)
theorem more_r (xs : List Hd) (p : Pt) (m : Int) (a : Pt) : covB (moreN xs p m a) (kn (leastI p m a)) = true := sup_r _ (kn_le _) _ (kn_le _)
theorem kn_more (xs : List Hd) (p : Pt) (m : Int) (a : Pt) : kn ((moreN xs p m a : Nat) : Int) = moreN xs p m a := kn_nat (more_le xs p m a)
theorem of_ks {xs ls : List Hd} {p b : Pt} {m : Int} (hp : rightB p = true) (hm : plB m = true) (hb : b ∈ ksL xs p m) (hs : ls.Sublist (planL xs p m)) (ha : ∀ y ∈ planL xs p m, y.1 = b → y ∈ ls) :
    ofL (nowL xs ls) b = (moreN xs p m b : Nat) := by
  have hn : (ls.map (·.1)).Nodup := (plan_nodup xs p m).sublist (hs.map _)
  by_cases h : (((moreN xs p m b : Nat) : Int) != ofL xs b) = true
  · have hi : (b, ((moreN xs p m b : Nat) : Int)) ∈ planL xs p m := by
      unfold planL planG
      rw [hp, hm]
      refine List.mem_flatMap.2 ⟨b, hb, ?_⟩
      unfold itemL
      rw [if_pos h]
      simp
    exact of_now_in xs (x := (b, ((moreN xs p m b : Nat) : Int))) hn (ha _ hi rfl)
  · have h' : ((moreN xs p m b : Nat) : Int) = ofL xs b := by simpa using h
    rw [of_now_out, h']
    intro y hy e
    have hI := (plan_item (hs.subset hy)).2.2
    have h1 := hI.not
    rw [hI.more, e, h', cov_self] at h1
    cases h1
theorem enough_step {xs : List Hd} {p : Pt} {m : Int} (hr : Rt xs) {j : Nat} (hj : j < (planL xs p m).length) (hn : Rt (nowL xs ((planL xs p m).take j))) :
    Rt (withL (nowL xs ((planL xs p m).take j)) (planL xs p m)[j]) ∧
      ∀ q, reN (kn (ofL (nowL xs ((planL xs p m).take j)) q)) ≤ reN (kn (ofL (withL (nowL xs ((planL xs p m).take j)) (planL xs p m)[j]) q)) := by
  have hmem := List.getElem_mem hj
  obtain ⟨hp, hm, hI⟩ := plan_item hmem
  have hks := plan_ks hmem
  have hrise := List.pairwise_iff_getElem.1 (plan_rise xs p m)
  have hsub : ((planL xs p m).take j).Sublist (planL xs p m) := List.take_sublist _ _
  have hout : ∀ y ∈ (planL xs p m).take j, y.1 ≠ (planL xs p m)[j].1 := by
    intro y hy e
    obtain ⟨i, hi, rfl⟩ := List.getElem_of_mem hy
    rw [List.length_take] at hi
    rw [List.getElem_take] at e
    have := hrise i j (by omega) hj (by omega)
    rw [e] at this
    omega
  have hbef : ∀ b : Pt, b.e < (planL xs p m)[j].1.e → ∀ y ∈ planL xs p m, y.1 = b → y ∈ (planL xs p m).take j := by
    intro b hb y hy e
    obtain ⟨i, hi, rfl⟩ := List.getElem_of_mem hy
    by_cases hij : i < j
    · refine List.mem_iff_getElem.2 ⟨i, by rw [List.length_take]; omega, by rw [List.getElem_take]⟩
    · exfalso
      rw [← e] at hb
      by_cases hij2 : i = j
      · subst hij2; omega
      · have := hrise j i hj hi (by omega)
        omega
  obtain ⟨a, ha⟩ : ∃ a, (planL xs p m)[j].1 = a := ⟨_, rfl⟩
  have hx2 := hI.more
  have hxa : ofL (nowL xs ((planL xs p m).take j)) a = ofL xs a := of_now_out xs (by rw [← ha]; exact hout)
  have hkn : kn (planL xs p m)[j].2 = moreN xs p m a := by rw [hx2, ha, kn_more]
  have hpos : 1 ≤ moreN xs p m a := by
    have h1 := more_r xs p m a
    have h2 := least_pos (p := p) (a := a) hm
    rcases Nat.eq_zero_or_pos (moreN xs p m a) with h0 | h0
    · rw [h0] at h1
      exact absurd (cov_zero _ (kn_le _) h1) h2
    · exact h0
  have hle := more_le xs p m a
  have hcov : covB (kn (planL xs p m)[j].2) (kn (ofL (nowL xs ((planL xs p m).take j)) (planL xs p m)[j].1)) = true := by
    rw [hkn, ha, hxa]
    exact more_l xs p m a
  have hright : rightB a = true := by
    obtain ⟨t, ht, hk⟩ := ks_is (xs := xs) (m := m) hp
    rw [ha, hk] at hks
    obtain ⟨i, hi, rfl⟩ := mem_ways.1 hks
    exact cut_right hp (by omega) (by omega)
  refine ⟨rt_with hn (by rw [ha]; exact hright) (by rw [hx2, ha]; omega) (by rw [hx2, ha]; omega) hcov ?_, fun q => ?_⟩
  · rw [ha, hkn]
    by_cases h1 : a.e = 1
    · exact .inl h1
    · right
      rw [ha] at hks hbef
      obtain ⟨hb, hpe⟩ := ks_up hp hks h1
      have hbe : (cutP a (a.e - 1)).e = a.e - 1 := rfl
      rw [of_ks hp hm hb hsub (hbef _ (by rw [hbe]; omega)), kn_more]
      have hbp : eqP (cutP a (a.e - 1)) p = false := eqP_ne (fun e => by
        have := congrArg Pt.e e
        rw [hbe] at this
        omega)
      have hr1 := more_r xs p m (cutP a (a.e - 1))
      have hlb : leastI p m (cutP a (a.e - 1)) = (parN (kn m) : Nat) := by unfold leastI; rw [hbp]; simp
      rw [hlb, kn_par] at hr1
      unfold moreN
      refine par_sup _ (more_le xs p m _) _ (kn_le _) _ (kn_le _) ?_ ?_
      · by_cases h0 : ofL xs a = 0
        · rw [h0]
          exact cov_none _
        · obtain ⟨y, hy, hya, hy2⟩ := of_mem h0
          have hu := hr.2 y hy
          unfold upB at hu
          simp only [Bool.or_eq_true, beq_iff_eq] at hu
          rw [hya, hy2] at hu
          rcases hu with hu | hu
          · exact absurd hu h1
          · exact cov_tr (more_l xs p m _) hu
      · have : parN (kn (leastI p m a)) = parN (kn m) := by
          unfold leastI
          split
          · rfl
          · rw [kn_par, par_par _ (kn_le _)]
        rw [this]
        exact hr1
  · rw [of_with]
    split
    · rename_i he
      rw [← (eqP_iff _ _).1 he]
      exact cov_re hcov
    · exact Nat.le_refl _
end Go.Proofs.YtlhhopanegnliaaGreatDoor.Lk
