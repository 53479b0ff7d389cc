/- Which locks are needed: the program's answer. -/
import Derived.Test.YtahafjhcebnokaaLc
import Derived.Scope
namespace Go.Proofs.Ytahafjhcebnokaa.Lk
open Go Go.RowKit Go.Shelf Pa
set_option maxRecDepth 100000

/-- the least that is needed at a node -/
def leastI (p : Pt) (m : Int) (a : Pt) : Int := if eqP a p then m else (parN (kn m) : Nat)
/-- what is needed at a node -/
def moreN (xs : List Hd) (p : Pt) (m : Int) (a : Pt) : Nat := supN (kn (ofL xs a)) (kn (leastI p m a))
def itemL (xs : List Hd) (p : Pt) (m : Int) (a : Pt) : List Hd := if ((moreN xs p m a : Nat) : Int) != ofL xs a then [(a, (moreN xs p m a : Nat))] else []
/-- whether no more is needed from here on -/
def brkB (xs : List Hd) (p : Pt) (m : Int) (a : Pt) : Bool := !(eqP a p) && decide (reN (kn m) ≤ reN (kn (ofL xs a)))
def planG (xs : List Hd) (p : Pt) (m : Int) (ks : List Pt) : List Hd := (ks.takeWhile (fun a => !brkB xs p m a)).flatMap (itemL xs p m)
def planL (xs : List Hd) (p : Pt) (m : Int) : List Hd := if rightB p && plB m then planG xs p m (waysP p) else []
def planE (p : Pt) (m : Int) : Int := if rightB p && plB m then 0 else 1
def preL (xs : List Hd) (p : Pt) (m : Int) (ks : List Pt) (k : Nat) : List Hd := (ks.take k).flatMap (itemL xs p m)
theorem pre_next {xs : List Hd} {p : Pt} {m : Int} {ks : List Pt} {k : Nat} (h : k < ks.length) : preL xs p m ks (k + 1) = preL xs p m ks k ++ itemL xs p m ks[k] := by
  unfold preL
  rw [List.take_succ_eq_append_getElem h, List.flatMap_append]
  simp
theorem takeWhile_stop {α : Type} {f : α → Bool} : ∀ {l : List α} {k : Nat} (h : k < l.length), (∀ i (hi : i < k), f (l[i]'(by omega)) = true) → f l[k] = false → l.takeWhile f = l.take k
  | x :: l, 0, _, _, hf => by simp at hf; simp [hf]
  | x :: l, k + 1, h, ha, hf => by
    have h1 := ha 0 (by omega)
    have h2 := takeWhile_stop (l := l) (k := k) (by simpa using h) (fun i hi => ha (i + 1) (by omega)) hf
    simp at h1
    simp [h1, h2]
theorem takeWhile_whole {α : Type} {f : α → Bool} : ∀ {l : List α}, (∀ i (hi : i < l.length), f l[i] = true) → l.takeWhile f = l
  | [], _ => rfl
  | x :: l, ha => by
    have h1 := ha 0 (by simp)
    have h2 := takeWhile_whole (l := l) (fun i hi => ha (i + 1) (by simpa using hi))
    simp at h1
    simp [h1, h2]
theorem item_len (xs : List Hd) (p : Pt) (m : Int) (a : Pt) : (itemL xs p m a).length ≤ 1 := by unfold itemL; split <;> simp
theorem flat_len1 {α β : Type} {f : α → List β} (h : ∀ a, (f a).length ≤ 1) : ∀ l : List α, (l.flatMap f).length ≤ l.length
  | [] => by simp
  | a :: l => by have := flat_len1 h l; have := h a; simp only [List.flatMap_cons, List.length_append, List.length_cons]; omega
theorem pre_len (xs : List Hd) (p : Pt) (m : Int) (ks : List Pt) (k : Nat) : (preL xs p m ks k).length ≤ k := by
  have := flat_len1 (item_len xs p m) (ks.take k)
  rw [List.length_take] at this
  unfold preL; omega
theorem item_yes {xs : List Hd} {p a : Pt} {m r L : Int} {S : Nat} (hr : ofL xs a = r) (hl : leastI p m a = L) (hS : supN (kn r) (kn L) = S) (hne : (((S : Nat) : Int) != r) = true) : itemL xs p m a = [(a, ((S : Nat) : Int))] := by
  unfold itemL moreN
  rw [hr, hl, hS, if_pos hne]
theorem item_no {xs : List Hd} {p a : Pt} {m r L : Int} {S : Nat} (hr : ofL xs a = r) (hl : leastI p m a = L) (hS : supN (kn r) (kn L) = S) (hne : (((S : Nat) : Int) != r) = false) : itemL xs p m a = [] := by
  unfold itemL moreN
  rw [hr, hl, hS, hne]
  simp
/-- a list is handed out with an error's number, in memory of its own -/
def ListsE (W : World) (xs : List Hd) (er : Int) (e : Ending) (w' : World) : Prop := ∃ A c, e = .returned (.tuple #[.slice A xs.length c, .int .i64 er]) ∧ Ls w' A c xs ∧ Below W.heap.size W w'
theorem kn_par (j : Nat) : kn ((parN j : Nat) : Int) = parN j := by
  apply kn_nat
  unfold parN
  split
  · omega
  · split <;> omega
section
variable {W W' : World} {A : Option Addr} {c : Nat} {xs : List Hd}
set_option maxHeartbeats 4000000 in
theorem plan_any (hr : Ls W A c xs) (hl : xs.length ≤ 1000) (q : Pt) (m : Int) :
    Calls Try.prog 9 #[.slice A xs.length c, q.v, .int .i64 m] W (ListsE W (planL xs q m) (planE q m)) := by
  have HO := Lib.hid (fun (w1 : World) (hb : Below W.heap.size W w1) (q : Pt) => of_any (hr.below hb) hl q)
  obtain ⟨ps, hps⟩ : ∃ ps, waysP q = ps := ⟨_, rfl⟩
  have h4 : ps.length ≤ 4 := by rw [← hps]; exact waysP_len q
  have HW := Lib.hid hps
  have HX := Lib.hid (Go.Proofs.Ytahafjhcebnokaa.box_below W (.cells #[.int .i64 q.a, .int .i64 q.b, .int .i64 q.c, .int .i64 q.d, .int .i64 q.e] 25))
  have HP0 := Lib.hid (PtAt.new W q.a q.b q.c q.d q.e)
  have HM := Lib.hid (fun w => may_any q w)
  clear hr
  generalize xs.length = len at *
  cases hR : rightB q
  · have HE : Hid (planE q m = 1) := by unfold Hid planE; simp [hR]
    have HL : Hid (planL xs q m = []) := by unfold Hid planL; simp [hR]
    unfold ListsE
    rw [HL.out, HE.out]
    rw [hR] at HM
    clear hR hps HW h4
    obtain ⟨a, b, c', d, e⟩ := q
    simp only at HX
    go_enter Try.func9, Try.ntmps9
    go_wp2_with fail
    refine wp_scope_straight ?_
    go_wp2_with fail
    refine (HM.out _).mono ?_
    rintro r1 w1 ⟨rfl, hb1⟩
    go_wp2_with fail
    dsimp only [Exit.noGoto]
    go_ret2
    exact ⟨none, 0, rfl, Ls.nils _, HX.out.trans (hb1.mono HX.out.size)⟩
  cases hP : plB m
  · have HE : Hid (planE q m = 1) := by unfold Hid planE; simp [hP]
    have HL : Hid (planL xs q m = []) := by unfold Hid planL; simp [hP]
    unfold ListsE
    rw [HL.out, HE.out]
    rw [hR] at HM
    have HQ := Lib.hid (fun w => planned_any m w)
    rw [hP] at HQ
    clear hR hps HW h4 hP
    obtain ⟨a, b, c', d, e⟩ := q
    simp only at HX
    go_enter Try.func9, Try.ntmps9
    go_wp2_with fail
    refine wp_scope_straight ?_
    go_wp2_with fail
    refine (HM.out _).mono ?_
    rintro r1 w1 ⟨rfl, hb1⟩
    have HB1 := Lib.hid (HX.out.trans (hb1.mono HX.out.size))
    clear hb1
    go_wp2_with fail
    refine (HQ.out _).mono ?_
    rintro r2 w2 ⟨rfl, rfl⟩
    go_wp2_with fail
    dsimp only [Exit.noGoto]
    go_ret2
    exact ⟨none, 0, rfl, Ls.nils _, HB1.out⟩
  have HE : Hid (planE q m = 0) := by unfold Hid planE; simp [hR, hP]
  have HL : Hid (planL xs q m = planG xs q m ps) := by unfold Hid planL; simp [hR, hP, hps]
  unfold ListsE
  rw [HL.out, HE.out]
  rw [hR] at HM
  have HQ := Lib.hid (fun w => planned_any m w)
  rw [hP] at HQ
  clear hR hps hP HL HE
  obtain ⟨a, b, c', d, e⟩ := q
  simp only at HX HP0
  go_enter Try.func9, Try.ntmps9
  go_wp2_with fail
  refine wp_scope_straight ?_
  go_wp2_with fail
  refine (HM.out _).mono ?_
  rintro r1 w1 ⟨rfl, hb1⟩
  have HB1 := Lib.hid (HX.out.trans (hb1.mono HX.out.size))
  have HP1 := Lib.hid (HP0.out.later hb1)
  have hp1 := HP1.out
  obtain ⟨p0, p1, p2, p3, p4, hlt1⟩ := hp1
  clear hb1
  go_wp2_with fail
  refine (HQ.out _).mono ?_
  rintro r2 w2 ⟨rfl, rfl⟩
  clear HM HQ
  go_wp2_with fail
  refine wp_label ?_
  go_wp2_with fail
  refine (ways_any ⟨a, b, c', d, e⟩ _).mono ?_
  rintro r3 w3 ⟨v, rfl, hrow, hb3⟩
  rw [HW.out] at hrow
  have HB3 := Lib.hid (thenCall HB1.out hb3)
  have HP3 := Lib.hid (HP1.out.later hb3)
  clear hb3 p0 p1 p2 p3 p4
  rcases hrow.row with ⟨rfl, rfl⟩ | ⟨g, cap, rfl, hg, hc⟩
  · go_wp2_with fail
    refine wp_loop_rounds 1 ?_
    rw [rounds_succ]
    go_wp2_with fail
    dsimp only [Exit.noGoto]
    go_ret2
    exact ⟨none, 0, rfl, Ls.nils _, HB3.out⟩
  · have HC := Lib.hid hc
    obtain ⟨n, hn⟩ : ∃ n, ps.length = n := ⟨_, rfl⟩
    have HN := Lib.hid hn
    rw [hn] at h4
    rw [hn]
    clear hc hrow hn
    go_wp2_with fail
    go_loopw [8, 25] (fun l i wr => ∃ k : Nat, k ≤ n ∧ i = .int .i64 (k : Nat) ∧ Row wr w3.heap.size l (preL xs ⟨a, b, c', d, e⟩ m ps k) ∧ (∀ j (_ : j < k) (h : j < ps.length), brkB xs ⟨a, b, c', d, e⟩ m ps[j] = false) ∧ Below w3.heap.size w3 wr) (fun _ i _ => n - (intOf i).toNat)
    case atStart => exact ⟨0, by omega, rfl, World.ownsRow_nil _ _ _ _, fun j hj => by omega, Below.refl _ _⟩
    case round =>
      obtain ⟨k, hk, rfl, hown, hbrk, hb⟩ := hrel
      have HRow := Lib.hid hown
      have HBrk := Lib.hid hbrk
      have HB := Lib.hid hb
      clear hown hbrk
      by_cases hlt : k < n
      · have i1 : (0 : Int) ≤ (k : Int) := by omega
        have i2 : (k : Int) < (n : Int) := by omega
        have hkl : k < ps.length := by rw [HN.out]; exact hlt
        obtain ⟨q0, q1, q2, q3, q4⟩ := HC.out k hkl
        obtain ⟨⟨x0, x1, x2, x3, x4⟩, hx⟩ : ∃ x, ps[k]'hkl = x := ⟨_, rfl⟩
        have HXk := Lib.hid hx
        rw [hx] at q0 q1 q2 q3 q4
        simp only at q0 q1 q2 q3 q4
        obtain ⟨kc, _⟩ := kept hb
        have t0 := (kc g (k * 5) hg).trans q0
        have t1 := (kc g (k * 5 + 1) hg).trans q1
        have t2 := (kc g (k * 5 + 2) hg).trans q2
        have t3 := (kc g (k * 5 + 3) hg).trans q3
        have t4 := (kc g (k * 5 + 4) hg).trans q4
        have HBw := Lib.hid (Go.Proofs.Ytahafjhcebnokaa.box_below wr (.cells #[.int .i64 x0, .int .i64 x1, .int .i64 x2, .int .i64 x3, .int .i64 x4] 25))
        have HBx := Lib.hid (PtAt.new wr x0 x1 x2 x3 x4)
        clear q0 q1 q2 q3 q4 kc hx hb
        go_wp2_with fail
        refine (HO.out _ (thenCall (thenCall HB3.out HB.out) HBw.out) ⟨x0, x1, x2, x3, x4⟩).mono ?_
        rintro e4 w4 ⟨rfl, hb4⟩
        have HBx4 := Lib.hid (HBx.out.later hb4)
        have HB4 := Lib.hid (thenCall HBw.out hb4)
        clear t0 t1 t2 t3 t4 hb4
        obtain ⟨r, hr⟩ : ∃ r, ofL xs ⟨x0, x1, x2, x3, x4⟩ = r := ⟨_, rfl⟩
        have HR := Lib.hid hr
        rw [hr]
        clear hr
        go_wp2_with fail
        refine (parent_any m _).mono ?_
        rintro e5 w5 ⟨rfl, hb5⟩
        have HBx5 := Lib.hid (HBx4.out.later hb5)
        have HB5 := Lib.hid (thenCall HB4.out hb5)
        clear hb5
        obtain ⟨c0, c1, c2, c3, c4, hl5⟩ := HBx5.out
        obtain ⟨d0, d1, d2, d3, d4, hl5'⟩ := HP3.out.later (thenCall HB.out HB5.out)
        cases hE : eqP ⟨x0, x1, x2, x3, x4⟩ ⟨a, b, c', d, e⟩
        · by_cases hge : (reN (kn m) : Int) ≤ (reN (kn r) : Int)
          · have HK : Hid (brkB xs ⟨a, b, c', d, e⟩ m (ps[k]'hkl) = true) := by
              unfold Hid brkB
              rw [HXk.out, hE, HR.out]
              simp
              omega
            have HT := Lib.hid (takeWhile_stop (f := fun u => !brkB xs ⟨a, b, c', d, e⟩ m u) hkl (fun i hi => by simp [HBrk.out i hi (by omega)]) (by simp [HK.out]))
            obtain ⟨A', c'', rfl, hls⟩ := HRow.out.ls
            have HLs := Lib.hid hls
            clear hls
            go_wp2_with fail
            refine (does_any r _).mono ?_
            rintro e6 w6 ⟨rfl, hb6⟩
            have HB6 := Lib.hid (thenCall HB5.out hb6)
            clear hb6 c0 c1 c2 c3 c4 d0 d1 d2 d3 d4
            go_wp2_with fail
            refine (does_any m _).mono ?_
            rintro e7 w7 ⟨rfl, hb7⟩
            have HB7 := Lib.hid (thenCall HB6.out hb7)
            clear hb7
            go_wp2_with fail
            dsimp only [Exit.noGoto]
            go_ret2
            have hpg : planG xs ⟨a, b, c', d, e⟩ m ps = preL xs ⟨a, b, c', d, e⟩ m ps k := by
              unfold planG preL
              rw [HT.out]
            rw [hpg]
            exact ⟨A', c'', rfl, HLs.out.below HB7.out, thenCall HB3.out (thenCall HB.out HB7.out)⟩
          · have HK : Hid (brkB xs ⟨a, b, c', d, e⟩ m ⟨x0, x1, x2, x3, x4⟩ = false) := by
              unfold Hid brkB
              rw [hE, HR.out]
              simp
              omega
            have HL : Hid (leastI ⟨a, b, c', d, e⟩ m ⟨x0, x1, x2, x3, x4⟩ = (parN (kn m) : Nat)) := by
              unfold Hid leastI
              rw [hE]
              simp
            go_wp2_with fail
            refine (does_any r _).mono ?_
            rintro e6 w6 ⟨rfl, hb6⟩
            have HBx6 := Lib.hid (HBx5.out.later hb6)
            have HB6 := Lib.hid (thenCall HB5.out hb6)
            clear hb6 c0 c1 c2 c3 c4 d0 d1 d2 d3 d4 hl5
            go_wp2_with fail
            refine (does_any m _).mono ?_
            rintro e7 w7 ⟨rfl, hb7⟩
            have HBx7 := Lib.hid (HBx6.out.later hb7)
            have HB7 := Lib.hid (thenCall HB6.out hb7)
            clear hb7
            obtain ⟨c0, c1, c2, c3, c4, hl5⟩ := HBx7.out
            go_wp2_with fail
            refine (sup_any r (parN (kn m) : Nat) _ _ (Below.refl _ _)).mono ?_
            rintro e8 w8 ⟨rfl, hb8⟩
            have HBx8 := Lib.hid (HBx7.out.later hb8)
            have HB8 := Lib.hid (thenCall HB7.out hb8)
            clear c0 c1 c2 c3 c4 hl5 hb8
            obtain ⟨c0, c1, c2, c3, c4, hl5⟩ := HBx8.out
            obtain ⟨S, hS⟩ : ∃ S, supN (kn r) (kn (parN (kn m) : Nat)) = S := ⟨_, rfl⟩
            have HS := Lib.hid hS
            rw [hS]
            clear hS
            cases hne : (((S : Nat) : Int) != r)
            · have HI := Lib.hid (item_no HR.out HL.out HS.out hne)
              go_wp2_with fail
              go_roundw
              case rel =>
                refine ⟨k + 1, by omega, by go_num, ?_, fun j hj h => ?_, thenCall HB.out HB8.out⟩
                · rw [pre_next hkl, HXk.out, HI.out, List.append_nil]
                  exact row_below HRow.out HB8.out
                · by_cases e : j = k
                  · subst e
                    rw [HXk.out]; exact HK.out
                  · exact HBrk.out j (by omega) h
              case measure => simp [intOf]; omega
            · have HI := Lib.hid (item_yes HR.out HL.out HS.out hne)
              have hrow6 := row_below (row_below HRow.out HB8.out) (Go.Proofs.Ytahafjhcebnokaa.box_below w8 (.cells #[.int .i64 x0, .int .i64 x1, .int .i64 x2, .int .i64 x3, .int .i64 x4, .int .i64 S] 32))
              have hle8 : w3.heap.size ≤ (w8.alloc (.cells #[.int .i64 x0, .int .i64 x1, .int .i64 x2, .int .i64 x3, .int .i64 x4, .int .i64 S] 32)).heap.size := Nat.le_trans (thenCall HB.out HB8.out).size (Go.Proofs.Ytahafjhcebnokaa.box_below _ _).size
              have hpl := pre_len xs ⟨a, b, c', d, e⟩ m ps k
              obtain ⟨v', w9, hrun, hrow9, hg9, -⟩ := Row.app hrow6 (box_ls w8 (⟨x0, x1, x2, x3, x4⟩, (S : Int))) (by simp; omega) hle8 22
              have HB9 := Lib.hid (((thenCall HB.out HB8.out).alloc (thenCall HB.out HB8.out).size _).trans (Row.app_below hrow6 hg9 hle8))
              have HRow9 := Lib.hid hrow9
              clear hrow6 hrow9 hg9 hle8 hpl
              go_wp2_with (at_builtin; refine Lib.wpList_append_run _ rfl _ _ _ _ rfl _ _ rfl rfl _ _ hrun ?_)
              go_roundw
              case rel =>
                refine ⟨k + 1, by omega, by go_num, ?_, fun j hj h => ?_, HB9.out⟩
                · rw [pre_next hkl, HXk.out, HI.out]
                  exact HRow9.out
                · by_cases e : j = k
                  · subst e
                    rw [HXk.out]; exact HK.out
                  · exact HBrk.out j (by omega) h
              case measure => simp [intOf]; omega
        · have HK : Hid (brkB xs ⟨a, b, c', d, e⟩ m ⟨x0, x1, x2, x3, x4⟩ = false) := by
            unfold Hid brkB
            rw [hE]
            simp
          have HL : Hid (leastI ⟨a, b, c', d, e⟩ m ⟨x0, x1, x2, x3, x4⟩ = m) := by
            unfold Hid leastI
            rw [hE]
            simp
          go_wp2_with fail
          refine (sup_any r m _ _ (Below.refl _ _)).mono ?_
          rintro e8 w8 ⟨rfl, hb8⟩
          have HBx8 := Lib.hid (HBx5.out.later hb8)
          have HB8 := Lib.hid (thenCall HB5.out hb8)
          clear c0 c1 c2 c3 c4 hl5 hb8
          obtain ⟨c0, c1, c2, c3, c4, hl5⟩ := HBx8.out
          obtain ⟨S, hS⟩ : ∃ S, supN (kn r) (kn m) = S := ⟨_, rfl⟩
          have HS := Lib.hid hS
          rw [hS]
          clear hS
          cases hne : (((S : Nat) : Int) != r)
          · have HI := Lib.hid (item_no HR.out HL.out HS.out hne)
            go_wp2_with fail
            go_roundw
            case rel =>
              refine ⟨k + 1, by omega, by go_num, ?_, fun j hj h => ?_, thenCall HB.out HB8.out⟩
              · rw [pre_next hkl, HXk.out, HI.out, List.append_nil]
                exact row_below HRow.out HB8.out
              · by_cases e : j = k
                · subst e
                  rw [HXk.out]; exact HK.out
                · exact HBrk.out j (by omega) h
            case measure => simp [intOf]; omega
          · have HI := Lib.hid (item_yes HR.out HL.out HS.out hne)
            have hrow6 := row_below (row_below HRow.out HB8.out) (Go.Proofs.Ytahafjhcebnokaa.box_below w8 (.cells #[.int .i64 x0, .int .i64 x1, .int .i64 x2, .int .i64 x3, .int .i64 x4, .int .i64 S] 32))
            have hle8 : w3.heap.size ≤ (w8.alloc (.cells #[.int .i64 x0, .int .i64 x1, .int .i64 x2, .int .i64 x3, .int .i64 x4, .int .i64 S] 32)).heap.size := Nat.le_trans (thenCall HB.out HB8.out).size (Go.Proofs.Ytahafjhcebnokaa.box_below _ _).size
            have hpl := pre_len xs ⟨a, b, c', d, e⟩ m ps k
            obtain ⟨v', w9, hrun, hrow9, hg9, -⟩ := Row.app hrow6 (box_ls w8 (⟨x0, x1, x2, x3, x4⟩, (S : Int))) (by simp; omega) hle8 22
            have HB9 := Lib.hid (((thenCall HB.out HB8.out).alloc (thenCall HB.out HB8.out).size _).trans (Row.app_below hrow6 hg9 hle8))
            have HRow9 := Lib.hid hrow9
            clear hrow6 hrow9 hg9 hle8 hpl
            go_wp2_with (at_builtin; refine Lib.wpList_append_run _ rfl _ _ _ _ rfl _ _ rfl rfl _ _ hrun ?_)
            go_roundw
            case rel =>
              refine ⟨k + 1, by omega, by go_num, ?_, fun j hj h => ?_, HB9.out⟩
              · rw [pre_next hkl, HXk.out, HI.out]
                exact HRow9.out
              · by_cases e : j = k
                · subst e
                  rw [HXk.out]; exact HK.out
                · exact HBrk.out j (by omega) h
            case measure => simp [intOf]; omega
      · obtain rfl : k = n := by omega
        have HT := Lib.hid (takeWhile_whole (f := fun u => !brkB xs ⟨a, b, c', d, e⟩ m u) (l := ps) (fun i hi => by simp [HBrk.out i (by rw [← HN.out]; exact hi) hi]))
        obtain ⟨A', c'', rfl, hls⟩ := HRow.out.ls
        have HLs := Lib.hid hls
        clear hls hb
        go_wp2_with fail
        dsimp only [Exit.noGoto]
        go_ret2
        have hpg : planG xs ⟨a, b, c', d, e⟩ m ps = preL xs ⟨a, b, c', d, e⟩ m ps k := by
          unfold planG preL
          rw [HT.out, ← HN.out, List.take_length]
        rw [hpg]
        exact ⟨A', c'', rfl, HLs.out, thenCall HB3.out HB.out⟩
end
end Go.Proofs.Ytahafjhcebnokaa.Lk
