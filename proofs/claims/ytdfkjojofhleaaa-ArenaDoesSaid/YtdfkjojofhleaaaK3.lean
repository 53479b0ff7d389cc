/- The walk of the law that an arena does what the document says. -/
import Derived.Test.YtdfkjojofhleaaaK2
import Derived.IntWalk
import Derived.StillTailTactics
namespace Go.Proofs.Ytdfkjojofhleaaa
open Go Go.RowKit Go.Shelf
attribute [local go_sem] Oper.semAt_some

theorem drew1_below (w : World) : Below w.heap.size w w.drew := ⟨rfl, rfl, rfl, Nat.le_refl _, fun _ _ => rfl⟩
theorem ref_setx {W : World} {bx c gx n d o : Nat} {uv : Value} {A : Option Addr} {X : List Int} {U : List Bool} {fr : List Nat} {x : Int} (h : RefAt W bx (.slice (some ⟨gx, 0, none⟩) n d) uv A c X U fr) :
    RefAt (W.setCell ⟨gx, o, none⟩ (.int .i64 x)) bx (.slice (some ⟨gx, 0, none⟩) n d) uv A c (X.set o x) U fr ∧ OnlyS (· = gx) W (W.setCell ⟨gx, o, none⟩ (.int .i64 x)) := by
  have h1 := h.rx.lt gx rfl
  have ho := OnlyS.set gx o W (.int .i64 x)
  have hb : (W.setCell ⟨gx, o, none⟩ (.int .i64 x)).heap[bx]? = W.heap[bx]? := ho.block bx (cell_lt h.c0) (by omega)
  obtain ⟨_, _, hvx, _⟩ := row_slice h.rx
  refine ⟨⟨(World.cell?_of_block (w := W) (a := ⟨bx, 0, none⟩) hb).trans h.c0, (World.cell?_of_block (w := W) (a := ⟨bx, 1, none⟩) hb).trans h.c1, (World.cell?_of_block (w := W) (a := ⟨bx, 2, none⟩) hb).trans h.c2,
    (World.frozen?_of_block (w := W) (a := ⟨bx, 0, none⟩) hb).trans h.f0, (World.frozen?_of_block (w := W) (a := ⟨bx, 1, none⟩) hb).trans h.f1, (World.frozen?_of_block (w := W) (a := ⟨bx, 2, none⟩) hb).trans h.f2, ?_, ?_, ?_, h.xu, h.xf, h.uf⟩, ho⟩
  · rw [ints_set, List.length_set]
    cases hvx
    exact row_store h.rx o (.int .i64 x)
  · refine row_keep h.ru fun g hg => ho.block g (h.ru.lt g hg).2 (fun e => ?_)
    have e' : g = gx := e
    exact h.xu gx rfl (by rw [← e']; exact hg)
  · refine h.qf.keep fun k hk => ho.block k (h.qf.lt hk).2 (fun e => ?_)
    have e' : k = gx := e
    exact h.xf gx rfl (by rw [← e']; exact hk)
theorem dd_setx {w W : World} {b bx B4 B6 Bd m gx n d o : Nat} {uv : Value} {i x y : Int} {ps : List Pl} {fs : List Nat} {X : List Int} {U : List Bool} {fr : List Nat} (h : Dd w W b bx B4 B6 Bd (.slice (some ⟨gx, 0, none⟩) n d) uv i x m ps fs X U fr) :
    Dd w (W.setCell ⟨gx, o, none⟩ (.int .i64 y)) b bx B4 B6 Bd (.slice (some ⟨gx, 0, none⟩) n d) uv i x m ps fs (X.set o y) U fr := by
  obtain ⟨A, c, h1, h2, h3⟩ := h.mid
  obtain ⟨k1, k2⟩ := ref_setx (o := o) (x := y) h1
  have hg : OfRef bx (.slice (some ⟨gx, 0, none⟩) n d) uv A gx := .inr (.inl rfl)
  refine h.keeps ⟨A, c, k1, h2.turn k2 (fun k hk => ?_) (fun k hk => ⟨.inl hk, Nat.lt_of_lt_of_le (h2.klt hk).1 k2.size⟩), h3⟩ ⟨k2.size, fun k hk => k2.block k (h.mid.elt hk).1 (fun e => ?_)⟩
  · have e' : k = gx := hk
    rw [e']; exact .inl hg
  · have e' : k = gx := e
    exact h3 k hk (by rw [e']; exact hg)
theorem mid_tells {w W : World} {b bx m : Nat} {xv uv : Value} {E : Nat → Prop} {ps : List Pl} {fs : List Nat} {X : List Int} {U : List Bool} {fr : List Nat} (h : Mid w W b bx xv uv E m ps fs X U fr) : Tells Try.prog 20 #[wp b] #[] encT (· < W.heap.size) (usedL ps) W := by
  obtain ⟨A, c, _, ⟨S, ⟨pv, fv, h1, _⟩, _⟩, _⟩ := h
  exact each_tells h1
theorem Qu.turn {W W' : World} {base c C : Nat} {A : Option Addr} {os : List Nat} (h : Qu W base A c os) (t : Turn C W W') : Qu W' base A c os := by
  refine h.keep fun k hk => ?_
  obtain ⟨a, ha, rfl⟩ := hk
  obtain ⟨g, off, cur, rfl, h1, h2, h3⟩ := h.at' a ha
  rw [h2]
  exact t.cells _ _ h2 rfl
theorem RefAt.turn {W W' : World} {bx c C : Nat} {xv uv : Value} {A : Option Addr} {X : List Int} {U : List Bool} {fr : List Nat} (h : RefAt W bx xv uv A c X U fr) (t : Turn C W W') : RefAt W' bx xv uv A c X U fr :=
  ⟨t.cell h.c0, t.cell h.c1, t.cell h.c2, (t.frozen h.c0).trans h.f0, (t.frozen h.c1).trans h.f1, (t.frozen h.c2).trans h.f2, row_turn h.rx t, row_turn h.ru t, h.qf.turn t, h.xu, h.xf, h.uf⟩
/-- what the last loop keeps: the result's box, the box of the document's, and the last number -/
structure Last (w W : World) (bx B4 B6 B16 : Nat) (xv uv : Value) (X : List Int) (U : List Bool) (l : Int) : Prop where
  b4 : Boxed W B4 4 (.bool false)
  b6 : Boxed W B6 26 (wp bx)
  b16 : Boxed W B16 3 (.int .i64 l)
  ref : ∃ A c fr, RefAt W bx xv uv A c X U fr ∧ ¬ OfRef bx xv uv A B16
  bel : Below w.heap.size w W
def lastOf (pre : List Told) : Int := match pre.getLast? with | some x => (x.1 : Int) | none => -1
theorem last_snoc (pre : List Told) (x : Told) : lastOf (pre ++ [x]) = (x.1 : Int) := by simp [lastOf]
def LastI (w : World) (bx B4 B6 B16 : Nat) (xv uv : Value) (X : List Int) (U : List Bool) (pre : List Told) (W : World) : Prop := Last w W bx B4 B6 B16 xv uv X U (lastOf pre)
theorem LastI.abides {w : World} {bx B4 B6 B16 C : Nat} {xv uv : Value} {X : List Int} {U : List Bool} {pre : List Told} (h : w.heap.size ≤ C) : Abides C (LastI w bx B4 B6 B16 xv uv X U pre) := by
  rintro W W' ⟨h1, h2, h3, ⟨A, c, fr, h4, h5⟩, h6⟩ t
  exact ⟨Abides.boxed _ _ _ _ _ _ h1 t, Abides.boxed _ _ _ _ _ _ h2 t, Abides.boxed _ _ _ _ _ _ h3 t, ⟨A, c, fr, h4.turn t, h5⟩, t.below h6 h (Nat.le_refl _)⟩
theorem Last.next {w W : World} {bx B4 B6 B16 : Nat} {xv uv : Value} {X : List Int} {U : List Bool} {l : Int} (h : Last w W bx B4 B6 B16 xv uv X U l) (l' : Int) (h4 : B4 ≠ B16) (h6 : B6 ≠ B16) (hw : w.heap.size ≤ B16) : Last w (W.setCell ⟨B16, 0, none⟩ (.int .i64 l')) bx B4 B6 B16 xv uv X U l' := by
  obtain ⟨A, c, fr, hr, hn⟩ := h.ref
  refine ⟨?_, ?_, h.b16.set _, ⟨A, c, fr, hr.keep fun k hk => Below.heap_setCell W ⟨B16, 0, none⟩ _ k (fun e => hn (by have e' : k = B16 := e; rw [← e']; exact hk)), hn⟩, h.bel.setCell (p := ⟨B16, 0, none⟩) hw _⟩
  · exact (Below.heap_setCell W ⟨B16, 0, none⟩ _ B4 h4).trans h.b4
  · exact (Below.heap_setCell W ⟨B16, 0, none⟩ _ B6 h6).trans h.b6
theorem callsIn_round {l n : Nat} {P : Program} {f : FuncId} {args : Array Value} {w : World} {R : Ending → World → Prop} (h : Calls P f args w R) : CallsIn (Fence.wide.inRound l) n P f args w R := (callsIn_wide (n := n)).2 h
theorem told_facts {m : Nat} {ps : List Pl} {fs us : List Nat} {X : List Int} {U : List Bool} {fr : List Nat} (hr : Rel m ps fs us X U fr) {pre post : List Told} {x : Told} (hx : usedL ps = pre ++ x :: post) :
    lastOf pre < (x.1 : Int) ∧ hasU U (x.1 : Int) = true ∧ X[x.1]? = some x.2 ∧ x.1 < m := by
  have hm : x ∈ usedN ps ps.length := by
    show x ∈ usedL ps
    rw [hx]; simp
  obtain ⟨h1, h2, h3⟩ := mem_usedN hm
  have hu : usedB ps (x.1 : Int) = true := by rw [used_at h2, h3]
  refine ⟨?_, by rw [hr.has, hu], ?_, (hr.ult hu).2⟩
  · have hp := told_rises ps ps.length
    have hp' : (pre ++ x :: post).Pairwise (fun a b => a.1 < b.1) := by rw [← hx]; exact hp
    rw [List.pairwise_append] at hp'
    unfold lastOf
    cases hl : pre.getLast? with
    | none => simp only; omega
    | some y =>
      have := hp'.2.2 y (List.mem_of_getLast? hl) x (by simp)
      simp only
      omega
  · rw [hr.x x.1 hu, has_at h2 (by rw [h3]), h3]
set_option maxHeartbeats 16000000 in
set_option maxRecDepth 100000 in
theorem does_short (n : Int) (A : Option Addr) (L c : Nat) (w : World) (h : ¬ 40 < L) (h' : ¬ 100 < n) (hin : InD w A L) :
    Calls Try.prog 3 #[.int .i64 n, .slice A L c] w fun e w' => e = .returned (.bool true) ∧ Below w.heap.size w w' := by
  have I := Lib.hid hin
  clear hin
  have hL : ¬ (40 : Int) < (L : Int) := by omega
  have hLd : decide ((40 : Int) < (L : Int)) = false := by simp; omega
  have hNd : decide (100 < n) = false := by simpa using h'
  have hbx := Boxed.new w 4 (.bool false)
  have hb0 := box_below w (.cells #[.bool false] 4)
  have hcl : cl n ≤ 100 := by unfold cl; split <;> (try split) <;> omega
  refine (callsIn_wide (n := 9)).1 ?_
  refine callsIn_of_wp_marks Try.func3 rfl trivial ?_ rfl
  simp only [Try.ntmps3, List.size_toArray, List.length_cons, List.length_nil, Nat.reduceAdd, Nat.reduceSub, Array.replicate_succ, Array.replicate_zero, List.push_toArray, List.append_toArray, List.nil_append, List.cons_append]
  refine wpIn_wide.2 ?_
  go_wp2_with fail
  generalize w.alloc (.cells #[.bool false] 4) = w0 at hbx hb0 ⊢
  refine (awake_any _).mono ?_
  rintro e w1 ⟨rfl, hb1⟩
  have hbx1 : Boxed w1 w.heap.size 4 (.bool false) := (hb1.block _ hbx.lt).trans hbx
  have hb01 : Below w.heap.size w w1 := hb0.trans (hb1.mono hb0.size)
  clear hbx hb0 hb1
  go_wp2_with fail
  refine (one_new n w w1 hb01).mono ?_
  rintro e w2 ⟨rfl, ho2, hb2⟩
  go_wp2_with fail
  refine (rnew_any w2 (by omega)).mono ?_
  rintro e w3 ⟨rfl, hf3⟩
  have HH := Lib.hid (head_start ho2 hb2 hbx1 (Nat.le_refl _) hcl rfl hf3)
  clear ho2 hb2 hbx1 hb01 hf3
  go_wp2_with fail
  generalize w3.alloc (.cells #[wp w2.heap.size] 26) = w4 at HH ⊢
  generalize cl n = m at HH hcl
  generalize w1.heap.size = b at HH ⊢
  generalize w2.heap.size = bx at HH ⊢
  generalize w3.heap.size = B6 at HH ⊢
  obtain ⟨B4, hB4⟩ : ∃ B4, w.heap.size = B4 := ⟨_, rfl⟩
  rw [hB4] at HH
  have HB4 := Lib.hid hB4
  rw [hB4]
  clear hB4
  go_loopw [34] (fun t wr => ∃ k : Nat, k ≤ L ∧ t = .int .i64 k ∧ Head w wr b bx B4 B6 m) (fun t _ => L - (intOf t).toNat)
  case atStart => exact ⟨0, by omega, rfl, HH.out⟩
  case round =>
    obtain ⟨k, hk, rfl, xv, uv, ps, fs, us, X, U, fr, hrl, hdh⟩ := hrel
    have HRl0 := Lib.hid hrl
    have HDh := Lib.hid hdh
    clear hrl hdh HH
    by_cases hlt : k < L
    · obtain ⟨ad, kd, i, x, rfl, c0, c1, c2⟩ := I.out.at HDh.out.mid.bel hlt
      have HD0 := Lib.hid (HDh.out.dd kd i x)
      clear HDh
      by_cases hk0 : kd = 0
      · subst hk0
        go_wp2_with fail
        clear c0 c1 c2
        generalize wr.alloc (.cells #[.int .i64 0, .int .i64 i, .int .i64 x] 29) = W0 at HD0 ⊢
        generalize wr.heap.size = Bd at HD0 ⊢
        rcases rel_take HRl0.out x with ⟨hfr, hfull⟩ | ⟨o, fr', ps', fs', us', hfr, hom, hrel', hct⟩
        · subst hfr
          have HC := Lib.hid (dd_does HD0.out fun S h => take_full h x hfull)
          clear hfull
          refine HC.out.mono ?_
          rintro e w1 ⟨rfl, hd1⟩
          obtain ⟨c6, d1, d2⟩ := hd1.deed
          have HC2 := Lib.hid (dd_ref hd1 fun A c h => rtake_none h x)
          clear HC HD0 hd1
          go_wp2_with fail
          refine HC2.out.mono ?_
          rintro e w2 ⟨rfl, hd2⟩
          have HD := Lib.hid hd2
          have HRl := Lib.hid HRl0.out
          clear HC2 hd2 HRl0 c6 d1 d2
          have hl := HRl.out.frlen
          have hxl := HRl.out.xl
          have hul := HRl.out.ul
          have hml := HRl.out.ml
          have hpl := HRl.out.pl
          have hil := HRl.out.inv.len
          obtain ⟨A9, c9, h9, _, _⟩ := HD.out.mid
          obtain ⟨nf, hnf⟩ : ∃ nf, (([] : List Nat)).length = nf := ⟨_, rfl⟩
          have hnm : nf ≤ m := by omega
          have r2 := h9.c2
          rw [hnf] at r2
          have c6 := HD.out.b6.cell
          have d1 := HD.out.d1
          have hLf : ∀ n, Calls Try.prog 16 #[wp b] (w2.drewN n) fun e w' => e = .returned (.int .i64 (nf : Int)) ∧ ∃ q, w' = (w2.drewN n).drewN q := fun n => by
            have := mid_left (HD.out.below (drew_below w2 n)).mid HRl.out
            rw [hnf] at this
            exact this
          have hLn : ∀ n, Calls Try.prog 17 #[wp b] (w2.drewN n) fun e w' => e = .returned (.int .i64 ((m : Int) - (nf : Int))) ∧ ∃ q, w' = (w2.drewN n).drewN q := fun n => by
            have := mid_len (HD.out.below (drew_below w2 n)).mid HRl.out
            rw [hnf, hxl] at this
            exact this
          have hHs : ∀ n, Calls Try.prog 14 #[wp bx, .int .i64 i] (w2.drewN n) fun e w' => e = .returned (.bool (usedB (ps) i)) ∧ w' = w2.drewN n := fun n => by
            have := mid_has (HD.out.below (drew_below w2 n)).mid (by omega) i
            rw [HRl.out.has i] at this
            exact this.mono fun _ _ ⟨a, b⟩ => ⟨a, b.symm⟩
          have HLf := Lib.hid hLf
          have HLn := Lib.hid hLn
          have HG := Lib.hid (mid_get HD.out.mid i)
          have hw9 : IntKind.i64.wrap ((m : Int) - (nf : Int)) = (m : Int) - (nf : Int) := IntWalk.i64_in _ (by omega)
          have HW9 := Lib.hid hw9
          clear hLf hLn hw9 hl hul hpl hil
          cases hu : usedB (ps) i
          · have HHs := Lib.hid hHs
            rw [hu] at HHs HG
            rw [has_no hu] at HG
            obtain ⟨Ax, cx, hvx, _⟩ := row_slice h9.rx
            have r0 := h9.c0
            rw [hvx, hxl] at r0
            clear hHs hu hvx h9 hxl hnf
            go_wp2_with fail
            refine HG.out.mono ?_
            rintro e w9 ⟨rfl, rfl⟩
            clear HG
            have hw9 := HW9.out
            go_wp2_with fail
            go_quiet ((first
              | (go_at_call 14; exact Calls.quiet_of_same (HHs.out _))
              | (go_at_call 16; exact Calls.quiet_of (HLf.out _))
              | (go_at_call 17; exact Calls.quiet_of (HLn.out _))))
            rename_i nq
            have HD9 := Lib.hid (HD.out.below (drew_below w2 nq)).dh
            generalize w2.drewN nq = W9 at HD9 ⊢
            clear hw9 HLf HLn HHs r0 r2 c6 d1
            go_wp2_with fail
            go_roundw
            case rel => exact ⟨k + 1, by omega, by go_num, _, _, _, _, _, _, _, _, HRl.out, HD9.out⟩
            case measure => simp [intOf]; omega
          · have HHs := Lib.hid hHs
            rw [hu] at HHs HG
            obtain ⟨kk, hkk, rfl, hvv⟩ := used_yes hu
            obtain ⟨_, hkm⟩ := HRl.out.ult hu
            have hkX : kk < (X).length := by omega
            have hX9 := HRl.out.x kk hu
            rw [List.getElem?_eq_getElem hkX] at hX9
            rw [← Option.some.inj hX9] at HG
            obtain ⟨gx, dx, hvx, _⟩ := h9.xform (by omega)
            have h9x := h9
            rw [hvx] at h9x
            obtain ⟨x1, _⟩ := h9x.xcell hkX
            have r0 := h9.c0
            rw [hvx, hxl] at r0
            generalize (X)[kk] = y9 at HG x1
            clear hHs hu hvx h9 hxl hnf hkk hvv hX9 h9x hkX
            go_wp2_with fail
            refine HG.out.mono ?_
            rintro e w9 ⟨rfl, rfl⟩
            clear HG
            have hw9 := HW9.out
            go_wp2_with fail
            go_quiet ((first
              | (go_at_call 14; exact Calls.quiet_of_same (HHs.out _))
              | (go_at_call 16; exact Calls.quiet_of (HLf.out _))
              | (go_at_call 17; exact Calls.quiet_of (HLn.out _))))
            rename_i nq
            have HD9 := Lib.hid (HD.out.below (drew_below w2 nq)).dh
            generalize w2.drewN nq = W9 at HD9 ⊢
            clear hw9 HLf HLn HHs r0 r2 c6 d1 x1
            go_wp2_with fail
            go_roundw
            case rel => exact ⟨k + 1, by omega, by go_num, _, _, _, _, _, _, _, _, HRl.out, HD9.out⟩
            case measure => simp [intOf]; omega
        · subst hfr
          have HC := Lib.hid (dd_does HD0.out fun S h => hct _ _ S h)
          have hxl0 := HRl0.out.xl
          have hul0 := HRl0.out.ul
          have hml0 := HRl0.out.ml
          refine HC.out.mono ?_
          rintro e w1 ⟨rfl, hd1⟩
          obtain ⟨c6, d1, d2⟩ := hd1.deed
          have HC2 := Lib.hid (dd_ref hd1 fun A c h => rtake_some h x (by omega) (by omega) (by omega) (by omega))
          have HRl := Lib.hid hrel'
          clear HC HD0 hd1 hct hrel' hxl0 hul0 hml0
          go_wp2_with fail
          refine HC2.out.mono ?_
          rintro e w2 ⟨rfl, hd2⟩
          have HD := Lib.hid hd2
          clear HC2 hd2 HRl0 c6 d1 d2
          have hl := HRl.out.frlen
          have hxl := HRl.out.xl
          have hul := HRl.out.ul
          have hml := HRl.out.ml
          have hpl := HRl.out.pl
          have hil := HRl.out.inv.len
          obtain ⟨A9, c9, h9, _, _⟩ := HD.out.mid
          obtain ⟨nf, hnf⟩ : ∃ nf, (fr').length = nf := ⟨_, rfl⟩
          have hnm : nf ≤ m := by omega
          have r2 := h9.c2
          rw [hnf] at r2
          have c6 := HD.out.b6.cell
          have d1 := HD.out.d1
          have hLf : ∀ n, Calls Try.prog 16 #[wp b] (w2.drewN n) fun e w' => e = .returned (.int .i64 (nf : Int)) ∧ ∃ q, w' = (w2.drewN n).drewN q := fun n => by
            have := mid_left (HD.out.below (drew_below w2 n)).mid HRl.out
            rw [hnf] at this
            exact this
          have hLn : ∀ n, Calls Try.prog 17 #[wp b] (w2.drewN n) fun e w' => e = .returned (.int .i64 ((m : Int) - (nf : Int))) ∧ ∃ q, w' = (w2.drewN n).drewN q := fun n => by
            have := mid_len (HD.out.below (drew_below w2 n)).mid HRl.out
            rw [hnf, hxl] at this
            exact this
          have hHs : ∀ n, Calls Try.prog 14 #[wp bx, .int .i64 i] (w2.drewN n) fun e w' => e = .returned (.bool (usedB (ps') i)) ∧ w' = w2.drewN n := fun n => by
            have := mid_has (HD.out.below (drew_below w2 n)).mid (by omega) i
            rw [HRl.out.has i] at this
            exact this.mono fun _ _ ⟨a, b⟩ => ⟨a, b.symm⟩
          have HLf := Lib.hid hLf
          have HLn := Lib.hid hLn
          have HG := Lib.hid (mid_get HD.out.mid i)
          have hw9 : IntKind.i64.wrap ((m : Int) - (nf : Int)) = (m : Int) - (nf : Int) := IntWalk.i64_in _ (by omega)
          have HW9 := Lib.hid hw9
          clear hLf hLn hw9 hl hul hpl hil
          cases hu : usedB (ps') i
          · have HHs := Lib.hid hHs
            rw [hu] at HHs HG
            rw [has_no hu] at HG
            obtain ⟨Ax, cx, hvx, _⟩ := row_slice h9.rx
            have r0 := h9.c0
            rw [hvx, hxl] at r0
            clear hHs hu hvx h9 hxl hnf
            go_wp2_with fail
            refine HG.out.mono ?_
            rintro e w9 ⟨rfl, rfl⟩
            clear HG
            have hw9 := HW9.out
            go_wp2_with fail
            go_quiet ((first
              | (go_at_call 14; exact Calls.quiet_of_same (HHs.out _))
              | (go_at_call 16; exact Calls.quiet_of (HLf.out _))
              | (go_at_call 17; exact Calls.quiet_of (HLn.out _))))
            rename_i nq
            have HD9 := Lib.hid (HD.out.below (drew_below w2 nq)).dh
            generalize w2.drewN nq = W9 at HD9 ⊢
            clear hw9 HLf HLn HHs r0 r2 c6 d1
            go_wp2_with fail
            go_roundw
            case rel => exact ⟨k + 1, by omega, by go_num, _, _, _, _, _, _, _, _, HRl.out, HD9.out⟩
            case measure => simp [intOf]; omega
          · have HHs := Lib.hid hHs
            rw [hu] at HHs HG
            obtain ⟨kk, hkk, rfl, hvv⟩ := used_yes hu
            obtain ⟨_, hkm⟩ := HRl.out.ult hu
            have hkX : kk < (X.set o x).length := by omega
            have hX9 := HRl.out.x kk hu
            rw [List.getElem?_eq_getElem hkX] at hX9
            rw [← Option.some.inj hX9] at HG
            obtain ⟨gx, dx, hvx, _⟩ := h9.xform (by omega)
            have h9x := h9
            rw [hvx] at h9x
            obtain ⟨x1, _⟩ := h9x.xcell hkX
            have r0 := h9.c0
            rw [hvx, hxl] at r0
            generalize (X.set o x)[kk] = y9 at HG x1
            clear hHs hu hvx h9 hxl hnf hkk hvv hX9 h9x hkX
            go_wp2_with fail
            refine HG.out.mono ?_
            rintro e w9 ⟨rfl, rfl⟩
            clear HG
            have hw9 := HW9.out
            go_wp2_with fail
            go_quiet ((first
              | (go_at_call 14; exact Calls.quiet_of_same (HHs.out _))
              | (go_at_call 16; exact Calls.quiet_of (HLf.out _))
              | (go_at_call 17; exact Calls.quiet_of (HLn.out _))))
            rename_i nq
            have HD9 := Lib.hid (HD.out.below (drew_below w2 nq)).dh
            generalize w2.drewN nq = W9 at HD9 ⊢
            clear hw9 HLf HLn HHs r0 r2 c6 d1 x1
            go_wp2_with fail
            go_roundw
            case rel => exact ⟨k + 1, by omega, by go_num, _, _, _, _, _, _, _, _, HRl.out, HD9.out⟩
            case measure => simp [intOf]; omega
      · have hk0b : (kd == 0) = false := by simpa using hk0
        clear hk0
        by_cases hk1 : kd = 1
        · subst hk1
          go_wp2_with fail
          have hp0 := HD0.out.below (drew1_below _)
          have hp1 := HD0.out
          clear c0 c1 c2
          generalize wr.alloc (.cells #[.int .i64 1, .int .i64 i, .int .i64 x] 29) = W0 at HD0 hp0 hp1 ⊢
          generalize wr.heap.size = Bd at HD0 hp0 hp1 ⊢
          obtain ⟨c6, d1, d2⟩ := hp1.deed
          go_region_held3 (fun w' => w'.cell? ⟨B6, 0, none⟩ = some (wp bx) ∧ w'.cell? ⟨Bd, 1, none⟩ = some (.int .i64 i) ∧ w'.cell? ⟨Bd, 2, none⟩ = some (.int .i64 x)) (first | exact Dd.deed (by assumption)) (first | (go_at_call 11; ((with_reducible refine (dd_free (by assumption) HRl0.out i rfl).mono ?_); rintro e w1 ⟨rfl, hq1⟩)) | (go_at_call 12; ((with_reducible refine (dd_drop (by assumption) HRl0.out i rfl).mono ?_); rintro e w2 ⟨rfl, hq2⟩)))
          have HD := Lib.hid hq2
          obtain ⟨us', hrl'⟩ := HRl0.out.drop i
          have HRl := Lib.hid hrl'
          clear hp0 hp1 c6 d1 d2 hq1 hq2 HD0 HRl0 hrl'
          generalize freeP ps i = ps1 at HD HRl
          generalize freeF ps fs i = fs1 at HD HRl
          generalize dropX U X i = X1 at HD HRl
          generalize dropU U i = U1 at HD HRl
          generalize dropF U fr i = fr1 at HD HRl
          have hl := HRl.out.frlen
          have hxl := HRl.out.xl
          have hul := HRl.out.ul
          have hml := HRl.out.ml
          have hpl := HRl.out.pl
          have hil := HRl.out.inv.len
          obtain ⟨A9, c9, h9, _, _⟩ := HD.out.mid
          obtain ⟨nf, hnf⟩ : ∃ nf, (fr1).length = nf := ⟨_, rfl⟩
          have hnm : nf ≤ m := by omega
          have r2 := h9.c2
          rw [hnf] at r2
          have c6 := HD.out.b6.cell
          have d1 := HD.out.d1
          have hLf : ∀ n, Calls Try.prog 16 #[wp b] (w2.drewN n) fun e w' => e = .returned (.int .i64 (nf : Int)) ∧ ∃ q, w' = (w2.drewN n).drewN q := fun n => by
            have := mid_left (HD.out.below (drew_below w2 n)).mid HRl.out
            rw [hnf] at this
            exact this
          have hLn : ∀ n, Calls Try.prog 17 #[wp b] (w2.drewN n) fun e w' => e = .returned (.int .i64 ((m : Int) - (nf : Int))) ∧ ∃ q, w' = (w2.drewN n).drewN q := fun n => by
            have := mid_len (HD.out.below (drew_below w2 n)).mid HRl.out
            rw [hnf, hxl] at this
            exact this
          have hHs : ∀ n, Calls Try.prog 14 #[wp bx, .int .i64 i] (w2.drewN n) fun e w' => e = .returned (.bool (usedB (ps1) i)) ∧ w' = w2.drewN n := fun n => by
            have := mid_has (HD.out.below (drew_below w2 n)).mid (by omega) i
            rw [HRl.out.has i] at this
            exact this.mono fun _ _ ⟨a, b⟩ => ⟨a, b.symm⟩
          have HLf := Lib.hid hLf
          have HLn := Lib.hid hLn
          have HG := Lib.hid (mid_get HD.out.mid i)
          have hw9 : IntKind.i64.wrap ((m : Int) - (nf : Int)) = (m : Int) - (nf : Int) := IntWalk.i64_in _ (by omega)
          have HW9 := Lib.hid hw9
          clear hLf hLn hw9 hl hul hpl hil
          cases hu : usedB (ps1) i
          · have HHs := Lib.hid hHs
            rw [hu] at HHs HG
            rw [has_no hu] at HG
            obtain ⟨Ax, cx, hvx, _⟩ := row_slice h9.rx
            have r0 := h9.c0
            rw [hvx, hxl] at r0
            clear hHs hu hvx h9 hxl hnf
            go_wp2_with fail
            refine HG.out.mono ?_
            rintro e w9 ⟨rfl, rfl⟩
            clear HG
            have hw9 := HW9.out
            go_wp2_with fail
            go_quiet ((first
              | (go_at_call 14; exact Calls.quiet_of_same (HHs.out _))
              | (go_at_call 16; exact Calls.quiet_of (HLf.out _))
              | (go_at_call 17; exact Calls.quiet_of (HLn.out _))))
            rename_i nq
            have HD9 := Lib.hid (HD.out.below (drew_below w2 nq)).dh
            generalize w2.drewN nq = W9 at HD9 ⊢
            clear hw9 HLf HLn HHs r0 r2 c6 d1
            go_wp2_with fail
            go_roundw
            case rel => exact ⟨k + 1, by omega, by go_num, _, _, _, _, _, _, _, _, HRl.out, HD9.out⟩
            case measure => simp [intOf]; omega
          · have HHs := Lib.hid hHs
            rw [hu] at HHs HG
            obtain ⟨kk, hkk, rfl, hvv⟩ := used_yes hu
            obtain ⟨_, hkm⟩ := HRl.out.ult hu
            have hkX : kk < (X1).length := by omega
            have hX9 := HRl.out.x kk hu
            rw [List.getElem?_eq_getElem hkX] at hX9
            rw [← Option.some.inj hX9] at HG
            obtain ⟨gx, dx, hvx, _⟩ := h9.xform (by omega)
            have h9x := h9
            rw [hvx] at h9x
            obtain ⟨x1, _⟩ := h9x.xcell hkX
            have r0 := h9.c0
            rw [hvx, hxl] at r0
            generalize (X1)[kk] = y9 at HG x1
            clear hHs hu hvx h9 hxl hnf hkk hvv hX9 h9x hkX
            go_wp2_with fail
            refine HG.out.mono ?_
            rintro e w9 ⟨rfl, rfl⟩
            clear HG
            have hw9 := HW9.out
            go_wp2_with fail
            go_quiet ((first
              | (go_at_call 14; exact Calls.quiet_of_same (HHs.out _))
              | (go_at_call 16; exact Calls.quiet_of (HLf.out _))
              | (go_at_call 17; exact Calls.quiet_of (HLn.out _))))
            rename_i nq
            have HD9 := Lib.hid (HD.out.below (drew_below w2 nq)).dh
            generalize w2.drewN nq = W9 at HD9 ⊢
            clear hw9 HLf HLn HHs r0 r2 c6 d1 x1
            go_wp2_with fail
            go_roundw
            case rel => exact ⟨k + 1, by omega, by go_num, _, _, _, _, _, _, _, _, HRl.out, HD9.out⟩
            case measure => simp [intOf]; omega
        · have hk1b : (kd == 1) = false := by simpa using hk1
          clear hk1
          go_wp2_with fail
          have hp0 := HD0.out.below (drew1_below _)
          have hp1 := HD0.out
          clear c0 c1 c2
          generalize wr.alloc (.cells #[.int .i64 kd, .int .i64 i, .int .i64 x] 29) = W0 at HD0 hp0 hp1 ⊢
          generalize wr.heap.size = Bd at HD0 hp0 hp1 ⊢
          obtain ⟨c6, d1, d2⟩ := hp1.deed
          go_region_held3 (fun w' => w'.cell? ⟨B6, 0, none⟩ = some (wp bx) ∧ w'.cell? ⟨Bd, 1, none⟩ = some (.int .i64 i) ∧ w'.cell? ⟨Bd, 2, none⟩ = some (.int .i64 x)) (first | exact Dd.deed (by assumption)) (first | (go_at_call 13; ((with_reducible refine (dd_set (by assumption) i x rfl rfl).mono ?_); rintro e w1 ⟨rfl, hq1⟩)) | (go_at_call 14; ((with_reducible refine (dd_has (by assumption) HRl0.out i rfl).mono ?_); rintro e w2 ⟨rfl, hq2⟩)))
          have HQ2 := Lib.hid hq2
          obtain ⟨c6', d1', d2'⟩ := hq2.deed
          have HC3 := Lib.hid (dd_has hq2 HRl0.out i rfl)
          clear hp0 hp1 c6 d1 d2 hq1 hq2 HD0
          cases hu0 : usedB ps i
          · rw [hu0] at HC3
            have e0 : setP ps i x = ps := by unfold setP; rw [hu0]; rfl
            rw [e0] at HQ2 HC3
            clear e0 hu0
            go_wp2_with fail
            refine HC3.out.mono ?_
            rintro e w3 ⟨rfl, hd3⟩
            have HD := Lib.hid hd3
            have HRl := Lib.hid HRl0.out
            clear HC3 HQ2 hd3 HRl0 c6' d1' d2'
            have hl := HRl.out.frlen
            have hxl := HRl.out.xl
            have hul := HRl.out.ul
            have hml := HRl.out.ml
            have hpl := HRl.out.pl
            have hil := HRl.out.inv.len
            obtain ⟨A9, c9, h9, _, _⟩ := HD.out.mid
            obtain ⟨nf, hnf⟩ : ∃ nf, (fr).length = nf := ⟨_, rfl⟩
            have hnm : nf ≤ m := by omega
            have r2 := h9.c2
            rw [hnf] at r2
            have c6 := HD.out.b6.cell
            have d1 := HD.out.d1
            have hLf : ∀ n, Calls Try.prog 16 #[wp b] (w3.drewN n) fun e w' => e = .returned (.int .i64 (nf : Int)) ∧ ∃ q, w' = (w3.drewN n).drewN q := fun n => by
              have := mid_left (HD.out.below (drew_below w3 n)).mid HRl.out
              rw [hnf] at this
              exact this
            have hLn : ∀ n, Calls Try.prog 17 #[wp b] (w3.drewN n) fun e w' => e = .returned (.int .i64 ((m : Int) - (nf : Int))) ∧ ∃ q, w' = (w3.drewN n).drewN q := fun n => by
              have := mid_len (HD.out.below (drew_below w3 n)).mid HRl.out
              rw [hnf, hxl] at this
              exact this
            have hHs : ∀ n, Calls Try.prog 14 #[wp bx, .int .i64 i] (w3.drewN n) fun e w' => e = .returned (.bool (usedB (ps) i)) ∧ w' = w3.drewN n := fun n => by
              have := mid_has (HD.out.below (drew_below w3 n)).mid (by omega) i
              rw [HRl.out.has i] at this
              exact this.mono fun _ _ ⟨a, b⟩ => ⟨a, b.symm⟩
            have HLf := Lib.hid hLf
            have HLn := Lib.hid hLn
            have HG := Lib.hid (mid_get HD.out.mid i)
            have hw9 : IntKind.i64.wrap ((m : Int) - (nf : Int)) = (m : Int) - (nf : Int) := IntWalk.i64_in _ (by omega)
            have HW9 := Lib.hid hw9
            clear hLf hLn hw9 hl hul hpl hil
            cases hu : usedB (ps) i
            · have HHs := Lib.hid hHs
              rw [hu] at HHs HG
              rw [has_no hu] at HG
              obtain ⟨Ax, cx, hvx, _⟩ := row_slice h9.rx
              have r0 := h9.c0
              rw [hvx, hxl] at r0
              clear hHs hu hvx h9 hxl hnf
              go_wp2_with fail
              refine HG.out.mono ?_
              rintro e w9 ⟨rfl, rfl⟩
              clear HG
              have hw9 := HW9.out
              go_wp2_with fail
              go_quiet ((first
                | (go_at_call 14; exact Calls.quiet_of_same (HHs.out _))
                | (go_at_call 16; exact Calls.quiet_of (HLf.out _))
                | (go_at_call 17; exact Calls.quiet_of (HLn.out _))))
              rename_i nq
              have HD9 := Lib.hid (HD.out.below (drew_below w3 nq)).dh
              generalize w3.drewN nq = W9 at HD9 ⊢
              clear hw9 HLf HLn HHs r0 r2 c6 d1
              go_wp2_with fail
              go_roundw
              case rel => exact ⟨k + 1, by omega, by go_num, _, _, _, _, _, _, _, _, HRl.out, HD9.out⟩
              case measure => simp [intOf]; omega
            · have HHs := Lib.hid hHs
              rw [hu] at HHs HG
              obtain ⟨kk, hkk, rfl, hvv⟩ := used_yes hu
              obtain ⟨_, hkm⟩ := HRl.out.ult hu
              have hkX : kk < (X).length := by omega
              have hX9 := HRl.out.x kk hu
              rw [List.getElem?_eq_getElem hkX] at hX9
              rw [← Option.some.inj hX9] at HG
              obtain ⟨gx, dx, hvx, _⟩ := h9.xform (by omega)
              have h9x := h9
              rw [hvx] at h9x
              obtain ⟨x1, _⟩ := h9x.xcell hkX
              have r0 := h9.c0
              rw [hvx, hxl] at r0
              generalize (X)[kk] = y9 at HG x1
              clear hHs hu hvx h9 hxl hnf hkk hvv hX9 h9x hkX
              go_wp2_with fail
              refine HG.out.mono ?_
              rintro e w9 ⟨rfl, rfl⟩
              clear HG
              have hw9 := HW9.out
              go_wp2_with fail
              go_quiet ((first
                | (go_at_call 14; exact Calls.quiet_of_same (HHs.out _))
                | (go_at_call 16; exact Calls.quiet_of (HLf.out _))
                | (go_at_call 17; exact Calls.quiet_of (HLn.out _))))
              rename_i nq
              have HD9 := Lib.hid (HD.out.below (drew_below w3 nq)).dh
              generalize w3.drewN nq = W9 at HD9 ⊢
              clear hw9 HLf HLn HHs r0 r2 c6 d1 x1
              go_wp2_with fail
              go_roundw
              case rel => exact ⟨k + 1, by omega, by go_num, _, _, _, _, _, _, _, _, HRl.out, HD9.out⟩
              case measure => simp [intOf]; omega
          · rw [hu0] at HC3
            obtain ⟨kk0, hkk0, rfl, -⟩ := used_yes hu0
            obtain ⟨hkp0, hkm0⟩ := HRl0.out.ult hu0
            have HKP := Lib.hid hkp0
            clear hkp0
            have e0 : setP ps (kk0 : Int) x = ps.set kk0 (x, true) := by unfold setP; rw [hu0]; simp
            rw [e0] at HQ2 HC3
            have hrl' := HRl0.out.set hu0 x
            have hxl0 := HRl0.out.xl
            have hml0 := HRl0.out.ml
            clear e0 hu0
            go_wp2_with fail
            refine HC3.out.mono ?_
            rintro e w3 ⟨rfl, hd3⟩
            clear c6' d1' d2' HC3 HQ2
            obtain ⟨A8, c8, h8, _, _⟩ := hd3.mid
            obtain ⟨gx, dx, rfl, hbgx, hgx⟩ := h8.xform (by omega)
            obtain ⟨x1, x2⟩ := h8.xcell (j := kk0) (by omega)
            have r0 := h8.c0
            rw [hxl0] at r0
            obtain ⟨c6, d1, d2⟩ := hd3.deed
            have HDX := Lib.hid (dd_setx (o := kk0) (y := x) (hd3.below (drew1_below w3)))
            have x1' : w3.drew.cell? ⟨gx, kk0, none⟩ = some (.int .i64 (X[kk0]'(by omega))) := x1
            have x2' : w3.drew.frozen? ⟨gx, kk0, none⟩ = false := x2
            generalize X[kk0]'(by omega) = y0 at x1 x1'
            have X1 := Lib.hid x1'
            have X2 := Lib.hid x2'
            have HRl := Lib.hid hrl'
            clear hd3 h8 hrl' hxl0 HRl0 hkk0 x1' x2'
            go_wp2_with fail
            go_still_tail 9, (by kernel_rfl)
            clear c6 d1 d2 r0 x1 x2
            change wpList _ _ _ _ _ w3.drew
            generalize w3.drew = w4 at HDX X1 X2 ⊢
            have x1 := X1.out
            have x2 := X2.out
            go_upto_region 20 with fail
            generalize w4.setCell ⟨gx, kk0, none⟩ (.int .i64 x) = W5 at HDX ⊢
            clear x1 x2 X1 X2
            have HD := Lib.hid HDX.out
            clear HDX
            have hl := HRl.out.frlen
            have hxl := HRl.out.xl
            have hul := HRl.out.ul
            have hml := HRl.out.ml
            have hpl := HRl.out.pl
            have hil := HRl.out.inv.len
            obtain ⟨A9, c9, h9, _, _⟩ := HD.out.mid
            obtain ⟨nf, hnf⟩ : ∃ nf, (fr).length = nf := ⟨_, rfl⟩
            have hnm : nf ≤ m := by omega
            have r2 := h9.c2
            rw [hnf] at r2
            have c6 := HD.out.b6.cell
            have d1 := HD.out.d1
            have hLf : ∀ n, Calls Try.prog 16 #[wp b] (W5.drewN n) fun e w' => e = .returned (.int .i64 (nf : Int)) ∧ ∃ q, w' = (W5.drewN n).drewN q := fun n => by
              have := mid_left (HD.out.below (drew_below W5 n)).mid HRl.out
              rw [hnf] at this
              exact this
            have hLn : ∀ n, Calls Try.prog 17 #[wp b] (W5.drewN n) fun e w' => e = .returned (.int .i64 ((m : Int) - (nf : Int))) ∧ ∃ q, w' = (W5.drewN n).drewN q := fun n => by
              have := mid_len (HD.out.below (drew_below W5 n)).mid HRl.out
              rw [hnf, hxl] at this
              exact this
            have hHs : ∀ n, Calls Try.prog 14 #[wp bx, .int .i64 (kk0 : Int)] (W5.drewN n) fun e w' => e = .returned (.bool (usedB (ps.set kk0 (x, true)) (kk0 : Int))) ∧ w' = W5.drewN n := fun n => by
              have := mid_has (HD.out.below (drew_below W5 n)).mid (by omega) (kk0 : Int)
              rw [HRl.out.has (kk0 : Int)] at this
              exact this.mono fun _ _ ⟨a, b⟩ => ⟨a, b.symm⟩
            have HLf := Lib.hid hLf
            have HLn := Lib.hid hLn
            have HG := Lib.hid (mid_get HD.out.mid (kk0 : Int))
            have hw9 : IntKind.i64.wrap ((m : Int) - (nf : Int)) = (m : Int) - (nf : Int) := IntWalk.i64_in _ (by omega)
            have HW9 := Lib.hid hw9
            clear hLf hLn hw9 hl hul hpl hil
            have hu : usedB (ps.set kk0 (x, true)) (kk0 : Int) = true := by
              rw [used_at (by rw [List.length_set]; exact HKP.out)]
              simp
            have HHs := Lib.hid hHs
            rw [hu] at HHs HG
            obtain ⟨_, hkm⟩ := HRl.out.ult hu
            have hkX : kk0 < (X.set kk0 x).length := by omega
            have hX9 := HRl.out.x kk0 hu
            rw [List.getElem?_eq_getElem hkX] at hX9
            rw [← Option.some.inj hX9] at HG
            obtain ⟨gx, dx, hvx, _⟩ := h9.xform (by omega)
            have h9x := h9
            rw [hvx] at h9x
            obtain ⟨x1, _⟩ := h9x.xcell hkX
            have r0 := h9.c0
            rw [hvx, hxl] at r0
            generalize (X.set kk0 x)[kk0] = y9 at HG x1
            clear hHs hu hvx h9 hxl hnf hX9 h9x hkX
            go_wp2_with fail
            refine HG.out.mono ?_
            rintro e w9 ⟨rfl, rfl⟩
            clear HG
            have hw9 := HW9.out
            go_wp2_with fail
            go_quiet ((first
              | (go_at_call 14; exact Calls.quiet_of_same (HHs.out _))
              | (go_at_call 16; exact Calls.quiet_of (HLf.out _))
              | (go_at_call 17; exact Calls.quiet_of (HLn.out _))))
            rename_i nq
            have HD9 := Lib.hid (HD.out.below (drew_below W5 nq)).dh
            generalize W5.drewN nq = W9 at HD9 ⊢
            clear hw9 HLf HLn HHs r0 r2 c6 d1 x1
            go_wp2_with fail
            go_roundw
            case rel => exact ⟨k + 1, by omega, by go_num, _, _, _, _, _, _, _, _, HRl.out, HD9.out⟩
            case measure => simp [intOf]; omega
    · obtain rfl : k = L := by omega
      clear hlt hk I
      have HB16 := Lib.hid (box_below wr (.cells #[.int .i64 (-1)] 3))
      go_wp2_with fail
      have hdh4 : Mid w (wr.alloc (.cells #[.int .i64 (-1)] 3)) b bx xv uv (fun k => k = B4 ∨ k = B6) m ps fs X U fr := HDh.out.mid.below HB16.out
      have hb4 := HDh.out.b4.alloc (.cells #[.int .i64 (-1)] 3)
      have hb6 := HDh.out.b6.alloc (.cells #[.int .i64 (-1)] 3)
      have hb16 := Boxed.new wr 3 (.int .i64 (-1))
      have hn4 := HDh.out.b4.lt
      have hn6 := HDh.out.b6.lt
      have hnw := HDh.out.mid.bel.size
      have href : ∃ A c fr, RefAt (wr.alloc (.cells #[.int .i64 (-1)] 3)) bx xv uv A c X U fr ∧ ¬ OfRef bx xv uv A wr.heap.size := by
        obtain ⟨A, c, h1, _, _⟩ := HDh.out.mid
        exact ⟨A, c, fr, h1.below HB16.out, fun hr => Nat.lt_irrefl _ (h1.lt hr).2⟩
      have hbl := hdh4.bel
      have htl := mid_tells hdh4
      have hul := HRl0.out.pl
      have hml := HRl0.out.ml
      generalize wr.alloc (.cells #[.int .i64 (-1)] 3) = w5 at hdh4 hb4 hb6 hb16 href hbl htl ⊢
      generalize wr.heap.size = B16 at hb16 hn4 hn6 hnw href ⊢
      have hlen : (usedL ps).length ≤ 5000 := Nat.le_trans (usedN_length _ _) (by omega)
      refine (used_any htl hlen).mono ?_
      rintro e w6 ⟨vn, vt, rfl, hcol⟩
      have hb := hcol.bel
      have hlast : Last w w6 bx B4 B6 B16 xv uv X U (-1) := by
        obtain ⟨A, c, fr', h1, h2⟩ := href
        exact ⟨(hb.block _ hb4.lt).trans hb4, (hb.block _ hb6.lt).trans hb6, (hb.block _ hb16.lt).trans hb16, ⟨A, c, fr', h1.below hb, h2⟩, hbl.trans (hb.mono hbl.size)⟩
      have h16 := hb16.lt
      have HLast := Lib.hid hlast
      have HCol := Lib.hid hcol
      clear hdh4 hb4 hb6 hb16 href hbl htl hb hlast hcol HB16 HDh hul hml
      generalize w5.heap.size = n0 at HCol h16 ⊢
      go_wp2_with fail
      refine (wpIn_wide (n := 9)).1 ?_
      have hz6 := HLast.out.bel.size
      refine wp_range (α := Told) (encs := encT) (xs := usedL ps) (S := OfCol n0 vn vt) rfl (enters_of Try.func21 (by kernel_rfl) rfl) (seq_tells HCol.out hlen) (fun k hk => (HCol.out.lt hk).2) (fun _ => rfl)
        (LastI w bx B4 B6 B16 xv uv X U) (fun _ _ _ => False)
        (fun pre x a' W => LastI w bx B4 B6 B16 xv uv X U pre W ∧ a' = { tmps := #[Value.int IntKind.i64 n, Value.slice A k c, undef, undef, Value.pointer (some ⟨B4, 0, none⟩), wp b, Value.pointer (some ⟨B6, 0, none⟩), undef, u8, u9, u10, u11, u12, u13, u14, u15, Value.pointer (some ⟨B16, 0, none⟩), .int .i64 (x.1 : Int), .int .i64 x.2, Value.bool true, Value.bool false, Value.slice A k c, Value.int IntKind.i64 (k : Int), Value.bool false, Value.bool false, Value.int IntKind.i64 n, Value.bool false, Value.bool false, Value.int IntKind.i64 n, wp b, Value.int IntKind.i64 n, wp bx, Value.slice A k c, Value.int IntKind.i64 (k : Int), Value.int IntKind.i64 (k : Int), Value.bool false, u36, u37, u38, u39, u40, u41, u42, u43, u44, u45, u46, u47, u48, u49, u50, u51, u52, u53, u54, u55, u56, u57, u58, u59, u60, u61, u62, u63, u64, u65, u66, u67, u68, u69, u70, u71, u72, u73, u74, u75, u76, u77, u78, u79, u80, u81, u82, u83, u84, u85, u86, u87, u88, u89, u90, u91, u92, u93, u94, u95, u96, u97, u98, u99, u100, u101, u102, u103, u104, u105, u106, u107, u108, u109, u110, u111, u112, u113, u114, u115, u116, u117, u118, u119, u120, u121, u122, u123, u124, u125, u126, u127, u128, u129, u130, u131, u132, u133, u134, u135, u136, u137, u138, u139, u140, u141, u142, u143, u144, u145, u146, u147, u148, u149, u150, u151, u152, u153, u154, u155, u156, u157, u158, u159, u160, u161, u162, u163, u164, u165, wp b, Value.func (Fn.func 21) #[] #[wp n0, wp (n0 + 1)], .int .i64 (x.1 : Int), .int .i64 x.2, undef, undef, undef, undef, undef, undef, undef, undef, undef, undef, undef, undef, undef, undef, undef, undef, undef, undef, undef, undef, undef], defers := [] })
        ?hI ?hIx ?hA HLast.out ?assign ?body ?done ?stop
      case hI => exact fun _ => LastI.abides hz6
      case hIx => exact fun _ _ _ _ h _ => h
      case hA =>
        rintro s x a' W W' ⟨h1, h6⟩ t
        exact ⟨LastI.abides hz6 _ _ h1 t, h6⟩
      case assign =>
        rintro l pre x W hi
        have HI := Lib.hid hi
        clear hi
        gi_wp2
        exact ⟨KeepsFrom.refl _ _, Keeps.refl _ _, HI.out, by trivial⟩
      case body =>
        rintro l pre x post a' W hx ⟨hl, rfl⟩
        obtain ⟨f1, f2, f3, f4⟩ := told_facts HRl0.out hx
        have HL := Lib.hid hl
        have q6 := hl.b6.cell
        have q16 := hl.b16.cell
        have r16 := hl.b16.frozen
        obtain ⟨A8, c8, fr8, h8, _⟩ := hl.ref
        have hxl := HRl0.out.xl
        have hul := HRl0.out.ul
        have hml := HRl0.out.ml
        obtain ⟨gx, dx, hvx, _⟩ := h8.xform (by omega)
        have h8x := h8
        rw [hvx] at h8x
        have hkX : x.1 < X.length := by omega
        rw [List.getElem?_eq_getElem hkX] at f3
        obtain ⟨x1, _⟩ := h8x.xcell hkX
        rw [Option.some.inj f3] at x1
        have r0 := h8.c0
        rw [hvx, hxl] at r0
        have HC := Lib.hid (rhas_any h8 (by omega) (x.1 : Int))
        rw [f2] at HC
        have d0 : decide ((x.1 : Int) ≤ lastOf pre) = false := by simp; omega
        have g0 : ¬ ((x.1 : Int) ≤ lastOf pre) := by omega
        have hkm : x.1 < m := f4
        clear f1 f2 f3 hx h8x h8 hvx hkX hxl hul hl
        generalize lastOf pre = lp at q16 HL d0 g0 ⊢
        gi_wp2_with (refine ⟨trivial, ?_⟩; gi_at_call 14; refine (callsIn_round HC.out).mono ?_; rintro e w' ⟨rfl, rfl⟩)
        have hl2 : Last w W bx B4 B6 B16 xv uv X U (lastOf pre) := HL.out
        refine ⟨keeps_set _ _ _ _, ⟨by simp [World.setCell], fun j hj => Below.heap_setCell W ⟨B16, 0, none⟩ _ j (fun e => ?_)⟩, ?_⟩
        · have e' : j = B16 := e
          have := (HCol.out.lt hj).1
          omega
        · show Last w _ bx B4 B6 B16 xv uv X U (lastOf (pre ++ [x]))
          rw [last_snoc]
          exact hl2.next _ (by omega) (by omega) hnw
      case done =>
        rintro D W hD hl hd
        have hl2 : Last w W bx B4 B6 B16 xv uv X U (lastOf (usedL ps)) := hl
        have q4 := hl2.b4.cell
        have r4 := hl2.b4.frozen
        have HD := Lib.hid hd
        have HL2 := Lib.hid hl2
        clear hl hl2 hd
        go_wp2_with fail
        have hd2 := (keeps_set 0 W ⟨B4, 0, none⟩ (.bool true)).same D _ (Nat.zero_le _) HD.out rfl
        have hb2 : Boxed (W.setCell ⟨B4, 0, none⟩ (.bool true)) B4 4 (.bool true) := HL2.out.b4.set _
        have hbl2 : Below w.heap.size w (W.setCell ⟨B4, 0, none⟩ (.bool true)) := HL2.out.bel.setCell (p := ⟨B4, 0, none⟩) (by rw [HB4.out]; exact Nat.le_refl _) _
        generalize W.setCell ⟨B4, 0, none⟩ (.bool true) = W4 at hd2 hb2 hbl2 ⊢
        refine ⟨by simp, .inl ⟨_, _, rfl, run_takeDeferred hd2, ?_⟩⟩
        have hb3 := Abides.boxed 0 _ _ _ _ _ hb2 (Turn.put (B := 0) (.deferred none) (Nat.zero_le _) hd2 rfl)
        refine ⟨.bool true, ?_, rfl, put_below hbl2 (by omega) hd2 _⟩
        simp [results, Try.f3, go_sem, hb3.cell]
      case stop =>
        rintro D c pre post W _ _ h _
        exact h.elim
theorem does_walk (n : Int) (A : Option Addr) (L c : Nat) (w : World) (hm : L ≤ maxLen) (hin : InD w A L) :
    Calls Try.prog 3 #[.int .i64 n, .slice A L c] w fun e w' => e = .returned (.bool true) ∧ Below w.heap.size w w' := by
  by_cases h : 40 < L
  · exact does_long n A L c w (.inl h) hm
  · by_cases h2 : 100 < n
    · exact does_long n A L c w (.inr h2) hm
    · exact does_short n A L c w h h2 hin
end Go.Proofs.Ytdfkjojofhleaaa
