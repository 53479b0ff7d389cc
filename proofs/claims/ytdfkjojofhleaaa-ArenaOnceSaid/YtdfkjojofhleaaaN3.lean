/- The walk of the law that a place that was taken is nobody else's. -/
import Derived.Test.YtdfkjojofhleaaaN2
import Derived.Test.YtdfkjojofhleaaaD3
import Derived.Lib.AppendZeros
import Derived.Carry
namespace Go.Proofs.Ytdfkjojofhleaaa
open Go Go.RowKit Go.Shelf
attribute [local go_sem] Oper.semAt_some

theorem block_add (a : Addr) (n : Nat) : (a.add n).block = a.block := by unfold Addr.add; split <;> rfl
/-- a list of bools that came in -/
def InB (w : World) (A : Option Addr) (L : Nat) : Prop := ∀ i, i < L → ∃ ad t, A = some ad ∧ ad.block < w.heap.size ∧ w.cell? (ad.add i) = some (.bool t)
theorem InB.at {w w' : World} {A : Option Addr} {L i : Nat} (h : InB w A L) (hb : Below w.heap.size w w') (hi : i < L) : ∃ ad t, A = some ad ∧ w'.cell? (ad.add i) = some (.bool t) := by
  obtain ⟨ad, t, h1, h2, h3⟩ := h i hi
  exact ⟨ad, t, h1, by rw [hb.cell (p := ad.add i) (by rw [block_add]; exact h2)]; exact h3⟩
theorem once_long (n : Int) (A : Option Addr) (L c : Nat) (w : World) (h : 60 < L ∨ 100 < n) (hm : L ≤ maxLen) :
    Calls Try.prog 4 #[.int .i64 n, .slice A L c] w fun e w' => e = .returned (.bool true) ∧ Below w.heap.size w w' := by
  unfold maxLen at hm
  by_cases h1 : 60 < L
  · have h2 : (60 : Int) < (L : Int) := by omega
    have h3 : decide ((60 : Int) < (L : Int)) = true := by simp; omega
    clear h
    set_option maxRecDepth 100000 in
    go_enter Try.func4, Try.ntmps4
    go_wp2_with fail
    refine (awake_any _).mono ?_
    rintro e w1 ⟨rfl, hb1⟩
    go_wp2_with fail
    go_ret
    exact ⟨rfl, hb1⟩
  · have h2 : ¬ (60 : Int) < (L : Int) := by omega
    have h3 : 100 < n := by omega
    have h4 : decide ((60 : Int) < (L : Int)) = false := by simp; omega
    have h5 : decide (100 < n) = true := by simpa using h3
    clear h
    set_option maxRecDepth 100000 in
    go_enter Try.func4, Try.ntmps4
    go_wp2_with fail
    refine (awake_any _).mono ?_
    rintro e w1 ⟨rfl, hb1⟩
    go_wp2_with fail
    go_ret
    exact ⟨rfl, hb1⟩
theorem st_len {w W : World} {b bm m c n : Nat} {A : Option Addr} {ps : List Pl} {fs us : List Nat} (h : St w W b bm m A c ps fs us n) :
    Calls Try.prog 17 #[wp b] W fun e w' => e = .returned (.int .i64 (us.length : Int)) ∧ ∃ k, w' = W.drewN k := by
  have hl := h.inv.len
  have := one_len h.one
  rw [show (ps.length : Int) - (fs.length : Int) = (us.length : Int) by omega] at this
  exact this
theorem st_left {w W : World} {b bm m c n : Nat} {A : Option Addr} {ps : List Pl} {fs us : List Nat} (h : St w W b bm m A c ps fs us n) : ∃ lf : Nat, us.length + lf = m ∧
    Calls Try.prog 16 #[wp b] W fun e w' => e = .returned (.int .i64 (lf : Int)) ∧ ∃ k, w' = W.drewN k := by
  have hl := h.inv.len
  have hb := h.one.bounds
  have := one_left h.one
  rw [show (m : Int) - ((ps.length : Int) - (fs.length : Int)) = ((m - us.length : Nat) : Int) by omega] at this
  exact ⟨_, by omega, this⟩
theorem cl_max {n : Int} (h : ¬ 100 < n) : (if 0 > n then 0 else n) = (cl n : Int) := by
  unfold cl
  by_cases h0 : n < 0
  · rw [if_pos h0, if_pos h0]; rfl
  · rw [if_neg h0, if_neg h0, if_neg (by omega)]; omega
/-- a counter in a box -/
def NoneI (w w5 : World) (B : Nat) (W : World) : Prop := Boxed W B 3 (.int .i64 0) ∧ Below w.heap.size w W ∧ w5.heap.size ≤ W.heap.size
theorem NoneI.abides {w w5 : World} {B C : Nat} (h : w.heap.size ≤ C) : Abides C (NoneI w w5 B) := by
  rintro W W' ⟨h1, h2, h3⟩ t
  exact ⟨Abides.boxed _ _ _ _ _ _ h1 t, t.below h2 h (Nat.le_refl _), Nat.le_trans h3 t.size⟩
set_option maxHeartbeats 8000000 in
set_option maxRecDepth 100000 in
theorem once_short (n : Int) (A : Option Addr) (L c : Nat) (w : World) (h : ¬ 60 < L) (h' : ¬ 100 < n) (hin : InB w A L) :
    Calls Try.prog 4 #[.int .i64 n, .slice A L c] w fun e w' => e = .returned (.bool true) ∧ Below w.heap.size w w' := by
  have I := Lib.hid hin
  clear hin
  have hL : ¬ (60 : Int) < (L : Int) := by omega
  have hLd : decide ((60 : Int) < (L : Int)) = false := by simp; omega
  have hNd : decide (100 < n) = false := by simpa using h'
  have hmax : ∀ ts ty W, (Builtin.max_ ts ty #[.int .i64 n, .int .i64 0]).run Try.prog W = .ok (.int .i64 (cl n : Int)) W := fun ts ty W => by rw [← cl_max h']; exact run_max_int2 _ _ _ _ _ _ _
  have HM := Lib.hid hmax
  clear hmax
  refine (callsIn_wide (n := 9)).1 ?_
  refine callsIn_of_wp_marks Try.func4 rfl trivial ?_ rfl
  simp only [Try.ntmps4, List.size_toArray, List.length_cons, List.length_nil, Nat.reduceAdd, Nat.reduceSub, Array.replicate_succ, Array.replicate_zero, List.push_toArray, List.append_toArray, List.nil_append, List.cons_append]
  refine wpIn_wide.2 ?_
  go_wp2_with fail
  refine (awake_any _).mono ?_
  rintro e w1 ⟨rfl, hb1⟩
  go_wp2_with fail
  refine (one_new n w w1 hb1).mono ?_
  rintro e w2 ⟨rfl, ho2, _⟩
  have hmm := @run_makeMap Try.prog
  generalize w1.heap.size = b at ho2 ⊢
  have hSt : St w (w2.alloc (.map #[] 0)) b w2.heap.size (cl n) none 0 [] [] [] 0 := by
    refine ⟨Inv.start, MapAt.made w2, Qu.nilq _ _, ho2.turn (OnlyS.of_below (S := fun _ => False) (box_below w2 _)) (fun _ h => h.elim) (fun k hk => ?_)⟩
    rcases hk with rfl | ⟨a, ha, _⟩
    · exact ⟨.inr (Nat.le_refl _), by simp⟩
    · cases ha
  have HSt := Lib.hid hSt
  clear hSt ho2 hb1
  go_wp2_with fail
  clear hmm
  generalize w2.heap.size = bm at HSt ⊢
  generalize w2.alloc (.map #[] 0) = w3 at HSt ⊢
  generalize cl n = m at HSt HM ⊢
  go_loopw [7, 32] (fun s t wr => ∃ (k nm : Nat) (A' : Option Addr) (c' : Nat) (ps : List Pl) (fs us : List Nat), k ≤ L ∧ nm ≤ k ∧ us.length ≤ k ∧ t = .int .i64 k ∧ s = .slice A' us.length c' ∧ St w wr b bm m A' c' ps fs us nm) (fun _ t _ => L - (intOf t).toNat)
  case atStart => exact ⟨0, 0, none, 0, [], [], [], by omega, by omega, by simp, rfl, rfl, HSt.out⟩
  case round =>
    obtain ⟨k, nm, A', c', ps, fs, us, hk, hnm, hus, rfl, rfl, hst⟩ := hrel
    have HS := Lib.hid hst
    clear hst HSt
    by_cases hlt : k < L
    · obtain ⟨ad, t, rfl, ct⟩ := I.out.at HS.out.one.bel hlt
      have hmle := HS.out.one.bounds.2.2
      cases t
      · cases us with
        | nil =>
          go_wp2_with fail
          refine (st_len HS.out).mono ?_
          rintro e w5 ⟨rfl, j5, rfl⟩
          have HS5 := Lib.hid (HS.out.below (drew_below wr j5))
          generalize wr.drewN j5 = w5 at HS5 ⊢
          clear HS
          obtain ⟨u, hu⟩ : ∃ u, ([] : List Nat).length = u := ⟨_, rfl⟩
          have hlen := fun ty => HS5.out.map.len ty
          rw [hu] at hlen
          have hu61 : u ≤ k + 1 := by rw [← hu]; first | omega | (simp; omega) | simp
          rw [hu]
          have HU := Lib.hid hu
          clear hu
          go_wp2_with fail
          clear hlen
          have HC5 := Lib.hid (st_len HS5.out)
          rw [HU.out] at HC5
          refine HC5.out.mono ?_
          rintro e w6 ⟨rfl, j6, rfl⟩
          have HS6 := Lib.hid (HS5.out.below (drew_below w5 j6))
          generalize w5.drewN j6 = w6 at HS6 ⊢
          clear HC5 HS5
          go_wp2_with fail
          obtain ⟨lf, hlf, hcl⟩ := st_left HS6.out
          have HCL := Lib.hid hcl
          rw [HU.out] at hlf
          have hsum : ((u : Int) + (lf : Int) != (m : Int)) = false := by simp; omega
          have hlf2 : lf ≤ 4096 := by omega
          clear hcl hlf
          refine HCL.out.mono ?_
          rintro e w7 ⟨rfl, j7, rfl⟩
          have HS7 := Lib.hid (HS6.out.below (drew_below w6 j7))
          generalize w6.drewN j7 = w7 at HS7 ⊢
          clear HCL HS6
          have hmax := HM.out
          go_wp2_with fail
          clear hmax hsum
          go_roundw
          case rel => exact ⟨k + 1, nm, A', c', ps, fs, [], by omega, by omega, by rw [HU.out]; omega, by go_num, by rw [HU.out], HS7.out⟩
          case measure => simp [intOf]; omega
        | cons o us =>
          obtain ⟨hinv, hnu, hlo⟩ := HS.out.inv.gone
          obtain ⟨g, off, rfl, hc0⟩ := HS.out.qu.cell (i := 0) (by simp)
          have hc0' : wr.cell? ⟨g, off, none⟩ = some (.int .i64 (o : Int)) := by simpa using hc0
          have hcap := HS.out.qu.cap
          have hroom := HS.out.qu.room
          unfold maxLen at hroom
          have HC := Lib.hid (one_free HS.out.one HS.out.inv)
          obtain ⟨u0, hu0⟩ : ∃ u0, us.length = u0 := ⟨_, rfl⟩
          have e0 : (o :: us).length = u0 + 1 := by simp [hu0]
          rw [e0] at hcap hus
          rw [e0]
          have HU0 := Lib.hid hu0
          have HI := Lib.hid hinv
          clear hc0 hu0 e0 hinv hnu
          go_wp2_with fail
          refine HC.out.mono ?_
          rintro e w4 ⟨rfl, ho4, hk4⟩
          have hc4 : w4.cell? ⟨g, off, none⟩ = some (.int .i64 (o : Int)) := (World.cell?_of_block (w := wr) (a := ⟨g, off, none⟩) (hk4.block g (.inr ⟨_, rfl, rfl⟩))).trans hc0'
          have HC2 := Lib.hid (one_unfree ho4 hlo)
          have HK4 := Lib.hid hk4
          clear HC hc0' hk4 ho4
          go_wp2_with fail
          refine HC2.out.mono ?_
          rintro e w5 ⟨rfl, ho5, hk5⟩
          have hc5 : w5.cell? ⟨g, off, none⟩ = some (.int .i64 (o : Int)) := (World.cell?_of_block (w := w4) (a := ⟨g, off, none⟩) (hk5.block g (.inr ⟨_, rfl, rfl⟩))).trans hc4
          obtain ⟨w8, hdel, hst8⟩ := HS.out.less ho5 (HK4.out.trans hk5) HI.out
          have HS8 := Lib.hid hst8
          clear HC2 hc4 ho5 hk5 HK4 HS HI hst8
          by_cases hc1 : c' = 1
          · subst hc1
            obtain rfl : u0 = 0 := by omega
            go_wp2_with fail
            clear hdel hc5
            refine (st_len HS8.out).mono ?_
            rintro e w5 ⟨rfl, j5, rfl⟩
            have HS5 := Lib.hid (HS8.out.below (drew_below w8 j5))
            generalize w8.drewN j5 = w5 at HS5 ⊢
            clear HS8
            obtain ⟨u, hu⟩ : ∃ u, (us).length = u := ⟨_, rfl⟩
            have hlen := fun ty => HS5.out.map.len ty
            rw [hu] at hlen
            have hu61 : u ≤ k + 1 := by rw [← hu, HU0.out]; omega
            rw [hu]
            have HU := Lib.hid hu
            clear hu
            go_wp2_with fail
            clear hlen
            have HC5 := Lib.hid (st_len HS5.out)
            rw [HU.out] at HC5
            refine HC5.out.mono ?_
            rintro e w6 ⟨rfl, j6, rfl⟩
            have HS6 := Lib.hid (HS5.out.below (drew_below w5 j6))
            generalize w5.drewN j6 = w6 at HS6 ⊢
            clear HC5 HS5
            go_wp2_with fail
            obtain ⟨lf, hlf, hcl⟩ := st_left HS6.out
            have HCL := Lib.hid hcl
            rw [HU.out] at hlf
            have hsum : ((u : Int) + (lf : Int) != (m : Int)) = false := by simp; omega
            have hlf2 : lf ≤ 4096 := by omega
            clear hcl hlf
            refine HCL.out.mono ?_
            rintro e w7 ⟨rfl, j7, rfl⟩
            have HS7 := Lib.hid (HS6.out.below (drew_below w6 j7))
            generalize w6.drewN j7 = w7 at HS7 ⊢
            clear HCL HS6
            have hmax := HM.out
            go_wp2_with fail
            clear hmax hsum
            go_roundw
            case rel => exact ⟨k + 1, nm, (tailA (some ⟨g, off, none⟩) 1), (1 - 1), (ps.set o (0, false)), (fs ++ [o]), us, by omega, by omega, by rw [HU.out]; omega, by go_num, by rw [HU0.out]; rfl, HS7.out⟩
            case measure => simp [intOf]; omega
          · have HC1 := Lib.hid hc1
            have hc2 : ¬ c' = 1 := hc1
            go_wp2_with fail
            clear hdel hc5
            refine (st_len HS8.out).mono ?_
            rintro e w5 ⟨rfl, j5, rfl⟩
            have HS5 := Lib.hid (HS8.out.below (drew_below w8 j5))
            generalize w8.drewN j5 = w5 at HS5 ⊢
            clear HS8
            obtain ⟨u, hu⟩ : ∃ u, (us).length = u := ⟨_, rfl⟩
            have hlen := fun ty => HS5.out.map.len ty
            rw [hu] at hlen
            have hu61 : u ≤ k + 1 := by rw [← hu, HU0.out]; omega
            rw [hu]
            have HU := Lib.hid hu
            clear hu
            go_wp2_with fail
            clear hlen
            have HC5 := Lib.hid (st_len HS5.out)
            rw [HU.out] at HC5
            refine HC5.out.mono ?_
            rintro e w6 ⟨rfl, j6, rfl⟩
            have HS6 := Lib.hid (HS5.out.below (drew_below w5 j6))
            generalize w5.drewN j6 = w6 at HS6 ⊢
            clear HC5 HS5
            go_wp2_with fail
            obtain ⟨lf, hlf, hcl⟩ := st_left HS6.out
            have HCL := Lib.hid hcl
            rw [HU.out] at hlf
            have hsum : ((u : Int) + (lf : Int) != (m : Int)) = false := by simp; omega
            have hlf2 : lf ≤ 4096 := by omega
            clear hcl hlf
            refine HCL.out.mono ?_
            rintro e w7 ⟨rfl, j7, rfl⟩
            have HS7 := Lib.hid (HS6.out.below (drew_below w6 j7))
            generalize w6.drewN j7 = w7 at HS7 ⊢
            clear HCL HS6
            have hmax := HM.out
            go_wp2_with fail
            clear hmax hsum
            go_roundw
            case rel => exact ⟨k + 1, nm, (tailA (some ⟨g, off, none⟩) c'), (c' - 1), (ps.set o (0, false)), (fs ++ [o]), us, by omega, by omega, by rw [HU.out]; omega, by go_num, by rw [HU0.out]; simp [tailA, HC1.out], HS7.out⟩
            case measure => simp [intOf]; omega
      · rcases one_take HS.out.one HS.out.inv (k : Int) with ⟨hfull, hc⟩ | ⟨q, ps', fs', hq, hq2, hinv, hc⟩
        · have HC := Lib.hid hc
          have HF := Lib.hid hfull
          clear hc hfull
          go_wp2_with fail
          refine HC.out.mono ?_
          rintro e w4 ⟨rfl, ho4, hk4⟩
          have HS4 := Lib.hid (HS.out.same ho4 hk4)
          have hlen := fun ty => HS4.out.map.len ty
          rw [HF.out] at hlen
          have hmax := HM.out
          clear ho4 hk4 HC HS
          go_wp2_with fail
          clear hlen hmax
          refine (st_len HS4.out).mono ?_
          rintro e w5 ⟨rfl, j5, rfl⟩
          have HS5 := Lib.hid (HS4.out.below (drew_below w4 j5))
          generalize w4.drewN j5 = w5 at HS5 ⊢
          clear HS4
          obtain ⟨u, hu⟩ : ∃ u, (us).length = u := ⟨_, rfl⟩
          have hlen := fun ty => HS5.out.map.len ty
          rw [hu] at hlen
          have hu61 : u ≤ k + 1 := by rw [← hu]; first | omega | (simp; omega) | simp
          rw [hu]
          have HU := Lib.hid hu
          clear hu
          go_wp2_with fail
          clear hlen
          have HC5 := Lib.hid (st_len HS5.out)
          rw [HU.out] at HC5
          refine HC5.out.mono ?_
          rintro e w6 ⟨rfl, j6, rfl⟩
          have HS6 := Lib.hid (HS5.out.below (drew_below w5 j6))
          generalize w5.drewN j6 = w6 at HS6 ⊢
          clear HC5 HS5
          go_wp2_with fail
          obtain ⟨lf, hlf, hcl⟩ := st_left HS6.out
          have HCL := Lib.hid hcl
          rw [HU.out] at hlf
          have hsum : ((u : Int) + (lf : Int) != (m : Int)) = false := by simp; omega
          have hlf2 : lf ≤ 4096 := by omega
          clear hcl hlf
          refine HCL.out.mono ?_
          rintro e w7 ⟨rfl, j7, rfl⟩
          have HS7 := Lib.hid (HS6.out.below (drew_below w6 j7))
          generalize w6.drewN j7 = w7 at HS7 ⊢
          clear HCL HS6
          have hmax := HM.out
          go_wp2_with fail
          clear hmax hsum
          go_roundw
          case rel => exact ⟨k + 1, nm, A', c', ps, fs, us, by omega, by omega, by rw [HU.out]; omega, by go_num, by rw [HU.out], HS7.out⟩
          case measure => simp [intOf]; omega
        · have HC := Lib.hid hc
          have HQ := Lib.hid hq
          have HI := Lib.hid hinv
          have hus2 : us.length ≤ 1000 := by omega
          clear hc hq hinv
          go_wp2_with fail
          refine HC.out.mono ?_
          rintro e w4 ⟨rfl, ho4, hk4⟩
          obtain ⟨w5, hput, happ⟩ := HS.out.more ho4 hk4 HI.out HQ.out hq2 (by omega) hus2
          have hlook := (HS.out.map.keep (hk4.block bm (.inl rfl))).look hq2
          rw [decide_eq_false HQ.out] at hlook
          obtain ⟨A2, c2, w8, hr, hst8⟩ := happ 34
          have HS8 := Lib.hid hst8
          obtain ⟨u0, hu0⟩ : ∃ u0, us.length = u0 := ⟨_, rfl⟩
          rw [hu0] at hr
          have HU0 := Lib.hid hu0
          have HR := Lib.hid hr
          rw [hu0]
          clear ho4 hk4 HC HS HQ HI happ hst8 hr hu0
          go_wp2_with (at_builtin; refine Lib.wpList_append_run _ rfl _ _ 34 34 rfl _ _ rfl rfl _ _ HR.out ?_)
          clear hput hlook HR
          refine (st_len HS8.out).mono ?_
          rintro e w5 ⟨rfl, j5, rfl⟩
          have HS5 := Lib.hid (HS8.out.below (drew_below w8 j5))
          generalize w8.drewN j5 = w5 at HS5 ⊢
          clear HS8
          obtain ⟨u, hu⟩ : ∃ u, (us ++ [q]).length = u := ⟨_, rfl⟩
          have hlen := fun ty => HS5.out.map.len ty
          rw [hu] at hlen
          have hu61 : u ≤ k + 1 := by rw [← hu]; first | omega | (simp; omega) | simp
          rw [hu]
          have HU := Lib.hid hu
          clear hu
          go_wp2_with fail
          clear hlen
          have HC5 := Lib.hid (st_len HS5.out)
          rw [HU.out] at HC5
          refine HC5.out.mono ?_
          rintro e w6 ⟨rfl, j6, rfl⟩
          have HS6 := Lib.hid (HS5.out.below (drew_below w5 j6))
          generalize w5.drewN j6 = w6 at HS6 ⊢
          clear HC5 HS5
          go_wp2_with fail
          obtain ⟨lf, hlf, hcl⟩ := st_left HS6.out
          have HCL := Lib.hid hcl
          rw [HU.out] at hlf
          have hsum : ((u : Int) + (lf : Int) != (m : Int)) = false := by simp; omega
          have hlf2 : lf ≤ 4096 := by omega
          clear hcl hlf
          refine HCL.out.mono ?_
          rintro e w7 ⟨rfl, j7, rfl⟩
          have HS7 := Lib.hid (HS6.out.below (drew_below w6 j7))
          generalize w6.drewN j7 = w7 at HS7 ⊢
          clear HCL HS6
          have hmax := HM.out
          go_wp2_with fail
          clear hmax hsum
          go_roundw
          case rel => exact ⟨k + 1, nm + 1, A2, c2, ps', fs', us ++ [q], by omega, by omega, by rw [HU.out]; omega, by go_num, by rw [List.length_append, HU0.out]; rfl, HS7.out⟩
          case measure => simp [intOf]; omega
    · obtain rfl : k = L := by omega
      have HB := Lib.hid HS.out.one.bel
      clear HS hlt hk hnm hus HM I
      go_wp2_with fail
      refine (take_none _ 1).mono ?_
      rintro e w4 ⟨rfl, rfl⟩
      go_wp2_with fail
      refine (get_none _ 0).mono ?_
      rintro e w4 ⟨rfl, rfl⟩
      go_wp2_with fail
      have hbox := Boxed.new wr 3 (.int .i64 0)
      have hb4 := HB.out.alloc HB.out.size (.cells #[.int .i64 0] 3)
      generalize wr.heap.size = Bk at hbox ⊢
      generalize wr.alloc (.cells #[.int .i64 0] 3) = w4 at hbox hb4 ⊢
      refine (used_any (none_tells w4) (by simp)).mono ?_
      rintro e w5 ⟨vn, vt, rfl, hcol⟩
      have hbox5 : Boxed w5 Bk 3 (.int .i64 0) := (hcol.bel.block _ hbox.lt).trans hbox
      have hb5 : Below w.heap.size w w5 := hb4.trans (hcol.bel.mono hb4.size)
      have HCol := Lib.hid hcol
      have HBox := Lib.hid hbox5
      have HB5 := Lib.hid hb5
      have hz5 := hb5.size
      generalize w4.heap.size = n0 at HCol ⊢
      clear hcol hbox hb4 HB hb5 hbox5
      go_wp2_with fail
      refine (wpIn_wide (n := 9)).1 ?_
      refine wp_range (α := Told) (encs := encT) (xs := []) (S := OfCol n0 vn vt) rfl (enters_of Try.func21 (by kernel_rfl) rfl) (seq_tells HCol.out (by simp)) (fun k hk => (HCol.out.lt hk).2) (fun _ => rfl)
        (fun _ W => NoneI w w5 Bk W) (fun _ _ _ => False) (fun _ _ _ W => NoneI w w5 Bk W) ?hI ?hIx ?hA ⟨HBox.out, HB5.out, Nat.le_refl _⟩ ?assign ?body ?done ?stop
      case hI => exact fun _ => NoneI.abides HB5.out.size
      case hIx => exact fun _ _ _ _ h _ => h
      case hA => exact fun _ _ _ => NoneI.abides HB5.out.size
      case assign =>
        rintro l pre x W hi
        have HI := Lib.hid hi
        clear hi
        gi_wp2
        exact ⟨KeepsFrom.refl _ _, Keeps.refl _ _, HI.out⟩
      case body =>
        rintro l pre x post a' W hx _
        simp at hx
      case stop =>
        rintro D c pre post W _ _ h _
        exact h.elim
      case done =>
        rintro D W hD ⟨hbx, hbl, _⟩ hd
        have c0 := hbx.cell
        have HD := Lib.hid hd
        have HBl := Lib.hid hbl
        clear hbx hd hbl HBox HB5 HCol
        go_wp2_with fail
        go_quiet ((first
          | (go_at_call 11; exact Calls.quiet_of_same ((free_none _ _).mono fun _ _ ⟨a, b⟩ => ⟨a, b.symm⟩))
          | (go_at_call 13; exact Calls.quiet_of_same ((set_none _ _ _).mono fun _ _ ⟨a, b⟩ => ⟨a, b.symm⟩))
          | (go_at_call 17; exact Calls.quiet_of_same ((len_none _).mono fun _ _ ⟨a, b⟩ => ⟨a, b.symm⟩))
          | (go_at_call 16; exact Calls.quiet_of_same ((left_none _).mono fun _ _ ⟨a, b⟩ => ⟨a, b.symm⟩))))
        rename_i nq
        have hd2 : (W.drewN nq).heap[D]? = some (.deferred (some [])) := HD.out
        have hb2 : Below w.heap.size w (W.drewN nq) := ⟨HBl.out.os, HBl.out.tape, HBl.out.output, HBl.out.size, HBl.out.block⟩
        have HD2 := Lib.hid hd2
        have HB2 := Lib.hid hb2
        generalize W.drewN nq = W9 at HD2 HB2 ⊢
        clear hd2 hb2 HD HBl c0
        go_wp2_with fail
        refine ⟨by simp, .inl ⟨_, _, rfl, run_takeDeferred HD2.out, ?_⟩⟩
        exact ⟨_, results_tmp rfl _ _ _, rfl, put_below HB2.out (by omega) HD2.out _⟩
theorem once_walk (n : Int) (A : Option Addr) (L c : Nat) (w : World) (hm : L ≤ maxLen) (hin : InB w A L) :
    Calls Try.prog 4 #[.int .i64 n, .slice A L c] w fun e w' => e = .returned (.bool true) ∧ Below w.heap.size w w' := by
  by_cases h : 60 < L
  · exact once_long n A L c w (.inl h) hm
  · by_cases h2 : 100 < n
    · exact once_long n A L c w (.inr h2) hm
    · exact once_short n A L c w h h2 hin
end Go.Proofs.Ytdfkjojofhleaaa
