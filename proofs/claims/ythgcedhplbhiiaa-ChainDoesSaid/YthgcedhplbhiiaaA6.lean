/- The places of a row, told one by one; List and Len. -/
import Derived.Test.YthgcedhplbhiiaaA5
import Derived.Deep.AppendLies
import Derived.OwnWalk
namespace Go.Proofs.Ythgcedhplbhiiaa
open Go Go.RowKit

/-- jumps, with a number that falls -/
theorem least {p : Nat → Prop} (h : ∃ n, p n) : ∃ n, p n ∧ ∀ m, p m → n ≤ m := by
  obtain ⟨n, hn⟩ := h
  induction n using Nat.strongRecOn with
  | _ n ih =>
    by_cases hm : ∃ m, m < n ∧ p m
    · obtain ⟨m, h1, h2⟩ := hm
      exact ih m h1 h2
    · exact ⟨n, hn, fun m hp => by
        by_cases hl : m < n
        · exact absurd ⟨m, hl, hp⟩ hm
        · omega⟩
theorem scope_ranked {P : Program} {a : Act} {w : World} {Q : Exit → Act → World → Prop} {c rest : Code} (l : Nat) (J : Nat → Act → World → Prop) (hf : findLabel c l = some (Code.skip.seq rest))
    (first : (∀ n a w, J n a w → rest.wp P (Exit.jump l (fun a w => ∃ n, J n a w) Q) a w) → c.wp P (Exit.jump l (fun a w => ∃ n, J n a w) Q) a w)
    (pass : ∀ n a w, J n a w → rest.wp P (Exit.jump l (fun a' w' => ∃ m, m < n ∧ J m a' w') Q) a w) : (Code.scope c).wp P Q a w := by
  classical
  have hp : ∀ n a w, J n a w → rest.wp P (Exit.jump l (fun a w => ∃ n, J n a w) Q) a w := fun n a w hJ => by
    refine Code.wp_mono ?_ (pass n a w hJ)
    intro e a' w' he
    cases e with
    | goto l' =>
      obtain ⟨h1, m, -, h3⟩ := he
      exact ⟨h1, m, h3⟩
    | _ => exact he
  refine wp_scope_jumps l (fun a w => ∃ n, J n a w) (fun a w => if h : ∃ n, J n a w then Classical.choose (least h) else 0) hf (first hp) ?_
  intro a w hJ
  have hs := Classical.choose_spec (least hJ)
  refine wp_seq (wp_skip ?_)
  refine Code.wp_mono ?_ (pass _ a w hs.1)
  intro e a' w' he
  cases e with
  | goto l' =>
    obtain ⟨h1, m, h2, h3⟩ := he
    refine ⟨h1, ⟨m, h3⟩, ?_⟩
    have hs' := Classical.choose_spec (least (p := fun n => J n a' w') ⟨m, h3⟩)
    have h4 := hs'.2 m h3
    simp only [dif_pos hJ, dif_pos (show ∃ n, J n a' w' from ⟨m, h3⟩)]
    omega
  | _ => exact he

theorem vOf_form (l : List Nat) : ∃ (x : Int) (is : Bool), vOf l = .tuple #[.int .i64 x, .bool is] := by cases l <;> exact ⟨_, _, rfl⟩
theorem behind_list {W : World} {b g N : Nat} {L : Nat → List Nat} {row : Int} {pre post : List Nat} {n : Nat} (h : Ln W b g N L) (hl : listOf N L row = pre ++ n :: post) : Calls Try.prog 29 #[wp b, .int .i64 (n : Int)] W fun e w' => e = .returned (vOf post) ∧ W = w' := by
  unfold listOf at hl
  cases hb : hasB N row
  · rw [hb] at hl; simp at hl
  · rw [hb] at hl
    obtain ⟨r, rfl, hr⟩ := has_yes hb
    simp only [if_true, Int.toNat_natCast] at hl
    have := h.behind (r := r) (k := pre.length) (n := n) hr (by rw [hl]; simp)
    rw [hl] at this
    have e : (pre ++ n :: post).drop (pre.length + 1) = post := by rw [List.drop_append]; simp
    rwa [e] at this

def Ej32 (b B : Nat) (row : Int) (l : List Nat) (P : List Nat → World → Prop) (n : Nat) (a' : Act) (w' : World) : Prop :=
  ∃ (pre post : List Nat) (x : Int) (is : Bool) (u3 u4 u5 u8 u9 u10 u11 u12 u13 u14 u15 u16 u17 u18 u19 u20 u21 u22 u23 u24 : Value), a' = { tmps := #[wp b, .int .i64 row, .func (.func 32) #[] #[wp B], u3, u4, u5, .int .i64 x, .bool is, u8, u9, u10, u11, u12, u13, u14, u15, u16, u17, u18, u19, u20, u21, u22, u23, u24], defers := [] } ∧ l = pre ++ post ∧ vOf post = .tuple #[.int .i64 x, .bool is] ∧ P pre w' ∧ post.length = n
theorem Ej32.mk' {b B n : Nat} {row : Int} {l : List Nat} {P : List Nat → World → Prop} {w' : World} {u3 u4 u5 u8 u9 u10 u11 u12 u13 u14 u15 u16 u17 u18 u19 u20 u21 u22 u23 u24 : Value} {x : Int} {is : Bool} (pre post : List Nat) (hl : l = pre ++ post) (hv : vOf post = .tuple #[.int .i64 x, .bool is]) (hp : P pre w') (hn : post.length = n) :
    Ej32 b B row l P n { tmps := #[wp b, .int .i64 row, .func (.func 32) #[] #[wp B], u3, u4, u5, .int .i64 x, .bool is, u8, u9, u10, u11, u12, u13, u14, u15, u16, u17, u18, u19, u20, u21, u22, u23, u24], defers := [] } w' :=
  ⟨pre, post, x, is, u3, u4, u5, u8, u9, u10, u11, u12, u13, u14, u15, u16, u17, u18, u19, u20, u21, u22, u23, u24, rfl, hl, hv, hp, hn⟩
set_option maxHeartbeats 1000000 in
theorem each32 {W : World} {b g N B : Nat} {L : Nat → List Nat} {P : List Nat → World → Prop} (row : Int) (hL : ∀ pre w1, P pre w1 → Ln w1 b g N L)
    (hP : ∀ (pre : List Nat) (n : Nat) (post : List Nat) (w1 : World), listOf N L row = pre ++ n :: post → P pre w1 → Calls Try.prog 32 #[.int .i64 (n : Int), wp B] w1 fun e w' => e = .returned (.tuple #[]) ∧ P (pre ++ [n]) w') (h0 : P [] W) :
    Calls Try.prog 31 #[wp b, .int .i64 row, .func (.func 32) #[] #[wp B]] W fun e w' => e = .returned (.tuple #[]) ∧ P (listOf N L row) w' := by
  have HL := Lib.hid hL
  have HP := Lib.hid hP
  have H0 := Lib.hid h0
  have HF := Lib.hid ((hL _ _ h0).first row)
  have HB := Lib.hid (fun (pre pre' : List Nat) (n : Nat) (post : List Nat) (w1 : World) (hl : listOf N L row = pre ++ n :: post) (hp : P pre' w1) => behind_list (hL _ _ hp) hl)
  clear hL hP h0
  generalize listOf N L row = l at *
  go_enter Try.func31, Try.ntmps31
  refine scope_ranked 0 (Ej32 b B row l P) rfl ?_ ?_
  · intro hpass
    have HQ := Lib.hid hpass
    clear hpass
    obtain ⟨x, is, hv⟩ := vOf_form l
    rw [hv] at HF
    have HV := Lib.hid hv
    clear hv
    go_wp2_with (go_at_call 17; ((with_reducible refine HF.out.mono ?_); rintro e w' ⟨rfl, rfl⟩))
    rename_i hK
    refine wp_label ?_
    refine hK _ _ ?_
    exact HQ.out _ _ _ (Ej32.mk' [] l rfl HV.out H0.out rfl)
  · rintro n a' w' ⟨pre, post, x, is, u3, u4, u5, u8, u9, u10, u11, u12, u13, u14, u15, u16, u17, u18, u19, u20, u21, u22, u23, u24, rfl, hl, hv, hp, hn⟩
    clear H0 HF
    have HLl := Lib.hid hl
    have HPp := Lib.hid hp
    have HNn := Lib.hid hn
    clear hl hp hn
    cases post with
    | nil =>
      obtain ⟨rfl, rfl⟩ : 0 = x ∧ false = is := by simpa [vOf] using hv
      clear hv HB HP HL
      go_wp2
      simp only [Exit.jump]
      refine bodyPost_ret (results_none rfl _ _ _) rfl ?_
      have := HPp.out
      have e := HLl.out
      rw [List.append_nil] at e
      rw [← e] at this
      exact ⟨rfl, this⟩
    | cons m post =>
      obtain ⟨rfl, rfl⟩ : (m : Int) = x ∧ true = is := by simpa [vOf] using hv
      have HC := Lib.hid (HP.out pre m post w' HLl.out HPp.out)
      have HD := Lib.hid (fun w1 (hp : P (pre ++ [m]) w1) => HB.out pre _ m post w1 HLl.out hp)
      obtain ⟨x', is', hv'⟩ := vOf_form post
      rw [hv'] at HD
      have HV := Lib.hid hv'
      clear hv hv' HB HP HL HPp
      go_wp2_with fail
      refine HC.out.mono ?_
      rintro e w2 ⟨rfl, hp2⟩
      have HP2 := Lib.hid hp2
      have HE := Lib.hid (HD.out w2 hp2)
      clear hp2 HC HD
      go_wp2_with (go_at_call 29; ((with_reducible refine HE.out.mono ?_); rintro e w' ⟨rfl, rfl⟩))
      go_step3
      change _ ∧ ∃ m', m' < n ∧ Ej32 b B row l P m' _ _
      have e1 := HNn.out
      simp at e1
      exact ⟨rfl, post.length, by omega, Ej32.mk' (pre ++ [m]) post (by rw [HLl.out]; simp) HV.out HP2.out rfl⟩

def Ej33 (b B : Nat) (row : Int) (l : List Nat) (P : List Nat → World → Prop) (n : Nat) (a' : Act) (w' : World) : Prop :=
  ∃ (pre post : List Nat) (x : Int) (is : Bool) (u3 u4 u5 u8 u9 u10 u11 u12 u13 u14 u15 u16 u17 u18 u19 u20 u21 u22 u23 u24 : Value), a' = { tmps := #[wp b, .int .i64 row, .func (.func 33) #[] #[wp B], u3, u4, u5, .int .i64 x, .bool is, u8, u9, u10, u11, u12, u13, u14, u15, u16, u17, u18, u19, u20, u21, u22, u23, u24], defers := [] } ∧ l = pre ++ post ∧ vOf post = .tuple #[.int .i64 x, .bool is] ∧ P pre w' ∧ post.length = n
theorem Ej33.mk' {b B n : Nat} {row : Int} {l : List Nat} {P : List Nat → World → Prop} {w' : World} {u3 u4 u5 u8 u9 u10 u11 u12 u13 u14 u15 u16 u17 u18 u19 u20 u21 u22 u23 u24 : Value} {x : Int} {is : Bool} (pre post : List Nat) (hl : l = pre ++ post) (hv : vOf post = .tuple #[.int .i64 x, .bool is]) (hp : P pre w') (hn : post.length = n) :
    Ej33 b B row l P n { tmps := #[wp b, .int .i64 row, .func (.func 33) #[] #[wp B], u3, u4, u5, .int .i64 x, .bool is, u8, u9, u10, u11, u12, u13, u14, u15, u16, u17, u18, u19, u20, u21, u22, u23, u24], defers := [] } w' :=
  ⟨pre, post, x, is, u3, u4, u5, u8, u9, u10, u11, u12, u13, u14, u15, u16, u17, u18, u19, u20, u21, u22, u23, u24, rfl, hl, hv, hp, hn⟩
set_option maxHeartbeats 1000000 in
theorem each33 {W : World} {b g N B : Nat} {L : Nat → List Nat} {P : List Nat → World → Prop} (row : Int) (hL : ∀ pre w1, P pre w1 → Ln w1 b g N L)
    (hP : ∀ (pre : List Nat) (n : Nat) (post : List Nat) (w1 : World), listOf N L row = pre ++ n :: post → P pre w1 → Calls Try.prog 33 #[.int .i64 (n : Int), wp B] w1 fun e w' => e = .returned (.tuple #[]) ∧ P (pre ++ [n]) w') (h0 : P [] W) :
    Calls Try.prog 31 #[wp b, .int .i64 row, .func (.func 33) #[] #[wp B]] W fun e w' => e = .returned (.tuple #[]) ∧ P (listOf N L row) w' := by
  have HL := Lib.hid hL
  have HP := Lib.hid hP
  have H0 := Lib.hid h0
  have HF := Lib.hid ((hL _ _ h0).first row)
  have HB := Lib.hid (fun (pre pre' : List Nat) (n : Nat) (post : List Nat) (w1 : World) (hl : listOf N L row = pre ++ n :: post) (hp : P pre' w1) => behind_list (hL _ _ hp) hl)
  clear hL hP h0
  generalize listOf N L row = l at *
  go_enter Try.func31, Try.ntmps31
  refine scope_ranked 0 (Ej33 b B row l P) rfl ?_ ?_
  · intro hpass
    have HQ := Lib.hid hpass
    clear hpass
    obtain ⟨x, is, hv⟩ := vOf_form l
    rw [hv] at HF
    have HV := Lib.hid hv
    clear hv
    go_wp2_with (go_at_call 17; ((with_reducible refine HF.out.mono ?_); rintro e w' ⟨rfl, rfl⟩))
    rename_i hK
    refine wp_label ?_
    refine hK _ _ ?_
    exact HQ.out _ _ _ (Ej33.mk' [] l rfl HV.out H0.out rfl)
  · rintro n a' w' ⟨pre, post, x, is, u3, u4, u5, u8, u9, u10, u11, u12, u13, u14, u15, u16, u17, u18, u19, u20, u21, u22, u23, u24, rfl, hl, hv, hp, hn⟩
    clear H0 HF
    have HLl := Lib.hid hl
    have HPp := Lib.hid hp
    have HNn := Lib.hid hn
    clear hl hp hn
    cases post with
    | nil =>
      obtain ⟨rfl, rfl⟩ : 0 = x ∧ false = is := by simpa [vOf] using hv
      clear hv HB HP HL
      go_wp2
      simp only [Exit.jump]
      refine bodyPost_ret (results_none rfl _ _ _) rfl ?_
      have := HPp.out
      have e := HLl.out
      rw [List.append_nil] at e
      rw [← e] at this
      exact ⟨rfl, this⟩
    | cons m post =>
      obtain ⟨rfl, rfl⟩ : (m : Int) = x ∧ true = is := by simpa [vOf] using hv
      have HC := Lib.hid (HP.out pre m post w' HLl.out HPp.out)
      have HD := Lib.hid (fun w1 (hp : P (pre ++ [m]) w1) => HB.out pre _ m post w1 HLl.out hp)
      obtain ⟨x', is', hv'⟩ := vOf_form post
      rw [hv'] at HD
      have HV := Lib.hid hv'
      clear hv hv' HB HP HL HPp
      go_wp2_with fail
      refine HC.out.mono ?_
      rintro e w2 ⟨rfl, hp2⟩
      have HP2 := Lib.hid hp2
      have HE := Lib.hid (HD.out w2 hp2)
      clear hp2 HC HD
      go_wp2_with (go_at_call 29; ((with_reducible refine HE.out.mono ?_); rintro e w' ⟨rfl, rfl⟩))
      go_step3
      change _ ∧ ∃ m', m' < n ∧ Ej33 b B row l P m' _ _
      have e1 := HNn.out
      simp at e1
      exact ⟨rfl, post.length, by omega, Ej33.mk' (pre ++ [m]) post (by rw [HLl.out]; simp) HV.out HP2.out rfl⟩

theorem firstn (W : World) (i : Int) : Calls Try.prog 17 #[.pointer none, .int .i64 i] W fun e w' => e = .returned (.tuple #[.int .i64 0, .bool false]) ∧ W = w' := by
  go_enter Try.func17, Try.ntmps17
  go_wp2_with (go_at_call 23; ((with_reducible refine (hasn_any W i).mono ?_); rintro e w' ⟨rfl, rfl⟩))
  go_ret2
  exact ⟨rfl, rfl⟩
theorem rown (W : World) (i : Int) : Calls Try.prog 15 #[.pointer none, .int .i64 i] W fun e w' => e = .returned (.tuple #[.int .i64 0, .bool false]) ∧ W = w' := by
  go_enter Try.func15, Try.ntmps15
  go_wp2_with (go_at_call 28; ((with_reducible refine (inn_any W i).mono ?_); rintro e w' ⟨rfl, rfl⟩))
  go_ret2
  exact ⟨rfl, rfl⟩
theorem nextn (W : World) (i : Int) : Calls Try.prog 19 #[.pointer none, .int .i64 i] W fun e w' => e = .returned (.tuple #[.int .i64 0, .bool false]) ∧ W = w' := by
  go_enter Try.func19, Try.ntmps19
  go_wp2_with (go_at_call 28; ((with_reducible refine (inn_any W i).mono ?_); rintro e w' ⟨rfl, rfl⟩))
  go_ret2
  exact ⟨rfl, rfl⟩
theorem backn (W : World) (r i : Int) : Calls Try.prog 9 #[.pointer none, .int .i64 r, .int .i64 i] W fun e w' => e = .returned (.bool false) ∧ W = w' := by
  go_enter Try.func9, Try.ntmps9
  go_wp2_with (go_at_call 23; ((with_reducible refine (hasn_any W r).mono ?_); rintro e w' ⟨rfl, rfl⟩))
  go_ret
  exact ⟨rfl, rfl⟩
theorem aheadn (W : World) (r j i : Int) : Calls Try.prog 11 #[.pointer none, .int .i64 r, .int .i64 j, .int .i64 i] W fun e w' => e = .returned (.bool false) ∧ W = w' := by
  go_enter Try.func11, Try.ntmps11
  go_wp2_with (go_at_call 28; ((with_reducible refine (inn_any W j).mono ?_); rintro e w' ⟨rfl, rfl⟩))
  go_ret
  exact ⟨rfl, rfl⟩
set_option maxHeartbeats 1000000 in
theorem eachn (W : World) (i : Int) (f : Value) : Calls Try.prog 31 #[.pointer none, .int .i64 i, f] W fun e w' => e = .returned (.tuple #[]) ∧ W = w' := by
  have HF := Lib.hid (firstn W i)
  go_enter Try.func31, Try.ntmps31
  refine scope_ranked 0 (fun n a' w' => ∃ (u3 u4 u5 u8 u9 u10 u11 u12 u13 u14 u15 u16 u17 u18 u19 u20 u21 u22 u23 u24 : Value), a' = { tmps := #[.pointer none, .int .i64 i, f, u3, u4, u5, .int .i64 0, .bool false, u8, u9, u10, u11, u12, u13, u14, u15, u16, u17, u18, u19, u20, u21, u22, u23, u24], defers := [] } ∧ W = w' ∧ n = 0) rfl ?_ ?_
  · intro hpass
    have HQ := Lib.hid hpass
    clear hpass
    go_wp2_with (go_at_call 17; ((with_reducible refine HF.out.mono ?_); rintro e w' ⟨rfl, rfl⟩))
    rename_i hK
    refine wp_label ?_
    refine hK _ _ ?_
    exact HQ.out _ _ _ ⟨_, _, _, _, _, _, _, _, _, _, _, _, _, _, _, _, _, _, _, _, rfl, rfl, rfl⟩
  · rintro n a' w' ⟨u3, u4, u5, u8, u9, u10, u11, u12, u13, u14, u15, u16, u17, u18, u19, u20, u21, u22, u23, u24, rfl, rfl, rfl⟩
    go_wp2
    simp only [Exit.jump]
    refine bodyPost_ret (results_none rfl _ _ _) rfl ?_
    exact ⟨rfl, rfl⟩
set_option maxHeartbeats 1000000 in
theorem lenn (W : World) (i : Int) : Calls Try.prog 22 #[.pointer none, .int .i64 i] W fun e w' => e = .returned (.int .i64 0) ∧ Below W.heap.size W w' := by
  have hb := box_below W (.cells #[.int .i64 0] 3)
  have HB := Lib.hid hb
  clear hb
  go_enter Try.func22, Try.ntmps22
  go_wp2_with (go_at_call 31; ((with_reducible refine (eachn _ _ _).mono ?_); rintro e w' ⟨rfl, rfl⟩))
  go_ret
  exact ⟨rfl, HB.out⟩
/-- the box of Len counts -/
structure Cnt (W : World) (b g N B : Nat) (L : Nat → List Nat) (pre : List Nat) (w1 : World) : Prop where
  ln : Ln w1 b g N L
  c0 : w1.cell? ⟨B, 0, none⟩ = some (.int .i64 (pre.length : Int))
  fz : w1.frozen? ⟨B, 0, none⟩ = false
  bel : Below W.heap.size W w1
  hb : W.heap.size ≤ B
  hg : b < B ∧ g < B
theorem tick {W w1 : World} {b g N B n : Nat} {L : Nat → List Nat} {pre : List Nat} (h : Cnt W b g N B L pre w1) (hp : pre.length ≤ 5000) : Calls Try.prog 33 #[.int .i64 (n : Int), wp B] w1 fun e w' => e = .returned (.tuple #[]) ∧ Cnt W b g N B L (pre ++ [n]) w' := by
  have q0 := h.c0
  have f0 := h.fz
  have HE := Lib.hid (show Cnt W b g N B L (pre ++ [n]) (w1.setCell ⟨B, 0, none⟩ (.int .i64 ((pre.length : Int) + 1))) from
    ⟨h.ln.only (OnlyS.set B 0 w1 _) (by have := h.hg; omega) (by have := h.hg; omega), by rw [cell_near h.c0]; simp, by rw [World.frozen?_setCell]; exact h.fz, h.bel.setCell (p := ⟨B, 0, none⟩) h.hb _, h.hb, h.hg⟩)
  clear h
  generalize pre.length = k at *
  go_enter Try.func33, Try.ntmps33
  go_wp2
  go_end0
  exact ⟨rfl, HE.out⟩
set_option maxHeartbeats 1000000 in
theorem Ln.len {W : World} {b g N : Nat} {L : Nat → List Nat} (h : Ln W b g N L) (row : Int) : Calls Try.prog 22 #[wp b, .int .i64 row] W fun e w' => e = .returned (.int .i64 ((listOf N L row).length : Int)) ∧ Below W.heap.size W w' := by
  have hlt := h.lt
  have hnb := h.nb
  have hlen : (listOf N L row).length ≤ N := by
    obtain ⟨_, _, _, _, _, hr⟩ := h
    exact listOf_len hr.good row
  have h0 : Cnt W b g N W.heap.size L [] (W.alloc (.cells #[.int .i64 0] 3)) := ⟨h.below (box_below _ _), by simp [go_sem], by simp [go_sem], box_below _ _, Nat.le_refl _, hlt.1, hlt.2.1⟩
  have HE := Lib.hid (each33 (B := W.heap.size) (P := Cnt W b g N W.heap.size L) row (fun _ _ h => h.ln) (fun pre n post w1 hl hp => tick hp (by rw [hl] at hlen; simp at hlen; omega)) h0)
  clear h h0 hlen hlt
  generalize listOf N L row = l at *
  go_enter Try.func22, Try.ntmps22
  go_wp2_with fail
  refine HE.out.mono ?_
  rintro e w2 ⟨rfl, hc⟩
  have q0 := hc.c0
  have HB := Lib.hid hc.bel
  clear HE hc
  go_wp2
  go_ret
  exact ⟨rfl, HB.out⟩
end Go.Proofs.Ythgcedhplbhiiaa
