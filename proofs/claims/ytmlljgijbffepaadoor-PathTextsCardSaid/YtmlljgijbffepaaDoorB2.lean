/- The walk of the law on texts. -/
import Derived.Test.YtmlljgijbffepaaDoorB1
import Derived.Test.YtmlljgijbffepaaDoorD4
import Derived.Test.YtmlljgijbffepaaDoorM3
namespace Go.Proofs.YtmlljgijbffepaaDoor
open Go Go.RowKit

theorem parseV_form (l : List UInt8) : ∃ a b c d e t : Int, parseV l = .tuple #[Pt.v ⟨a, b, c, d, e⟩, .int .i64 t] := by
  unfold parseV; split
  · exact ⟨_, _, _, _, _, _, rfl⟩
  · exact ⟨_, _, _, _, _, _, rfl⟩
theorem makeV_form (l : List Int) : ∃ a b c d e t : Int, makeV l = .tuple #[Pt.v ⟨a, b, c, d, e⟩, .int .i64 t] := by
  unfold makeV; split
  · exact ⟨_, _, _, _, _, _, rfl⟩
  · exact ⟨_, _, _, _, _, _, rfl⟩
set_option maxHeartbeats 1000000 in
theorem rparse_zero (s : ByteArray) (w : World) (hs : s.size = 0) :
    Calls Tryd.prog 7 #[.string s] w fun e w' => e = .returned (rparseV s.data.toList) ∧ Below w.heap.size w w' := by
  have he : s.data.toList = [] := List.length_eq_zero_iff.1 (Array.length_toList.trans hs)
  have hemp : (s.toList == []) = true := by rw [ByteArray.toList_eq, he]; rfl
  rw [he, rparse_empty]
  clear he hs
  go_enter Tryd.func7, Tryd.ntmps7
  go_wp2
  exact bodyPost_ret (v := .tuple #[Pt.v ⟨0, 0, 0, 0, 0⟩, .int .i64 4]) (by simp [results, Tryd.results7, go_sem]) rfl ⟨rfl, below_pair _ _ _⟩
theorem rparse_is {s : ByteArray} {v : Value} (h : parseV s.data.toList = v) (hs : s.size ≤ 100) (w : World) :
    Calls Tryd.prog 7 #[.string s] w fun e w' => e = .returned v ∧ Below w.heap.size w w' := by
  rw [← h, ← reading_same]
  by_cases h0 : s.size = 0
  · exact rparse_zero s w h0
  · exact rparse_any s w hs (by omega)
theorem make_is {A : Option Addr} {n c : Nat} {zs : List Int} {v : Value} {w : World} (h : makeV zs = v) (hi : Inp w A n c zs) (hn : n ≤ 20) : Calls Tryd.prog 8 #[.slice A n c] w fun e w' => e = .returned v ∧ Below w.heap.size w w' := by
  subst h; exact make_any A n c zs w hi hn
theorem rmake_is {A : Option Addr} {n c : Nat} {zs : List Int} {v : Value} {w : World} (h : makeV zs = v) (hi : Inp w A n c zs) (hn : n ≤ 20) : Calls Tryd.prog 9 #[.slice A n c] w fun e w' => e = .returned v ∧ Below w.heap.size w w' := by
  subst h; exact rmake_any A n c zs w hi hn
theorem Inp.later {w w' : World} {A : Option Addr} {n c : Nat} {zs : List Int} (h : Inp w A n c zs) (hb : Below w.heap.size w w') : Inp w' A n c zs :=
  ⟨h.1, h.2.imp id fun ⟨ad, e, hc⟩ => ⟨ad, e, hc.later hb⟩⟩
theorem rtext_g {w : World} {p : Pt} {l : List UInt8} (h : textP p = l) : Gives w 13 #[p.v] (.string ⟨l.toArray⟩) := by
  subst h; exact Gives.of (rtext_any p)

set_option maxHeartbeats 2000000 in
theorem texts_long (p : Pt) (s : ByteArray) (A : Option Addr) (n c : Nat) (w : World) (hs : s.size ≤ maxLen) (hn : n ≤ maxLen) (h : 100 < s.size ∨ 20 < n) :
    Calls Tryd.prog 3 #[p.v, .string s, .slice A n c] w fun e w' => e = .returned (.bool true) ∧ Below w.heap.size w w' := by
  obtain ⟨a, b, c', d, e⟩ := p
  unfold maxLen at hs hn
  by_cases h1 : 100 < s.size
  · have h1' : (100 : Int) < (s.size : Int) := by omega
    clear h h1
    go_enter Tryd.func3, Tryd.ntmps3
    go_wp2_with fail
    refine (awake_any _).mono ?_
    rintro g1 w1 ⟨rfl, hb1⟩
    go_wp2_with fail
    go_ret
    exact ⟨rfl, below_box hb1⟩
  · have h1' : ¬ (100 : Int) < (s.size : Int) := by omega
    have h2' : (20 : Int) < (n : Int) := by omega
    clear h h1
    go_enter Tryd.func3, Tryd.ntmps3
    go_wp2_with fail
    refine (awake_any _).mono ?_
    rintro g1 w1 ⟨rfl, hb1⟩
    go_wp2_with fail
    go_ret
    exact ⟨rfl, below_box hb1⟩

set_option maxHeartbeats 8000000 in
set_option maxRecDepth 100000 in
theorem texts_short (p : Pt) (s : ByteArray) (A : Option Addr) (n c : Nat) (zs : List Int) (w : World) (ht : Tab w) (hs : s.size ≤ 100) (hn : n ≤ 20) (hi : Inp w A n c zs) :
    Calls Tryd.prog 3 #[p.v, .string s, .slice A n c] w fun e w' => e = .returned (.bool true) ∧ Below w.heap.size w w' := by
  obtain ⟨r0, r1, r2, r3, r4, t1, hq⟩ := parseV_form s.data.toList
  obtain ⟨m0, m1, m2, m3, m4, t2, hm⟩ := makeV_form zs
  obtain ⟨rb, hrb⟩ : ∃ b, rightB p = b := ⟨_, rfl⟩
  obtain ⟨l, hl⟩ : ∃ l, textP p = l := ⟨_, rfl⟩
  have HQ := Lib.hid hq; have HM := Lib.hid hm; have HRB := Lib.hid hrb; have HL := Lib.hid hl; have HT := Lib.hid ht; have HI := Lib.hid hi
  have er : eqP ⟨r0, r1, r2, r3, r4⟩ ⟨r0, r1, r2, r3, r4⟩ = true := eqP_self _
  have em : eqP ⟨m0, m1, m2, m3, m4⟩ ⟨m0, m1, m2, m3, m4⟩ = true := eqP_self _
  have h1' : ¬ (100 : Int) < (s.size : Int) := by omega
  have h2' : ¬ (20 : Int) < (n : Int) := by omega
  clear hq hm hrb hl ht hi
  obtain ⟨a, b, c', d, e⟩ := p
  go_enter Tryd.func3, Tryd.ntmps3
  go_wp2_with fail
  refine (awake_any _).mono ?_
  rintro g1 w1 ⟨rfl, hb1⟩
  have hp := (PtAt.new w a b c' d e).later hb1
  have hbe := below_box hb1
  clear hb1
  go_wp2_with fail
  refine (parse_is s _ _ (by unfold maxLen; omega) HQ.out).mono ?_
  rintro g2 w2 ⟨rfl, hb2⟩
  replace hp := hp.later hb2
  replace hbe := thenCall hbe hb2
  clear hb2
  go_wp2_with fail
  refine (rparse_is HQ.out hs _).mono ?_
  rintro g3 w3 ⟨rfl, hb3⟩
  replace hp := (hp.alloc _).later hb3
  have k1 := (PtAt.new w2 r0 r1 r2 r3 r4).later hb3
  replace hbe := thenBox hbe hb3
  clear hb3
  go_wp2_with fail
  refine (make_is HM.out (HI.out.later (endBox hbe _)) hn).mono ?_
  rintro g4 w4 ⟨rfl, hb4⟩
  replace hp := (hp.alloc _).later hb4
  replace k1 := (k1.alloc _).later hb4
  have k2 := (PtAt.new w3 r0 r1 r2 r3 r4).later hb4
  replace hbe := thenBox hbe hb4
  clear hb4
  go_wp2_with fail
  refine (rmake_is HM.out (HI.out.later (endBox hbe _)) hn).mono ?_
  rintro g5 w5 ⟨rfl, hb5⟩
  replace hp := ((hp.alloc _).later hb5).alloc (.cells #[.int .i64 m0, .int .i64 m1, .int .i64 m2, .int .i64 m3, .int .i64 m4] 24)
  replace k1 := ((k1.alloc _).later hb5).alloc (.cells #[.int .i64 m0, .int .i64 m1, .int .i64 m2, .int .i64 m3, .int .i64 m4] 24)
  replace k2 := ((k2.alloc _).later hb5).alloc (.cells #[.int .i64 m0, .int .i64 m1, .int .i64 m2, .int .i64 m3, .int .i64 m4] 24)
  have k3 := ((PtAt.new w4 m0 m1 m2 m3 m4).later hb5).alloc (.cells #[.int .i64 m0, .int .i64 m1, .int .i64 m2, .int .i64 m3, .int .i64 m4] 24)
  have k4 : PtAt (w5.alloc (.cells #[.int .i64 m0, .int .i64 m1, .int .i64 m2, .int .i64 m3, .int .i64 m4] 24)) w5.heap.size ⟨m0, m1, m2, m3, m4⟩ := PtAt.new w5 m0 m1 m2 m3 m4
  replace hbe := endBox (thenBox hbe hb5) (.cells #[.int .i64 m0, .int .i64 m1, .int .i64 m2, .int .i64 m3, .int .i64 m4] 24)
  clear hb5
  go_wp2_with fail
  generalize w5.alloc (.cells #[.int .i64 m0, .int .i64 m1, .int .i64 m2, .int .i64 m3, .int .i64 m4] 24) = W at hp k1 k2 k3 k4 hbe ⊢
  obtain ⟨p0, p1, p2, p3, p4, pl⟩ := hp
  obtain ⟨q0, q1, q2, q3, q4, ql⟩ := k1
  obtain ⟨s0, s1, s2, s3, s4, sl⟩ := k2
  obtain ⟨u0, u1, u2, u3, u4, ul⟩ := k3
  obtain ⟨v0, v1, v2, v3, v4, vl⟩ := k4
  have g10 : Gives W 10 #[Pt.v ⟨a, b, c', d, e⟩] (.bool rb) := may_g HRB.out
  have g11 : Gives W 11 #[Pt.v ⟨a, b, c', d, e⟩] (.bool rb) := rright_g HRB.out
  have g12 : Gives W 12 #[Pt.v ⟨a, b, c', d, e⟩] (.string ⟨l.toArray⟩) := text_g (HT.out.on hbe) HL.out
  have g13 : Gives W 13 #[Pt.v ⟨a, b, c', d, e⟩] (.string ⟨l.toArray⟩) := rtext_g HL.out
  cases rb
  all_goals
    refine wp_region_later W (by kernel_rfl) (by kernel_rfl) (Below.refl _ _) ?_
    repeat (go_big_quiet_step (((first | go_at_call 10 | go_at_call 11 | go_at_call 12 | go_at_call 13); exact Gives.later (by with_reducible assumption))))
    refine wpQuiet_nil ?_
    rintro _ ⟨⟨w9, hb9⟩, rfl⟩
    go_wp2
    go_ret
    exact ⟨rfl, thenCall hbe hb9⟩
theorem texts_walk (p : Pt) (s : ByteArray) (A : Option Addr) (n c : Nat) (zs : List Int) (w : World) (ht : Tab w) (hs : s.size ≤ maxLen) (hn : n ≤ maxLen) (hi : Inp w A n c zs) :
    Calls Tryd.prog 3 #[p.v, .string s, .slice A n c] w fun e w' => e = .returned (.bool true) ∧ Below w.heap.size w w' := by
  by_cases h : 100 < s.size ∨ 20 < n
  · exact texts_long p s A n c w hs hn h
  · exact texts_short p s A n c zs w ht (by omega) (by omega) hi
end Go.Proofs.YtmlljgijbffepaaDoor
