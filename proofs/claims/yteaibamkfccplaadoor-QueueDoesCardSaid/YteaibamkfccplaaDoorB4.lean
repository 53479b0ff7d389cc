/- The walk of the law that whatever is asked, let go and cancelled is what the document says. -/
import Derived.Test.YteaibamkfccplaaDoorL1
namespace Go.Proofs.YteaibamkfccplaaDoor
open Go Go.RowKit Go.Shelf
noncomputable def code13 : Code := ((Tryd.f3.body.bind (regionOf 13)).getD .skip)
set_option maxHeartbeats 16000000 in
set_option maxRecDepth 1000000 in
theorem reg13 {w W : World} {b bx Bd by1 : Nat} {dd : Dd} {H H1 : List Hs.Hd} {L L1 : List Ws.Wt} {x y : Int} {Q : Exit → Act → World → Prop} {s0 s1 s2 s5 s6 s7 s11 s13 s14 s15 s16 s17 s18 s19 s20 s21 s22 s23 s24 s25 s26 s27 s28 s29 s30 s31 s32 s33 s34 s35 s36 s37 s38 s39 s40 s41 s42 s43 s44 s45 s46 s47 s48 s49 s50 s51 s52 s53 s54 s55 s56 s57 s58 s59 s60 s61 s62 s63 s64 s65 s66 s67 s68 s69 s70 s71 s72 s73 s74 s75 s76 s77 s78 s79 s80 s81 s82 s83 s84 s85 s86 s87 s88 s89 s90 s91 s92 s93 s94 s95 s96 s97 s98 s99 s100 s101 s102 s103 s104 s105 s106 s107 s108 s109 s110 s111 s112 s113 s114 s115 s116 s117 s118 s119 s120 s121 s122 s123 s124 s125 s126 s127 s128 s129 s130 s131 s132 s133 s134 s135 s136 s137 s138 s139 s140 s141 s142 s143 s144 s145 s146 s147 s148 s149 s150 s151 s152 s153 s154 s155 s156 s157 s158 s159 s160 s161 s162 s163 s164 s165 s166 s167 s168 s169 s170 s171 s172 s173 s174 s175 s176 s177 s178 s179 s180 s181 s182 s183 s184 s185 s186 s187 s188 s189 s190 s191 s192 s193 s194 s195 s196 s197 s198 s199 s200 s201 s202 s203 s204 s205 s206 s207 s208 s209 s210 s211 s212 s213 s214 s215 : Value}
    (hS : Sy w W b bx Bd dd H L H L by1 H1 L1) (hl : H.length + L.length ≤ 400) (hl1 : H1.length + L1.length ≤ 401)
    (hK : ∀ (t64 t65 t66 t67 t68 t69 t70 t71 t72 t73 t74 t75 t76 t77 t78 t79 t80 t81 t82 t83 t84 t85 t86 : Value) (w' : World), St w w' b bx Bd dd H L H L → Q .normal { tmps := #[s0, s1, s2, qp b, .pointer (some ⟨bx, 0, none⟩), s5, s6, s7, .int .i64 (costV (x, y, H1, L1) H L), .int .i64 y, qp by1, s11, .int .i64 y, s13, s14, s15, s16, s17, s18, s19, s20, s21, s22, s23, s24, s25, s26, s27, s28, s29, s30, s31, s32, s33, s34, s35, s36, s37, s38, s39, s40, s41, s42, s43, s44, s45, s46, s47, s48, s49, s50, s51, s52, s53, s54, s55, s56, s57, s58, s59, s60, s61, s62, s63, t64, t65, t66, t67, t68, t69, t70, t71, t72, t73, t74, t75, t76, t77, t78, t79, t80, t81, t82, t83, t84, t85, t86, .bool false, s88, s89, s90, s91, s92, s93, s94, s95, s96, s97, s98, s99, s100, s101, s102, s103, s104, s105, s106, s107, s108, s109, s110, s111, s112, s113, s114, s115, s116, s117, s118, s119, s120, s121, s122, s123, s124, s125, s126, s127, s128, s129, s130, s131, s132, s133, s134, s135, s136, s137, s138, s139, s140, s141, s142, s143, s144, s145, s146, s147, s148, s149, s150, s151, s152, s153, s154, s155, s156, s157, s158, s159, s160, s161, s162, s163, s164, s165, s166, s167, s168, s169, s170, s171, s172, s173, s174, s175, s176, s177, s178, s179, s180, s181, s182, s183, s184, s185, s186, s187, s188, s189, s190, s191, s192, s193, s194, s195, s196, s197, s198, s199, s200, s201, s202, s203, s204, s205, s206, s207, s208, s209, s210, s211, s212, s213, s214, s215], defers := [] } w') :
    Code.wp Tryd.prog code13 Q { tmps := #[s0, s1, s2, qp b, .pointer (some ⟨bx, 0, none⟩), s5, s6, s7, .int .i64 (costV (x, y, H1, L1) H L), .int .i64 y, qp by1, s11, .int .i64 y, s13, s14, s15, s16, s17, s18, s19, s20, s21, s22, s23, s24, s25, s26, s27, s28, s29, s30, s31, s32, s33, s34, s35, s36, s37, s38, s39, s40, s41, s42, s43, s44, s45, s46, s47, s48, s49, s50, s51, s52, s53, s54, s55, s56, s57, s58, s59, s60, s61, s62, s63, s64, s65, s66, s67, s68, s69, s70, s71, s72, s73, s74, s75, s76, s77, s78, s79, s80, s81, s82, s83, s84, s85, s86, s87, s88, s89, s90, s91, s92, s93, s94, s95, s96, s97, s98, s99, s100, s101, s102, s103, s104, s105, s106, s107, s108, s109, s110, s111, s112, s113, s114, s115, s116, s117, s118, s119, s120, s121, s122, s123, s124, s125, s126, s127, s128, s129, s130, s131, s132, s133, s134, s135, s136, s137, s138, s139, s140, s141, s142, s143, s144, s145, s146, s147, s148, s149, s150, s151, s152, s153, s154, s155, s156, s157, s158, s159, s160, s161, s162, s163, s164, s165, s166, s167, s168, s169, s170, s171, s172, s173, s174, s175, s176, s177, s178, s179, s180, s181, s182, s183, s184, s185, s186, s187, s188, s189, s190, s191, s192, s193, s194, s195, s196, s197, s198, s199, s200, s201, s202, s203, s204, s205, s206, s207, s208, s209, s210, s211, s212, s213, s214, s215], defers := [] } W := by
  have HK := Lib.hid hK
  have HS := Lib.hid hS
  clear hK hS
  by_cases hy : y = 0
  · subst hy
    obtain ⟨na, hna⟩ : ∃ na, H1.length + L1.length = na := ⟨_, rfl⟩
    obtain ⟨nb, hnb⟩ : ∃ nb, H.length + L.length = nb := ⟨_, rfl⟩
    have HV := Lib.hid (show costV (x, 0, H1, L1) H L = (na : Int) - (nb : Int) by rw [← hna, ← hnb]; rfl)
    have HY := Lib.hid (fun (w1 : World) (h : Sy w w1 b bx Bd dd H L H L by1 H1 L1) => h.size (by omega) (by omega))
    have HX := Lib.hid (fun (w1 : World) (h : Sy w w1 b bx Bd dd H L H L by1 H1 L1) => h.xsize (by omega) (by omega))
    rw [hna] at HY
    rw [hnb] at HX
    rw [HV.out] at HK ⊢
    have ha : na ≤ 401 := by omega
    have hb : nb ≤ 400 := by omega
    clear hna hnb hl hl1
    conv => arg 2; whnf
    go_wp2_with fail
    refine (HY.out _ HS.out).mono ?_
    rintro e w2 ⟨rfl, hs2⟩
    have HS2 := Lib.hid hs2
    clear hs2 HS HY
    go_wp2_with fail
    refine (HX.out _ HS2.out).mono ?_
    rintro e w3 ⟨rfl, hs3⟩
    have HS3 := Lib.hid hs3.st
    clear hs3 HS2 HX
    go_wp2_with fail
    exact HK.out _ _ _ _ _ _ _ _ _ _ _ _ _ _ _ _ _ _ _ _ _ _ _ _ HS3.out
  · have hy1 : (y == 0) = false := by simpa using hy
    have hy2 : (y != 0) = true := by simpa using hy
    have HV := Lib.hid (show costV (x, y, H1, L1) H L = 0 from if_neg hy)
    rw [HV.out] at HK ⊢
    conv => arg 2; whnf
    go_wp2_with fail
    exact HK.out _ _ _ _ _ _ _ _ _ _ _ _ _ _ _ _ _ _ _ _ _ _ _ _ HS.out.st
set_option maxRecDepth 100000

theorem does_long (A : Option Addr) (n c : Nat) (w : World) (ht : TabG w) (hm : n ≤ maxLen) (h : 50 < n) :
    Calls Tryd.prog 3 #[.slice A n c] w fun e w' => e = .returned (.bool true) ∧ Below w.heap.size w w' := by
  unfold maxLen at hm
  have HA := Lib.hid (awake_any w ht)
  have q1 : (50 : Int) < (n : Int) := by omega
  have q1' : decide ((50 : Int) < (n : Int)) = true := by simp; omega
  clear h ht
  go_enter Tryd.func3, Tryd.ntmps3
  go_wp2_with fail
  refine HA.out.mono ?_
  rintro e w1 ⟨rfl, hb1⟩
  go_wp2_with fail
  go_ret
  exact ⟨rfl, hb1⟩
/-- both behind some deeds -/
structure Ru (w W : World) (b bx : Nat) (H : List Hs.Hd) (L : List Ws.Wt) (n : Nat) : Prop where
  dv : Dv w W b bx H L H L
  len : H.length + L.length ≤ n
theorem Ru.new (w w1 : World) (hb : Below w.heap.size w w1) :
    Ru w ((w1.alloc (.cells #[.slice none 0 0, .slice none 0 0] 28)).alloc (.cells #[.int .i64 0, .int .i64 0, .int .i64 0, .int .i64 0, .int .i64 0, .slice none 0 0, .slice none 0 0] 34)) w1.heap.size (w1.heap.size + 1) [] [] 0 := by
  have h0 := One.new w w1 hb
  have hx := box_below (w1.alloc (.cells #[.slice none 0 0, .slice none 0 0] 28)) (.cells #[.int .i64 0, .int .i64 0, .int .i64 0, .int .i64 0, .int .i64 0, .slice none 0 0, .slice none 0 0] 34)
  have hr := RAt.new (w1.alloc (.cells #[.slice none 0 0, .slice none 0 0] 28)) (Hs.Ls.nils _) (Ws.Ls.nils _) (by simp) (by simp)
  rw [show (w1.alloc (.cells #[.slice none 0 0, .slice none 0 0] 28)).heap.size = w1.heap.size + 1 by simp] at hr
  exact ⟨⟨h0.below hx, ⟨_, _, _, _, hr⟩, by have := hb.size; omega, by omega, Inv.nil⟩, Nat.le_refl _⟩
theorem Ru.st {w W : World} {b bx n : Nat} {H : List Hs.Hd} {L : List Ws.Wt} (h : Ru w W b bx H L n) (d : Dd) :
    St w (W.alloc (.cells #[.int .i64 d.k, .int .i64 d.t, .int .i64 d.m, .int .i64 d.f] 36)) b bx W.heap.size d H L H L := by
  obtain ⟨A1, c1, A2, c2, hr⟩ := h.dv.r
  obtain ⟨B1, d1, B2, d2, hq⟩ := h.dv.one.q
  have k1 := hr.lt
  have k2 := hq.lt
  exact ⟨h.dv.below (box_below _ _), ⟨heap_alloc_new W _⟩, by omega, by omega⟩
set_option maxHeartbeats 16000000 in
theorem does_short (A : Option Addr) (n c : Nat) (d : Nat → Dd) (w : World) (ht : TabG w) (h1 : ¬ 50 < n) (hd : InD w A n d) :
    Calls Tryd.prog 3 #[.slice A n c] w fun e w' => e = .returned (.bool true) ∧ Below w.heap.size w w' := by
  have HA := Lib.hid (awake_any w ht)
  have HT := Lib.hid ht
  have D := Lib.hid hd
  have q1 : ¬ (50 : Int) < (n : Int) := by omega
  have q1' : decide ((50 : Int) < (n : Int)) = false := by simp; omega
  clear ht hd
  go_enter Tryd.func3, Tryd.ntmps3
  go_wp2_with fail
  refine HA.out.mono ?_
  rintro e w1 ⟨rfl, hb1⟩
  have H0 := Lib.hid (Ru.new w w1 hb1)
  have hbb : ∃ b, b = w1.heap.size := ⟨_, rfl⟩
  go_wp2_with fail
  clear hb1 HA
  generalize (w1.alloc (.cells #[.slice none 0 0, .slice none 0 0] 28)).alloc (.cells #[.int .i64 0, .int .i64 0, .int .i64 0, .int .i64 0, .int .i64 0, .slice none 0 0, .slice none 0 0] 34) = w2 at *
  generalize w1.heap.size + 1 = bx at *
  generalize w1.heap.size = b0 at *
  clear hbb
  go_loopw [3, 36] (fun v t wr => ∃ (k b : Nat) (H : List Hs.Hd) (L : List Ws.Wt), k ≤ n ∧ t = .int .i64 k ∧ v = qp b ∧ Ru w wr b bx H L k) (fun _ t _ => n - (intOf t).toNat)
  case atStart => exact ⟨0, b0, _, _, by omega, rfl, rfl, H0.out⟩
  case round =>
    obtain ⟨k, b, H, L, hk, rfl, rfl, ho⟩ := hrel
    have HR := Lib.hid ho
    have hln := ho.len
    clear ho H0
    by_cases hlt : k < n
    · obtain ⟨ad, rfl, ⟨e0, e1, e2, e3⟩⟩ := D.out.at HR.out.dv.one.bel hlt
      have HS0 := Lib.hid (HR.out.st (d k))
      generalize d k = dj at e0 e1 e2 e3 HS0
      obtain ⟨kk, tt, mm, ff⟩ := dj
      simp only at e0 e1 e2 e3 HS0
      obtain ⟨⟨x, y, H1, L1⟩, hX⟩ : ∃ X, ask tt mm ff H L = X := ⟨_, rfl⟩
      have HX := Lib.hid hX
      have hln1 := ask_len tt mm ff H L
      rw [hX] at hln1
      simp only at hln1
      have HC := Lib.hid (HS0.out.cost HT.out (by omega) tt mm ff)
      rw [hX] at HC
      simp only at HC
      clear HR hX D
      go_wp2_with fail
      refine HC.out.mono ?_
      rintro e w3 ⟨rfl, hs3⟩
      have HC3 := Lib.hid (hs3.rcopy (by omega) (by omega))
      clear hs3 HC HS0 e0 e1 e2 e3
      go_wp2_with fail
      refine HC3.out.mono ?_
      rintro e w4 ⟨by1, rfl, hs4⟩
      have b1 := hs4.st.dx.b1
      have b2 := hs4.st.dx.b2
      have b3 := hs4.st.dx.b3
      simp only at b1 b2 b3
      have HC4 := Lib.hid (hs4.yask (by omega) (by omega) tt mm ff)
      rw [HX.out] at HC4
      simp only at HC4
      clear hs4 HC3
      go_wp2_with fail
      refine HC4.out.mono ?_
      rintro e w5 ⟨rfl, hs5⟩
      have HS5 := Lib.hid hs5
      clear hs5 HC4 b1 b2 b3
      generalize wr.heap.size = Bd at *
      go_upto_region 13 with fail
      refine reg13 HS5.out (by omega) (by omega) ?_
      intro t64 t65 t66 t67 t68 t69 t70 t71 t72 t73 t74 t75 t76 t77 t78 t79 t80 t81 t82 t83 t84 t85 t86 w6 hs6
      have HS6 := Lib.hid hs6
      have b0k := hs6.dx.b0
      simp only at b0k
      clear hs6 HS5
      by_cases hk3 : kk = 3
      · subst hk3
        have HC1 := Lib.hid (HS6.out.release HT.out (by omega) tt)
        have b1 := HS6.out.dx.b1
        simp only at b1
        have HIq := Lib.hid HS6.out.dv.iq
        clear HS6
        go_wp2_with fail
        refine HC1.out.mono ?_
        rintro e w7 ⟨A7, c7, rfl, hls7, hs7⟩
        have HS7 := Lib.hid hs7
        have hl7 := hls7
        obtain ⟨k7, hk7⟩ : ∃ k7, (rel tt H L).told.length = k7 := ⟨_, rfl⟩
        have HK7 := Lib.hid hk7
        have b1' := hs7.dx.b1
        simp only at b1'
        have HC2 := Lib.hid (HS7.out.rrelease (by omega) tt)
        rw [hk7]
        unfold StR at HC2
        rw [hk7] at HC2
        clear HC1 hs7 b1 hls7 hk7
        go_wp2_with fail
        refine HC2.out.mono ?_
        rintro e w8 ⟨A8, c8, rfl, hls8, hs8, hk8⟩
        have HL7 := Lib.hid (hk8 _ _ _ hl7 (rel_told_ne HIq.out tt))
        have HL8 := Lib.hid hls8
        have HS8 := Lib.hid hs8
        clear hl7 hls8 hs8 hk8 HC2 HS7 b1'
        have HSa := Lib.hid (Ws.same_any HL7.out HL8.out (by have := rel_told_len tt H L; omega))
        rw [HK7.out] at HSa
        clear HL7 HL8
        go_wp2_with fail
        refine HSa.out.mono ?_
        rintro e w9 ⟨rfl, hb9⟩
        have HS9 := Lib.hid (HS8.out.below hb9)
        clear HSa HS8 hb9
        go_upto_region 29 with fail
        refine reg29 HS9.out (by have := rel_len tt H L; omega) ?_
        intro t172 t173 t174 t175 t176 t177 t178 t179 t180 t181 t182 t183 t184 t185 t186 t187 t188 t189 t190 t191 t192 t193 t194 t195 t196 t197 t198 t199 t200 t201 t202 t203 t204 t205 t206 t207 t208 t209 t210 t211 t212 t213 w10 hb10
        have HR10 := Lib.hid (show Ru w w10 b bx (rel tt H L).hs (rel tt H L).ws (k + 1) from ⟨(HS9.out.below hb10).dv, by have := rel_len tt H L; omega⟩)
        clear hb10 HS9
        go_wp2_with fail
        go_roundw
        case rel => exact ⟨k + 1, b, _, _, by omega, by go_num, rfl, HR10.out⟩
        case measure => simp [intOf]; omega
      · have hk3b : (kk == 3) = false := by simpa using hk3
        by_cases hk4 : kk = 4
        · subst hk4
          clear hk3
          have HC1 := Lib.hid (HS6.out.cancel HT.out (by omega) tt)
          have b1 := HS6.out.dx.b1
          simp only at b1
          have HIq := Lib.hid HS6.out.dv.iq
          clear HS6
          go_wp2_with fail
          refine HC1.out.mono ?_
          rintro e w7 ⟨A7, c7, rfl, hls7, hs7⟩
          have HS7 := Lib.hid hs7
          have hl7 := hls7
          obtain ⟨k7, hk7⟩ : ∃ k7, (can tt H L).told.length = k7 := ⟨_, rfl⟩
          have HK7 := Lib.hid hk7
          have b1' := hs7.dx.b1
          simp only at b1'
          have HC2 := Lib.hid (HS7.out.rcancel (by omega) tt)
          rw [hk7]
          unfold StR at HC2
          rw [hk7] at HC2
          clear HC1 hs7 b1 hls7 hk7
          go_wp2_with fail
          refine HC2.out.mono ?_
          rintro e w8 ⟨A8, c8, rfl, hls8, hs8, hk8⟩
          have HL7 := Lib.hid (hk8 _ _ _ hl7 (can_told_ne HIq.out tt))
          have HL8 := Lib.hid hls8
          have HS8 := Lib.hid hs8
          clear hl7 hls8 hs8 hk8 HC2 HS7 b1'
          have HSa := Lib.hid (Ws.same_any HL7.out HL8.out (by have := can_told_len tt H L; omega))
          rw [HK7.out] at HSa
          clear HL7 HL8
          go_wp2_with fail
          refine HSa.out.mono ?_
          rintro e w9 ⟨rfl, hb9⟩
          have HS9 := Lib.hid (HS8.out.below hb9)
          clear HSa HS8 hb9
          go_upto_region 29 with fail
          refine reg29 HS9.out (by have := can_len tt H L; omega) ?_
          intro t172 t173 t174 t175 t176 t177 t178 t179 t180 t181 t182 t183 t184 t185 t186 t187 t188 t189 t190 t191 t192 t193 t194 t195 t196 t197 t198 t199 t200 t201 t202 t203 t204 t205 t206 t207 t208 t209 t210 t211 t212 t213 w10 hb10
          have HR10 := Lib.hid (show Ru w w10 b bx (can tt H L).hs (can tt H L).ws (k + 1) from ⟨(HS9.out.below hb10).dv, by have := can_len tt H L; omega⟩)
          clear hb10 HS9
          go_wp2_with fail
          go_roundw
          case rel => exact ⟨k + 1, b, _, _, by omega, by go_num, rfl, HR10.out⟩
          case measure => simp [intOf]; omega
        · have hk4b : (kk == 4) = false := by simpa using hk4
          by_cases hk5 : kk = 5
          · subst hk5
            clear hk3 hk4
            have HC1 := Lib.hid (HS6.out.copy (by omega))
            clear HS6
            go_wp2_with fail
            refine HC1.out.mono ?_
            rintro e w7 ⟨b', rfl, hs7⟩
            have HS7 := Lib.hid hs7
            clear hs7 HC1
            go_upto_region 29 with fail
            refine reg29 HS7.out (by omega) ?_
            intro t172 t173 t174 t175 t176 t177 t178 t179 t180 t181 t182 t183 t184 t185 t186 t187 t188 t189 t190 t191 t192 t193 t194 t195 t196 t197 t198 t199 t200 t201 t202 t203 t204 t205 t206 t207 t208 t209 t210 t211 t212 t213 w10 hb10
            have HR10 := Lib.hid (show Ru w w10 b' bx H L (k + 1) from ⟨(HS7.out.below hb10).dv, by omega⟩)
            clear hb10 HS7
            go_wp2_with fail
            go_roundw
            case rel => exact ⟨k + 1, b', _, _, by omega, by go_num, rfl, HR10.out⟩
            case measure => simp [intOf]; omega
          · have hk5b : (kk == 5) = false := by simpa using hk5
            clear hk3 hk4 hk5
            have HC1 := Lib.hid (HS6.out.qask HT.out (by omega) tt mm ff)
            rw [HX.out] at HC1
            simp only at HC1
            have b1 := HS6.out.dx.b1
            have b2 := HS6.out.dx.b2
            have b3 := HS6.out.dx.b3
            simp only at b1 b2 b3
            clear HS6
            go_wp2_with fail
            refine HC1.out.mono ?_
            rintro e w7 ⟨rfl, hs7⟩
            have HC2 := Lib.hid (hs7.rask (by omega) tt mm ff)
            rw [HX.out] at HC2
            simp only at HC2
            have b1' := hs7.dx.b1
            have b2' := hs7.dx.b2
            have b3' := hs7.dx.b3
            simp only at b1' b2' b3'
            clear HC1 hs7 b1 b2 b3
            go_wp2_with fail
            refine HC2.out.mono ?_
            rintro e w8 ⟨rfl, hs8⟩
            have HS8 := Lib.hid hs8
            clear hs8 HC2 b1' b2' b3'
            go_upto_region 29 with fail
            refine reg29 HS8.out (by omega) ?_
            intro t172 t173 t174 t175 t176 t177 t178 t179 t180 t181 t182 t183 t184 t185 t186 t187 t188 t189 t190 t191 t192 t193 t194 t195 t196 t197 t198 t199 t200 t201 t202 t203 t204 t205 t206 t207 t208 t209 t210 t211 t212 t213 w10 hb10
            have HR10 := Lib.hid (show Ru w w10 b bx H1 L1 (k + 1) from ⟨(HS8.out.below hb10).dv, by omega⟩)
            clear hb10 HS8
            go_wp2_with fail
            go_roundw
            case rel => exact ⟨k + 1, b, _, _, by omega, by go_num, rfl, HR10.out⟩
            case measure => simp [intOf]; omega
    · obtain rfl : k = n := by omega
      have HB := Lib.hid HR.out.dv.one.bel
      clear HR D hlt
      go_wp2_with fail
      go_ret
      exact ⟨rfl, HB.out⟩
theorem does_walk (A : Option Addr) (n c : Nat) (d : Nat → Dd) (w : World) (ht : TabG w) (hm : n ≤ maxLen) (hd : InD w A n d) :
    Calls Tryd.prog 3 #[.slice A n c] w fun e w' => e = .returned (.bool true) ∧ Below w.heap.size w w' := by
  by_cases h : 50 < n
  · exact does_long A n c w ht hm h
  · exact does_short A n c d w ht h hd
end Go.Proofs.YteaibamkfccplaaDoor
