/- What the law of all deeds asks of links and of the document's rows behind a deed, in one condition. -/
import Derived.Test.YthgcedhplbhiiaaL0
namespace Go.Proofs.Ythgcedhplbhiiaa
open Go Go.RowKit

set_option maxHeartbeats 16000000 in
set_option maxRecDepth 1000000 in
theorem reg21_tf {w W : World} {b g bx gx K N Bd m8 c8 : Nat} {ka d1 d2 d3 : Int} {A8 : Option Addr} {L9 : Nat → List Nat} {ws : List Nat} {Q : Exit → Act → World → Prop} {s0 s1 s2 s3 s4 s6 s7 s13 s17 s18 s19 s20 s21 s22 s23 s24 s25 s26 s27 s28 s29 s30 s31 s32 s33 s34 s35 s36 s37 s38 s39 s40 s41 s42 s43 s44 s45 s46 s47 s48 s49 s50 s51 s52 s53 s54 s55 s56 s57 s58 s59 s60 s61 s62 s63 s64 s65 s66 s67 s68 s69 s70 s71 s72 s73 s74 s75 s76 s77 s78 s79 s80 s81 s82 s83 s84 s85 s86 s87 s88 s89 s90 s91 s92 s93 s94 s95 s96 s97 s98 s99 s100 s101 s102 s103 s104 s105 s106 s107 s108 s109 s110 s111 s112 s113 s114 s115 s116 s117 s118 s119 s120 s121 s122 s123 s124 s125 s126 s127 s128 s129 s130 s131 s132 s133 s134 s135 s136 s137 s138 s139 s140 s141 s142 s143 s144 s145 s146 s147 s148 s149 s150 s151 s152 s153 s154 s155 s156 s157 s158 s159 s160 s161 s162 s163 s164 s165 s166 s167 s168 s169 s170 s171 s172 s173 s174 s175 s176 s177 s178 s179 s180 s181 s182 s183 s184 s185 s186 s187 s188 s189 s190 s191 s192 s193 s194 s195 s196 s197 s198 s199 s200 s201 s202 s203 s204 s205 s206 s207 s208 s209 s210 s211 s212 s213 s214 s215 s216 s217 s218 s219 s220 s221 s222 s223 s224 s225 s226 s227 : Value}
    (hD : Du w W b g bx gx K N Bd d1 d2 d3 L9 L9) (hws : listOf N L9 d1 = ws) (hm8 : ws.length = m8) (hr : Rd W K A8 c8 ws) (hka : decide (0 ≤ ka) = true) (hm0 : m8 = 0) (hll : m8 ≤ 30)
    (hK : ∀ (t116 t117 t118 t119 t120 t121 t122 t123 t124 t125 t126 t127 t128 t129 t130 t131 t132 t133 t134 t135 t136 t137 t138 t139 t140 t141 t142 t143 t144 t145 t146 t147 t148 t149 t150 t151 t152 t153 t154 t155 t156 t157 t158 t159 t160 t161 t162 t163 t164 t165 t166 t167 t168 t169 t170 t171 t172 t173 t174 t175 t176 t177 t178 t179 t180 t181 : Value) (w5 : World), Du w w5 b g bx gx K N Bd d1 d2 d3 L9 L9 → Q .normal { tmps := #[s0, s1, s2, s3, s4, wp b, s6, s7, .pointer (some ⟨Bd, 0, none⟩), .bool true, .int .i64 ka, .bool true, .int .i64 ka, s13, .int .i64 0, .bool false, .slice A8 m8 c8, s17, s18, s19, s20, s21, s22, s23, s24, s25, s26, s27, s28, s29, s30, s31, s32, s33, s34, s35, s36, s37, s38, s39, s40, s41, s42, s43, s44, s45, s46, s47, s48, s49, s50, s51, s52, s53, s54, s55, s56, s57, s58, s59, s60, s61, s62, s63, s64, s65, s66, s67, s68, s69, s70, s71, s72, s73, s74, s75, s76, s77, s78, s79, s80, s81, s82, s83, s84, s85, s86, s87, s88, s89, s90, s91, s92, s93, s94, s95, s96, s97, s98, s99, s100, s101, s102, s103, s104, s105, s106, s107, s108, s109, s110, s111, s112, s113, s114, s115, t116, t117, t118, t119, t120, t121, t122, t123, t124, t125, t126, t127, t128, t129, t130, t131, t132, t133, t134, t135, t136, t137, t138, t139, t140, t141, t142, t143, t144, t145, t146, t147, t148, t149, t150, t151, t152, t153, t154, t155, t156, t157, t158, t159, t160, t161, t162, t163, t164, t165, t166, t167, t168, t169, t170, t171, t172, t173, t174, t175, t176, t177, t178, t179, t180, t181, .bool false, s183, s184, s185, s186, s187, s188, s189, s190, s191, s192, s193, s194, s195, s196, s197, s198, s199, s200, s201, s202, s203, s204, s205, s206, s207, s208, s209, s210, s211, s212, s213, s214, s215, s216, s217, s218, s219, s220, s221, s222, s223, s224, s225, s226, s227], defers := [] } w5) :
    Code.wp Try.prog code21 Q { tmps := #[s0, s1, s2, s3, s4, wp b, s6, s7, .pointer (some ⟨Bd, 0, none⟩), .bool true, .int .i64 ka, .bool true, .int .i64 ka, s13, .int .i64 0, .bool false, .slice A8 m8 c8, s17, s18, s19, s20, s21, s22, s23, s24, s25, s26, s27, s28, s29, s30, s31, s32, s33, s34, s35, s36, s37, s38, s39, s40, s41, s42, s43, s44, s45, s46, s47, s48, s49, s50, s51, s52, s53, s54, s55, s56, s57, s58, s59, s60, s61, s62, s63, s64, s65, s66, s67, s68, s69, s70, s71, s72, s73, s74, s75, s76, s77, s78, s79, s80, s81, s82, s83, s84, s85, s86, s87, s88, s89, s90, s91, s92, s93, s94, s95, s96, s97, s98, s99, s100, s101, s102, s103, s104, s105, s106, s107, s108, s109, s110, s111, s112, s113, s114, s115, s116, s117, s118, s119, s120, s121, s122, s123, s124, s125, s126, s127, s128, s129, s130, s131, s132, s133, s134, s135, s136, s137, s138, s139, s140, s141, s142, s143, s144, s145, s146, s147, s148, s149, s150, s151, s152, s153, s154, s155, s156, s157, s158, s159, s160, s161, s162, s163, s164, s165, s166, s167, s168, s169, s170, s171, s172, s173, s174, s175, s176, s177, s178, s179, s180, s181, s182, s183, s184, s185, s186, s187, s188, s189, s190, s191, s192, s193, s194, s195, s196, s197, s198, s199, s200, s201, s202, s203, s204, s205, s206, s207, s208, s209, s210, s211, s212, s213, s214, s215, s216, s217, s218, s219, s220, s221, s222, s223, s224, s225, s226, s227], defers := [] } W := by
  have HK := Lib.hid hK
  have HD := Lib.hid hD
  have HL21 := Lib.hid (hD.dh.ln.list d1)
  have e1 := hD.c1
  rw [hws] at HL21
  have HWs := Lib.hid hws
  have HM8 := Lib.hid hm8
  have HR8 := Lib.hid hr
  subst hm0
  clear hK hD hws hm8 hr
  conv => arg 2; whnf
  go_wp2_with fail
  refine HL21.out.mono ?_
  rintro e w3 ⟨A9, c9, rfl, hrd9, hb3⟩
  have HS := Lib.hid (same_list hrd9 (HR8.out.below hb3) (by rw [HM8.out]; omega))
  have HD3 := Lib.hid (HD.out.below hb3)
  have HR3 := Lib.hid (HR8.out.below hb3)
  rw [HM8.out] at HS ⊢
  clear hrd9 hb3 HL21 HD HR8 e1
  go_wp2_with fail
  refine HS.out.mono ?_
  rintro e w4 ⟨rfl, hb4⟩
  have HD4 := Lib.hid (HD3.out.below hb4)
  have HR4 := Lib.hid (HR3.out.below hb4)
  have HLen := Lib.hid (HD4.out.dh.ln.len d1)
  rw [HWs.out, HM8.out] at HLen
  have e1 := HD4.out.c1
  clear hb4 HS HD3 HR3
  go_wp2_with fail
  refine HLen.out.mono ?_
  rintro e w5 ⟨rfl, hb5⟩
  have HD5 := Lib.hid (HD4.out.below hb5)
  have HR5 := Lib.hid (HR4.out.below hb5)
  clear hb5 HLen HD4 HR4 e1
  go_wp2_with fail
  exact HK.out _ _ _ _ _ _ _ _ _ _ _ _ _ _ _ _ _ _ _ _ _ _ _ _ _ _ _ _ _ _ _ _ _ _ _ _ _ _ _ _ _ _ _ _ _ _ _ _ _ _ _ _ _ _ _ _ _ _ _ _ _ _ _ _ _ _ w5 HD5.out
end Go.Proofs.Ythgcedhplbhiiaa
