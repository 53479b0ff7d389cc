/- The law's last test of a round, a region that draws its order: what both have, told and compared. -/
import Derived.Test.YteaibamkfccplaaDoorK1
namespace Go.Proofs.YteaibamkfccplaaDoor
open Go Go.RowKit Go.Shelf

def regionOf (n : Nat) : Code → Option Code
  | .region k ops d => if k = n then some (.region k ops d) else none
  | .seq a b => match regionOf n a with
    | some c => some c
    | none => regionOf n b
  | .cond _ a b => match regionOf n a with
    | some c => some c
    | none => regionOf n b
  | .block _ c => regionOf n c
  | .loop c => regionOf n c
  | .scope c => regionOf n c
  | _ => none
noncomputable def code29 : Code := ((Tryd.f3.body.bind (regionOf 29)).getD .skip)
/-- the cells that the test reads -/
abbrev SX (bx Bd : Nat) (t : Int) (A1 : Option Addr) (n1 c1 : Nat) (A2 : Option Addr) (n2 c2 : Nat) (W w' : World) : Prop :=
  w'.cell? ⟨Bd, 1, none⟩ = some (.int .i64 t) ∧ w'.cell? ⟨bx, 5, none⟩ = some (.slice A1 n1 c1) ∧ w'.cell? ⟨bx, 6, none⟩ = some (.slice A2 n2 c2) ∧ Below W.heap.size W w'
set_option maxHeartbeats 16000000 in
set_option maxRecDepth 1000000 in
theorem reg29 {w W : World} {b bx Bd : Nat} {dd : Dd} {H : List Hs.Hd} {L : List Ws.Wt} {Q : Exit → Act → World → Prop} {s0 s1 s2 s5 s8 s9 s10 s11 s12 s13 s14 s15 s16 s17 s18 s19 s20 s21 s22 s23 s24 s25 s26 s27 s28 s29 s30 s31 s32 s33 s34 s35 s36 s37 s38 s39 s40 s41 s42 s43 s44 s45 s46 s47 s48 s49 s50 s51 s52 s53 s54 s55 s56 s57 s58 s59 s60 s61 s62 s63 s64 s65 s66 s67 s68 s69 s70 s71 s72 s73 s74 s75 s76 s77 s78 s79 s80 s81 s82 s83 s84 s85 s86 s87 s88 s89 s90 s91 s92 s93 s94 s95 s96 s97 s98 s99 s100 s101 s102 s103 s104 s105 s106 s107 s108 s109 s110 s111 s112 s113 s114 s115 s116 s117 s118 s119 s120 s121 s122 s123 s124 s125 s126 s127 s128 s129 s130 s131 s132 s133 s134 s135 s136 s137 s138 s139 s140 s141 s142 s143 s144 s145 s146 s147 s148 s149 s150 s151 s152 s153 s154 s155 s156 s157 s158 s159 s160 s161 s162 s163 s164 s165 s166 s167 s168 s169 s170 s171 s172 s173 s174 s175 s176 s177 s178 s179 s180 s181 s182 s183 s184 s185 s186 s187 s188 s189 s190 s191 s192 s193 s194 s195 s196 s197 s198 s199 s200 s201 s202 s203 s204 s205 s206 s207 s208 s209 s210 s211 s212 s213 s214 s215 : Value}
    (hS : St w W b bx Bd dd H L H L) (hl : H.length + L.length ≤ 400)
    (hK : ∀ (t172 t173 t174 t175 t176 t177 t178 t179 t180 t181 t182 t183 t184 t185 t186 t187 t188 t189 t190 t191 t192 t193 t194 t195 t196 t197 t198 t199 t200 t201 t202 t203 t204 t205 t206 t207 t208 t209 t210 t211 t212 t213 : Value) (w' : World), Below W.heap.size W w' → Q .normal { tmps := #[s0, s1, s2, qp b, .pointer (some ⟨bx, 0, none⟩), s5, .pointer (some ⟨Bd, 0, none⟩), .bool true, s8, s9, s10, s11, s12, s13, s14, s15, s16, s17, s18, s19, s20, s21, s22, s23, s24, s25, s26, s27, s28, s29, s30, s31, s32, s33, s34, s35, s36, s37, s38, s39, s40, s41, s42, s43, s44, s45, s46, s47, s48, s49, s50, s51, s52, s53, s54, s55, s56, s57, s58, s59, s60, s61, s62, s63, s64, s65, s66, s67, s68, s69, s70, s71, s72, s73, s74, s75, s76, s77, s78, s79, s80, s81, s82, s83, s84, s85, s86, s87, s88, s89, s90, s91, s92, s93, s94, s95, s96, s97, s98, s99, s100, s101, s102, s103, s104, s105, s106, s107, s108, s109, s110, s111, s112, s113, s114, s115, s116, s117, s118, s119, s120, s121, s122, s123, s124, s125, s126, s127, s128, s129, s130, s131, s132, s133, s134, s135, s136, s137, s138, s139, s140, s141, s142, s143, s144, s145, s146, s147, s148, s149, s150, s151, s152, s153, s154, s155, s156, s157, s158, s159, s160, s161, s162, s163, s164, s165, s166, s167, s168, s169, s170, s171, t172, t173, t174, t175, t176, t177, t178, t179, t180, t181, t182, t183, t184, t185, t186, t187, t188, t189, t190, t191, t192, t193, t194, t195, t196, t197, t198, t199, t200, t201, t202, t203, t204, t205, t206, t207, t208, t209, t210, t211, t212, t213, .bool false, s215], defers := [] } w') :
    Code.wp Tryd.prog code29 Q { tmps := #[s0, s1, s2, qp b, .pointer (some ⟨bx, 0, none⟩), s5, .pointer (some ⟨Bd, 0, none⟩), .bool true, s8, s9, s10, s11, s12, s13, s14, s15, s16, s17, s18, s19, s20, s21, s22, s23, s24, s25, s26, s27, s28, s29, s30, s31, s32, s33, s34, s35, s36, s37, s38, s39, s40, s41, s42, s43, s44, s45, s46, s47, s48, s49, s50, s51, s52, s53, s54, s55, s56, s57, s58, s59, s60, s61, s62, s63, s64, s65, s66, s67, s68, s69, s70, s71, s72, s73, s74, s75, s76, s77, s78, s79, s80, s81, s82, s83, s84, s85, s86, s87, s88, s89, s90, s91, s92, s93, s94, s95, s96, s97, s98, s99, s100, s101, s102, s103, s104, s105, s106, s107, s108, s109, s110, s111, s112, s113, s114, s115, s116, s117, s118, s119, s120, s121, s122, s123, s124, s125, s126, s127, s128, s129, s130, s131, s132, s133, s134, s135, s136, s137, s138, s139, s140, s141, s142, s143, s144, s145, s146, s147, s148, s149, s150, s151, s152, s153, s154, s155, s156, s157, s158, s159, s160, s161, s162, s163, s164, s165, s166, s167, s168, s169, s170, s171, s172, s173, s174, s175, s176, s177, s178, s179, s180, s181, s182, s183, s184, s185, s186, s187, s188, s189, s190, s191, s192, s193, s194, s195, s196, s197, s198, s199, s200, s201, s202, s203, s204, s205, s206, s207, s208, s209, s210, s211, s212, s213, s214, s215], defers := [] } W := by
  have HK := Lib.hid hK
  obtain ⟨A1, c1, A2, c2, hr⟩ := hS.dv.r
  obtain ⟨B1, d1, B2, d2, hq⟩ := hS.dv.one.q
  obtain ⟨kk, tt, mm, ff⟩ := dd
  obtain ⟨n1, hn1⟩ : ∃ n, H.length = n := ⟨_, rfl⟩
  obtain ⟨n2, hn2⟩ : ∃ n, L.length = n := ⟨_, rfl⟩
  obtain ⟨z, hz⟩ : ∃ z, Hs.fst tt H = z := ⟨_, rfl⟩
  have gS := Lib.hid (fun (w' : World) (hb : Below W.heap.size W w') => (show SX bx Bd tt A1 n1 c1 A2 n2 c2 W w' from ⟨(hS.below hb).dx.b1, (hr.below hb).e5n hn1, (hr.below hb).e6n hn2, hb⟩))
  have gHo := Lib.hid (fun (w' : World) (hb : Below W.heap.size W w') => (show Calls Tryd.prog 20 #[qp b] w' fun e w'' => ∃ A c, e = .returned (.slice A n1 c) ∧ Hs.Ls w'' A c H ∧ Below W.heap.size W w'' from
    (holds_any (hq.below hb).its (by omega)).mono fun _ _ ⟨A, c, he, hls, hb'⟩ => ⟨A, c, by rw [← hn1]; exact he, hls, hb.trans (hb'.mono hb.size)⟩))
  have gWa := Lib.hid (fun (w' : World) (hb : Below W.heap.size W w') => (show Calls Tryd.prog 21 #[qp b] w' fun e w'' => ∃ A c, e = .returned (.slice A n2 c) ∧ Ws.Ls w'' A c L ∧ Below W.heap.size W w'' from
    (waits_any (hq.below hb).its (by omega)).mono fun _ _ ⟨A, c, he, hls, hb'⟩ => ⟨A, c, by rw [← hn2]; exact he, hls, hb.trans (hb'.mono hb.size)⟩))
  have gSH := Lib.hid (fun (w' : World) (A : Option Addr) (c : Nat) (hls : Hs.Ls w' A c H) (hb : Below W.heap.size W w') => (show Calls Tryd.prog 19 #[.slice A n1 c, .slice A1 n1 c1] w' fun e w'' => e = .returned (.bool true) ∧ Below W.heap.size W w'' from by
    rw [← hn1]
    exact (Hs.same_any hls (hr.h.below hb) (by omega)).mono fun _ _ ⟨he, hb'⟩ => ⟨he, hb.trans (hb'.mono hb.size)⟩))
  have gSW := Lib.hid (fun (w' : World) (A : Option Addr) (c : Nat) (hls : Ws.Ls w' A c L) (hb : Below W.heap.size W w') => (show Calls Tryd.prog 14 #[.slice A n2 c, .slice A2 n2 c2] w' fun e w'' => e = .returned (.bool true) ∧ Below W.heap.size W w'' from by
    rw [← hn2]
    exact (Ws.same_any hls (hr.l.below hb) (by omega)).mono fun _ _ ⟨he, hb'⟩ => ⟨he, hb.trans (hb'.mono hb.size)⟩))
  have gSz := Lib.hid (fun (w' : World) (hb : Below W.heap.size W w') => (show Calls Tryd.prog 22 #[qp b] w' fun e w'' => e = .returned (.int .i64 ((n1 + n2 : Nat) : Int)) ∧ Below W.heap.size W w'' from by
    rw [← hn1, ← hn2]
    exact (size_any (hq.below hb).its (by omega) (by omega)).mono fun _ _ ⟨he, hb'⟩ => ⟨he, hb.trans (hb'.mono hb.size)⟩))
  have gRz := Lib.hid (fun (w' : World) (hb : Below W.heap.size W w') => (show Calls Tryd.prog 11 #[qp bx] w' fun e w'' => e = .returned (.int .i64 ((n1 + n2 : Nat) : Int)) ∧ Below W.heap.size W w'' from by
    rw [← hn1, ← hn2]
    exact (rsize_any (hr.below hb) (by omega) (by omega)).mono fun _ _ ⟨he, hb'⟩ => ⟨he, hb.trans (hb'.mono hb.size)⟩))
  have gMo := Lib.hid (fun (w' : World) (hb : Below W.heap.size W w') => (show Calls Tryd.prog 23 #[qp b, .int .i64 tt] w' fun e w'' => e = .returned (.int .i64 z) ∧ Below W.heap.size W w'' from by
    rw [← hz]
    exact (qmode_any (hq.below hb).its (by omega) tt).mono fun _ _ ⟨he, hb'⟩ => ⟨he, hb.trans (hb'.mono hb.size)⟩))
  have gRm := Lib.hid (fun (w' : World) (hb : Below W.heap.size W w') => (show Calls Tryd.prog 24 #[.slice A1 n1 c1, .int .i64 tt] w' fun e w'' => e = .returned (.int .i64 z) ∧ Below W.heap.size W w'' from by
    rw [← hz, ← hn1]
    exact (Hs.rmode_any (hr.h.below hb) (by omega) tt).mono fun _ _ ⟨he, hb'⟩ => ⟨he, hb.trans (hb'.mono hb.size)⟩))
  generalize n1 + n2 = n12 at *
  have hb0 := drew_below W 1
  have hs0 := gS.out _ hb0
  clear hK hS hl hr hq hn1 hn2 hz
  conv => arg 2; whnf
  go_region_held3 (SX bx Bd tt A1 n1 c1 A2 n2 c2 W) (first | exact hs0 | assumption | fail) (first
    | (go_at_call 20; refine (gHo.out _ (by first | exact hb0 | assumption)).mono ?_; rintro e w1x ⟨A3, c3, rfl, hl3, hb1⟩; have hs1 := gS.out _ hb1)
    | (go_at_call 19; refine (gSH.out _ _ _ hl3 hb1).mono ?_; rintro e w2x ⟨rfl, hb2⟩; have hs2 := gS.out _ hb2)
    | (go_at_call 21; refine (gWa.out _ (by assumption)).mono ?_; rintro e w3x ⟨A4, c4, rfl, hl4, hb3⟩; have hs3 := gS.out _ hb3)
    | (go_at_call 14; refine (gSW.out _ _ _ hl4 hb3).mono ?_; rintro e w4x ⟨rfl, hb4⟩; have hs4 := gS.out _ hb4)
    | (go_at_call 22; refine (gSz.out _ (by assumption)).mono ?_; rintro e w5x ⟨rfl, hb5⟩; have hs5 := gS.out _ hb5)
    | (go_at_call 11; refine (gRz.out _ (by assumption)).mono ?_; rintro e w6x ⟨rfl, hb6⟩; have hs6 := gS.out _ hb6)
    | (go_at_call 23; refine (gMo.out _ (by assumption)).mono ?_; rintro e w7x ⟨rfl, hb7⟩; have hs7 := gS.out _ hb7)
    | (go_at_call 24; refine (gRm.out _ (by assumption)).mono ?_; rintro e w8x ⟨rfl, hb8⟩; have hs8 := gS.out _ hb8)
    | fail)
  exact HK.out _ _ _ _ _ _ _ _ _ _ _ _ _ _ _ _ _ _ _ _ _ _ _ _ _ _ _ _ _ _ _ _ _ _ _ _ _ _ _ _ _ _ _ hb8
end Go.Proofs.YteaibamkfccplaaDoor
