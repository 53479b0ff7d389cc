/- The law's last test of a round, a region that draws its order: what both tell, compared. -/
import Derived.Test.YtikienhlgmcfkaaGreatDoorBo
namespace Go.Proofs.YtikienhlgmcfkaaGreatDoor
open Go Go.RowKit Go.Shelf

noncomputable def does24 : Code := ((Tryz.f3.body.bind (regionOf 24)).getD .skip)
/-- the cells that the test reads -/
abbrev SL (M P1 X1 P2 X2 : Nat) (tx : Int) (p : Pa.Pt) (x : Ws.Wt) (w' : World) : Prop :=
  w'.cell? ⟨M, 6, none⟩ = some (.int .i64 tx) ∧ Pbx w' P1 p ∧ Pbx w' P2 p ∧ Wcx w' X1 x ∧ Wcx w' X2 x
theorem Wcx.below {w w' : World} {K : Nat} {x : Ws.Wt} (h : Wcx w K x) (hb : Below w.heap.size w w') : Wcx w' K x := by
  have k : ∀ o v, w.cell? ⟨K, o, none⟩ = some v → w'.cell? ⟨K, o, none⟩ = some v := fun o v hc => (hb.cell (cell_lt hc)).trans hc
  exact ⟨k _ _ h.c0, k _ _ h.c1, k _ _ h.c2, k _ _ h.c3⟩
set_option maxHeartbeats 16000000 in
set_option maxRecDepth 1000000 in
theorem reg24 {W : World} {tb t M P1 X1 P2 X2 : Nat} {tx : Int} {p : Pa.Pt} {x : Ws.Wt} {bb : Bool} {ls : List Lk} {Q : Exit → Act → World → Prop} {s0 s1 s2 s3 s4 s5 s6 s9 s12 s13 s14 s15 s16 s17 s18 s19 s20 s21 s22 s23 s30 s31 s32 s33 s34 s35 s36 s37 s38 s39 s40 s41 s42 s43 s44 s45 s46 s47 s48 s49 s50 s51 s52 s53 s54 s55 s56 s57 s58 s59 s60 s61 s62 s63 s64 s65 s66 s67 s68 s69 s70 s71 s72 s73 s74 s75 s76 s77 s78 s79 s80 s81 s82 s83 s84 s85 s86 s87 s88 s89 s90 s91 s92 s93 s94 s95 s96 s97 s98 s99 s100 s101 s102 s103 s104 s105 s106 s107 s108 s109 s110 s111 s112 s113 s114 s115 s116 s117 s118 s119 s120 s121 s122 s123 s124 s125 s126 s127 s128 s129 s130 s131 s132 s133 s134 s135 s136 s137 s138 s139 s140 s141 s142 s143 s144 s145 s146 s147 s148 s149 s150 s151 s152 s153 s154 s155 s156 s157 s158 s159 s160 s161 s162 s163 s164 s165 s166 s167 s168 s169 s170 s171 s172 s173 s174 s175 s176 s177 s178 s179 s180 s181 s182 s183 s184 s185 s186 s187 s188 s189 s190 s191 s192 s193 s194 s195 s196 s197 s198 s199 s200 s201 s202 s203 s204 s205 : Value}
    (hS : SL M P1 X1 P2 X2 tx p x W) (hl : ls.length ≤ 5000)
    (gA : ∀ w', Below W.heap.size W w' → Calls Tryz.prog 17 #[tp tb, qp t] w' fun e w'' => e = .returned (.bool true) ∧ Below W.heap.size W w'')
    (gH : ∀ w', Below W.heap.size W w' → Calls Tryz.prog 19 #[tp tb, .int .i64 tx] w' (HeldOf w' ls))
    (gG : ∀ w', Below W.heap.size W w' → Calls Tryz.prog 20 #[qp t, .int .i64 tx] w' (HeldOf w' ls))
    (hQ : ∀ (t168 t169 t170 t171 t172 t173 t174 t175 t176 t177 t178 t179 t180 t181 t182 t183 t184 t185 t186 t187 t188 t189 t190 t191 t192 t193 t194 t195 t196 t197 t198 t199 t200 t201 t202 t203 : Value) (w' : World), Below W.heap.size W w' → Q .normal { tmps := #[s0, s1, s2, s3, s4, s5, s6, tp tb, qp t, s9, tp M, .bool true, s12, s13, s14, s15, s16, s17, s18, s19, s20, s21, s22, s23, tp P1, tp X1, .bool bb, tp P2, tp X2, .bool bb, s30, s31, s32, s33, s34, s35, s36, s37, s38, s39, s40, s41, s42, s43, s44, s45, s46, s47, s48, s49, s50, s51, s52, s53, s54, s55, s56, s57, s58, s59, s60, s61, s62, s63, s64, s65, s66, s67, s68, s69, s70, s71, s72, s73, s74, s75, s76, s77, s78, s79, s80, s81, s82, s83, s84, s85, s86, s87, s88, s89, s90, s91, s92, s93, s94, s95, s96, s97, s98, s99, s100, s101, s102, s103, s104, s105, s106, s107, s108, s109, s110, s111, s112, s113, s114, s115, s116, s117, s118, s119, s120, s121, s122, s123, s124, s125, s126, s127, s128, s129, s130, s131, s132, s133, s134, s135, s136, s137, s138, s139, s140, s141, s142, s143, s144, s145, s146, s147, s148, s149, s150, s151, s152, s153, s154, s155, s156, s157, s158, s159, s160, s161, s162, s163, s164, s165, s166, s167, t168, t169, t170, t171, t172, t173, t174, t175, t176, t177, t178, t179, t180, t181, t182, t183, t184, t185, t186, t187, t188, t189, t190, t191, t192, t193, t194, t195, t196, t197, t198, t199, t200, t201, t202, t203, .bool false, s205], defers := [] } w') :
    does24.wp Tryz.prog Q { tmps := #[s0, s1, s2, s3, s4, s5, s6, tp tb, qp t, s9, tp M, .bool true, s12, s13, s14, s15, s16, s17, s18, s19, s20, s21, s22, s23, tp P1, tp X1, .bool bb, tp P2, tp X2, .bool bb, s30, s31, s32, s33, s34, s35, s36, s37, s38, s39, s40, s41, s42, s43, s44, s45, s46, s47, s48, s49, s50, s51, s52, s53, s54, s55, s56, s57, s58, s59, s60, s61, s62, s63, s64, s65, s66, s67, s68, s69, s70, s71, s72, s73, s74, s75, s76, s77, s78, s79, s80, s81, s82, s83, s84, s85, s86, s87, s88, s89, s90, s91, s92, s93, s94, s95, s96, s97, s98, s99, s100, s101, s102, s103, s104, s105, s106, s107, s108, s109, s110, s111, s112, s113, s114, s115, s116, s117, s118, s119, s120, s121, s122, s123, s124, s125, s126, s127, s128, s129, s130, s131, s132, s133, s134, s135, s136, s137, s138, s139, s140, s141, s142, s143, s144, s145, s146, s147, s148, s149, s150, s151, s152, s153, s154, s155, s156, s157, s158, s159, s160, s161, s162, s163, s164, s165, s166, s167, s168, s169, s170, s171, s172, s173, s174, s175, s176, s177, s178, s179, s180, s181, s182, s183, s184, s185, s186, s187, s188, s189, s190, s191, s192, s193, s194, s195, s196, s197, s198, s199, s200, s201, s202, s203, s204, s205], defers := [] } W := by
  have HQ := Lib.hid hQ
  obtain ⟨n1, hn1⟩ : ∃ n, ls.length = n := ⟨_, rfl⟩
  obtain ⟨pa, pb, pc, pd, pe⟩ := p
  obtain ⟨y0, y1, y2, y3⟩ := x
  have gS := Lib.hid (fun (w' : World) (hb : Below W.heap.size W w') => (show SL M P1 X1 P2 X2 tx ⟨pa, pb, pc, pd, pe⟩ (y0, y1, y2, y3) w' from ⟨(hb.cell (cell_lt hS.1)).trans hS.1, hS.2.1.below hb, hS.2.2.1.below hb, hS.2.2.2.1.below hb, hS.2.2.2.2.below hb⟩))
  have gHh := Lib.hid (fun (w' : World) (hb : Below W.heap.size W w') => (show Calls Tryz.prog 19 #[tp tb, .int .i64 tx] w' fun e w'' => ∃ A c, e = .returned (.slice A n1 c) ∧ LkL w'' A c ls ∧ Below W.heap.size W w'' from
    (gH w' hb).mono fun _ _ ⟨v, he, hro, hb'⟩ => by
      rw [hn1] at hro
      obtain ⟨A, c, hv, hL⟩ := LkL.of_row hro hn1
      exact ⟨A, c, by rw [he, hv], hL, hb.trans (hb'.mono hb.size)⟩))
  have gGg := Lib.hid (fun (w' : World) (hb : Below W.heap.size W w') => (show Calls Tryz.prog 20 #[qp t, .int .i64 tx] w' fun e w'' => ∃ A c, e = .returned (.slice A n1 c) ∧ LkL w'' A c ls ∧ Below w'.heap.size w' w'' ∧ Below W.heap.size W w'' from
    (gG w' hb).mono fun _ _ ⟨v, he, hro, hb'⟩ => by
      rw [hn1] at hro
      obtain ⟨A, c, hv, hL⟩ := LkL.of_row hro hn1
      exact ⟨A, c, by rw [he, hv], hL, hb', hb.trans (hb'.mono hb.size)⟩))
  have gSL := Lib.hid (fun (w' : World) (A : Option Addr) (c : Nat) (A' : Option Addr) (c' : Nat) (h1 : LkL w' A c ls) (h2 : LkL w' A' c' ls) (hb : Below W.heap.size W w') => (show Calls Tryz.prog 18 #[.slice A n1 c, .slice A' n1 c'] w' fun e w'' => e = .returned (.bool true) ∧ Below W.heap.size W w'' from by
    rw [← hn1]
    exact (locks_same h1 h2 hl).mono fun _ _ ⟨he, hb'⟩ => ⟨he, hb.trans (hb'.mono hb.size)⟩))
  replace gA := Lib.hid gA
  have he : Pa.eqP ⟨pa, pb, pc, pd, pe⟩ ⟨pa, pb, pc, pd, pe⟩ = true := (Pa.eqP_iff _ _).2 rfl
  have hb0 : Below W.heap.size W W.drew := drew_below W 1
  have hs0 := gS.out _ hb0
  clear hQ gH gG hl hn1 hS
  conv => arg 2; whnf
  refine wp_region_noPanic ?_
  refine wp_region_held_drew (S := SL M P1 X1 P2 X2 tx ⟨pa, pb, pc, pd, pe⟩ (y0, y1, y2, y3)) (by kernel_rfl) hs0 (fun hHeld => ?_)
  refine wpAnyH_take (i := 0) (oi := { dst := some 168, op := Go.Op.move (Go.Operand.tmp 11), type := 4, pos := "law.go:69", after := #[], guard := none }) (v := ?_) rfl (by kernel_rfl) (by kernel_rfl) (by kernel_rfl) (fun _ _ _ h => h) (Or.inl ⟨by rfl, ?_⟩) (by assumption) ?_
  rotate_left
  · intro w hSw
    obtain ⟨z6, ⟨x1, x2, x3, x4, x5⟩, ⟨y1, y2, y3, y4, y5⟩, ⟨u1, u2, u3, u4⟩, ⟨v1, v2, v3, v4⟩⟩ := hSw
    simp only at x1 x2 x3 x4 x5 y1 y2 y3 y4 y5 u1 u2 u3 u4 v1 v2 v3 v4
    go_simp
    try with_reducible rfl
  try simp only [Act.put, List.setIfInBounds_toArray, List.set_cons_zero, List.set_cons_succ]
  refine wpAnyH_take (i := 1) (oi := { dst := some 169, op := Go.Op.unOp Go.UnOp.not 4 (Go.Operand.tmp 168), type := 4, pos := "law.go:69", after := #[{ on := 0, ground := Go.Ground.data }], guard := none }) (v := ?_) rfl (by kernel_rfl) (by kernel_rfl) (by kernel_rfl) (fun _ _ _ h => h) (Or.inl ⟨by rfl, ?_⟩) (by assumption) ?_
  rotate_left
  · intro w hSw
    obtain ⟨z6, ⟨x1, x2, x3, x4, x5⟩, ⟨y1, y2, y3, y4, y5⟩, ⟨u1, u2, u3, u4⟩, ⟨v1, v2, v3, v4⟩⟩ := hSw
    simp only at x1 x2 x3 x4 x5 y1 y2 y3 y4 y5 u1 u2 u3 u4 v1 v2 v3 v4
    go_simp
    try with_reducible rfl
  try simp only [Act.put, List.setIfInBounds_toArray, List.set_cons_zero, List.set_cons_succ]
  refine wpAnyH_take (i := 2) (oi := { dst := some 170, op := Go.Op.move (Go.Operand.tmp 169), type := 4, pos := "law.go:69", after := #[{ on := 1, ground := Go.Ground.data }], guard := none }) (v := ?_) rfl (by kernel_rfl) (by kernel_rfl) (by kernel_rfl) (fun _ _ _ h => h) (Or.inl ⟨by rfl, ?_⟩) (by assumption) ?_
  rotate_left
  · intro w hSw
    obtain ⟨z6, ⟨x1, x2, x3, x4, x5⟩, ⟨y1, y2, y3, y4, y5⟩, ⟨u1, u2, u3, u4⟩, ⟨v1, v2, v3, v4⟩⟩ := hSw
    simp only at x1 x2 x3 x4 x5 y1 y2 y3 y4 y5 u1 u2 u3 u4 v1 v2 v3 v4
    go_simp
    try with_reducible rfl
  try simp only [Act.put, List.setIfInBounds_toArray, List.set_cons_zero, List.set_cons_succ]
  refine wpAnyH_take (i := 3) (oi := { dst := some 171, op := Go.Op.move (Go.Operand.tmp 7), type := 24, pos := "law.go:69", after := #[{ on := 2, ground := Go.Ground.guard }], guard := some (2, false) }) (v := ?_) rfl (by kernel_rfl) (by kernel_rfl) (by kernel_rfl) (fun _ _ _ h => h) (Or.inl ⟨by rfl, ?_⟩) (by assumption) ?_
  rotate_left
  · intro w hSw
    obtain ⟨z6, ⟨x1, x2, x3, x4, x5⟩, ⟨y1, y2, y3, y4, y5⟩, ⟨u1, u2, u3, u4⟩, ⟨v1, v2, v3, v4⟩⟩ := hSw
    simp only at x1 x2 x3 x4 x5 y1 y2 y3 y4 y5 u1 u2 u3 u4 v1 v2 v3 v4
    go_simp
    try with_reducible rfl
  try simp only [Act.put, List.setIfInBounds_toArray, List.set_cons_zero, List.set_cons_succ]
  refine wpAnyH_take (i := 4) (oi := { dst := some 172, op := Go.Op.move (Go.Operand.tmp 8), type := 26, pos := "law.go:69", after := #[{ on := 2, ground := Go.Ground.guard }], guard := some (2, false) }) (v := ?_) rfl (by kernel_rfl) (by kernel_rfl) (by kernel_rfl) (fun _ _ _ h => h) (Or.inl ⟨by rfl, ?_⟩) (by assumption) ?_
  rotate_left
  · intro w hSw
    obtain ⟨z6, ⟨x1, x2, x3, x4, x5⟩, ⟨y1, y2, y3, y4, y5⟩, ⟨u1, u2, u3, u4⟩, ⟨v1, v2, v3, v4⟩⟩ := hSw
    simp only at x1 x2 x3 x4 x5 y1 y2 y3 y4 y5 u1 u2 u3 u4 v1 v2 v3 v4
    go_simp
    try with_reducible rfl
  try simp only [Act.put, List.setIfInBounds_toArray, List.set_cons_zero, List.set_cons_succ]
  refine wpAnyH_ready (rs := [5]) (by kernel_rfl) (by simp) ?_
  refine AllReadyH.cons (o := { dst := some 173, op := Go.Op.call { callee := Go.Callee.value (Go.Operand.func 17), args := #[Go.Operand.tmp 171, Go.Operand.tmp 172], argTypes := #[24, 26] }, type := 4, pos := "law.go:69", after := #[{ on := 3, ground := Go.Ground.data }, { on := 4, ground := Go.Ground.data }, { on := 2, ground := Go.Ground.chain }, { on := 2, ground := Go.Ground.guard }], guard := some (2, false) }) rfl (fun K hK => ?_) AllReadyH.nil
  go_simp
  go_at_call 17
  refine (gA.out _ hb0).mono ?_
  rintro e w1x ⟨rfl, hb1⟩
  have hs1 := gS.out _ hb1
  refine hK.out _ _ ?_ (fun hHeld => ?_)
  · exact hs1
  clear hK K
  try simp only [Act.put, List.setIfInBounds_toArray, List.set_cons_zero, List.set_cons_succ]
  refine wpAnyH_take (i := 6) (oi := { dst := some 174, op := Go.Op.unOp Go.UnOp.not 4 (Go.Operand.tmp 173), type := 4, pos := "law.go:69", after := #[{ on := 5, ground := Go.Ground.data }, { on := 2, ground := Go.Ground.guard }], guard := some (2, false) }) (v := ?_) rfl (by kernel_rfl) (by kernel_rfl) (by kernel_rfl) (fun _ _ _ h => h) (Or.inl ⟨by rfl, ?_⟩) (by assumption) ?_
  rotate_left
  · intro w hSw
    obtain ⟨z6, ⟨x1, x2, x3, x4, x5⟩, ⟨y1, y2, y3, y4, y5⟩, ⟨u1, u2, u3, u4⟩, ⟨v1, v2, v3, v4⟩⟩ := hSw
    simp only at x1 x2 x3 x4 x5 y1 y2 y3 y4 y5 u1 u2 u3 u4 v1 v2 v3 v4
    go_simp
    try with_reducible rfl
  try simp only [Act.put, List.setIfInBounds_toArray, List.set_cons_zero, List.set_cons_succ]
  refine wpAnyH_take (i := 7) (oi := { dst := some 175, op := Go.Op.pick (Go.Operand.tmp 170) (Go.Operand.const (Go.Value.bool true)) (Go.Operand.tmp 174), type := 4, pos := "law.go:69", after := #[{ on := 2, ground := Go.Ground.data }, { on := 6, ground := Go.Ground.data }], guard := none }) (v := ?_) rfl (by kernel_rfl) (by kernel_rfl) (by kernel_rfl) (fun _ _ _ h => h) (Or.inl ⟨by rfl, ?_⟩) (by assumption) ?_
  rotate_left
  · intro w hSw
    obtain ⟨z6, ⟨x1, x2, x3, x4, x5⟩, ⟨y1, y2, y3, y4, y5⟩, ⟨u1, u2, u3, u4⟩, ⟨v1, v2, v3, v4⟩⟩ := hSw
    simp only at x1 x2 x3 x4 x5 y1 y2 y3 y4 y5 u1 u2 u3 u4 v1 v2 v3 v4
    go_simp
    try with_reducible rfl
  try simp only [Act.put, List.setIfInBounds_toArray, List.set_cons_zero, List.set_cons_succ]
  refine wpAnyH_take (i := 8) (oi := { dst := some 176, op := Go.Op.move (Go.Operand.tmp 175), type := 4, pos := "law.go:69", after := #[{ on := 7, ground := Go.Ground.data }, { on := 5, ground := Go.Ground.chain }], guard := none }) (v := ?_) rfl (by kernel_rfl) (by kernel_rfl) (by kernel_rfl) (fun _ _ _ h => h) (Or.inl ⟨by rfl, ?_⟩) (by assumption) ?_
  rotate_left
  · intro w hSw
    obtain ⟨z6, ⟨x1, x2, x3, x4, x5⟩, ⟨y1, y2, y3, y4, y5⟩, ⟨u1, u2, u3, u4⟩, ⟨v1, v2, v3, v4⟩⟩ := hSw
    simp only at x1 x2 x3 x4 x5 y1 y2 y3 y4 y5 u1 u2 u3 u4 v1 v2 v3 v4
    go_simp
    try with_reducible rfl
  try simp only [Act.put, List.setIfInBounds_toArray, List.set_cons_zero, List.set_cons_succ]
  refine wpAnyH_take (i := 9) (oi := { dst := some 177, op := Go.Op.load 30 (Go.Operand.tmp 24), type := 30, pos := "law.go:69", after := #[{ on := 8, ground := Go.Ground.guard }], guard := some (8, false) }) (v := ?_) rfl (by kernel_rfl) (by kernel_rfl) (by kernel_rfl) (fun _ _ _ h => h) (Or.inl ⟨by rfl, ?_⟩) (by assumption) ?_
  rotate_left
  · intro w hSw
    obtain ⟨z6, ⟨x1, x2, x3, x4, x5⟩, ⟨y1, y2, y3, y4, y5⟩, ⟨u1, u2, u3, u4⟩, ⟨v1, v2, v3, v4⟩⟩ := hSw
    simp only at x1 x2 x3 x4 x5 y1 y2 y3 y4 y5 u1 u2 u3 u4 v1 v2 v3 v4
    go_simp
    try with_reducible rfl
  try simp only [Act.put, List.setIfInBounds_toArray, List.set_cons_zero, List.set_cons_succ]
  refine wpAnyH_take (i := 10) (oi := { dst := some 178, op := Go.Op.load 30 (Go.Operand.tmp 27), type := 30, pos := "law.go:69", after := #[{ on := 8, ground := Go.Ground.guard }], guard := some (8, false) }) (v := ?_) rfl (by kernel_rfl) (by kernel_rfl) (by kernel_rfl) (fun _ _ _ h => h) (Or.inl ⟨by rfl, ?_⟩) (by assumption) ?_
  rotate_left
  · intro w hSw
    obtain ⟨z6, ⟨x1, x2, x3, x4, x5⟩, ⟨y1, y2, y3, y4, y5⟩, ⟨u1, u2, u3, u4⟩, ⟨v1, v2, v3, v4⟩⟩ := hSw
    simp only at x1 x2 x3 x4 x5 y1 y2 y3 y4 y5 u1 u2 u3 u4 v1 v2 v3 v4
    go_simp
    try with_reducible rfl
  try simp only [Act.put, List.setIfInBounds_toArray, List.set_cons_zero, List.set_cons_succ]
  refine wpAnyH_take (i := 11) (oi := { dst := some 179, op := Go.Op.binOp Go.BinOp.neq 30 (Go.Operand.tmp 177) (Go.Operand.tmp 178) 30, type := 4, pos := "law.go:69", after := #[{ on := 9, ground := Go.Ground.data }, { on := 10, ground := Go.Ground.data }, { on := 8, ground := Go.Ground.guard }], guard := some (8, false) }) (v := ?_) rfl (by kernel_rfl) (by kernel_rfl) (by kernel_rfl) (fun _ _ _ h => h) (Or.inl ⟨by rfl, ?_⟩) (by assumption) ?_
  rotate_left
  · intro w hSw
    obtain ⟨z6, ⟨x1, x2, x3, x4, x5⟩, ⟨y1, y2, y3, y4, y5⟩, ⟨u1, u2, u3, u4⟩, ⟨v1, v2, v3, v4⟩⟩ := hSw
    simp only at x1 x2 x3 x4 x5 y1 y2 y3 y4 y5 u1 u2 u3 u4 v1 v2 v3 v4
    go_simp
    try with_reducible rfl
  try simp only [Act.put, List.setIfInBounds_toArray, List.set_cons_zero, List.set_cons_succ]
  refine wpAnyH_take (i := 12) (oi := { dst := some 180, op := Go.Op.pick (Go.Operand.tmp 176) (Go.Operand.const (Go.Value.bool true)) (Go.Operand.tmp 179), type := 4, pos := "law.go:69", after := #[{ on := 8, ground := Go.Ground.data }, { on := 11, ground := Go.Ground.data }], guard := none }) (v := ?_) rfl (by kernel_rfl) (by kernel_rfl) (by kernel_rfl) (fun _ _ _ h => h) (Or.inl ⟨by rfl, ?_⟩) (by assumption) ?_
  rotate_left
  · intro w hSw
    obtain ⟨z6, ⟨x1, x2, x3, x4, x5⟩, ⟨y1, y2, y3, y4, y5⟩, ⟨u1, u2, u3, u4⟩, ⟨v1, v2, v3, v4⟩⟩ := hSw
    simp only at x1 x2 x3 x4 x5 y1 y2 y3 y4 y5 u1 u2 u3 u4 v1 v2 v3 v4
    go_simp
    try with_reducible rfl
  try simp only [Act.put, List.setIfInBounds_toArray, List.set_cons_zero, List.set_cons_succ]
  refine wpAnyH_take (i := 13) (oi := { dst := some 181, op := Go.Op.move (Go.Operand.tmp 180), type := 4, pos := "law.go:69", after := #[{ on := 12, ground := Go.Ground.data }, { on := 8, ground := Go.Ground.chain }], guard := none }) (v := ?_) rfl (by kernel_rfl) (by kernel_rfl) (by kernel_rfl) (fun _ _ _ h => h) (Or.inl ⟨by rfl, ?_⟩) (by assumption) ?_
  rotate_left
  · intro w hSw
    obtain ⟨z6, ⟨x1, x2, x3, x4, x5⟩, ⟨y1, y2, y3, y4, y5⟩, ⟨u1, u2, u3, u4⟩, ⟨v1, v2, v3, v4⟩⟩ := hSw
    simp only at x1 x2 x3 x4 x5 y1 y2 y3 y4 y5 u1 u2 u3 u4 v1 v2 v3 v4
    go_simp
    try with_reducible rfl
  try simp only [Act.put, List.setIfInBounds_toArray, List.set_cons_zero, List.set_cons_succ]
  refine wpAnyH_take (i := 14) (oi := { dst := some 182, op := Go.Op.load 47 (Go.Operand.tmp 25), type := 47, pos := "law.go:69", after := #[{ on := 13, ground := Go.Ground.guard }], guard := some (13, false) }) (v := ?_) rfl (by kernel_rfl) (by kernel_rfl) (by kernel_rfl) (fun _ _ _ h => h) (Or.inl ⟨by rfl, ?_⟩) (by assumption) ?_
  rotate_left
  · intro w hSw
    obtain ⟨z6, ⟨x1, x2, x3, x4, x5⟩, ⟨y1, y2, y3, y4, y5⟩, ⟨u1, u2, u3, u4⟩, ⟨v1, v2, v3, v4⟩⟩ := hSw
    simp only at x1 x2 x3 x4 x5 y1 y2 y3 y4 y5 u1 u2 u3 u4 v1 v2 v3 v4
    go_simp
    try with_reducible rfl
  try simp only [Act.put, List.setIfInBounds_toArray, List.set_cons_zero, List.set_cons_succ]
  refine wpAnyH_take (i := 15) (oi := { dst := some 183, op := Go.Op.load 47 (Go.Operand.tmp 28), type := 47, pos := "law.go:69", after := #[{ on := 13, ground := Go.Ground.guard }], guard := some (13, false) }) (v := ?_) rfl (by kernel_rfl) (by kernel_rfl) (by kernel_rfl) (fun _ _ _ h => h) (Or.inl ⟨by rfl, ?_⟩) (by assumption) ?_
  rotate_left
  · intro w hSw
    obtain ⟨z6, ⟨x1, x2, x3, x4, x5⟩, ⟨y1, y2, y3, y4, y5⟩, ⟨u1, u2, u3, u4⟩, ⟨v1, v2, v3, v4⟩⟩ := hSw
    simp only at x1 x2 x3 x4 x5 y1 y2 y3 y4 y5 u1 u2 u3 u4 v1 v2 v3 v4
    go_simp
    try with_reducible rfl
  try simp only [Act.put, List.setIfInBounds_toArray, List.set_cons_zero, List.set_cons_succ]
  refine wpAnyH_take (i := 16) (oi := { dst := some 184, op := Go.Op.binOp Go.BinOp.neq 47 (Go.Operand.tmp 182) (Go.Operand.tmp 183) 47, type := 4, pos := "law.go:69", after := #[{ on := 14, ground := Go.Ground.data }, { on := 15, ground := Go.Ground.data }, { on := 13, ground := Go.Ground.guard }], guard := some (13, false) }) (v := ?_) rfl (by kernel_rfl) (by kernel_rfl) (by kernel_rfl) (fun _ _ _ h => h) (Or.inl ⟨by rfl, ?_⟩) (by assumption) ?_
  rotate_left
  · intro w hSw
    obtain ⟨z6, ⟨x1, x2, x3, x4, x5⟩, ⟨y1, y2, y3, y4, y5⟩, ⟨u1, u2, u3, u4⟩, ⟨v1, v2, v3, v4⟩⟩ := hSw
    simp only at x1 x2 x3 x4 x5 y1 y2 y3 y4 y5 u1 u2 u3 u4 v1 v2 v3 v4
    go_simp
    try with_reducible rfl
  try simp only [Act.put, List.setIfInBounds_toArray, List.set_cons_zero, List.set_cons_succ]
  refine wpAnyH_take (i := 17) (oi := { dst := some 185, op := Go.Op.pick (Go.Operand.tmp 181) (Go.Operand.const (Go.Value.bool true)) (Go.Operand.tmp 184), type := 4, pos := "law.go:69", after := #[{ on := 13, ground := Go.Ground.data }, { on := 16, ground := Go.Ground.data }], guard := none }) (v := ?_) rfl (by kernel_rfl) (by kernel_rfl) (by kernel_rfl) (fun _ _ _ h => h) (Or.inl ⟨by rfl, ?_⟩) (by assumption) ?_
  rotate_left
  · intro w hSw
    obtain ⟨z6, ⟨x1, x2, x3, x4, x5⟩, ⟨y1, y2, y3, y4, y5⟩, ⟨u1, u2, u3, u4⟩, ⟨v1, v2, v3, v4⟩⟩ := hSw
    simp only at x1 x2 x3 x4 x5 y1 y2 y3 y4 y5 u1 u2 u3 u4 v1 v2 v3 v4
    go_simp
    try with_reducible rfl
  try simp only [Act.put, List.setIfInBounds_toArray, List.set_cons_zero, List.set_cons_succ]
  refine wpAnyH_take (i := 18) (oi := { dst := some 186, op := Go.Op.move (Go.Operand.tmp 185), type := 4, pos := "law.go:69", after := #[{ on := 17, ground := Go.Ground.data }, { on := 13, ground := Go.Ground.chain }], guard := none }) (v := ?_) rfl (by kernel_rfl) (by kernel_rfl) (by kernel_rfl) (fun _ _ _ h => h) (Or.inl ⟨by rfl, ?_⟩) (by assumption) ?_
  rotate_left
  · intro w hSw
    obtain ⟨z6, ⟨x1, x2, x3, x4, x5⟩, ⟨y1, y2, y3, y4, y5⟩, ⟨u1, u2, u3, u4⟩, ⟨v1, v2, v3, v4⟩⟩ := hSw
    simp only at x1 x2 x3 x4 x5 y1 y2 y3 y4 y5 u1 u2 u3 u4 v1 v2 v3 v4
    go_simp
    try with_reducible rfl
  try simp only [Act.put, List.setIfInBounds_toArray, List.set_cons_zero, List.set_cons_succ]
  refine wpAnyH_take (i := 19) (oi := { dst := some 187, op := Go.Op.move (Go.Operand.tmp 26), type := 4, pos := "law.go:69", after := #[{ on := 18, ground := Go.Ground.guard }], guard := some (18, false) }) (v := ?_) rfl (by kernel_rfl) (by kernel_rfl) (by kernel_rfl) (fun _ _ _ h => h) (Or.inl ⟨by rfl, ?_⟩) (by assumption) ?_
  rotate_left
  · intro w hSw
    obtain ⟨z6, ⟨x1, x2, x3, x4, x5⟩, ⟨y1, y2, y3, y4, y5⟩, ⟨u1, u2, u3, u4⟩, ⟨v1, v2, v3, v4⟩⟩ := hSw
    simp only at x1 x2 x3 x4 x5 y1 y2 y3 y4 y5 u1 u2 u3 u4 v1 v2 v3 v4
    go_simp
    try with_reducible rfl
  try simp only [Act.put, List.setIfInBounds_toArray, List.set_cons_zero, List.set_cons_succ]
  refine wpAnyH_take (i := 20) (oi := { dst := some 188, op := Go.Op.move (Go.Operand.tmp 29), type := 4, pos := "law.go:69", after := #[{ on := 18, ground := Go.Ground.guard }], guard := some (18, false) }) (v := ?_) rfl (by kernel_rfl) (by kernel_rfl) (by kernel_rfl) (fun _ _ _ h => h) (Or.inl ⟨by rfl, ?_⟩) (by assumption) ?_
  rotate_left
  · intro w hSw
    obtain ⟨z6, ⟨x1, x2, x3, x4, x5⟩, ⟨y1, y2, y3, y4, y5⟩, ⟨u1, u2, u3, u4⟩, ⟨v1, v2, v3, v4⟩⟩ := hSw
    simp only at x1 x2 x3 x4 x5 y1 y2 y3 y4 y5 u1 u2 u3 u4 v1 v2 v3 v4
    go_simp
    try with_reducible rfl
  try simp only [Act.put, List.setIfInBounds_toArray, List.set_cons_zero, List.set_cons_succ]
  refine wpAnyH_take (i := 21) (oi := { dst := some 189, op := Go.Op.binOp Go.BinOp.neq 4 (Go.Operand.tmp 187) (Go.Operand.tmp 188) 4, type := 4, pos := "law.go:69", after := #[{ on := 19, ground := Go.Ground.data }, { on := 20, ground := Go.Ground.data }, { on := 18, ground := Go.Ground.guard }], guard := some (18, false) }) (v := ?_) rfl (by kernel_rfl) (by kernel_rfl) (by kernel_rfl) (fun _ _ _ h => h) (Or.inl ⟨by rfl, ?_⟩) (by assumption) ?_
  rotate_left
  · intro w hSw
    obtain ⟨z6, ⟨x1, x2, x3, x4, x5⟩, ⟨y1, y2, y3, y4, y5⟩, ⟨u1, u2, u3, u4⟩, ⟨v1, v2, v3, v4⟩⟩ := hSw
    simp only at x1 x2 x3 x4 x5 y1 y2 y3 y4 y5 u1 u2 u3 u4 v1 v2 v3 v4
    go_simp
    try with_reducible rfl
  try simp only [Act.put, List.setIfInBounds_toArray, List.set_cons_zero, List.set_cons_succ]
  refine wpAnyH_take (i := 22) (oi := { dst := some 190, op := Go.Op.pick (Go.Operand.tmp 186) (Go.Operand.const (Go.Value.bool true)) (Go.Operand.tmp 189), type := 4, pos := "law.go:69", after := #[{ on := 18, ground := Go.Ground.data }, { on := 21, ground := Go.Ground.data }], guard := none }) (v := ?_) rfl (by kernel_rfl) (by kernel_rfl) (by kernel_rfl) (fun _ _ _ h => h) (Or.inl ⟨by rfl, ?_⟩) (by assumption) ?_
  rotate_left
  · intro w hSw
    obtain ⟨z6, ⟨x1, x2, x3, x4, x5⟩, ⟨y1, y2, y3, y4, y5⟩, ⟨u1, u2, u3, u4⟩, ⟨v1, v2, v3, v4⟩⟩ := hSw
    simp only at x1 x2 x3 x4 x5 y1 y2 y3 y4 y5 u1 u2 u3 u4 v1 v2 v3 v4
    go_simp
    try with_reducible rfl
  try simp only [Act.put, List.setIfInBounds_toArray, List.set_cons_zero, List.set_cons_succ]
  refine wpAnyH_take (i := 23) (oi := { dst := some 191, op := Go.Op.move (Go.Operand.tmp 190), type := 4, pos := "law.go:69", after := #[{ on := 22, ground := Go.Ground.data }, { on := 18, ground := Go.Ground.chain }], guard := none }) (v := ?_) rfl (by kernel_rfl) (by kernel_rfl) (by kernel_rfl) (fun _ _ _ h => h) (Or.inl ⟨by rfl, ?_⟩) (by assumption) ?_
  rotate_left
  · intro w hSw
    obtain ⟨z6, ⟨x1, x2, x3, x4, x5⟩, ⟨y1, y2, y3, y4, y5⟩, ⟨u1, u2, u3, u4⟩, ⟨v1, v2, v3, v4⟩⟩ := hSw
    simp only at x1 x2 x3 x4 x5 y1 y2 y3 y4 y5 u1 u2 u3 u4 v1 v2 v3 v4
    go_simp
    try with_reducible rfl
  try simp only [Act.put, List.setIfInBounds_toArray, List.set_cons_zero, List.set_cons_succ]
  refine wpAnyH_take (i := 24) (oi := { dst := some 192, op := Go.Op.move (Go.Operand.tmp 7), type := 24, pos := "law.go:69", after := #[{ on := 23, ground := Go.Ground.guard }], guard := some (23, false) }) (v := ?_) rfl (by kernel_rfl) (by kernel_rfl) (by kernel_rfl) (fun _ _ _ h => h) (Or.inl ⟨by rfl, ?_⟩) (by assumption) ?_
  rotate_left
  · intro w hSw
    obtain ⟨z6, ⟨x1, x2, x3, x4, x5⟩, ⟨y1, y2, y3, y4, y5⟩, ⟨u1, u2, u3, u4⟩, ⟨v1, v2, v3, v4⟩⟩ := hSw
    simp only at x1 x2 x3 x4 x5 y1 y2 y3 y4 y5 u1 u2 u3 u4 v1 v2 v3 v4
    go_simp
    try with_reducible rfl
  try simp only [Act.put, List.setIfInBounds_toArray, List.set_cons_zero, List.set_cons_succ]
  refine wpAnyH_take (i := 25) (oi := { dst := some 193, op := Go.Op.fieldAddr 34 (Go.Operand.tmp 10) 1, type := 0, pos := "law.go:69", after := #[{ on := 23, ground := Go.Ground.guard }], guard := some (23, false) }) (v := ?_) rfl (by kernel_rfl) (by kernel_rfl) (by kernel_rfl) (fun _ _ _ h => h) (Or.inl ⟨by rfl, ?_⟩) (by assumption) ?_
  rotate_left
  · intro w hSw
    obtain ⟨z6, ⟨x1, x2, x3, x4, x5⟩, ⟨y1, y2, y3, y4, y5⟩, ⟨u1, u2, u3, u4⟩, ⟨v1, v2, v3, v4⟩⟩ := hSw
    simp only at x1 x2 x3 x4 x5 y1 y2 y3 y4 y5 u1 u2 u3 u4 v1 v2 v3 v4
    go_simp
    try with_reducible rfl
  try simp only [Act.put, List.setIfInBounds_toArray, List.set_cons_zero, List.set_cons_succ]
  refine wpAnyH_take (i := 26) (oi := { dst := some 194, op := Go.Op.fieldAddr 32 (Go.Operand.tmp 193) 1, type := 0, pos := "law.go:69", after := #[{ on := 25, ground := Go.Ground.data }, { on := 23, ground := Go.Ground.guard }], guard := some (23, false) }) (v := ?_) rfl (by kernel_rfl) (by kernel_rfl) (by kernel_rfl) (fun _ _ _ h => h) (Or.inl ⟨by rfl, ?_⟩) (by assumption) ?_
  rotate_left
  · intro w hSw
    obtain ⟨z6, ⟨x1, x2, x3, x4, x5⟩, ⟨y1, y2, y3, y4, y5⟩, ⟨u1, u2, u3, u4⟩, ⟨v1, v2, v3, v4⟩⟩ := hSw
    simp only at x1 x2 x3 x4 x5 y1 y2 y3 y4 y5 u1 u2 u3 u4 v1 v2 v3 v4
    go_simp
    try with_reducible rfl
  try simp only [Act.put, List.setIfInBounds_toArray, List.set_cons_zero, List.set_cons_succ]
  refine wpAnyH_take (i := 27) (oi := { dst := some 195, op := Go.Op.load 3 (Go.Operand.tmp 194), type := 3, pos := "law.go:69", after := #[{ on := 26, ground := Go.Ground.data }, { on := 23, ground := Go.Ground.guard }], guard := some (23, false) }) (v := ?_) rfl (by kernel_rfl) (by kernel_rfl) (by kernel_rfl) (fun _ _ _ h => h) (Or.inl ⟨by rfl, ?_⟩) (by assumption) ?_
  rotate_left
  · intro w hSw
    obtain ⟨z6, ⟨x1, x2, x3, x4, x5⟩, ⟨y1, y2, y3, y4, y5⟩, ⟨u1, u2, u3, u4⟩, ⟨v1, v2, v3, v4⟩⟩ := hSw
    simp only at x1 x2 x3 x4 x5 y1 y2 y3 y4 y5 u1 u2 u3 u4 v1 v2 v3 v4
    go_simp
    try with_reducible rfl
  try simp only [Act.put, List.setIfInBounds_toArray, List.set_cons_zero, List.set_cons_succ]
  refine wpAnyH_take (i := 29) (oi := { dst := some 197, op := Go.Op.move (Go.Operand.tmp 8), type := 26, pos := "law.go:69", after := #[{ on := 23, ground := Go.Ground.guard }], guard := some (23, false) }) (v := ?_) rfl (by kernel_rfl) (by kernel_rfl) (by kernel_rfl) (fun _ _ _ h => h) (Or.inl ⟨by rfl, ?_⟩) (by assumption) ?_
  rotate_left
  · intro w hSw
    obtain ⟨z6, ⟨x1, x2, x3, x4, x5⟩, ⟨y1, y2, y3, y4, y5⟩, ⟨u1, u2, u3, u4⟩, ⟨v1, v2, v3, v4⟩⟩ := hSw
    simp only at x1 x2 x3 x4 x5 y1 y2 y3 y4 y5 u1 u2 u3 u4 v1 v2 v3 v4
    go_simp
    try with_reducible rfl
  try simp only [Act.put, List.setIfInBounds_toArray, List.set_cons_zero, List.set_cons_succ]
  refine wpAnyH_take (i := 30) (oi := { dst := some 198, op := Go.Op.fieldAddr 34 (Go.Operand.tmp 10) 1, type := 0, pos := "law.go:69", after := #[{ on := 23, ground := Go.Ground.guard }], guard := some (23, false) }) (v := ?_) rfl (by kernel_rfl) (by kernel_rfl) (by kernel_rfl) (fun _ _ _ h => h) (Or.inl ⟨by rfl, ?_⟩) (by assumption) ?_
  rotate_left
  · intro w hSw
    obtain ⟨z6, ⟨x1, x2, x3, x4, x5⟩, ⟨y1, y2, y3, y4, y5⟩, ⟨u1, u2, u3, u4⟩, ⟨v1, v2, v3, v4⟩⟩ := hSw
    simp only at x1 x2 x3 x4 x5 y1 y2 y3 y4 y5 u1 u2 u3 u4 v1 v2 v3 v4
    go_simp
    try with_reducible rfl
  try simp only [Act.put, List.setIfInBounds_toArray, List.set_cons_zero, List.set_cons_succ]
  refine wpAnyH_take (i := 31) (oi := { dst := some 199, op := Go.Op.fieldAddr 32 (Go.Operand.tmp 198) 1, type := 0, pos := "law.go:69", after := #[{ on := 30, ground := Go.Ground.data }, { on := 23, ground := Go.Ground.guard }], guard := some (23, false) }) (v := ?_) rfl (by kernel_rfl) (by kernel_rfl) (by kernel_rfl) (fun _ _ _ h => h) (Or.inl ⟨by rfl, ?_⟩) (by assumption) ?_
  rotate_left
  · intro w hSw
    obtain ⟨z6, ⟨x1, x2, x3, x4, x5⟩, ⟨y1, y2, y3, y4, y5⟩, ⟨u1, u2, u3, u4⟩, ⟨v1, v2, v3, v4⟩⟩ := hSw
    simp only at x1 x2 x3 x4 x5 y1 y2 y3 y4 y5 u1 u2 u3 u4 v1 v2 v3 v4
    go_simp
    try with_reducible rfl
  try simp only [Act.put, List.setIfInBounds_toArray, List.set_cons_zero, List.set_cons_succ]
  refine wpAnyH_take (i := 32) (oi := { dst := some 200, op := Go.Op.load 3 (Go.Operand.tmp 199), type := 3, pos := "law.go:69", after := #[{ on := 31, ground := Go.Ground.data }, { on := 23, ground := Go.Ground.guard }], guard := some (23, false) }) (v := ?_) rfl (by kernel_rfl) (by kernel_rfl) (by kernel_rfl) (fun _ _ _ h => h) (Or.inl ⟨by rfl, ?_⟩) (by assumption) ?_
  rotate_left
  · intro w hSw
    obtain ⟨z6, ⟨x1, x2, x3, x4, x5⟩, ⟨y1, y2, y3, y4, y5⟩, ⟨u1, u2, u3, u4⟩, ⟨v1, v2, v3, v4⟩⟩ := hSw
    simp only at x1 x2 x3 x4 x5 y1 y2 y3 y4 y5 u1 u2 u3 u4 v1 v2 v3 v4
    go_simp
    try with_reducible rfl
  try simp only [Act.put, List.setIfInBounds_toArray, List.set_cons_zero, List.set_cons_succ]
  refine wpAnyH_ready (rs := [28]) (by kernel_rfl) (by simp) ?_
  refine AllReadyH.cons (o := { dst := some 196, op := Go.Op.call { callee := Go.Callee.value (Go.Operand.func 19), args := #[Go.Operand.tmp 192, Go.Operand.tmp 195], argTypes := #[24, 3] }, type := 52, pos := "law.go:69", after := #[{ on := 24, ground := Go.Ground.data }, { on := 27, ground := Go.Ground.data }, { on := 23, ground := Go.Ground.chain }, { on := 23, ground := Go.Ground.guard }], guard := some (23, false) }) rfl (fun K hK => ?_) AllReadyH.nil
  go_simp
  go_at_call 19
  refine (gHh.out _ hb1).mono ?_
  rintro e w2x ⟨A3, c3, rfl, hl3, hb2⟩
  have hs2 := gS.out _ hb2
  refine hK.out _ _ ?_ (fun hHeld => ?_)
  · exact hs2
  clear hK K
  try simp only [Act.put, List.setIfInBounds_toArray, List.set_cons_zero, List.set_cons_succ]
  refine wpAnyH_ready (rs := [33]) (by kernel_rfl) (by simp) ?_
  refine AllReadyH.cons (o := { dst := some 201, op := Go.Op.call { callee := Go.Callee.value (Go.Operand.func 20), args := #[Go.Operand.tmp 197, Go.Operand.tmp 200], argTypes := #[26, 3] }, type := 52, pos := "law.go:69", after := #[{ on := 29, ground := Go.Ground.data }, { on := 32, ground := Go.Ground.data }, { on := 28, ground := Go.Ground.chain }, { on := 23, ground := Go.Ground.guard }], guard := some (23, false) }) rfl (fun K hK => ?_) AllReadyH.nil
  go_simp
  go_at_call 20
  refine (gGg.out _ hb2).mono ?_
  rintro e w3x ⟨A4, c4, rfl, hl4, hbl, hb3⟩
  have hs3 := gS.out _ hb3
  have hl5 := hl3.below hbl
  refine hK.out _ _ ?_ (fun hHeld => ?_)
  · exact hs3
  clear hK K
  try simp only [Act.put, List.setIfInBounds_toArray, List.set_cons_zero, List.set_cons_succ]
  refine wpAnyH_ready (rs := [34]) (by kernel_rfl) (by simp) ?_
  refine AllReadyH.cons (o := { dst := some 202, op := Go.Op.call { callee := Go.Callee.value (Go.Operand.func 18), args := #[Go.Operand.tmp 196, Go.Operand.tmp 201], argTypes := #[52, 52] }, type := 4, pos := "law.go:69", after := #[{ on := 28, ground := Go.Ground.data }, { on := 33, ground := Go.Ground.data }, { on := 33, ground := Go.Ground.chain }, { on := 23, ground := Go.Ground.guard }], guard := some (23, false) }) rfl (fun K hK => ?_) AllReadyH.nil
  go_simp
  go_at_call 18
  refine (gSL.out _ _ _ _ _ hl5 hl4 hb3).mono ?_
  rintro e w4x ⟨rfl, hb4⟩
  have hs4 := gS.out _ hb4
  refine hK.out _ _ ?_ (fun hHeld => ?_)
  · exact hs4
  clear hK K
  try simp only [Act.put, List.setIfInBounds_toArray, List.set_cons_zero, List.set_cons_succ]
  refine wpAnyH_take (i := 35) (oi := { dst := some 203, op := Go.Op.unOp Go.UnOp.not 4 (Go.Operand.tmp 202), type := 4, pos := "law.go:69", after := #[{ on := 34, ground := Go.Ground.data }, { on := 23, ground := Go.Ground.guard }], guard := some (23, false) }) (v := ?_) rfl (by kernel_rfl) (by kernel_rfl) (by kernel_rfl) (fun _ _ _ h => h) (Or.inl ⟨by rfl, ?_⟩) (by assumption) ?_
  rotate_left
  · intro w hSw
    obtain ⟨z6, ⟨x1, x2, x3, x4, x5⟩, ⟨y1, y2, y3, y4, y5⟩, ⟨u1, u2, u3, u4⟩, ⟨v1, v2, v3, v4⟩⟩ := hSw
    simp only at x1 x2 x3 x4 x5 y1 y2 y3 y4 y5 u1 u2 u3 u4 v1 v2 v3 v4
    go_simp
    try with_reducible rfl
  try simp only [Act.put, List.setIfInBounds_toArray, List.set_cons_zero, List.set_cons_succ]
  refine wpAnyH_take (i := 36) (oi := { dst := some 204, op := Go.Op.pick (Go.Operand.tmp 191) (Go.Operand.const (Go.Value.bool true)) (Go.Operand.tmp 203), type := 4, pos := "law.go:69", after := #[{ on := 23, ground := Go.Ground.data }, { on := 35, ground := Go.Ground.data }], guard := none }) (v := ?_) rfl (by kernel_rfl) (by kernel_rfl) (by kernel_rfl) (fun _ _ _ h => h) (Or.inl ⟨by rfl, ?_⟩) (by assumption) ?_
  rotate_left
  · intro w hSw
    obtain ⟨z6, ⟨x1, x2, x3, x4, x5⟩, ⟨y1, y2, y3, y4, y5⟩, ⟨u1, u2, u3, u4⟩, ⟨v1, v2, v3, v4⟩⟩ := hSw
    simp only at x1 x2 x3 x4 x5 y1 y2 y3 y4 y5 u1 u2 u3 u4 v1 v2 v3 v4
    go_simp
    try with_reducible rfl
  try simp only [Act.put, List.setIfInBounds_toArray, List.set_cons_zero, List.set_cons_succ]
  refine wpAnyH_done (by kernel_rfl) ?_ _
  refine NoPanic.normal ?_
  exact HQ.out _ _ _ _ _ _ _ _ _ _ _ _ _ _ _ _ _ _ _ _ _ _ _ _ _ _ _ _ _ _ _ _ _ _ _ _ _ hb4
end Go.Proofs.YtikienhlgmcfkaaGreatDoor
