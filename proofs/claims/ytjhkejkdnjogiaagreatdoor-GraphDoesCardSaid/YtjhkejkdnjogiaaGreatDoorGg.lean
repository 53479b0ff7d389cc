/- A table: who waits for whom at all its nodes. -/
import Derived.Test.YtjhkejkdnjogiaaGreatDoorGe
import Derived.Test.YtjhkejkdnjogiaaGreatDoorTp
import Derived.Test.YtjhkejkdnjogiaaGreatDoorRw
namespace Go.Proofs.YtjhkejkdnjogiaaGreatDoor
open Go Go.RowKit Go.Shelf
attribute [local go_sem] Oper.semAt_some
set_option maxRecDepth 100000

/-- a table's box and a node's -/
def Sa (B : Nat) (a : Option Addr) (K : Nat) (p : Pa.Pt) (w : World) : Prop :=
  w.cell? ⟨B, 0, none⟩ = some (.pointer a) ∧ w.cell? ⟨K, 0, none⟩ = some (.int .i64 p.a) ∧ w.cell? ⟨K, 1, none⟩ = some (.int .i64 p.b) ∧ w.cell? ⟨K, 2, none⟩ = some (.int .i64 p.c) ∧ w.cell? ⟨K, 3, none⟩ = some (.int .i64 p.d) ∧ w.cell? ⟨K, 4, none⟩ = some (.int .i64 p.e)
theorem sa_below {B K : Nat} {a : Option Addr} {p : Pa.Pt} {w w' : World} (h : Sa B a K p w) (hb : Below w.heap.size w w') : Sa B a K p w' := by
  obtain ⟨h0, h1, h2, h3, h4, h5⟩ := h
  have k : ∀ b o v, w.cell? ⟨b, o, none⟩ = some v → w'.cell? ⟨b, o, none⟩ = some v := fun b o v hv => (hb.cell (p := ⟨b, o, none⟩) (cell_lt hv)).trans hv
  exact ⟨k _ _ _ h0, k _ _ _ h1, k _ _ _ h2, k _ _ _ h3, k _ _ _ h4, k _ _ _ h5⟩
theorem sa_set {B K Bl o : Nat} {a : Option Addr} {p : Pa.Pt} {w : World} (h : Sa B a K p w) (h1 : Bl ≠ B) (h2 : Bl ≠ K) (v : Value) : Sa B a K p (w.setCell ⟨Bl, o, none⟩ v) := by
  obtain ⟨h0, c1, c2, c3, c4, c5⟩ := h
  have k : ∀ b q, Bl ≠ b → (w.setCell ⟨Bl, o, none⟩ v).cell? ⟨b, q, none⟩ = w.cell? ⟨b, q, none⟩ := fun b q hb => World.cell?_setCell_far w ⟨Bl, o, none⟩ ⟨b, q, none⟩ v hb
  exact ⟨(k _ _ h1).trans h0, (k _ _ h2).trans c1, (k _ _ h2).trans c2, (k _ _ h2).trans c3, (k _ _ h2).trans c4, (k _ _ h2).trans c5⟩
/-- a region of a function's text, by its number -/
def regionAt (n : Nat) : Code → Option Code
  | .region k ops d => if k = n then some (.region k ops d) else none
  | .seq a b => match regionAt n a with
    | some c => some c
    | none => regionAt n b
  | .cond _ a b => match regionAt n a with
    | some c => some c
    | none => regionAt n b
  | .block _ c => regionAt n c
  | .loop c => regionAt n c
  | .scope c => regionAt n c
  | .rangeFunc _ _ a b => match regionAt n a with
    | some c => some c
    | none => regionAt n b
  | _ => none
noncomputable def all4 : Code := ((Tryz.f13.body.bind (regionAt 4)).getD .skip)
set_option maxHeartbeats 16000000 in
theorem reg4a {W : World} {r m Bt Bl K : Nat} {a : Option Addr} {p : Pa.Pt} {v : Value} {E : List Es.Ed} {G : Value → World → Prop} {Q : Exit → Act → World → Prop} {s0 s2 s5 s6 s7 s8 s9 s10 s11 s12 s13 s14 s15 : Value}
    (hS : Sa Bt a K p W) (hl : W.cell? ⟨Bl, 0, none⟩ = some v) (hBt : Bl ≠ Bt) (hBK : Bl ≠ K)
    (hqu : Calls Tryz.prog 8 #[.pointer a, p.v] W.drew fun e w' => ∃ y, e = .returned y ∧ Below W.drew.heap.size W.drew w' ∧ Calls Tryz.prog 11 #[y] w' (Es.Rows w' E))
    (hj : ∀ w6 A6 c6, Below W.drew.heap.size W.drew w6 → Es.Ls w6 A6 c6 E → ∃ A7 q7 c7 w7, (Builtin.append_ #[35, 35] 35 #[v, .slice A6 E.length c6]).run Tryz.prog w6 = .ok (.slice A7 q7 c7) w7 ∧ G (.slice A7 q7 c7) w7)
    (hg : ∀ v7 w7, G v7 w7 → Sa Bt a K p w7 ∧ w7.cell? ⟨Bl, 0, none⟩ = some v ∧ w7.frozen? ⟨Bl, 0, none⟩ = false)
    (hout : ¬ LetsOut Q) (hpan : ∀ c a a' w, Q (.panic c) a w → Q (.panic c) a' w)
    (hQ : ∀ (t8 t9 t10 t11 t12 t13 v7 : Value) (w7 : World), G v7 w7 → Q .normal { tmps := #[s0, tp Bt, s2, tp Bl, tp K, s5, s6, s7, t8, t9, t10, t11, t12, t13, s14, s15], defers := [] } (w7.setCell ⟨Bl, 0, none⟩ v7)) :
    all4.wpIn (inR r) m Tryz.prog Q { tmps := #[s0, tp Bt, s2, tp Bl, tp K, s5, s6, s7, s8, s9, s10, s11, s12, s13, s14, s15], defers := [] } W := by
  have HQ := Lib.hid hQ
  have HQu := Lib.hid hqu
  have HJ := Lib.hid hj
  have HG := Lib.hid hg
  have HS0 := Lib.hid (show Sa Bt a K p W.drew from hS)
  have hl0 : W.drew.cell? ⟨Bl, 0, none⟩ = some v := hl
  have hBl : Bl < W.drew.heap.size := cell_lt hl0
  clear hQ hqu hj hg hS hl
  obtain ⟨pa, pb, pc, pd, pe⟩ := p
  conv => arg 1; whnf
  refine round_held (S := Sa Bt a K ⟨pa, pb, pc, pd, pe⟩) (by kernel_rfl) (by kernel_rfl) hout HS0.out (fun hHeld => ?_)
  refine wpAnyH_take (i := 1) (oi := { dst := some 9, op := Go.Op.load 27 (Go.Operand.tmp 1), type := 27, pos := "graph.go:46", after := #[], guard := none }) (v := ?_) rfl (by kernel_rfl) (by kernel_rfl) (by kernel_rfl) (fun c a w h => hpan c _ _ w h) (Or.inl ⟨by rfl, ?_⟩) (by assumption) ?_
  rotate_left
  · intro w hSw
    obtain ⟨x0, x1, x2, x3, x4, x5⟩ := hSw
    simp only at x0 x1 x2 x3 x4 x5
    go_simp
    try with_reducible rfl
  try simp only [Act.put, List.setIfInBounds_toArray, List.set_cons_zero, List.set_cons_succ]
  refine wpAnyH_take (i := 2) (oi := { dst := some 10, op := Go.Op.load 25 (Go.Operand.tmp 4), type := 25, pos := "graph.go:46", after := #[], guard := none }) (v := ?_) rfl (by kernel_rfl) (by kernel_rfl) (by kernel_rfl) (fun c a w h => hpan c _ _ w h) (Or.inl ⟨by rfl, ?_⟩) (by assumption) ?_
  rotate_left
  · intro w hSw
    obtain ⟨x0, x1, x2, x3, x4, x5⟩ := hSw
    simp only at x0 x1 x2 x3 x4 x5
    go_simp
    try with_reducible rfl
  try simp only [Act.put, List.setIfInBounds_toArray, List.set_cons_zero, List.set_cons_succ]
  refine wpAnyH_ready (rs := [0, 3]) (by kernel_rfl) (by simp) ?_
  refine AllReadyH.cons (o := { dst := some 8, op := Go.Op.load 35 (Go.Operand.tmp 3), type := 35, pos := "graph.go:46", after := #[], guard := none }) rfl (fun K' hK => ?_) (AllReadyH.cons (o := { dst := some 11, op := Go.Op.call { callee := Go.Callee.value (Go.Operand.func 8), args := #[Go.Operand.tmp 9, Go.Operand.tmp 10], argTypes := #[27, 25] }, type := 31, pos := "graph.go:46", after := #[{ on := 1, ground := Go.Ground.data }, { on := 2, ground := Go.Ground.data }], guard := none }) rfl (fun K' hK => ?_) AllReadyH.nil)
  · have hl1 := hl0
    go_simp
    refine hK.out _ _ ?_ (fun hHeld => ?_)
    · exact HS0.out
    clear hK K'
    try simp only [Act.put, List.setIfInBounds_toArray, List.set_cons_zero, List.set_cons_succ]
    refine wpAnyH_ready (rs := [3]) (by kernel_rfl) (by simp) ?_
    refine AllReadyH.cons (o := { dst := some 11, op := Go.Op.call { callee := Go.Callee.value (Go.Operand.func 8), args := #[Go.Operand.tmp 9, Go.Operand.tmp 10], argTypes := #[27, 25] }, type := 31, pos := "graph.go:46", after := #[{ on := 1, ground := Go.Ground.data }, { on := 2, ground := Go.Ground.data }], guard := none }) rfl (fun K' hK => ?_) AllReadyH.nil
    go_simp
    go_at_call 8
    refine HQu.out.mono ?_
    rintro e w5 ⟨y, rfl, hb5, hof⟩
    have HOf := Lib.hid hof
    have hl5 := (hb5.cell (p := ⟨Bl, 0, none⟩) hBl).trans hl0
    have hs5 := sa_below HS0.out hb5
    clear hof
    refine hK.out _ _ ?_ (fun hHeld => ?_)
    · exact hs5
    clear hK K'
    try simp only [Act.put, List.setIfInBounds_toArray, List.set_cons_zero, List.set_cons_succ]
    refine wpAnyH_ready (rs := [4]) (by kernel_rfl) (by simp) ?_
    refine AllReadyH.cons (o := { dst := some 12, op := Go.Op.call { callee := Go.Callee.value (Go.Operand.func 11), args := #[Go.Operand.tmp 11], argTypes := #[31] }, type := 35, pos := "graph.go:46", after := #[{ on := 3, ground := Go.Ground.data }, { on := 3, ground := Go.Ground.chain }], guard := none }) rfl (fun K' hK => ?_) AllReadyH.nil
    go_simp
    go_at_call 11
    refine HOf.out.mono ?_
    rintro e w6 ⟨v6, rfl, hrow6, hb6⟩
    have hb56 := hb5.trans (hb6.mono hb5.size)
    have hl6 := (hb56.cell (p := ⟨Bl, 0, none⟩) hBl).trans hl0
    have hs6 := sa_below HS0.out hb56
    have hrow6 := Lib.hid hrow6
    have hb56 := Lib.hid hb56
    clear hb6
    refine hK.out _ _ ?_ (fun hHeld => ?_)
    · exact hs6
    clear hK K'
    try simp only [Act.put, List.setIfInBounds_toArray, List.set_cons_zero, List.set_cons_succ]
    obtain ⟨A6, c6, rfl, hls6⟩ := hrow6.out.ls
    obtain ⟨A7, q7, c7, w7, hrun, hg⟩ := HJ.out w6 A6 c6 hb56.out hls6
    obtain ⟨hs7, hl7, hf7⟩ := HG.out _ _ hg
    have HGd := Lib.hid hg
    clear hg hls6
    refine wpAnyH_ready (rs := [5]) (by kernel_rfl) (by simp) ?_
    refine AllReadyH.cons (o := { dst := some 13, op := Go.Op.call { callee := Go.Callee.builtin Go.Builtin.append, args := #[Go.Operand.tmp 8, Go.Operand.tmp 12], argTypes := #[35, 35] }, type := 35, pos := "graph.go:46", after := #[{ on := 0, ground := Go.Ground.data }, { on := 4, ground := Go.Ground.data }, { on := 4, ground := Go.Ground.chain }], guard := none }) rfl (fun K' hK => ?_) AllReadyH.nil
    refine Es.step_append ?h1 (.tmp 8) (.tmp 12) 35 ?h2 v (.slice A6 E.length c6) ?h3 ?h4 _ _ hrun ?_
    rotate_right
    case h1 => rfl
    case h2 => rfl
    case h3 => kernel_rfl
    case h4 => kernel_rfl
    refine hK.out _ _ ?_ (fun hHeld => ?_)
    · exact hs7
    clear hK K'
    try simp only [Act.put, List.setIfInBounds_toArray, List.set_cons_zero, List.set_cons_succ]
    refine wpAnyH_ready (rs := [6]) (by kernel_rfl) (by simp) ?_
    refine AllReadyH.cons (o := { dst := none, op := Go.Op.store 35 (Go.Operand.tmp 3) (Go.Operand.tmp 13), type := 0, pos := "graph.go:46", after := #[{ on := 5, ground := Go.Ground.data }, { on := 5, ground := Go.Ground.chain }, { on := 0, ground := Go.Ground.phase }, { on := 1, ground := Go.Ground.phase }, { on := 2, ground := Go.Ground.phase }, { on := 3, ground := Go.Ground.phase }, { on := 4, ground := Go.Ground.phase }, { on := 5, ground := Go.Ground.phase }], guard := none }) rfl (fun K' hK => ?_) AllReadyH.nil
    go_simp
    refine hK.out _ _ ?_ (fun hHeld => ?_)
    · exact sa_set hs7 hBt hBK _
    clear hK K'
    try simp only [Act.put, List.setIfInBounds_toArray, List.set_cons_zero, List.set_cons_succ]
    refine wpAnyH_done (by kernel_rfl) ?_ _
    exact HQ.out _ _ _ _ _ _ _ _ HGd.out
  · go_simp
    go_at_call 8
    refine HQu.out.mono ?_
    rintro e w5 ⟨y, rfl, hb5, hof⟩
    have HOf := Lib.hid hof
    have hl5 := (hb5.cell (p := ⟨Bl, 0, none⟩) hBl).trans hl0
    have hs5 := sa_below HS0.out hb5
    clear hof
    refine hK.out _ _ ?_ (fun hHeld => ?_)
    · exact hs5
    clear hK K'
    try simp only [Act.put, List.setIfInBounds_toArray, List.set_cons_zero, List.set_cons_succ]
    refine wpAnyH_ready (rs := [0, 4]) (by kernel_rfl) (by simp) ?_
    refine AllReadyH.cons (o := { dst := some 8, op := Go.Op.load 35 (Go.Operand.tmp 3), type := 35, pos := "graph.go:46", after := #[], guard := none }) rfl (fun K' hK => ?_) (AllReadyH.cons (o := { dst := some 12, op := Go.Op.call { callee := Go.Callee.value (Go.Operand.func 11), args := #[Go.Operand.tmp 11], argTypes := #[31] }, type := 35, pos := "graph.go:46", after := #[{ on := 3, ground := Go.Ground.data }, { on := 3, ground := Go.Ground.chain }], guard := none }) rfl (fun K' hK => ?_) AllReadyH.nil)
    · have hl1 := hl5
      go_simp
      refine hK.out _ _ ?_ (fun hHeld => ?_)
      · exact hs5
      clear hK K'
      try simp only [Act.put, List.setIfInBounds_toArray, List.set_cons_zero, List.set_cons_succ]
      refine wpAnyH_ready (rs := [4]) (by kernel_rfl) (by simp) ?_
      refine AllReadyH.cons (o := { dst := some 12, op := Go.Op.call { callee := Go.Callee.value (Go.Operand.func 11), args := #[Go.Operand.tmp 11], argTypes := #[31] }, type := 35, pos := "graph.go:46", after := #[{ on := 3, ground := Go.Ground.data }, { on := 3, ground := Go.Ground.chain }], guard := none }) rfl (fun K' hK => ?_) AllReadyH.nil
      go_simp
      go_at_call 11
      refine HOf.out.mono ?_
      rintro e w6 ⟨v6, rfl, hrow6, hb6⟩
      have hb56 := hb5.trans (hb6.mono hb5.size)
      have hl6 := (hb56.cell (p := ⟨Bl, 0, none⟩) hBl).trans hl0
      have hs6 := sa_below HS0.out hb56
      have hrow6 := Lib.hid hrow6
      have hb56 := Lib.hid hb56
      clear hb6
      refine hK.out _ _ ?_ (fun hHeld => ?_)
      · exact hs6
      clear hK K'
      try simp only [Act.put, List.setIfInBounds_toArray, List.set_cons_zero, List.set_cons_succ]
      obtain ⟨A6, c6, rfl, hls6⟩ := hrow6.out.ls
      obtain ⟨A7, q7, c7, w7, hrun, hg⟩ := HJ.out w6 A6 c6 hb56.out hls6
      obtain ⟨hs7, hl7, hf7⟩ := HG.out _ _ hg
      have HGd := Lib.hid hg
      clear hg hls6
      refine wpAnyH_ready (rs := [5]) (by kernel_rfl) (by simp) ?_
      refine AllReadyH.cons (o := { dst := some 13, op := Go.Op.call { callee := Go.Callee.builtin Go.Builtin.append, args := #[Go.Operand.tmp 8, Go.Operand.tmp 12], argTypes := #[35, 35] }, type := 35, pos := "graph.go:46", after := #[{ on := 0, ground := Go.Ground.data }, { on := 4, ground := Go.Ground.data }, { on := 4, ground := Go.Ground.chain }], guard := none }) rfl (fun K' hK => ?_) AllReadyH.nil
      refine Es.step_append ?h1 (.tmp 8) (.tmp 12) 35 ?h2 v (.slice A6 E.length c6) ?h3 ?h4 _ _ hrun ?_
      rotate_right
      case h1 => rfl
      case h2 => rfl
      case h3 => kernel_rfl
      case h4 => kernel_rfl
      refine hK.out _ _ ?_ (fun hHeld => ?_)
      · exact hs7
      clear hK K'
      try simp only [Act.put, List.setIfInBounds_toArray, List.set_cons_zero, List.set_cons_succ]
      refine wpAnyH_ready (rs := [6]) (by kernel_rfl) (by simp) ?_
      refine AllReadyH.cons (o := { dst := none, op := Go.Op.store 35 (Go.Operand.tmp 3) (Go.Operand.tmp 13), type := 0, pos := "graph.go:46", after := #[{ on := 5, ground := Go.Ground.data }, { on := 5, ground := Go.Ground.chain }, { on := 0, ground := Go.Ground.phase }, { on := 1, ground := Go.Ground.phase }, { on := 2, ground := Go.Ground.phase }, { on := 3, ground := Go.Ground.phase }, { on := 4, ground := Go.Ground.phase }, { on := 5, ground := Go.Ground.phase }], guard := none }) rfl (fun K' hK => ?_) AllReadyH.nil
      go_simp
      refine hK.out _ _ ?_ (fun hHeld => ?_)
      · exact sa_set hs7 hBt hBK _
      clear hK K'
      try simp only [Act.put, List.setIfInBounds_toArray, List.set_cons_zero, List.set_cons_succ]
      refine wpAnyH_done (by kernel_rfl) ?_ _
      exact HQ.out _ _ _ _ _ _ _ _ HGd.out
    · go_simp
      go_at_call 11
      refine HOf.out.mono ?_
      rintro e w6 ⟨v6, rfl, hrow6, hb6⟩
      have hb56 := hb5.trans (hb6.mono hb5.size)
      have hl6 := (hb56.cell (p := ⟨Bl, 0, none⟩) hBl).trans hl0
      have hs6 := sa_below HS0.out hb56
      have hrow6 := Lib.hid hrow6
      have hb56 := Lib.hid hb56
      clear hb6
      refine hK.out _ _ ?_ (fun hHeld => ?_)
      · exact hs6
      clear hK K'
      try simp only [Act.put, List.setIfInBounds_toArray, List.set_cons_zero, List.set_cons_succ]
      refine wpAnyH_ready (rs := [0]) (by kernel_rfl) (by simp) ?_
      refine AllReadyH.cons (o := { dst := some 8, op := Go.Op.load 35 (Go.Operand.tmp 3), type := 35, pos := "graph.go:46", after := #[], guard := none }) rfl (fun K' hK => ?_) AllReadyH.nil
      have hl1 := hl6
      go_simp
      refine hK.out _ _ ?_ (fun hHeld => ?_)
      · exact hs6
      clear hK K'
      try simp only [Act.put, List.setIfInBounds_toArray, List.set_cons_zero, List.set_cons_succ]
      obtain ⟨A6, c6, rfl, hls6⟩ := hrow6.out.ls
      obtain ⟨A7, q7, c7, w7, hrun, hg⟩ := HJ.out w6 A6 c6 hb56.out hls6
      obtain ⟨hs7, hl7, hf7⟩ := HG.out _ _ hg
      have HGd := Lib.hid hg
      clear hg hls6
      refine wpAnyH_ready (rs := [5]) (by kernel_rfl) (by simp) ?_
      refine AllReadyH.cons (o := { dst := some 13, op := Go.Op.call { callee := Go.Callee.builtin Go.Builtin.append, args := #[Go.Operand.tmp 8, Go.Operand.tmp 12], argTypes := #[35, 35] }, type := 35, pos := "graph.go:46", after := #[{ on := 0, ground := Go.Ground.data }, { on := 4, ground := Go.Ground.data }, { on := 4, ground := Go.Ground.chain }], guard := none }) rfl (fun K' hK => ?_) AllReadyH.nil
      refine Es.step_append ?h1 (.tmp 8) (.tmp 12) 35 ?h2 v (.slice A6 E.length c6) ?h3 ?h4 _ _ hrun ?_
      rotate_right
      case h1 => rfl
      case h2 => rfl
      case h3 => kernel_rfl
      case h4 => kernel_rfl
      refine hK.out _ _ ?_ (fun hHeld => ?_)
      · exact hs7
      clear hK K'
      try simp only [Act.put, List.setIfInBounds_toArray, List.set_cons_zero, List.set_cons_succ]
      refine wpAnyH_ready (rs := [6]) (by kernel_rfl) (by simp) ?_
      refine AllReadyH.cons (o := { dst := none, op := Go.Op.store 35 (Go.Operand.tmp 3) (Go.Operand.tmp 13), type := 0, pos := "graph.go:46", after := #[{ on := 5, ground := Go.Ground.data }, { on := 5, ground := Go.Ground.chain }, { on := 0, ground := Go.Ground.phase }, { on := 1, ground := Go.Ground.phase }, { on := 2, ground := Go.Ground.phase }, { on := 3, ground := Go.Ground.phase }, { on := 4, ground := Go.Ground.phase }, { on := 5, ground := Go.Ground.phase }], guard := none }) rfl (fun K' hK => ?_) AllReadyH.nil
      go_simp
      refine hK.out _ _ ?_ (fun hHeld => ?_)
      · exact sa_set hs7 hBt hBK _
      clear hK K'
      try simp only [Act.put, List.setIfInBounds_toArray, List.set_cons_zero, List.set_cons_succ]
      refine wpAnyH_done (by kernel_rfl) ?_ _
      exact HQ.out _ _ _ _ _ _ _ _ HGd.out
/-- while the edges are gathered: the table's box, the list's, and the list -/
structure AI (w : World) (D0 : Nat) (a : Option Addr) (l : List Es.Ed) (v : Value) (W : World) : Prop where
  b0 : Boxed W w.heap.size 27 (.pointer a)
  b1 : Boxed W (w.heap.size + 1) 35 v
  rn : Es.Row W D0 v l
  bel : Below w.heap.size w W
  sz : D0 ≤ W.heap.size
section
variable {w W W' w1 w6 w7 : World} {D0 K : Nat} {a : Option Addr} {l l' E : List Es.Ed} {v v7 : Value} {p : Pa.Pt}
theorem AI.turn (h : AI w D0 a l v W) (t : Turn D0 W W') (h1 : w.heap.size ≤ D0) : AI w D0 a l v W' :=
  ⟨Abides.boxed _ _ _ _ _ _ h.b0 t, Abides.boxed _ _ _ _ _ _ h.b1 t, An.row_turn h.rn t, t.below h.bel h1 (Nat.le_refl _), Nat.le_trans h.sz t.size⟩
theorem AI.below (h : AI w D0 a l v W) (hb : Below W.heap.size W W') : AI w D0 a l v W' :=
  ⟨(hb.block _ h.b0.lt).trans h.b0, (hb.block _ h.b1.lt).trans h.b1, row_below h.rn hb, h.bel.trans (hb.mono h.bel.size), Nat.le_trans h.sz hb.size⟩
/-- what the round leaves when the edges have been put behind -/
structure Jd (D0 : Nat) (v : Value) (W : World) (l : List Es.Ed) (v7 : Value) (w7 : World) : Prop where
  row : Es.Row w7 D0 v7 l
  only : OnlyS (fun k => v.ownBlock = some k) W w7
  oth : KeepsOthers W w7
theorem AI.join {A6 : Option Addr} {c6 : Nat} (h : AI w D0 a l v W) (hb : Below W.heap.size W w6) (hs : Es.Ls w6 A6 c6 E) (hl : l.length + E.length ≤ 1000000) :
    ∃ A7 q7 c7 w7, (Builtin.append_ #[35, 35] 35 #[v, .slice A6 E.length c6]).run Tryz.prog w6 = .ok (.slice A7 q7 c7) w7 ∧ Jd D0 v W (l ++ E) (.slice A7 q7 c7) w7 := by
  have h6 := h.below hb
  obtain ⟨v', w7, hrun, hrow, hg, -⟩ := h6.rn.app hs hl h6.sz 35
  obtain ⟨A', c', rfl, -⟩ := hrow.ls
  refine ⟨A', _, c', w7, hrun, hrow, (OnlyS.of_below hb).grown hg (fun _ hk => .inl hk), (KeepsOthers.trans ⟨hb.size, fun k o hk _ => (hb.block k (Array.getElem?_eq_some_iff.1 hk).1).trans hk⟩ (KeepsOthers.of_grownBy hg fun j o hj ho => ?_))⟩
  rcases h6.rn.2 with ⟨rfl, _⟩ | ⟨g, cap, cur, rfl, _, hgb, _⟩
  · cases hj
  · cases hj
    rw [hgb] at ho
    cases ho
    rfl
theorem AI.own (h : AI w D0 a l v W) {k : Nat} (hk : v.ownBlock = some k) : D0 ≤ k := (h.rn.lt k hk).1
theorem AI.notK (h : AI w D0 a l v W) (hK : PbT W K p) : v.ownBlock ≠ some K := by
  intro e
  have hk : W.heap[K]? = some (.cells (pcs p) 25 (0, 0)) := hK
  rcases h.rn.2 with ⟨rfl, _⟩ | ⟨g, cap, cur, rfl, _, hgb, _⟩
  · cases e
  · cases e
    rw [hk] at hgb
    cases hgb
theorem AI.facts (h : AI w D0 a l v W) (h1 : w.heap.size + 1 < D0) (hK : PbT W K p) (hj : Jd D0 v W l' v7 w7) : Sa w.heap.size a K p w7 ∧ w7.cell? ⟨w.heap.size + 1, 0, none⟩ = some v ∧ w7.frozen? ⟨w.heap.size + 1, 0, none⟩ = false := by
  have e0 : Boxed w7 w.heap.size 27 (.pointer a) := (hj.only.block _ h.b0.lt (fun e => by have := h.own e; omega)).trans h.b0
  have e1 : Boxed w7 (w.heap.size + 1) 35 v := (hj.only.block _ h.b1.lt (fun e => by have := h.own e; omega)).trans h.b1
  have e2 : PbT w7 K p := (hj.only.block _ hK.lt (fun e => h.notK hK e)).trans hK
  have hc := e2.cells
  exact ⟨⟨e0.cell, hc.c0, hc.c1, hc.c2, hc.c3, hc.c4⟩, e1.cell, e1.frozen⟩
theorem AI.done (h : AI w D0 a l v W) (h1 : w.heap.size + 1 < D0) (hj : Jd D0 v W l' v7 w7) :
    AI w D0 a l' v7 (w7.setCell ⟨w.heap.size + 1, 0, none⟩ v7) ∧ KeepsOthers W (w7.setCell ⟨w.heap.size + 1, 0, none⟩ v7) ∧ OnlyS (fun j => j = w.heap.size + 1 ∨ v.ownBlock = some j) W (w7.setCell ⟨w.heap.size + 1, 0, none⟩ v7) := by
  have e0 : Boxed w7 w.heap.size 27 (.pointer a) := (hj.only.block _ h.b0.lt (fun e => by have := h.own e; omega)).trans h.b0
  have e1 : Boxed w7 (w.heap.size + 1) 35 v := (hj.only.block _ h.b1.lt (fun e => by have := h.own e; omega)).trans h.b1
  have ho : OnlyS (fun j => j = w.heap.size + 1 ∨ v.ownBlock = some j) W (w7.setCell ⟨w.heap.size + 1, 0, none⟩ v7) := (hj.only.mono fun _ _ hk => .inr hk).setIn _ 0 v7 (.inl (.inl rfl))
  refine ⟨⟨?_, ?_, ownsRow_setCell_below hj.row (a := ⟨w.heap.size + 1, 0, none⟩) h1 v7, h.bel.trans (ho.below (fun k hk => ?_) h.bel.size), Nat.le_trans h.sz ho.size⟩, hj.oth.trans (KeepsOthers.setCell _ _ _), ho⟩
  · exact (Below.heap_setCell w7 ⟨w.heap.size + 1, 0, none⟩ v7 w.heap.size (by show w.heap.size ≠ w.heap.size + 1; omega)).trans e0
  · exact Hs.set_blk (o := 0) v7 e1
  · rcases hk with q | q
    · omega
    · have := h.own q; omega
end
set_option maxHeartbeats 8000000 in
theorem all_any {a : Option Addr} {ps : List Pa.Pt} {E : Pa.Pt → List Es.Ed} {w : World} (hP : ∀ W, Below w.heap.size w W → Calls Tryz.prog 38 #[.pointer a] W (PathsOf W ps))
    (hQ : ∀ p, p ∈ ps → ∀ W, Below w.heap.size w W → Calls Tryz.prog 8 #[.pointer a, p.v] W fun e w' => ∃ y, e = .returned y ∧ Below W.heap.size W w' ∧ Calls Tryz.prog 11 #[y] w' (Es.Rows w' (E p)))
    (hE : (ps.flatMap E).length ≤ 900000) (hl : ps.length ≤ 1000) :
    Calls Tryz.prog 13 #[.pointer a] w (Es.Rows w (Od.can Es.lessE (ps.flatMap E))) := by
  refine (callsIn_wide (n := 9)).1 ?_
  refine callsIn_of_wp_marks Tryz.func13 rfl trivial ?_ rfl
  simp only [Tryz.ntmps13, List.size_toArray, List.length_cons, List.length_nil, Nat.reduceAdd, Nat.reduceSub, Array.replicate_succ, Array.replicate_zero, List.push_toArray, List.append_toArray, List.nil_append, List.cons_append]
  refine wpIn_wide.2 ?_
  have HM := Lib.hid hQ
  have HEl := Lib.hid hE
  have hx0 := box_below w (.cells #[.pointer a] 27)
  have hx1 := box_below (w.alloc (.cells #[.pointer a] 27)) (.cells #[.slice none 0 0] 35)
  have e0 : Boxed (w.alloc (.cells #[.pointer a] 27)) w.heap.size 27 (.pointer a) := Boxed.new _ _ _
  have e1 : Boxed ((w.alloc (.cells #[.pointer a] 27)).alloc (.cells #[.slice none 0 0] 35)) (w.heap.size + 1) 35 (.slice none 0 0) := by
    have := Boxed.new (w.alloc (.cells #[.pointer a] 27)) 35 (.slice none 0 0)
    rw [World.size_alloc] at this
    exact this
  have hbw := hx0.trans (hx1.mono hx0.size)
  have hsz : ((w.alloc (.cells #[.pointer a] 27)).alloc (.cells #[.slice none 0 0] 35)).heap.size = w.heap.size + 1 + 1 := by simp
  have HP := Lib.hid (hP _ hbw)
  have H0 := Lib.hid (show AI w (w.heap.size + 1 + 1) a [] (.slice none 0 0) ((w.alloc (.cells #[.pointer a] 27)).alloc (.cells #[.slice none 0 0] 35)) from
    ⟨(hx1.block _ (by simp)).trans e0, e1, World.ownsRow_nil _ _ _ _, hbw, by rw [hsz]; exact Nat.le_refl _⟩)
  clear hQ hP hE hx0 hx1 e0 e1 hbw
  go_wp2_with fail
  generalize ((w.alloc (.cells #[.pointer a] 27)).alloc (.cells #[.slice none 0 0] 35)) = w2 at *
  refine HP.out.mono ?_
  rintro e w3 ⟨B, pv, rfl, hbx, hrow, hb3, hB⟩
  have H3 := Lib.hid (H0.out.below hb3)
  have hz3 := hb3.size
  have HTl := Lib.hid (vals_tells hbx hrow (by omega))
  have HLt := Lib.hid (show ∀ k, OfRow B pv k → w.heap.size + 1 + 1 ≤ k ∧ k < w3.heap.size from fun k hk => by
    rcases hk with rfl | hk
    · exact ⟨by omega, hbx.lt⟩
    · have := hrow.lt k hk; exact ⟨by omega, this.2⟩)
  clear hbx hrow hb3 hB HP H0
  have hD : w.heap.size + 1 < w3.heap.size := by omega
  go_wp2_with fail
  refine (wpIn_wide (n := 9)).1 ?_
  refine wp_range (α := Pa.Pt) (encs := encP) (xs := ps) (S := OfRow B pv) rfl (enters_of Tryz.func116 (by kernel_rfl) rfl) HTl.out (fun k hk => (HLt.out k hk).2) (fun _ => rfl)
    (fun pre W => ∃ v, AI w w3.heap.size a (pre.flatMap E) v W) (fun _ _ _ => False)
    (fun pre p a' W => (∃ v, AI w w3.heap.size a (pre.flatMap E) v W) ∧ ∃ K, w3.heap.size ≤ K ∧ PbT W K p ∧
      a' = { tmps := #[.pointer a, tp w.heap.size, .slice none 0 0, tp (w.heap.size + 1), tp K, .pointer a, .func (.func 116) #[] #[tp B], p.v, undef, undef, undef, undef, undef, undef, undef, undef], defers := [] })
    ?hI ?hIx ?hA ⟨_, ⟨H3.out.b0, H3.out.b1, World.ownsRow_nil _ _ _ _, H3.out.bel, Nat.le_refl _⟩⟩ ?assign ?body ?done ?stop
  case hI =>
    rintro s X Y ⟨v, h⟩ t
    exact ⟨v, h.turn t (by omega)⟩
  case hIx => exact fun _ _ _ _ h _ => h
  case hA =>
    rintro s x a' X Y ⟨⟨v, h⟩, K, hK0, hK, h6⟩ t
    exact ⟨⟨v, h.turn t (by omega)⟩, K, hK0, t.cells _ _ hK rfl, h6⟩
  case assign =>
    rintro l pre p W ⟨v, hi⟩
    have HC := Lib.hid (show ∃ v, AI w w3.heap.size a (pre.flatMap E) v (W.alloc (.cells (pcs p) 25)) from ⟨v, hi.below (box_below W _)⟩)
    have HK := Lib.hid (show w3.heap.size ≤ W.heap.size ∧ PbT (W.alloc (.cells (pcs p) 25)) W.heap.size p from ⟨hi.sz, World.alloc_heap_new W _⟩)
    have HKf := Lib.hid (An.keepsFrom_box w3.heap.size W (.cells (pcs p) 25))
    have HKs := Lib.hid (keeps_of (S := OfRow B pv) (box_below W (.cells (pcs p) 25)) (fun k hk => Nat.lt_of_lt_of_le (HLt.out k hk).2 hi.sz))
    clear hi
    obtain ⟨pa, pb, pc, pd, pe⟩ := p
    gi_wp2
    exact ⟨HKf.out, HKs.out, HC.out, W.heap.size, HK.out.1, HK.out.2, by simp⟩
  case body =>
    rintro l pre p post a' W hx ⟨⟨v, hc⟩, K, hK0, hK, rfl⟩
    have hmem : p ∈ ps := by rw [hx]; simp
    have hlen : (pre.flatMap E).length + (E p).length ≤ 1000000 := by
      have := HEl.out
      rw [hx, List.flatMap_append, List.flatMap_cons, List.length_append, List.length_append] at this
      omega
    have HMo := Lib.hid (HM.out p hmem W.drew (hc.bel.drew))
    have HC := Lib.hid hc
    have hbK : w.heap.size + 1 ≠ K := by omega
    have hcs := hK.cells
    gi_wp2_with fail
    refine reg4a (a := a) (p := p) (v := v) (E := E p) (K := K) (Bt := w.heap.size) (Bl := w.heap.size + 1) (G := Jd w3.heap.size v W.drew (pre.flatMap E ++ E p)) ⟨hc.b0.cell, hcs.c0, hcs.c1, hcs.c2, hcs.c3, hcs.c4⟩ hc.b1.cell (by omega) hbK HMo.out
      (fun w6 A6 c6 hb hls => (hc.below (drew_below W 1)).join hb hls hlen) (fun v7 w7 hj => (hc.below (drew_below W 1)).facts hD hK hj) (by rintro ⟨a, w, h⟩; exact h) (fun _ _ _ _ h => h) ?_
    intro t8 t9 t10 t11 t12 t13 v7 w7 hj
    obtain ⟨hai, hoth, hon⟩ := (hc.below (drew_below W 1)).done hD hj
    refine ⟨((KeepsOthers.drew W).trans hoth).from _, (keeps_of (drew_below W 1) (fun k hk => Nat.lt_of_lt_of_le (HLt.out k hk).2 hc.sz)).trans (keeps_only hon (fun k hk => ⟨Nat.lt_of_lt_of_le (HLt.out k hk).2 hc.sz, ?_⟩)), ?_⟩
    · have h1 := HLt.out k hk
      rintro (q | q)
      · omega
      · have := hc.own q
        omega
    · show ∃ v, AI w w3.heap.size a ((pre ++ [p]).flatMap E) v _
      rw [List.flatMap_append, List.flatMap_cons, List.flatMap_nil, List.append_nil]
      exact ⟨_, hai⟩
  case done =>
    rintro D X hDD ⟨v, hf⟩ hd
    have HDd := Lib.hid hd
    have HF1 := Lib.hid hf
    have c2 := hf.b1.cell
    obtain ⟨A9, c9, ev, hls9⟩ := hf.rn.ls
    subst ev
    have HS := Lib.hid (Es.sort_any hls9 (by have := HEl.out; omega))
    obtain ⟨n9, hn9⟩ : ∃ n, (ps.flatMap E).length = n := ⟨_, rfl⟩
    rw [hn9] at HS c2
    clear hf hd hls9 hn9
    dsimp only [Exit.inBlock, Exit.then]
    rename_i hK0
    refine hK0 _ _ ?_
    clear hK0
    go_wp2_with fail
    refine HS.out.mono ?_
    rintro e w8 ⟨v8, rfl, hrow8, hb8⟩
    have HR8 := Lib.hid hrow8
    have HB8 := Lib.hid hb8
    have hd8 := (hb8.block D (Array.getElem?_eq_some_iff.1 HDd.out).1).trans HDd.out
    have HD8 := Lib.hid hd8
    have hsz8 := hb8.size
    clear hrow8 hb8 hd8 HS c2
    go_wp2_with fail
    refine ⟨by simp, .inl ⟨_, _, rfl, run_takeDeferred HD8.out, ?_⟩⟩
    have ht := Turn.put (B := w.heap.size) (.deferred none) (by omega) HD8.out rfl
    exact ⟨_, results_tmp rfl _ _ _, v8, rfl, row_base (An.row_turn HR8.out ht) HF1.out.bel.size, ht.below (HF1.out.bel.trans (HB8.out.mono HF1.out.bel.size)) (Nat.le_refl _) (Nat.le_refl _)⟩
  case stop =>
    rintro D c pre post W _ _ h _
    exact h.elim
end Go.Proofs.YtjhkejkdnjogiaaGreatDoor
/- A table: who waits for whom at all its nodes, by what each of them has. -/
namespace Go.Proofs.YtjhkejkdnjogiaaGreatDoor
open Go Go.RowKit Go.Shelf
set_option maxRecDepth 100000

/-- who waits for whom at a node, by what it has -/
def edgesC (x : Cx) : List Es.Ed := Es.ofL x.1 x.2
theorem edgesC_len (x : Cx) (h : x.1.length + x.2.length ≤ 300) : (edgesC x).length ≤ szC x * 300 := by
  have h1 := Od.can_len (lt := Es.lessE) (Es.rawOf x.1 x.2 x.2.length)
  have h2 := Es.rawOf_len (H := x.1) (L := x.2) (Nat.le_refl x.2.length)
  have h3 : x.2.length * (x.1.length + x.2.length) ≤ szC x * 300 := Nat.mul_le_mul (by unfold szC; omega) h
  unfold edgesC Es.ofL
  omega
theorem flat_le {α β : Type} {E : α → List β} {f : α → Nat} : ∀ {ps : List α}, (∀ p, p ∈ ps → (E p).length ≤ f p * 300) → (ps.flatMap E).length ≤ (ps.map f).sum * 300
  | [], _ => by simp
  | p :: ps, h => by
    have ih := flat_le (ps := ps) fun q hq => h q (List.mem_cons_of_mem _ hq)
    have h1 := h p List.mem_cons_self
    rw [List.flatMap_cons, List.length_append, List.map_cons, List.sum_cons, Nat.add_mul]
    omega
/-- who waits for whom at these nodes -/
def edgesP (C : Pa.Pt → Cx) (ps : List Pa.Pt) : List Es.Ed := Od.can Es.lessE (ps.flatMap fun p => edgesC (C p))
section
variable {W W' w : World} {T : Nat → Prop} {b B0 m c u t : Nat} {mr : Int} {C : Pa.Pt → Cx}
theorem Ta.flat (h : Ta W b T m mr c C B0 u t) (hc : c ≤ 300) {ps : List Pa.Pt} (hn : ps.Nodup) (hps : ∀ p, p ∈ ps ↔ 0 < szC (C p)) : (ps.flatMap fun p => edgesC (C p)).length ≤ 90000 := by
  obtain ⟨-, h2⟩ := h.count hn hps
  have hb := h.bounds.2.2.1
  have := flat_le (E := fun p => edgesC (C p)) (f := fun p => szC (C p)) (ps := ps) fun p _ => edgesC_len _ (by have := h.size p; omega)
  rw [← h2] at this
  omega
theorem Ta.all (h : Ta W b T m mr c C B0 u t) (ht : TabG W) (hm : m ≤ 1000) (hc : c ≤ 300) {ps : List Pa.Pt} (hs : ps.Pairwise (fun p q => Pa.lessB p q = true)) (hps : ∀ p, p ∈ ps ↔ 0 < szC (C p)) :
    Calls Tryz.prog 13 #[tp b] W (Es.Rows W (edgesP C ps)) := by
  have hn : ps.Nodup := hs.imp fun {p q} hpq e => by
    subst e
    rw [Pa.less_irr] at hpq
    cases hpq
  have hu := (h.count hn hps).1
  have hbd := h.bounds
  refine all_any (fun W' hb => (h.below hb).paths hm hs hps) (fun p hp W' hb => ?_) (Nat.le_trans (h.flat hc hn hps) (by omega)) (by omega)
  have h' := h.below hb
  refine (h'.queue (by omega) p).mono ?_
  rintro e w' ⟨hb', hor⟩
  rcases hor with ⟨hz, -⟩ | ⟨-, Q, A1, c1, A2, c2, rfl, hq, -⟩
  · have := (hps p).1 hp
    omega
  · have hsz := h.size p
    exact ⟨_, rfl, hb', Es.of_any ((ht.later hb).later hb') hq.its (by omega) (by omega)⟩
end
end Go.Proofs.YtjhkejkdnjogiaaGreatDoor
