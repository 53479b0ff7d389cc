/- The walk of the law that what is set is told once. -/
import Derived.Test.YthoicmbpjcgdpaaN2
import Derived.Deep.AppendLies
import Derived.Carry
namespace Go.Proofs.Ythoicmbpjcgdpaa
open Go Go.RowKit Go.Shelf

/-- the alarms of a list that came in -/
structure AlAt (w : World) (ad : Addr) (i : Nat) (x y : Int) : Prop where
  c0 : w.cell? (ad.add (i * 2)) = some (.int .i64 x)
  c1 : w.cell? ⟨(ad.add (i * 2)).block, (ad.add (i * 2)).off + 1, none⟩ = some (.int .i64 y)
def InA (w : World) (A : Option Addr) (L : Nat) : Prop := ∀ i, i < L → ∃ ad x y, A = some ad ∧ ad.block < w.heap.size ∧ W64 x ∧ AlAt w ad i x y
theorem InA.at {w w' : World} {A : Option Addr} {L i : Nat} (h : InA w A L) (hb : Below w.heap.size w w') (hi : i < L) : ∃ ad x y, A = some ad ∧ W64 x ∧ AlAt w' ad i x y := by
  obtain ⟨ad, x, y, h1, h2, h3, h4⟩ := h i hi
  refine ⟨ad, x, y, h1, h3, ?_, ?_⟩
  · rw [hb.cell (p := ad.add (i * 2)) (by rw [block_add]; exact h2)]; exact h4.c0
  · rw [hb.cell (p := ⟨(ad.add (i * 2)).block, (ad.add (i * 2)).off + 1, none⟩) (by show (ad.add (i * 2)).block < _; rw [block_add]; exact h2)]; exact h4.c1
/-- the numbers of a list that came in -/
def InN (w : World) (A : Option Addr) (L : Nat) : Prop := ∀ i, i < L → ∃ ad t, A = some ad ∧ ad.block < w.heap.size ∧ w.cell? (ad.add i) = some (.int .i64 t)
theorem InN.at {w w' : World} {A : Option Addr} {L i : Nat} (h : InN w A L) (hb : Below w.heap.size w w') (hi : i < L) : ∃ ad t, A = some ad ∧ w'.cell? (ad.add i) = some (.int .i64 t) := by
  obtain ⟨ad, t, h1, h2, h3⟩ := h i hi
  exact ⟨ad, t, h1, by rw [hb.cell (p := ad.add i) (by rw [block_add]; exact h2)]; exact h3⟩

theorem once_long (n : Int) (A B : Option Addr) (L c M d : Nat) (w : World) (h : 30 < L ∨ 20 < M) (hm : L ≤ maxLen) (hm2 : M ≤ maxLen) :
    Calls Try.prog 4 #[.int .i64 n, .slice A L c, .slice B M d] w fun e w' => e = .returned (.bool true) ∧ Below w.heap.size w w' := by
  unfold maxLen at hm hm2
  by_cases h1 : 30 < L
  · have h2 : (30 : Int) < (L : Int) := by omega
    set_option maxRecDepth 100000 in
    go_enter Try.func4, Try.ntmps4
    go_wp2_with fail
    refine (awake_any _).mono ?_
    rintro e w1 ⟨rfl, hb1⟩
    go_wp2_with fail
    go_ret
    exact ⟨rfl, hb1⟩
  · have h2 : ¬ (30 : Int) < (L : Int) := by omega
    have h3 : (20 : Int) < (M : Int) := by omega
    have h4 : decide ((30 : Int) < (L : Int)) = false := by simp; omega
    set_option maxRecDepth 100000 in
    go_enter Try.func4, Try.ntmps4
    go_wp2_with fail
    refine (awake_any _).mono ?_
    rintro e w1 ⟨rfl, hb1⟩
    go_wp2_with fail
    go_ret
    exact ⟨rfl, hb1⟩
/-- what stands of those that are set -/
structure SetAt (w wr : World) (b : Nat) (s : Value) (ins : List Al) : Prop where
  ids : Ids ins
  ok : ∀ a ∈ ins, 0 ≤ a.2 ∧ W64 a.1
  row : Row wr w.heap.size s ins
  one : One w wr b (fun k => s.ownBlock = some k) ins

def mx (a b : Int) : Int := if b > a then b else a
theorem mx_le (a b : Int) : a ≤ mx a b := by unfold mx; split <;> omega
@[local go_sem ↓] theorem run_mx (ts : Array TypeId) (ty : TypeId) (a b : Int) (W : World) : (Builtin.max_ ts ty #[.int .i64 a, .int .i64 b]).run Try.prog W = .ok (.int .i64 (mx a b)) W := run_max_int2 _ _ _ _ _ _ _
/-- what stands of those that were told -/
structure TellAt (w wr : World) (b bm : Nat) (s : Value) (ins : List Al) (now : Int) (ids : List Int) : Prop where
  told : Told ins now ids
  map : MapAt wr bm ids
  row : Row wr w.heap.size s ins
  one : One w wr b (fun k => s.ownBlock = some k ∨ k = bm) (ins.filter (fun x => !decide (x.2 ≤ now)))
/-- .. while those that are due are gone through -/
structure TellB (w wq : World) (b bm base : Nat) (s v : Value) (ins ys : List Al) (now : Int) (ids : List Int) : Prop where
  map : MapAt wq bm ids
  row : Row wq w.heap.size s ins
  row2 : Row wq base v ys
  one : One w wq b (And1 (fun k => s.ownBlock = some k ∨ k = bm) v) (ins.filter (fun x => !decide (x.2 ≤ now)))
  ne1 : ∀ g, s.ownBlock = some g → g ≠ bm
  ne2 : ∀ g, v.ownBlock = some g → g ≠ bm
theorem TellB.below {w wq wp : World} {b bm base : Nat} {s v : Value} {ins ys : List Al} {now : Int} {ids : List Int} (h : TellB w wq b bm base s v ins ys now ids) (hb : Below wq.heap.size wq wp) : TellB w wp b bm base s v ins ys now ids :=
  ⟨h.map.keep (hb.block bm h.map.lt), h.row.keep fun g hg => hb.block g (h.row.lt g hg).2, h.row2.keep fun g hg => hb.block g (h.row2.lt g hg).2, h.one.below hb, h.ne1, h.ne2⟩
theorem TellB.put {w wq wp : World} {b bm base : Nat} {s v : Value} {ins ys : List Al} {now : Int} {ids ids' : List Int} (h : TellB w wq b bm base s v ins ys now ids) (hm : MapAt wp bm ids') (hg : wq.grownBy wp (some bm)) : TellB w wp b bm base s v ins ys now ids' := by
  have ho : OnlyS (fun k => k = bm) wq wp := ⟨hg.os, hg.tape, hg.output, hg.size, fun k hk hne => hg.block k hk (fun e => hne (by injection e))⟩
  have h5 := h.one
  obtain ⟨S, m, _, _, _, _, h6⟩ := h5
  exact ⟨hm, h.row.keep fun g hg => ho.block g (h.row.lt g hg).2 (h.ne1 g hg), h.row2.keep fun g hg => ho.block g (h.row2.lt g hg).2 (h.ne2 g hg), h.one.turn ho (fun k hk => .inl (.inr hk)) (fun k hk => ⟨.inl hk, Nat.lt_of_lt_of_le (h6 k hk).1 ho.size⟩), h.ne1, h.ne2⟩
theorem TellB.fin {w wq : World} {b bm base : Nat} {s v : Value} {ins ys : List Al} {now : Int} {ids : List Int} (h : TellB w wq b bm base s v ins ys now ids) (ht : Told ins now ids) : TellAt w wq b bm s ins now ids := by
  have h5 := h.one
  obtain ⟨S, m, _, _, _, _, h6⟩ := h5
  exact ⟨ht, h.map, h.row, h.one.turn (OnlyS.refl (fun _ => False) _) (fun _ h => h.elim) (fun k hk => ⟨.inl (.inl hk), (h6 k (.inl hk)).1⟩)⟩
theorem TellAt.below {w wq wp : World} {b bm : Nat} {s : Value} {ins : List Al} {now : Int} {ids : List Int} (h : TellAt w wq b bm s ins now ids) (hb : Below wq.heap.size wq wp) : TellAt w wp b bm s ins now ids :=
  ⟨h.told, h.map.keep (hb.block bm h.map.lt), h.row.keep fun g hg => hb.block g (h.row.lt g hg).2, h.one.below hb⟩
theorem take_ids (ys : List Al) (ids : List Int) {j : Nat} (hj : j < ys.length) : ((ys.take (j + 1)).map (·.1)).reverse ++ ids = ys[j].1 :: (((ys.take j).map (·.1)).reverse ++ ids) := by
  rw [List.take_succ_eq_append_getElem hj, List.map_append, List.reverse_append]; rfl
theorem row_aft {W W' : World} {n₁ : Nat} {v : Value} {ys : List Al} (h : Row W n₁ v ys) (hb : Below W.heap.size W W') : Row W' n₁ v ys := h.keep fun g hg => hb.block g (h.lt g hg).2
theorem grown_only {w3 w5 : World} {o : Obj} {row : Option Nat} (hg : (w3.alloc o).grownBy w5 row) : OnlyS (fun k => row = some k) w3 w5 := by
  have hz : w3.heap.size + 1 ≤ w5.heap.size := by have := hg.size; simp at this; exact this
  exact ⟨hg.os, hg.tape, hg.output, by omega, fun k hk hne => (hg.block k (by simp; omega) (fun e => hne e.symm)).trans (Below.heap_alloc w3 o k hk)⟩
theorem set_more {w W w3 w5 : World} {b g cap Bx : Nat} {s : Value} {ins : List Al} {a : Al} {o : Obj} (hs : SetAt w W b s ins) (h64 : W64 a.1) (hb : setB a ins = true) (ho : One w w3 b (fun k => s.ownBlock = some k ∨ k = Bx) (setL a ins))
    (hown : w5.ownsRow w.heap.size 31 2 (.slice (some ⟨g, 0, none⟩) (ins.length + 1) cap) (ins.length + 1) (flat ins ++ [.int .i64 a.1, .int .i64 a.2])) (hg : (w3.alloc o).grownBy w5 s.ownBlock) (hgo : s.ownBlock = some g ∨ g = w3.heap.size + 1) (hlt : g < w5.heap.size) :
    SetAt w w5 b (.slice (some ⟨g, 0, none⟩) (ins.length + 1) cap) (ins ++ [a]) := by
  have e2 : setL a ins = ins ++ [a] := by unfold setL; rw [hb]; rfl
  have h0 : 0 ≤ a.2 := by unfold setB at hb; simp at hb; exact hb.1
  have hid := hs.ids.set (a := a)
  rw [e2] at hid ho
  refine ⟨hid, fun x hx => ?_, row_form hown, ho.turn (grown_only hg) (fun k hk => .inl hk) (fun k hk => ?_)⟩
  · rcases List.mem_append.1 hx with hx | hx
    · exact hs.ok x hx
    · rw [List.mem_singleton.1 hx]; exact ⟨h0, h64⟩
  · obtain rfl : g = k := by simpa [Value.ownBlock] using hk
    refine ⟨?_, hlt⟩
    rcases hgo with q | q
    · exact .inl (.inl q)
    · exact .inr (by omega)
theorem SetAt.same {w W w3 : World} {b Bx : Nat} {s : Value} {ins : List Al} {a : Al} (hs : SetAt w W b s ins) (hb : setB a ins = false) (ho : One w w3 b (fun k => s.ownBlock = some k ∨ k = Bx) (setL a ins)) (hr : Row w3 w.heap.size s ins) : SetAt w w3 b s ins := by
  have e2 : setL a ins = ins := by unfold setL; rw [hb]; rfl
  rw [e2] at ho
  exact ⟨hs.ids, hs.ok, hr, ho.turn (OnlyS.refl (fun _ => False) _) (fun _ h => h.elim) (fun k hk => ⟨.inl (.inl hk), (hr.lt k hk).2⟩)⟩
set_option maxHeartbeats 8000000 in
set_option maxRecDepth 100000 in
theorem once_short (n : Int) (A B : Option Addr) (L c M d : Nat) (w : World) (h : ¬ 30 < L) (h' : ¬ 20 < M) (hin : InA w A L) (hin2 : InN w B M) :
    Calls Try.prog 4 #[.int .i64 n, .slice A L c, .slice B M d] w fun e w' => e = .returned (.bool true) ∧ Below w.heap.size w w' := by
  have I := Lib.hid hin
  have I2 := Lib.hid hin2
  clear hin hin2
  have hL : ¬ (30 : Int) < (L : Int) := by omega
  have hM : ¬ (20 : Int) < (M : Int) := by omega
  have hLd : decide ((30 : Int) < (L : Int)) = false := by simp; omega
  go_enter Try.func4, Try.ntmps4
  go_wp2_with fail
  refine (awake_any _).mono ?_
  rintro e w1 ⟨rfl, hb1⟩
  go_wp2_with fail
  refine (fresh_new n w w1 hb1).mono ?_
  rintro e w2 ⟨rfl, _, hw2, hb2⟩
  have HO : Hid (SetAt w w2 w1.heap.size (.slice none 0 0) []) := ⟨Ids.nil, by simp, World.ownsRow_nil _ _ _ _, ⟨_, _, hw2, List.Perm.refl _, hb1.size, hb1.trans (hb2.mono hb1.size), fun k hk => by simp [Value.ownBlock] at hk⟩⟩
  generalize w1.heap.size = b at HO ⊢
  clear hw2 hb2 hb1
  go_wp2_with fail
  go_loopw [8, 33] (fun s t wr => ∃ (k : Nat) (ins : List Al), k ≤ L ∧ t = .int .i64 k ∧ ins.length ≤ k ∧ SetAt w wr b s ins) (fun _ t _ => L - (intOf t).toNat)
  case atStart => exact ⟨0, [], by omega, rfl, by simp, HO.out⟩
  case round =>
    rename_i u8
    obtain ⟨k, ins, hk, rfl, hlk, hset⟩ := hrel
    have HSt := Lib.hid hset
    clear hset HO
    by_cases hlt : k < L
    · obtain ⟨ad, x, y, rfl, hx64, c0, c1⟩ := I.out.at HSt.out.one.bel hlt
      have hl : ins.length ≤ 1000 := by omega
      have hb1 := box_below wr (.cells #[.int .i64 x, .int .i64 y] 31)
      have ho1 : One w (wr.alloc (.cells #[.int .i64 x, .int .i64 y] 31)) b (fun k => u8.ownBlock = some k ∨ k = wr.heap.size) ins := HSt.out.one.turn (OnlyS.of_below (S := fun _ => False) hb1) (fun _ h => h.elim) (fun k hk => by
        rcases hk with hk | rfl
        · exact ⟨.inl hk, Nat.lt_of_lt_of_le (HSt.out.row.lt k hk).2 hb1.size⟩
        · exact ⟨.inr (Nat.le_refl _), by simp⟩)
      have HC := Lib.hid (one_set (x, y) ho1 HSt.out.ids hl)
      have hba := BoxA.new wr (x, y)
      have HRb := Lib.hid (row_aft HSt.out.row hb1)
      clear ho1
      cases hsb : setB (x, y) ins
      · rw [hsb] at HC
        have HSB := Lib.hid hsb
        clear hsb
        go_wp2_with fail
        refine HC.out.mono ?_
        rintro e w3 ⟨rfl, ho3, hk3⟩
        have HS3 := Lib.hid (HSt.out.same HSB.out ho3 (HRb.out.keep fun g hg => hk3.block g (.inl hg)))
        clear ho3 hk3 HC c0 c1 hba hb1
        go_wp2_with fail
        go_roundw
        case rel => exact ⟨k + 1, ins, by omega, by go_num, by omega, HS3.out⟩
        case measure => simp [intOf]; omega
      · rw [hsb] at HC
        have HSB := Lib.hid hsb
        clear hsb
        go_wp2_with fail
        refine HC.out.mono ?_
        rintro e w3 ⟨rfl, ho3, hk3⟩
        have e1 : w3.heap[wr.heap.size]? = (wr.alloc (.cells #[.int .i64 x, .int .i64 y] 31)).heap[wr.heap.size]? := hk3.block _ (.inr rfl)
        have d0 : w3.cell? ⟨wr.heap.size, 0, none⟩ = some (.int .i64 x) := (World.cell?_of_block (w := wr.alloc (.cells #[.int .i64 x, .int .i64 y] 31)) (a := ⟨wr.heap.size, 0, none⟩) e1).trans hba.c0
        have d1 : w3.cell? ⟨wr.heap.size, 1, none⟩ = some (.int .i64 y) := (World.cell?_of_block (w := wr.alloc (.cells #[.int .i64 x, .int .i64 y] 31)) (a := ⟨wr.heap.size, 1, none⟩) e1).trans hba.c1
        have hr3 : Row w3 w.heap.size u8 ins := HRb.out.keep fun g hg => hk3.block g (.inl hg)
        have HO3 := Lib.hid ho3
        have hz3 : w.heap.size ≤ w3.heap.size := ho3.bel.size
        obtain ⟨i0, hi, hz0, hz1, hz2⟩ := info_parts info31
        clear ho3 hk3 HC c0 c1 hba hb1 e1
        go_wp2_with (at_builtin; refine wpList_append_lies _ rfl _ _ 27 rfl w.heap.size 31 i0 (.agg #[.int .i64 0, .int .i64 0]) 2 16 Try.underlying27 hi hz0 hz1 hz2 rfl (by decide) _ _ _ rfl (hr3.alloc _) ⟨w3.heap.size, 0, none⟩ 1 1 [.int .i64 x, .int .i64 y] rfl rfl ?a1 (one_cells (x, y)) (by decide) (by unfold maxLen; omega) (by omega) (by simp; omega) (w3.heap.size + 1) (by simp) ?_)
        case a1 => exact new_cells w3 (x, y)
        intro g cap w5 hown hgrow hgo hglt
        go_wp2_with fail
        go_roundw
        case rel => exact ⟨k + 1, ins ++ [(x, y)], by omega, by go_num, by simp; omega, set_more HSt.out hx64 HSB.out HO3.out hown hgrow hgo hglt⟩
        case measure => simp [intOf]; omega
    · obtain rfl : k = L := by omega
      have hlen : ins.length ≤ 30 := by omega
      obtain ⟨A8, c8, hv8⟩ := row_slice HSt.out.row
      obtain ⟨n8, hn8⟩ : ∃ n8, ins.length = n8 := ⟨_, rfl⟩
      have HN8 := Lib.hid hn8
      rw [hn8] at hv8 hlen
      subst hv8
      clear hn8
      have HIds := Lib.hid HSt.out.ids
      have HOk := Lib.hid HSt.out.ok
      have hbm := box_below wr (.map #[] 0)
      have hT : TellAt w (wr.alloc (.map #[] 0)) b wr.heap.size (.slice A8 n8 c8) ins (-1) [] := by
        refine ⟨Told.start fun a ha => (HSt.out.ok a ha).1, MapAt.made wr, row_aft HSt.out.row hbm, ?_⟩
        rw [List.filter_eq_self.2 (fun x hx => by have := (HSt.out.ok x hx).1; simp; omega)]
        refine HSt.out.one.turn (OnlyS.of_below (S := fun _ => False) hbm) (fun _ h => h.elim) (fun k hk => ?_)
        rcases hk with hk | rfl
        · exact ⟨.inl hk, Nat.lt_of_lt_of_le (HSt.out.row.lt k hk).2 hbm.size⟩
        · exact ⟨.inr (Nat.le_refl _), by simp⟩
      have hne1 : ∀ g, (Value.slice A8 n8 c8).ownBlock = some g → g ≠ wr.heap.size := fun g hg => Nat.ne_of_lt (HSt.out.row.lt g hg).2
      have HT := Lib.hid hT
      have HNe := Lib.hid hne1
      have hmm := @run_makeMap Try.prog
      clear hT hbm HSt hlk hk hlt hne1
      go_wp2_with fail
      clear hmm
      generalize wr.heap.size = bm at HT HNe ⊢
      go_loopw [12, 48] (fun s t wq => ∃ (k : Nat) (now : Int) (ids : List Int), k ≤ M ∧ t = .int .i64 k ∧ s = .int .i64 now ∧ TellAt w wq b bm (.slice A8 n8 c8) ins now ids) (fun _ t _ => M - (intOf t).toNat)
      case atStart => exact ⟨0, -1, [], by omega, rfl, rfl, HT.out⟩
      case round =>
        obtain ⟨k2, now, ids, hk2, rfl, rfl, htell⟩ := hrel
        have HTl := Lib.hid htell
        clear htell HT
        by_cases hlt2 : k2 < M
        · obtain ⟨ad2, tm, rfl, ct⟩ := I2.out.at HTl.out.one.bel hlt2
          have hcl : (ins.filter (fun x => !decide (x.2 ≤ now))).length ≤ 1000 := Nat.le_trans (List.length_filter_le _ _) (by rw [HN8.out]; omega)
          have hmx := mx_le now tm
          have HC := Lib.hid (one_due (mx now tm) HTl.out.one hcl)
          go_wp2_with fail
          generalize mx now tm = now2 at HC hmx ⊢
          refine HC.out.mono ?_
          rintro e w3 ⟨v, rfl, hr3, ho3, hk3⟩
          rw [filter_twice hmx] at ho3
          have hstep := HTl.out.told.step hmx
          have hys : ∀ y ∈ dueL now2 (srt (ins.filter (fun x => !decide (x.2 ≤ now)))), y ∈ ins ∧ y.2 ≤ now2 := fun y hy => by
            rw [dueL_filter] at hy
            obtain ⟨q1, q2⟩ := List.mem_filter.1 hy
            exact ⟨(List.mem_filter.1 ((srt_perm _).mem_iff.1 q1)).1, by simpa using q2⟩
          generalize dueL now2 (srt (ins.filter (fun x => !decide (x.2 ≤ now)))) = ys at hr3 hstep hys
          have HB : Hid (TellB w w3 b bm _ (.slice A8 n8 c8) v ins ys now2 ids) := ⟨HTl.out.map.keep (hk3.block bm (.inr rfl)), HTl.out.row.keep fun g hg => hk3.block g (.inl hg), hr3, ho3, HNe.out, fun g hg => Nat.ne_of_gt (Nat.lt_of_lt_of_le HTl.out.map.lt (hr3.lt g hg).1)⟩
          have HStep := Lib.hid hstep
          have HYs := Lib.hid hys
          have hil : ids.length ≤ 30 := by
            have := HTl.out.told.left
            rw [HN8.out] at this
            omega
          obtain ⟨A9, c9, hv9⟩ := row_slice hr3
          obtain ⟨N, hN⟩ : ∃ N, ys.length = N := ⟨_, rfl⟩
          have HN := Lib.hid hN
          have hNb : N ≤ 30 := by
            have := hstep.left
            simp at this
            rw [HN8.out, hN] at this
            omega
          rw [hN] at hv9
          subst hv9
          clear hr3 ho3 hk3 hstep hys hN HC ct hcl hmx
          go_wp2_with fail
          go_loopw [59] (fun t wq => ∃ j : Nat, j ≤ N ∧ t = .int .i64 j ∧ ∃ base, TellB w wq b bm base (.slice A8 n8 c8) (.slice A9 N c9) ins ys now2 (((ys.take j).map (·.1)).reverse ++ ids)) (fun t _ => N - (intOf t).toNat)
          case atStart => exact ⟨0, by omega, rfl, _, HB.out⟩
          case round =>
            obtain ⟨j, hj, rfl, bs, htb⟩ := hrel
            have HTb := Lib.hid htb
            clear htb HB
            by_cases hjn : j < N
            · have hjl : j < ys.length := by rw [HN.out]; exact hjn
              obtain ⟨g9, rfl⟩ := row_addr HTb.out.row2 (by omega)
              obtain ⟨p1, p2⟩ := row_cells HTb.out.row2 hjl
              have hnew := next_new (HStep.out.nodup HIds.out) hjl
              obtain ⟨hyi, hyn⟩ := HYs.out _ (List.getElem_mem hjl)
              have h64 := (HOk.out _ hyi).2
              have htk := take_ids ys ids hjl
              obtain ⟨x, hx⟩ : ∃ x, ys[j] = x := ⟨_, rfl⟩
              rw [hx] at p1 p2 hnew hyn h64 htk
              have HTk := Lib.hid htk
              have hbb := box_below wr (.cells #[.int .i64 x.1, .int .i64 x.2] 31)
              have HTc := Lib.hid (HTb.out.below hbb)
              have hlook := HTc.out.map.look h64
              rw [decide_eq_false hnew] at hlook
              obtain ⟨w5, hput, hm5, hg5⟩ := HTc.out.map.put h64 hnew (by simp; omega)
              have HM5 := Lib.hid (HTc.out.put hm5 hg5)
              have hat : decide (now2 < x.2) = false := by simp; omega
              clear hx htk hnew hyi hyn h64 hbb hm5 hg5 hjl
              go_wp2_with fail
              go_roundw
              case rel => exact ⟨j + 1, by omega, by go_num, bs, by rw [HTk.out]; exact HM5.out⟩
              case measure => simp [intOf]; omega
            · obtain rfl : j = N := by omega
              have ht4 := HTb.out.fin (by rw [List.take_of_length_le (Nat.le_of_eq HN.out)]; exact HStep.out)
              generalize ((ys.take j).map (·.1)).reverse ++ ids = ids2 at ht4
              have HT4 := Lib.hid ht4
              clear ht4 HTb
              go_wp2_with fail
              go_loopw [79] (fun t wq => ∃ i : Nat, i ≤ n8 ∧ t = .int .i64 i ∧ TellAt w wq b bm (.slice A8 n8 c8) ins now2 ids2) (fun t _ => n8 - (intOf t).toNat)
              case atStart => exact ⟨0, by omega, rfl, HT4.out⟩
              case round =>
                obtain ⟨i, hi, rfl, htl⟩ := hrel
                have HT5 := Lib.hid htl
                clear htl HT4
                by_cases hin : i < n8
                · have hil2 : i < ins.length := by rw [HN8.out]; exact hin
                  obtain ⟨g8, rfl⟩ := row_addr HT5.out.row (by omega)
                  obtain ⟨p1, p2⟩ := row_cells HT5.out.row hil2
                  have hmem := HT5.out.told.mem HIds.out (List.getElem_mem hil2)
                  have h64 := (HOk.out _ (List.getElem_mem hil2)).2
                  obtain ⟨x, hx⟩ : ∃ x, ins[i] = x := ⟨_, rfl⟩
                  rw [hx] at p1 p2 hmem h64
                  have hbb := box_below wr (.cells #[.int .i64 x.1, .int .i64 x.2] 31)
                  have HT6 := Lib.hid (HT5.out.below hbb)
                  have hlook := HT6.out.map.look h64
                  rw [hmem] at hlook
                  clear hx hmem h64 hbb hil2
                  go_wp2_with fail
                  go_roundw
                  case rel => exact ⟨i + 1, by omega, by go_num, HT6.out⟩
                  case measure => simp [intOf]; omega
                · obtain rfl : i = n8 := by omega
                  go_wp2_with fail
                  go_roundw
                  case rel => exact ⟨k2 + 1, now2, ids2, by omega, by go_num, rfl, HT5.out⟩
                  case measure => simp [intOf]; omega
        · obtain rfl : k2 = M := by omega
          have hleft := HTl.out.told.left
          obtain ⟨cn, hcn⟩ : ∃ cn, (ins.filter (fun x => !decide (x.2 ≤ now))).length = cn := ⟨_, rfl⟩
          obtain ⟨im, him⟩ : ∃ im, ids.length = im := ⟨_, rfl⟩
          rw [hcn, him, HN8.out] at hleft
          have HC := Lib.hid (one_len HTl.out.one (by rw [hcn]; omega))
          rw [hcn] at HC
          have HIM := Lib.hid him
          clear hcn him
          go_wp2_with fail
          refine HC.out.mono ?_
          rintro e w3 ⟨rfl, ho3, hb3⟩
          have hlen3 := fun ty => ((HTl.out.map.keep (hb3.block bm HTl.out.map.lt)).len ty)
          rw [HIM.out] at hlen3
          have HB3 := Lib.hid ho3.bel
          clear ho3 hb3 HC
          go_wp2_with fail
          go_ret
          exact ⟨congrArg (fun q => Ending.returned (Value.bool q)) (show ((cn : Int) == (n8 : Int) - (im : Int)) = true by simp; omega), HB3.out⟩
theorem once_walk (n : Int) (A B : Option Addr) (L c M d : Nat) (w : World) (hm : L ≤ maxLen) (hm2 : M ≤ maxLen) (hin : InA w A L) (hin2 : InN w B M) :
    Calls Try.prog 4 #[.int .i64 n, .slice A L c, .slice B M d] w fun e w' => e = .returned (.bool true) ∧ Below w.heap.size w w' := by
  by_cases h : 30 < L
  · exact once_long n A B L c M d w (.inl h) hm hm2
  · by_cases h2 : 20 < M
    · exact once_long n A B L c M d w (.inr h2) hm hm2
    · exact once_short n A B L c M d w h h2 hin hin2
end Go.Proofs.Ythoicmbpjcgdpaa
