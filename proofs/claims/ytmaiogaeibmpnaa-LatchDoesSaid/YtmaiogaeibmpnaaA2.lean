/- A list that is read; the latches that fit, and those of one. -/
import Derived.Test.YtmaiogaeibmpnaaA1
import Derived.Deep.AppendLies
import Derived.OwnWalk
namespace Go.Proofs.Ytmaiogaeibmpnaa
open Go Go.RowKit

/-- the cells of numbers of places -/
def nats (fs : List Nat) : List Value := fs.map fun (i : Nat) => .int .i64 (i : Int)
theorem nats_length (fs : List Nat) : (nats fs).length = fs.length * 1 := by simp [nats]
theorem nats_snoc (fs : List Nat) (i : Nat) : nats (fs ++ [i]) = nats fs ++ [.int .i64 (i : Int)] := by simp [nats]
theorem info3 : (Try.prog.info? 3).map (fun i => (i.zero, i.size, i.bytes)) = some (some (.int .i64 0), 1, 8) := by kernel_rfl
theorem cells_nat (W : World) (k : Nat) : ∀ j u, ([.int .i64 (k : Int)] : List Value)[j]? = some u → (W.alloc (.cells #[.int .i64 (k : Int)] 3)).cell? ((⟨W.heap.size, 0, none⟩ : Addr).add j) = some u := by
  intro j u hj
  rw [add_at]
  match j, hj with
  | 0, hj => simp at hj; subst hj; simp [go_sem]
theorem one_nat (k : Int) : ∀ u ∈ ([.int .i64 k] : List Value), u.oneCell' = true := by
  intro u hu
  simp at hu
  subst hu
  rfl
/-- a slice that reads as a list, in blocks from K on -/
structure Rd (W : World) (K : Nat) (A : Option Addr) (c : Nat) (l : List Nat) : Prop where
  cap : l.length ≤ c
  room : c ≤ maxLen
  nil : A = none → l = [] ∧ c = 0
  at' : ∀ a, A = some a → ∃ g, a = ⟨g, 0, none⟩ ∧ K ≤ g ∧ g < W.heap.size ∧ ∀ i (h : i < l.length), W.cell? ⟨g, i, none⟩ = some (.int .i64 (l[i] : Int))
section
variable {W W' : World} {K c : Nat} {A : Option Addr} {l : List Nat}
theorem Rd.keep (h : Rd W K A c l) (hs : W.heap.size ≤ W'.heap.size) (hk : ∀ k, K ≤ k → k < W.heap.size → W'.heap[k]? = W.heap[k]?) : Rd W' K A c l := by
  refine ⟨h.cap, h.room, h.nil, fun a ha => ?_⟩
  obtain ⟨g, rfl, h1, h2, h3⟩ := h.at' a ha
  exact ⟨g, rfl, h1, Nat.lt_of_lt_of_le h2 hs, fun i hi => (World.cell?_of_block (w := W) (a := ⟨g, i, none⟩) (hk g h1 h2)).trans (h3 i hi)⟩
theorem Rd.below (h : Rd W K A c l) (hb : Below W.heap.size W W') : Rd W' K A c l := h.keep hb.size fun k _ hk => hb.block k hk
theorem Rd.only {T : Nat → Prop} (h : Rd W K A c l) (ho : OnlyS T W W') (hT : ∀ k, T k → k < K) : Rd W' K A c l := h.keep ho.size fun k h1 h2 => ho.block k h2 (fun ht => by have := hT k ht; omega)
theorem Rd.cell (h : Rd W K A c l) {i : Nat} (hi : i < l.length) : ∃ g, A = some ⟨g, 0, none⟩ ∧ W.cell? ⟨g, i, none⟩ = some (.int .i64 (l[i] : Int)) := by
  cases A with
  | none => have := (h.nil rfl).1; subst this; simp at hi
  | some a =>
    obtain ⟨g, rfl, _, _, h4⟩ := h.at' a rfl
    exact ⟨g, rfl, h4 i hi⟩
theorem Rd.weak {K' : Nat} (h : Rd W K A c l) (hk : K' ≤ K) : Rd W K' A c l := by
  refine ⟨h.cap, h.room, h.nil, fun a ha => ?_⟩
  obtain ⟨g, rfl, h1, h2, h3⟩ := h.at' a ha
  exact ⟨g, rfl, by omega, h2, h3⟩
theorem Rd.of_row {v : Value} {n : Nat} (h : W.ownsRow K 3 1 v n (nats l)) (hn : l.length = n) : ∃ A c, v = .slice A n c ∧ Rd W K A c l := by
  subst hn
  rcases h.2 with ⟨rfl, h0⟩ | ⟨g', cap', cur, rfl, hb, hg, h1, h2, h3, h4⟩
  · exact ⟨none, 0, by rw [h0], by omega, Nat.zero_le _, fun _ => ⟨List.length_eq_zero_iff.1 h0, rfl⟩, fun _ h => by cases h⟩
  · refine ⟨_, cap', rfl, by omega, h2, by simp, fun a ha => ?_⟩
    obtain rfl : (⟨g', 0, none⟩ : Addr) = a := by simpa using ha
    refine ⟨g', rfl, hb, (Array.getElem?_eq_some_iff.1 hg).1, fun i hi => ?_⟩
    have e1 : (nats l)[i]? = some (.int .i64 (l[i] : Int)) := by simp [nats, hi]
    have := h.cells (g := g') rfl i _ e1
    rwa [add_at] at this
end
/-- the first k latches that fit -/
def fitL (p : Nat → Bool) (k : Nat) : List Nat := (List.range k).filter p
theorem fitL_len (p : Nat → Bool) (k : Nat) : (fitL p k).length ≤ k := by
  have := List.length_filter_le p (List.range k)
  rw [List.length_range] at this
  exact this
theorem fitL_yes {p : Nat → Bool} {k : Nat} (h : p k = true) : fitL p (k + 1) = fitL p k ++ [k] := by
  unfold fitL
  rw [List.range_succ, List.filter_append]
  simp [h]
theorem fitL_no {p : Nat → Bool} {k : Nat} (h : p k = false) : fitL p (k + 1) = fitL p k := by
  unfold fitL
  rw [List.range_succ, List.filter_append]
  simp [h]
/-- what is handed out -/
def Lists (W : World) (l : List Nat) (e : Ending) (w' : World) : Prop := ∃ A c, e = .returned (.slice A l.length c) ∧ Rd w' W.heap.size A c l ∧ Below W.heap.size W w'
/-- what has been found so far -/
structure Fnd (W : World) (p : Nat → Bool) (k : Nat) (v : Value) (w1 : World) : Prop where
  row : w1.ownsRow W.heap.size 3 1 v (fitL p k).length (nats (fitL p k))
  bel : Below W.heap.size W w1
theorem Fnd.below {W w1 w2 : World} {p : Nat → Bool} {k : Nat} {v : Value} (h : Fnd W p k v w1) (hb : Below w1.heap.size w1 w2) : Fnd W p k v w2 :=
  ⟨row_below h.row hb, h.bel.trans (hb.mono h.bel.size)⟩
theorem Fnd.no {W w1 : World} {p : Nat → Bool} {k : Nat} {v : Value} (h : Fnd W p k v w1) (hp : p k = false) : Fnd W p (k + 1) v w1 :=
  ⟨by rw [fitL_no hp]; exact h.row, h.bel⟩
theorem Fnd.yes {W w1 w5 : World} {p : Nat → Bool} {k m g' cap : Nat} {v : Value} {o : Obj} (h : Fnd W p k v w1) (hp : p k = true) (hm : (fitL p k).length = m)
    (hown : w5.ownsRow W.heap.size 3 1 (.slice (some ⟨g', 0, none⟩) (m + 1) cap) (m + 1) (nats (fitL p k) ++ [.int .i64 (k : Int)])) (hgrow : (w1.alloc o).grownBy w5 v.ownBlock) :
    Fnd W p (k + 1) (.slice (some ⟨g', 0, none⟩) (m + 1) cap) w5 := by
  have ho : OnlyS (fun j => v.ownBlock = some j) w1 w5 := OnlyS.grown (w1 := w1.alloc o) (OnlyS.of_below (box_below _ _)) hgrow (fun j hj => .inl hj)
  refine ⟨?_, h.bel.trans (ho.below (fun j hj => (h.row.lt j hj).1) h.bel.size)⟩
  rw [fitL_yes hp, nats_snoc, List.length_append, hm]
  exact hown
section
variable {W W' : World} {b g N : Nat} {wh : Nat → Int}
set_option maxHeartbeats 1000000 in
theorem Lat.find (h : Lat W b g N wh) (a : Bool) (y : Int) : Calls Try.prog 23 #[wp b, .func (.func 20) #[.agg #[.bool a, .int .i64 y]] #[]] W (Lists W (fitL (fun k => fit a y (wh k)) N)) := by
  have HL := Lib.hid h.len
  have hnb := h.nb
  have H := Lib.hid h
  clear h
  go_enter Try.func23, Try.ntmps23
  go_wp2_with (go_at_call 18; ((with_reducible refine HL.out.mono ?_); rintro e w' ⟨rfl, rfl⟩))
  go_loopw [9, 5] (fun t v wr => ∃ k : Nat, k ≤ N ∧ t = .int .i64 k ∧ Fnd W (fun k => fit a y (wh k)) k v wr) (fun t _ _ => N - (intOf t).toNat)
  case atStart => exact ⟨0, by omega, rfl, World.ownsRow_nil _ _ _ _, Below.refl _ _⟩
  case round =>
    obtain ⟨k, hk, rfl, hf⟩ := hrel
    obtain ⟨A, c, hv, -⟩ := row_slice hf.row
    have hm1 := fitL_len (fun k => fit a y (wh k)) k
    obtain ⟨m, hm⟩ : ∃ m, (fitL (fun k => fit a y (wh k)) k).length = m := ⟨_, rfl⟩
    have HM := Lib.hid hm
    rw [hm] at hv hm1
    subst hv
    have F := Lib.hid hf
    clear hf hm HL
    by_cases hlt : k < N
    · have HW := H.out.below F.out.bel
      have q0 := HW.c0
      have q1 := HW.r0 k hlt
      have q2 := HW.r1 k hlt
      have HC := Lib.hid (has_any wr a (fl (wh k)) y (nm (wh k)))
      have HF := Lib.hid (show fit a y (wh k) = (a == fl (wh k) && y == nm (wh k)) from rfl)
      generalize fl (wh k) = z0 at q1 HC HF
      generalize nm (wh k) = z1 at q2 HC HF
      obtain ⟨t, ht⟩ : ∃ t, (a == z0 && y == z1) = t := ⟨_, rfl⟩
      rw [ht] at HC HF
      clear ht HW
      cases t
      · go_wp2_with (go_at_call 20; ((with_reducible refine HC.out.mono ?_); rintro e w2 ⟨rfl, hb2⟩))
        have F2 := Lib.hid ((F.out.below hb2).no HF.out)
        clear F HC hb2 q0 q1 q2
        go_roundw
        case rel => exact ⟨k + 1, by omega, by go_num, F2.out⟩
        case measure => simp [intOf]; omega
      · obtain ⟨i0, hi, hz0, hz1, hz2⟩ := info_parts info3
        go_wp2_with fail
        refine HC.out.mono ?_
        rintro e w2 ⟨rfl, hb2⟩
        have F2 := Lib.hid (F.out.below hb2)
        have hs2 := F2.out.bel.size
        clear F HC hb2 q0 q1 q2
        go_wp2_with (at_builtin; refine wpList_append_lies _ rfl _ _ 33 rfl W.heap.size 3 i0 (.int .i64 0) 1 8 Try.underlying33 hi hz0 hz1 hz2 rfl (by decide) (.slice A m c) m (nats (fitL (fun k => fit a y (wh k)) k)) rfl ?a0 ⟨w2.heap.size, 0, none⟩ 1 1 [.int .i64 (k : Int)] rfl rfl (cells_nat w2 k) (one_nat _) (by decide) (by unfold maxLen; omega) (by omega) ?a2 (w2.heap.size + 1) (by simp) ?_)
        case a0 => have := F2.out.row; rw [HM.out] at this; exact this.alloc _
        case a2 => simp; omega
        intro g' cap w5 hown hgrow hgo hglt
        have F3 := Lib.hid (F2.out.yes HF.out HM.out hown hgrow)
        clear hown hgrow hgo hglt F2 hi hz0 hz1 hz2
        go_wp2_with fail
        go_roundw
        case rel => exact ⟨k + 1, by omega, by go_num, F3.out⟩
        case measure => simp [intOf]; omega
    · obtain rfl : k = N := by omega
      have hr := F.out.row
      rw [HM.out] at hr
      obtain ⟨A', c', hv, hd⟩ := Rd.of_row hr HM.out
      cases hv
      have HD := Lib.hid hd
      have HB := Lib.hid F.out.bel
      clear hr hd F
      go_wp2
      go_ret
      exact ⟨A, c, by rw [HM.out]; rfl, HD.out, HB.out⟩
/-- one's latches -/
def heldL (N : Nat) (wh : Nat → Int) (who : Int) : List Nat := fitL (fun k => fit true who (wh k)) N
theorem Lat.held (h : Lat W b g N wh) (who : Int) : Calls Try.prog 15 #[wp b, .int .i64 who] W (Lists W (heldL N wh who)) := by
  have HF := Lib.hid (fun W' (hb : Below W.heap.size W W') => (h.below hb).find true who)
  clear h
  unfold heldL
  generalize fitL (fun k => fit true who (wh k)) N = l at *
  go_enter Try.func15, Try.ntmps15
  go_wp2_with fail
  refine (HF.out _ (box_below _ _)).mono ?_
  rintro e w1 ⟨A, c, rfl, hd, hb⟩
  have HD := Lib.hid (hd.weak (K' := W.heap.size) (by simp))
  have HB := Lib.hid ((box_below W _).trans (hb.mono (by simp)))
  obtain ⟨m, hm⟩ : ∃ m, l.length = m := ⟨_, rfl⟩
  have HM := Lib.hid hm
  rw [hm]
  clear HF hd hb hm
  go_wp2_with fail
  go_ret
  exact ⟨A, c, by rw [HM.out]; rfl, HD.out, HB.out⟩
theorem Lat.free (h : Lat W b g N wh) : Calls Try.prog 17 #[wp b] W fun e w' => e = .returned (.bool (decide ((fitL (fun k => fit false 0 (wh k)) N).length = N))) ∧ Below W.heap.size W w' := by
  have HF := Lib.hid (fun W' (hb : Below W.heap.size W W') => (h.below hb).find false 0)
  have HL := Lib.hid (fun W' (hb : Below W.heap.size W W') => (h.below hb).len)
  have hlen := fitL_len (fun k => fit false 0 (wh k)) N
  have hnb := h.nb
  clear h
  generalize fitL (fun k => fit false 0 (wh k)) N = l at *
  go_enter Try.func17, Try.ntmps17
  go_wp2_with fail
  refine (HF.out _ (box_below _ _)).mono ?_
  rintro e w1 ⟨A, c, rfl, hd, hb⟩
  have hb2 := (box_below W _).trans (hb.mono (by simp))
  have HB := Lib.hid hb2
  have H2 := Lib.hid (HL.out _ hb2)
  obtain ⟨m, hm⟩ : ∃ m, l.length = m := ⟨_, rfl⟩
  have HM := Lib.hid hm
  rw [hm] at hlen ⊢
  clear HF hd hb hb2 HL hm
  go_wp2_with fail
  refine H2.out.mono ?_
  rintro e w' ⟨rfl, rfl⟩
  go_wp2_with fail
  go_ret
  refine ⟨?_, HB.out⟩
  rw [HM.out]
  change Ending.returned (.bool ((m : Int) == (N : Int))) = _
  by_cases e : m = N
  · simp [e]
  · have e' : ¬ (m : Int) = (N : Int) := by omega
    simp [e, e']
theorem findn_any (W : World) (f : Value) : Calls Try.prog 23 #[.pointer none, f] W fun e w' => e = .returned (.slice none 0 0) ∧ W = w' := by
  go_enter Try.func23, Try.ntmps23
  go_wp2_with (go_at_call 18; ((with_reducible refine (size_none W).mono ?_); rintro e w' ⟨rfl, rfl⟩))
  go_loopw [9, 5] (fun t v wr => t = .int .i64 0 ∧ v = .slice none 0 0 ∧ W = wr) (fun _ _ _ => 0)
  case atStart => exact ⟨rfl, rfl, rfl⟩
  case round =>
    obtain ⟨rfl, rfl, rfl⟩ := hrel
    go_wp2
    go_ret
    exact ⟨rfl, rfl⟩
theorem heldn_any (W : World) (y : Int) : Calls Try.prog 15 #[.pointer none, .int .i64 y] W fun e w' => e = .returned (.slice none 0 0) ∧ Below W.heap.size W w' := by
  have HB := Lib.hid (box_below W (.cells #[.bool true, .int .i64 y] 49))
  go_enter Try.func15, Try.ntmps15
  go_wp2_with (go_at_call 23; ((with_reducible refine (findn_any _ _).mono ?_); rintro e w' ⟨rfl, rfl⟩))
  go_ret
  exact ⟨rfl, HB.out⟩
theorem freen_any (W : World) : Calls Try.prog 17 #[.pointer none] W fun e w' => e = .returned (.bool true) ∧ Below W.heap.size W w' := by
  have HB := Lib.hid (box_below W (.cells #[.bool false, .int .i64 0] 49))
  go_enter Try.func17, Try.ntmps17
  go_wp2_with (first | (go_at_call 23; ((with_reducible refine (findn_any _ _).mono ?_); rintro e w' ⟨rfl, rfl⟩)) | (go_at_call 18; ((with_reducible refine (size_none _).mono ?_); rintro e w' ⟨rfl, rfl⟩)))
  go_ret
  exact ⟨rfl, HB.out⟩
end
end Go.Proofs.Ytmaiogaeibmpnaa
