/- The contract of the function that gives a node's text. -/
import Derived.Test.YtmlljgijbffepaaDoorW1
import Derived.Test.YtmlljgijbffepaaDoorA7
namespace Go.Proofs.YtmlljgijbffepaaDoor
open Go Go.RowKit

def textP (p : Pt) : List UInt8 :=
  if rightB p = true then (if p.e = 1 then Lib.itoa p.a else if p.e = 2 then Lib.itoa p.a ++ [46] ++ Lib.itoa p.b else if p.e = 3 then Lib.itoa p.a ++ [46] ++ Lib.itoa p.b ++ [46] ++ Lib.itoa p.c else Lib.itoa p.a ++ [46] ++ Lib.itoa p.b ++ [46] ++ Lib.itoa p.c ++ [46] ++ Lib.itoa p.d) else []
abbrev Tab (w0 : World) : Prop := Lib.TabBelow Tryd.prog w0.heap.size w0 "internal/strconv.uint64pow10" .u64 Lib.pow10Tab

theorem digits_len : ∀ n : Nat, n ≤ 999 → (Lib.decDigits n).length ≤ 3 := by
  intro n h
  unfold Lib.decDigits
  split
  · simp
  · unfold Lib.decDigits
    split
    · simp
    · unfold Lib.decDigits
      split
      · simp
      · omega
theorem itoa_len (n : Int) (h0 : 0 ≤ n) (h1 : n ≤ 999) : (Lib.itoa n).length ≤ 3 := by
  unfold Lib.itoa
  rw [if_neg (by omega)]
  exact digits_len _ (by omega)

/-- the builder of a text, so far -/
structure Bld (w1 wr : World) (l : List UInt8) : Prop where
  bld : Lib.IsBuilder 46 5 w1.heap.size w1.heap.size (Lib.byteCells l) wr
  keep : Below w1.heap.size w1 wr
theorem Bld.new (w1 : World) : Bld w1 (w1.alloc (.cells #[.pointer none, .slice none 0 0] 46)) [] := ⟨Lib.fresh_isBuilder 46 5 w1, box_below _ _⟩
theorem Bld.byte {w1 wr : World} {l : List UInt8} (h : Bld w1 wr l) (hl : l.length ≤ 100) :
    Calls Tryd.prog 17 #[.pointer (some ⟨w1.heap.size, 0, none⟩), .int .u8 46] wr fun e w' => e = .returned .nilIface ∧ Bld w1 w' (l ++ [46]) :=
  (writeByte_any _ _ _ 46 wr h.bld (by rw [Lib.byteCells_length]; omega) h.keep.size).mono fun _ _ ⟨he, hb, hk⟩ => ⟨he, ⟨by rw [Lib.byteCells_append]; exact hb, h.keep.trans hk⟩⟩
theorem Bld.str {w1 wr : World} {l s : List UInt8} (h : Bld w1 wr l) (hl : l.length ≤ 100) (hs : s.length ≤ 3) :
    Calls Tryd.prog 18 #[.pointer (some ⟨w1.heap.size, 0, none⟩), .string ⟨s.toArray⟩] wr fun e w' => e = .returned (.tuple #[.int .i64 ((⟨s.toArray⟩ : ByteArray).size : Nat), .nilIface]) ∧ Bld w1 w' (l ++ s) :=
  (writeString_any _ _ _ ⟨s.toArray⟩ wr h.bld (by rw [Lib.byteCells_length]; show l.length + s.toArray.size ≤ _; simp; omega) h.keep.size).mono fun _ _ ⟨he, hb, hk⟩ => ⟨he, ⟨by rw [Lib.byteCells_append]; exact hb, h.keep.trans hk⟩⟩
theorem Bld.itoa {w1 wr : World} {l : List UInt8} {n : Int} (h : Bld w1 wr l) (ht : Tab w1) (h0 : 0 ≤ n) (h1 : n ≤ 999) :
    Calls Tryd.prog 19 #[.int .i64 n] wr fun e w' => e = .returned (.string ⟨(Lib.itoa n).toArray⟩) ∧ Bld w1 w' l :=
  (itoa_any n h0 h1 wr (ht wr h.keep)).mono fun _ _ ⟨he, hg⟩ => ⟨he, ⟨builder_grown h.bld hg, h.keep.grown hg h.keep.size (fun k hk => by cases hk)⟩⟩
theorem Bld.string {w1 wr : World} {l : List UInt8} (h : Bld w1 wr l) :
    Calls Tryd.prog 20 #[.pointer (some ⟨w1.heap.size, 0, none⟩)] wr fun e w' => e = .returned (.string ⟨l.toArray⟩) ∧ Below w1.heap.size w1 w' :=
  (Builder_String_any _ _ l wr h.bld h.keep.size).mono fun _ _ ⟨he, hb⟩ => ⟨he, h.keep.trans hb⟩
theorem Bld.cell {w1 wr : World} {l : List UInt8} (h : Bld w1 wr l) {b o : Nat} {v : Value} (hb : b < w1.heap.size) (hc : w1.cell? ⟨b, o, none⟩ = some v) : wr.cell? ⟨b, o, none⟩ = some v :=
  (h.keep.cell (p := ⟨b, o, none⟩) hb).trans hc
theorem ret_str {a b : List UInt8} (h : a = b) : Ending.returned (.string ⟨a.toArray⟩) = .returned (.string ⟨b.toArray⟩) := by rw [h]

theorem may_is' {p : Pt} {b : Bool} (h : rightB p = b) (w : World) : Calls Tryd.prog 10 #[p.v] w fun e w' => e = .returned (.bool b) ∧ Below w.heap.size w w' := by
  subst h; exact may_any p w

set_option maxHeartbeats 2000000 in
theorem text_any (p : Pt) (w0 w : World) (ht0 : Tab w0) (hw0 : Below w0.heap.size w0 w) :
    Calls Tryd.prog 12 #[p.v] w fun e w' => e = .returned (.string ⟨(textP p).toArray⟩) ∧ Below w.heap.size w w' := by
  obtain ⟨a, b, c, d, e⟩ := p
  cases hr : rightB ⟨a, b, c, d, e⟩
  · have HV := Lib.hid (show textP ⟨a, b, c, d, e⟩ = [] by simp [textP, hr])
    go_enter Tryd.func12, Tryd.ntmps12
    go_wp2_with (go_at_call 10; ((with_reducible refine (may_any ⟨a, b, c, d, e⟩ _).mono ?_); rintro e1 w1 ⟨rfl, hb1⟩; rw [hr]))
    go_ret
    exact ⟨ret_str HV.out.symm, below_box hb1⟩
  · have hd := right_depth hr
    have hbd := right_bd hr
    simp only at hd hbd
    obtain ⟨⟨a0, a9⟩, ⟨b0, b9⟩, ⟨g0, g9⟩, ⟨d0, d9⟩⟩ := hbd
    have la := itoa_len a a0 a9
    have lb := itoa_len b b0 b9
    have lc := itoa_len c g0 g9
    have ld := itoa_len d d0 d9
    rcases (by omega : e = 1 ∨ e = 2 ∨ e = 3 ∨ e = 4) with rfl | rfl | rfl | rfl
    · have HV := Lib.hid (show textP ⟨a, b, c, d, 1⟩ = Lib.itoa a by simp [textP, hr])
      clear hd
      go_enter Tryd.func12, Tryd.ntmps12
      go_wp2_with fail
      refine (may_is' hr _).mono ?_
      rintro e1 w1 ⟨rfl, hb1⟩
      obtain ⟨c0, c1, c2, c3, c4⟩ := kept_one hb1
      have hlt : w.heap.size < w1.heap.size := by have := hb1.size; simp at this; omega
      have hne : ¬ w.heap.size = w1.heap.size := by omega
      have ht1 : Tab w1 := fun w' hb' => ht0 w' (hw0.trans ((below_box hb1).trans (hb'.mono (Nat.le_of_lt hlt)) |>.mono hw0.size))
      go_wp2_with fail
      go_loopw [14] (fun i wr => (i = .int .i64 0 ∧ Bld w1 wr ([])) ∨ (i = .int .i64 1 ∧ Bld w1 wr (Lib.itoa a))) (fun i _ => (1 - intOf i).toNat)
      case atStart => exact .inl ⟨rfl, Bld.new w1⟩
      case round =>
        rcases hrel with ⟨rfl, hB⟩ | ⟨rfl, hB⟩
        · have k0 := hB.cell hlt c0
          go_wp2_with fail
          refine (hB.itoa ht1 a0 a9).mono ?_
          rintro e3 w3 ⟨rfl, hB3⟩
          go_wp2_with fail
          refine (hB3.str (by first | (simp; done) | (simp; omega) | omega) la).mono ?_
          rintro e4 w4 ⟨rfl, h2⟩
          go_wp2_with fail
          go_roundw
          case rel => exact .inr (⟨by go_num, h2⟩)
          case measure => simp [intOf]
        · go_wp2_with fail
          refine (hB.string).mono ?_
          rintro e5 w5 ⟨rfl, hb5⟩
          go_wp2_with fail
          go_ret
          exact ⟨ret_str (by rw [HV.out]; try simp), (below_box hb1).trans (hb5.mono (Nat.le_of_lt hlt))⟩
    · have HV := Lib.hid (show textP ⟨a, b, c, d, 2⟩ = Lib.itoa a ++ [46] ++ Lib.itoa b by simp [textP, hr])
      clear hd
      go_enter Tryd.func12, Tryd.ntmps12
      go_wp2_with fail
      refine (may_is' hr _).mono ?_
      rintro e1 w1 ⟨rfl, hb1⟩
      obtain ⟨c0, c1, c2, c3, c4⟩ := kept_one hb1
      have hlt : w.heap.size < w1.heap.size := by have := hb1.size; simp at this; omega
      have hne : ¬ w.heap.size = w1.heap.size := by omega
      have ht1 : Tab w1 := fun w' hb' => ht0 w' (hw0.trans ((below_box hb1).trans (hb'.mono (Nat.le_of_lt hlt)) |>.mono hw0.size))
      go_wp2_with fail
      go_loopw [14] (fun i wr => (i = .int .i64 0 ∧ Bld w1 wr ([])) ∨ (i = .int .i64 1 ∧ Bld w1 wr (Lib.itoa a)) ∨ (i = .int .i64 2 ∧ Bld w1 wr (Lib.itoa a ++ [46] ++ Lib.itoa b))) (fun i _ => (2 - intOf i).toNat)
      case atStart => exact .inl ⟨rfl, Bld.new w1⟩
      case round =>
        rcases hrel with ⟨rfl, hB⟩ | ⟨rfl, hB⟩ | ⟨rfl, hB⟩
        · have k0 := hB.cell hlt c0
          go_wp2_with fail
          refine (hB.itoa ht1 a0 a9).mono ?_
          rintro e3 w3 ⟨rfl, hB3⟩
          go_wp2_with fail
          refine (hB3.str (by first | (simp; done) | (simp; omega) | omega) la).mono ?_
          rintro e4 w4 ⟨rfl, h2⟩
          go_wp2_with fail
          go_roundw
          case rel => exact .inr (.inl ⟨by go_num, h2⟩)
          case measure => simp [intOf]
        · have k0 := hB.cell hlt c1
          go_wp2_with fail
          refine (hB.byte (by first | (simp; done) | (simp; omega) | omega)).mono ?_
          rintro e2 w2 ⟨rfl, hB⟩
          go_wp2_with fail
          refine (hB.itoa ht1 b0 b9).mono ?_
          rintro e3 w3 ⟨rfl, hB3⟩
          go_wp2_with fail
          refine (hB3.str (by first | (simp; done) | (simp; omega) | omega) lb).mono ?_
          rintro e4 w4 ⟨rfl, h2⟩
          go_wp2_with fail
          go_roundw
          case rel => exact .inr (.inr (⟨by go_num, h2⟩))
          case measure => simp [intOf]
        · go_wp2_with fail
          refine (hB.string).mono ?_
          rintro e5 w5 ⟨rfl, hb5⟩
          go_wp2_with fail
          go_ret
          exact ⟨ret_str (by rw [HV.out]; try simp), (below_box hb1).trans (hb5.mono (Nat.le_of_lt hlt))⟩
    · have HV := Lib.hid (show textP ⟨a, b, c, d, 3⟩ = Lib.itoa a ++ [46] ++ Lib.itoa b ++ [46] ++ Lib.itoa c by simp [textP, hr])
      clear hd
      go_enter Tryd.func12, Tryd.ntmps12
      go_wp2_with fail
      refine (may_is' hr _).mono ?_
      rintro e1 w1 ⟨rfl, hb1⟩
      obtain ⟨c0, c1, c2, c3, c4⟩ := kept_one hb1
      have hlt : w.heap.size < w1.heap.size := by have := hb1.size; simp at this; omega
      have hne : ¬ w.heap.size = w1.heap.size := by omega
      have ht1 : Tab w1 := fun w' hb' => ht0 w' (hw0.trans ((below_box hb1).trans (hb'.mono (Nat.le_of_lt hlt)) |>.mono hw0.size))
      go_wp2_with fail
      go_loopw [14] (fun i wr => (i = .int .i64 0 ∧ Bld w1 wr ([])) ∨ (i = .int .i64 1 ∧ Bld w1 wr (Lib.itoa a)) ∨ (i = .int .i64 2 ∧ Bld w1 wr (Lib.itoa a ++ [46] ++ Lib.itoa b)) ∨ (i = .int .i64 3 ∧ Bld w1 wr (Lib.itoa a ++ [46] ++ Lib.itoa b ++ [46] ++ Lib.itoa c))) (fun i _ => (3 - intOf i).toNat)
      case atStart => exact .inl ⟨rfl, Bld.new w1⟩
      case round =>
        rcases hrel with ⟨rfl, hB⟩ | ⟨rfl, hB⟩ | ⟨rfl, hB⟩ | ⟨rfl, hB⟩
        · have k0 := hB.cell hlt c0
          go_wp2_with fail
          refine (hB.itoa ht1 a0 a9).mono ?_
          rintro e3 w3 ⟨rfl, hB3⟩
          go_wp2_with fail
          refine (hB3.str (by first | (simp; done) | (simp; omega) | omega) la).mono ?_
          rintro e4 w4 ⟨rfl, h2⟩
          go_wp2_with fail
          go_roundw
          case rel => exact .inr (.inl ⟨by go_num, h2⟩)
          case measure => simp [intOf]
        · have k0 := hB.cell hlt c1
          go_wp2_with fail
          refine (hB.byte (by first | (simp; done) | (simp; omega) | omega)).mono ?_
          rintro e2 w2 ⟨rfl, hB⟩
          go_wp2_with fail
          refine (hB.itoa ht1 b0 b9).mono ?_
          rintro e3 w3 ⟨rfl, hB3⟩
          go_wp2_with fail
          refine (hB3.str (by first | (simp; done) | (simp; omega) | omega) lb).mono ?_
          rintro e4 w4 ⟨rfl, h2⟩
          go_wp2_with fail
          go_roundw
          case rel => exact .inr (.inr (.inl ⟨by go_num, h2⟩))
          case measure => simp [intOf]
        · have k0 := hB.cell hlt c2
          go_wp2_with fail
          refine (hB.byte (by first | (simp; done) | (simp; omega) | omega)).mono ?_
          rintro e2 w2 ⟨rfl, hB⟩
          go_wp2_with fail
          refine (hB.itoa ht1 g0 g9).mono ?_
          rintro e3 w3 ⟨rfl, hB3⟩
          go_wp2_with fail
          refine (hB3.str (by first | (simp; done) | (simp; omega) | omega) lc).mono ?_
          rintro e4 w4 ⟨rfl, h2⟩
          go_wp2_with fail
          go_roundw
          case rel => exact .inr (.inr (.inr (⟨by go_num, h2⟩)))
          case measure => simp [intOf]
        · go_wp2_with fail
          refine (hB.string).mono ?_
          rintro e5 w5 ⟨rfl, hb5⟩
          go_wp2_with fail
          go_ret
          exact ⟨ret_str (by rw [HV.out]; try simp), (below_box hb1).trans (hb5.mono (Nat.le_of_lt hlt))⟩
    · have HV := Lib.hid (show textP ⟨a, b, c, d, 4⟩ = Lib.itoa a ++ [46] ++ Lib.itoa b ++ [46] ++ Lib.itoa c ++ [46] ++ Lib.itoa d by simp [textP, hr])
      clear hd
      go_enter Tryd.func12, Tryd.ntmps12
      go_wp2_with fail
      refine (may_is' hr _).mono ?_
      rintro e1 w1 ⟨rfl, hb1⟩
      obtain ⟨c0, c1, c2, c3, c4⟩ := kept_one hb1
      have hlt : w.heap.size < w1.heap.size := by have := hb1.size; simp at this; omega
      have hne : ¬ w.heap.size = w1.heap.size := by omega
      have ht1 : Tab w1 := fun w' hb' => ht0 w' (hw0.trans ((below_box hb1).trans (hb'.mono (Nat.le_of_lt hlt)) |>.mono hw0.size))
      go_wp2_with fail
      go_loopw [14] (fun i wr => (i = .int .i64 0 ∧ Bld w1 wr ([])) ∨ (i = .int .i64 1 ∧ Bld w1 wr (Lib.itoa a)) ∨ (i = .int .i64 2 ∧ Bld w1 wr (Lib.itoa a ++ [46] ++ Lib.itoa b)) ∨ (i = .int .i64 3 ∧ Bld w1 wr (Lib.itoa a ++ [46] ++ Lib.itoa b ++ [46] ++ Lib.itoa c)) ∨ (i = .int .i64 4 ∧ Bld w1 wr (Lib.itoa a ++ [46] ++ Lib.itoa b ++ [46] ++ Lib.itoa c ++ [46] ++ Lib.itoa d))) (fun i _ => (4 - intOf i).toNat)
      case atStart => exact .inl ⟨rfl, Bld.new w1⟩
      case round =>
        rcases hrel with ⟨rfl, hB⟩ | ⟨rfl, hB⟩ | ⟨rfl, hB⟩ | ⟨rfl, hB⟩ | ⟨rfl, hB⟩
        · have k0 := hB.cell hlt c0
          go_wp2_with fail
          refine (hB.itoa ht1 a0 a9).mono ?_
          rintro e3 w3 ⟨rfl, hB3⟩
          go_wp2_with fail
          refine (hB3.str (by first | (simp; done) | (simp; omega) | omega) la).mono ?_
          rintro e4 w4 ⟨rfl, h2⟩
          go_wp2_with fail
          go_roundw
          case rel => exact .inr (.inl ⟨by go_num, h2⟩)
          case measure => simp [intOf]
        · have k0 := hB.cell hlt c1
          go_wp2_with fail
          refine (hB.byte (by first | (simp; done) | (simp; omega) | omega)).mono ?_
          rintro e2 w2 ⟨rfl, hB⟩
          go_wp2_with fail
          refine (hB.itoa ht1 b0 b9).mono ?_
          rintro e3 w3 ⟨rfl, hB3⟩
          go_wp2_with fail
          refine (hB3.str (by first | (simp; done) | (simp; omega) | omega) lb).mono ?_
          rintro e4 w4 ⟨rfl, h2⟩
          go_wp2_with fail
          go_roundw
          case rel => exact .inr (.inr (.inl ⟨by go_num, h2⟩))
          case measure => simp [intOf]
        · have k0 := hB.cell hlt c2
          go_wp2_with fail
          refine (hB.byte (by first | (simp; done) | (simp; omega) | omega)).mono ?_
          rintro e2 w2 ⟨rfl, hB⟩
          go_wp2_with fail
          refine (hB.itoa ht1 g0 g9).mono ?_
          rintro e3 w3 ⟨rfl, hB3⟩
          go_wp2_with fail
          refine (hB3.str (by first | (simp; done) | (simp; omega) | omega) lc).mono ?_
          rintro e4 w4 ⟨rfl, h2⟩
          go_wp2_with fail
          go_roundw
          case rel => exact .inr (.inr (.inr (.inl ⟨by go_num, h2⟩)))
          case measure => simp [intOf]
        · have k0 := hB.cell hlt c3
          go_wp2_with fail
          refine (hB.byte (by first | (simp; done) | (simp; omega) | omega)).mono ?_
          rintro e2 w2 ⟨rfl, hB⟩
          go_wp2_with fail
          refine (hB.itoa ht1 d0 d9).mono ?_
          rintro e3 w3 ⟨rfl, hB3⟩
          go_wp2_with fail
          refine (hB3.str (by first | (simp; done) | (simp; omega) | omega) ld).mono ?_
          rintro e4 w4 ⟨rfl, h2⟩
          go_wp2_with fail
          go_roundw
          case rel => exact .inr (.inr (.inr (.inr (⟨by go_num, h2⟩))))
          case measure => simp [intOf]
        · go_wp2_with fail
          refine (hB.string).mono ?_
          rintro e5 w5 ⟨rfl, hb5⟩
          go_wp2_with fail
          go_ret
          exact ⟨ret_str (by rw [HV.out]; try simp), (below_box hb1).trans (hb5.mono (Nat.le_of_lt hlt))⟩
end Go.Proofs.YtmlljgijbffepaaDoor
