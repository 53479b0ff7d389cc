/- The contract of the function that reads a node's text. -/
import Derived.Test.YtmlljgijbffepaaDoorA3
namespace Go.Proofs.YtmlljgijbffepaaDoor
open Go Go.RowKit

theorem numL_bd : ∀ (l : List UInt8) (n k : Nat), n ≤ 999 → (numL n k l).1 ≤ 999 ∧ (numL n k l).2 ≤ k + l.length
  | [], n, k, h => ⟨h, by simp [numL]⟩
  | c :: r, n, k, h => by
    unfold numL
    split
    · exact ⟨h, by simp⟩
    · split
      · exact ⟨h, by simp⟩
      · split
        · rename_i h3
          have := numL_bd r _ (k + 1) h3
          exact ⟨this.1, by simp; omega⟩
        · exact ⟨by simp, by simp⟩

def parseL : Nat → List UInt8 → Option (List Nat)
  | 0, _ => none
  | r + 1, l =>
    if (numL 0 0 l).2 = 0 then none else if (numL 0 0 l).2 = l.length then some [(numL 0 0 l).1]
    else if l[(numL 0 0 l).2]? = some 46 then (parseL r (l.drop ((numL 0 0 l).2 + 1))).map ((numL 0 0 l).1 :: ·) else none

def nodeP (ns : List Nat) : Pt := ⟨(ns.getD 0 0 : Nat), (ns.getD 1 0 : Nat), (ns.getD 2 0 : Nat), (ns.getD 3 0 : Nat), (ns.length : Nat)⟩
def parseV (l : List UInt8) : Value :=
  match parseL 4 l with
  | some ns => .tuple #[(nodeP ns).v, .int .i64 0]
  | none => .tuple #[Pt.v ⟨0, 0, 0, 0, 0⟩, .int .i64 4]
theorem parseV_none {l : List UInt8} (h : parseL 4 l = none) : parseV l = .tuple #[Pt.v ⟨0, 0, 0, 0, 0⟩, .int .i64 4] := by unfold parseV; rw [h]
theorem parseV_some {l : List UInt8} {ns : List Nat} (h : parseL 4 l = some ns) : parseV l = .tuple #[(nodeP ns).v, .int .i64 0] := by unfold parseV; rw [h]

theorem number_is (s : ByteArray) (n z : Nat) (w : World) (hs : s.size ≤ maxLen) (h : numL 0 0 s.data.toList = (n, z)) :
    Calls Tryd.prog 15 #[.string s] w fun e w' => e = .returned (.tuple #[.int .i64 (n : Nat), .int .i64 (z : Nat)]) ∧ w = w' := by
  have := number_any s w hs
  rw [h] at this
  exact this

def Rest (l : List UInt8) (ns : List Nat) (t : ByteArray) : Prop := parseL 4 l = (parseL (4 - ns.length) t.data.toList).map (ns ++ ·)
def PRel (l : List UInt8) (w : World) (sv : Value) (wr : World) : Prop :=
  ∃ (t : ByteArray) (ns : List Nat), sv = .string t ∧ t.size ≤ maxLen ∧ ns.length ≤ 4 ∧ wr = boxed (boxed w 0 0 0 0 0) (ns.getD 0 0 : Nat) (ns.getD 1 0 : Nat) (ns.getD 2 0 : Nat) (ns.getD 3 0 : Nat) (ns.length : Nat) ∧ Rest l ns t
def strLen : Value → Nat
  | .string s => s.size
  | _ => 0

theorem extract_list (t : ByteArray) (z : Nat) : (t.extract z t.size).data.toList = t.data.toList.drop z := by
  have h : t.data.toList.length = t.size := Array.length_toList
  rw [ByteArray.data_extract, Array.toList_extract, List.extract_eq_take_drop, List.take_of_length_le (by rw [List.length_drop, h]; exact Nat.le_refl _)]
theorem extract_size (t : ByteArray) (z : Nat) : (t.extract z t.size).size = t.size - z := by simp
section
variable {l : List UInt8} {ns : List Nat} {t : ByteArray} {n z : Nat}
theorem rest_open (hk : ns.length < 4) (h : Rest l ns t) (hn : numL 0 0 t.data.toList = (n, z)) :
    parseL 4 l = (if z = 0 then none else if z = t.size then some [n] else if t.data.toList[z]? = some 46 then (parseL (4 - (ns.length + 1)) (t.data.toList.drop (z + 1))).map (n :: ·) else none).map (ns ++ ·) := by
  unfold Rest at h
  have e : 4 - ns.length = (4 - (ns.length + 1)) + 1 := by omega
  have hl : t.data.toList.length = t.size := Array.length_toList
  rw [h, e]
  conv => lhs; unfold parseL
  rw [hn]
  simp only [hl]
theorem rest_zero (hk : ns.length < 4) (h : Rest l ns t) (hn : numL 0 0 t.data.toList = (n, z)) (hz : z = 0) : parseL 4 l = none := by
  rw [rest_open hk h hn, if_pos hz]; rfl
theorem rest_end (hk : ns.length < 4) (h : Rest l ns t) (hn : numL 0 0 t.data.toList = (n, z)) (hz : z ≠ 0) (hz' : z = t.size) : parseL 4 l = some (ns ++ [n]) := by
  rw [rest_open hk h hn, if_neg hz, if_pos hz']; rfl
theorem at_toList (t : ByteArray) (z : Nat) (h : z < t.size) : t.data.toList[z]? = some t[z] := by
  have hl : z < t.data.toList.length := by have : t.data.toList.length = t.size := Array.length_toList; omega
  rw [List.getElem?_eq_getElem hl]; rfl
theorem rest_dot (hk : ns.length < 4) (h : Rest l ns t) (hn : numL 0 0 t.data.toList = (n, z)) (hz : z ≠ 0) (hz' : z < t.size) (hc : t[z].toNat = 46) : Rest l (ns ++ [n]) (t.extract (z + 1) t.size) := by
  have h46 : t[z] = 46 := UInt8.toNat_inj.1 hc
  unfold Rest
  rw [rest_open hk h hn, if_neg hz, if_neg (by omega), at_toList t z hz', h46, if_pos rfl, extract_list, List.length_append]
  simp [Option.map_map, Function.comp_def]
theorem rest_other (hk : ns.length < 4) (h : Rest l ns t) (hn : numL 0 0 t.data.toList = (n, z)) (hz : z ≠ 0) (hz' : z < t.size) (hc : t[z].toNat ≠ 46) : parseL 4 l = none := by
  rw [rest_open hk h hn, if_neg hz, if_neg (by omega), at_toList t z hz', if_neg (fun q => hc (by rw [Option.some.inj q]; rfl))]; rfl
theorem rest_full (hk : ns.length = 4) (h : Rest l ns t) : parseL 4 l = none := by
  unfold Rest at h; rw [h, hk]; rfl
end
theorem below_pair (w : World) (o o' : Obj) : Below w.heap.size w ((w.alloc o).alloc o') := ((Below.refl _ _).alloc (Nat.le_refl _) _).alloc (by simp) _

set_option maxRecDepth 1000000 in
set_option maxHeartbeats 1000000 in
theorem parse_any (s : ByteArray) (w : World) (hs : s.size ≤ maxLen) :
    Calls Tryd.prog 6 #[.string s] w fun e w' => e = .returned (parseV s.data.toList) ∧ Below w.heap.size w w' := by
  go_enter Tryd.func6, Tryd.ntmps6
  go_wp2
  go_loopw [0] (fun sv wr => PRel s.data.toList w sv wr) (fun sv _ => strLen sv)
  case atStart => exact ⟨s, [], rfl, hs, by simp, rfl, by simp [Rest]⟩
  case round =>
    obtain ⟨t, ns, rfl, ht, hl, rfl, hR⟩ := hrel
    unfold maxLen at ht
    obtain ⟨n, hn⟩ : ∃ n, (numL 0 0 t.data.toList).1 = n := ⟨_, rfl⟩
    obtain ⟨z, hz⟩ : ∃ z, (numL 0 0 t.data.toList).2 = z := ⟨_, rfl⟩
    have hnz : numL 0 0 t.data.toList = (n, z) := by rw [← hn, ← hz]
    have hbd := numL_bd t.data.toList 0 0 (by omega)
    rw [hn, hz] at hbd
    have hzt : z ≤ t.size := by have : t.data.toList.length = t.size := Array.length_toList; omega
    have hn9 : n ≤ 999 := hbd.1
    clear hbd hn hz
    have HN := Lib.hid hnz; clear hnz
    match ns, hl, hR with
    | [], _, hR =>
      have HR := Lib.hid hR; clear hR
      simp only [List.getD_nil, List.length_nil]
      by_cases h0 : z = 0
      · have HZ := Lib.hid (rest_zero (by simp) HR.out HN.out h0)
        have hz0 : ((z : Int) == 0) = true := by simp; omega
        replace h0 := Lib.hid h0
        go_wp2_with (go_at_call 15; ((with_reducible refine (number_is _ n z _ (by unfold maxLen; omega) HN.out).mono ?_); rintro e w1 ⟨rfl, rfl⟩))
        refine bodyPost_ret (v := .tuple #[Pt.v ⟨0, 0, 0, 0, 0⟩, .int .i64 4]) (by simp [results, Tryd.results6, go_sem]) rfl ⟨by rw [parseV_none HZ.out], below_pair _ _ _⟩
      · have hz0 : ((z : Int) == 0) = false := by simp; omega
        by_cases h1 : z = t.size
        · have HZ := Lib.hid (rest_end (by simp) HR.out HN.out h0 h1)
          have hne : ((z : Int) == (t.size : Int)) = true := by simp; omega
          replace h1 := Lib.hid h1
          go_wp2_with (go_at_call 15; ((with_reducible refine (number_is _ n z _ (by unfold maxLen; omega) HN.out).mono ?_); rintro e w1 ⟨rfl, rfl⟩))
          exact bodyPost_ret (v := .tuple #[(nodeP ([] ++ [n])).v, .int .i64 0]) (by simp [results, Tryd.results6, go_sem, nodeP]) rfl ⟨by rw [parseV_some HZ.out], below_pair _ _ _⟩
        · have hlt : z < t.size := by omega
          have hne : ((z : Int) == (t.size : Int)) = false := by simp; omega
          by_cases hc : t[z].toNat = 46
          · have HZ := Lib.hid (rest_dot (by simp) HR.out HN.out h0 hlt hc)
            clear h1
            go_wp2_with (go_at_call 15; ((with_reducible refine (number_is _ n z _ (by unfold maxLen; omega) HN.out).mono ?_); rintro e w1 ⟨rfl, rfl⟩))
            exact ⟨⟨_, [] ++ [n], rfl, by rw [extract_size]; unfold maxLen; omega, by simp, rfl, HZ.out⟩, by simp only [strLen]; rw [extract_size]; omega⟩
          · have HZ := Lib.hid (rest_other (by simp) HR.out HN.out h0 hlt hc)
            have hcn : (((t[z].toNat : Nat) : Int) != 46) = true := by simp; omega
            clear h1
            go_wp2_with (go_at_call 15; ((with_reducible refine (number_is _ n z _ (by unfold maxLen; omega) HN.out).mono ?_); rintro e w1 ⟨rfl, rfl⟩))
            refine bodyPost_ret (v := .tuple #[Pt.v ⟨0, 0, 0, 0, 0⟩, .int .i64 4]) (by simp [results, Tryd.results6, go_sem]) rfl ⟨by rw [parseV_none HZ.out], below_pair _ _ _⟩
    | [x], _, hR =>
      have HR := Lib.hid hR; clear hR
      simp only [List.getD_nil, List.getD_cons_zero, List.getD_cons_succ, List.length_nil, List.length_cons]
      by_cases h0 : z = 0
      · have HZ := Lib.hid (rest_zero (by simp) HR.out HN.out h0)
        have hz0 : ((z : Int) == 0) = true := by simp; omega
        replace h0 := Lib.hid h0
        go_wp2_with (go_at_call 15; ((with_reducible refine (number_is _ n z _ (by unfold maxLen; omega) HN.out).mono ?_); rintro e w1 ⟨rfl, rfl⟩))
        refine bodyPost_ret (v := .tuple #[Pt.v ⟨0, 0, 0, 0, 0⟩, .int .i64 4]) (by simp [results, Tryd.results6, go_sem]) rfl ⟨by rw [parseV_none HZ.out], below_pair _ _ _⟩
      · have hz0 : ((z : Int) == 0) = false := by simp; omega
        by_cases h1 : z = t.size
        · have HZ := Lib.hid (rest_end (by simp) HR.out HN.out h0 h1)
          have hne : ((z : Int) == (t.size : Int)) = true := by simp; omega
          replace h1 := Lib.hid h1
          go_wp2_with (go_at_call 15; ((with_reducible refine (number_is _ n z _ (by unfold maxLen; omega) HN.out).mono ?_); rintro e w1 ⟨rfl, rfl⟩))
          exact bodyPost_ret (v := .tuple #[(nodeP ([x] ++ [n])).v, .int .i64 0]) (by simp [results, Tryd.results6, go_sem, nodeP]) rfl ⟨by rw [parseV_some HZ.out], below_pair _ _ _⟩
        · have hlt : z < t.size := by omega
          have hne : ((z : Int) == (t.size : Int)) = false := by simp; omega
          by_cases hc : t[z].toNat = 46
          · have HZ := Lib.hid (rest_dot (by simp) HR.out HN.out h0 hlt hc)
            clear h1
            go_wp2_with (go_at_call 15; ((with_reducible refine (number_is _ n z _ (by unfold maxLen; omega) HN.out).mono ?_); rintro e w1 ⟨rfl, rfl⟩))
            exact ⟨⟨_, [x] ++ [n], rfl, by rw [extract_size]; unfold maxLen; omega, by simp, rfl, HZ.out⟩, by simp only [strLen]; rw [extract_size]; omega⟩
          · have HZ := Lib.hid (rest_other (by simp) HR.out HN.out h0 hlt hc)
            have hcn : (((t[z].toNat : Nat) : Int) != 46) = true := by simp; omega
            clear h1
            go_wp2_with (go_at_call 15; ((with_reducible refine (number_is _ n z _ (by unfold maxLen; omega) HN.out).mono ?_); rintro e w1 ⟨rfl, rfl⟩))
            refine bodyPost_ret (v := .tuple #[Pt.v ⟨0, 0, 0, 0, 0⟩, .int .i64 4]) (by simp [results, Tryd.results6, go_sem]) rfl ⟨by rw [parseV_none HZ.out], below_pair _ _ _⟩
    | [x, y], _, hR =>
      have HR := Lib.hid hR; clear hR
      simp only [List.getD_nil, List.getD_cons_zero, List.getD_cons_succ, List.length_nil, List.length_cons]
      by_cases h0 : z = 0
      · have HZ := Lib.hid (rest_zero (by simp) HR.out HN.out h0)
        have hz0 : ((z : Int) == 0) = true := by simp; omega
        replace h0 := Lib.hid h0
        go_wp2_with (go_at_call 15; ((with_reducible refine (number_is _ n z _ (by unfold maxLen; omega) HN.out).mono ?_); rintro e w1 ⟨rfl, rfl⟩))
        refine bodyPost_ret (v := .tuple #[Pt.v ⟨0, 0, 0, 0, 0⟩, .int .i64 4]) (by simp [results, Tryd.results6, go_sem]) rfl ⟨by rw [parseV_none HZ.out], below_pair _ _ _⟩
      · have hz0 : ((z : Int) == 0) = false := by simp; omega
        by_cases h1 : z = t.size
        · have HZ := Lib.hid (rest_end (by simp) HR.out HN.out h0 h1)
          have hne : ((z : Int) == (t.size : Int)) = true := by simp; omega
          replace h1 := Lib.hid h1
          go_wp2_with (go_at_call 15; ((with_reducible refine (number_is _ n z _ (by unfold maxLen; omega) HN.out).mono ?_); rintro e w1 ⟨rfl, rfl⟩))
          exact bodyPost_ret (v := .tuple #[(nodeP ([x, y] ++ [n])).v, .int .i64 0]) (by simp [results, Tryd.results6, go_sem, nodeP]) rfl ⟨by rw [parseV_some HZ.out], below_pair _ _ _⟩
        · have hlt : z < t.size := by omega
          have hne : ((z : Int) == (t.size : Int)) = false := by simp; omega
          by_cases hc : t[z].toNat = 46
          · have HZ := Lib.hid (rest_dot (by simp) HR.out HN.out h0 hlt hc)
            clear h1
            go_wp2_with (go_at_call 15; ((with_reducible refine (number_is _ n z _ (by unfold maxLen; omega) HN.out).mono ?_); rintro e w1 ⟨rfl, rfl⟩))
            exact ⟨⟨_, [x, y] ++ [n], rfl, by rw [extract_size]; unfold maxLen; omega, by simp, rfl, HZ.out⟩, by simp only [strLen]; rw [extract_size]; omega⟩
          · have HZ := Lib.hid (rest_other (by simp) HR.out HN.out h0 hlt hc)
            have hcn : (((t[z].toNat : Nat) : Int) != 46) = true := by simp; omega
            clear h1
            go_wp2_with (go_at_call 15; ((with_reducible refine (number_is _ n z _ (by unfold maxLen; omega) HN.out).mono ?_); rintro e w1 ⟨rfl, rfl⟩))
            refine bodyPost_ret (v := .tuple #[Pt.v ⟨0, 0, 0, 0, 0⟩, .int .i64 4]) (by simp [results, Tryd.results6, go_sem]) rfl ⟨by rw [parseV_none HZ.out], below_pair _ _ _⟩
    | [x, y, u], _, hR =>
      have HR := Lib.hid hR; clear hR
      simp only [List.getD_nil, List.getD_cons_zero, List.getD_cons_succ, List.length_nil, List.length_cons]
      by_cases h0 : z = 0
      · have HZ := Lib.hid (rest_zero (by simp) HR.out HN.out h0)
        have hz0 : ((z : Int) == 0) = true := by simp; omega
        replace h0 := Lib.hid h0
        go_wp2_with (go_at_call 15; ((with_reducible refine (number_is _ n z _ (by unfold maxLen; omega) HN.out).mono ?_); rintro e w1 ⟨rfl, rfl⟩))
        refine bodyPost_ret (v := .tuple #[Pt.v ⟨0, 0, 0, 0, 0⟩, .int .i64 4]) (by simp [results, Tryd.results6, go_sem]) rfl ⟨by rw [parseV_none HZ.out], below_pair _ _ _⟩
      · have hz0 : ((z : Int) == 0) = false := by simp; omega
        by_cases h1 : z = t.size
        · have HZ := Lib.hid (rest_end (by simp) HR.out HN.out h0 h1)
          have hne : ((z : Int) == (t.size : Int)) = true := by simp; omega
          replace h1 := Lib.hid h1
          go_wp2_with (go_at_call 15; ((with_reducible refine (number_is _ n z _ (by unfold maxLen; omega) HN.out).mono ?_); rintro e w1 ⟨rfl, rfl⟩))
          exact bodyPost_ret (v := .tuple #[(nodeP ([x, y, u] ++ [n])).v, .int .i64 0]) (by simp [results, Tryd.results6, go_sem, nodeP]) rfl ⟨by rw [parseV_some HZ.out], below_pair _ _ _⟩
        · have hlt : z < t.size := by omega
          have hne : ((z : Int) == (t.size : Int)) = false := by simp; omega
          by_cases hc : t[z].toNat = 46
          · have HZ := Lib.hid (rest_dot (by simp) HR.out HN.out h0 hlt hc)
            clear h1
            go_wp2_with (go_at_call 15; ((with_reducible refine (number_is _ n z _ (by unfold maxLen; omega) HN.out).mono ?_); rintro e w1 ⟨rfl, rfl⟩))
            exact ⟨⟨_, [x, y, u] ++ [n], rfl, by rw [extract_size]; unfold maxLen; omega, by simp, rfl, HZ.out⟩, by simp only [strLen]; rw [extract_size]; omega⟩
          · have HZ := Lib.hid (rest_other (by simp) HR.out HN.out h0 hlt hc)
            have hcn : (((t[z].toNat : Nat) : Int) != 46) = true := by simp; omega
            clear h1
            go_wp2_with (go_at_call 15; ((with_reducible refine (number_is _ n z _ (by unfold maxLen; omega) HN.out).mono ?_); rintro e w1 ⟨rfl, rfl⟩))
            refine bodyPost_ret (v := .tuple #[Pt.v ⟨0, 0, 0, 0, 0⟩, .int .i64 4]) (by simp [results, Tryd.results6, go_sem]) rfl ⟨by rw [parseV_none HZ.out], below_pair _ _ _⟩
    | [x, y, u, v], _, hR =>
      have HR := Lib.hid hR; clear hR
      simp only [List.getD_cons_zero, List.getD_cons_succ, List.length_nil, List.length_cons]
      have HZ := Lib.hid (rest_full (by simp) HR.out)
      go_wp2
      refine bodyPost_ret (v := .tuple #[Pt.v ⟨0, 0, 0, 0, 0⟩, .int .i64 4]) (by simp [results, Tryd.results6, go_sem]) rfl ⟨by rw [parseV_none HZ.out], below_pair _ _ _⟩
end Go.Proofs.YtmlljgijbffepaaDoor
