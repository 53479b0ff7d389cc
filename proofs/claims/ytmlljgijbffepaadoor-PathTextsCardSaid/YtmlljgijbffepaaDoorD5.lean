/- The contract of the document's answer on the node of a text. -/
import Derived.Test.YtmlljgijbffepaaDoorD2
namespace Go.Proofs.YtmlljgijbffepaaDoor
open Go Go.RowKit

/-- the numbers so far, the number at hand, and the bytes behind -/
def naive : List Nat → Nat → List UInt8 → Option (List Nat)
  | ns, n, [] => if ns.length = 4 then none else some (ns ++ [n])
  | ns, n, c :: r =>
    if c.toNat = 46 then (if ns.length = 4 then none else naive (ns ++ [n]) 0 r)
    else if c.toNat < 48 ∨ 57 < c.toNat ∨ 99 < n then none else naive ns (n * 10 + (c.toNat - 48)) r
def rparseV (l : List UInt8) : Value :=
  if l = [] then .tuple #[Pt.v ⟨0, 0, 0, 0, 0⟩, .int .i64 4] else
    match naive [] 0 l with
    | some ns => if textP (nodeP ns) = l then .tuple #[(nodeP ns).v, .int .i64 0] else .tuple #[Pt.v ⟨0, 0, 0, 0, 0⟩, .int .i64 4]
    | none => .tuple #[Pt.v ⟨0, 0, 0, 0, 0⟩, .int .i64 4]
theorem rparse_empty : rparseV [] = .tuple #[Pt.v ⟨0, 0, 0, 0, 0⟩, .int .i64 4] := rfl
theorem rparse_none {l : List UInt8} (h : naive [] 0 l = none) : rparseV l = .tuple #[Pt.v ⟨0, 0, 0, 0, 0⟩, .int .i64 4] := by
  unfold rparseV
  rw [h]; split <;> rfl
theorem rparse_other {l : List UInt8} {ns : List Nat} (h : naive [] 0 l = some ns) (hne : textP (nodeP ns) ≠ l) : rparseV l = .tuple #[Pt.v ⟨0, 0, 0, 0, 0⟩, .int .i64 4] := by
  unfold rparseV
  rw [h]
  simp only
  rw [if_neg hne]; split <;> rfl
theorem rparse_same {l : List UInt8} {ns : List Nat} (h0 : l ≠ []) (h : naive [] 0 l = some ns) (he : textP (nodeP ns) = l) : rparseV l = .tuple #[(nodeP ns).v, .int .i64 0] := by
  unfold rparseV
  rw [h, if_neg h0]
  simp only
  rw [if_pos he]
section
variable {s : ByteArray} {ns : List Nat} {n k : Nat}
theorem drop_end (s : ByteArray) : s.data.toList.drop s.size = [] := List.drop_of_length_le (Nat.le_of_eq Array.length_toList)
theorem naive_end (h : ns.length ≠ 4) : naive ns n (s.data.toList.drop s.size) = some (ns ++ [n]) := by rw [drop_end]; unfold naive; rw [if_neg h]
theorem naive_full_end (h : ns.length = 4) : naive ns n (s.data.toList.drop s.size) = none := by rw [drop_end]; unfold naive; rw [if_pos h]
theorem naive_dot (hk : k < s.size) (hc : s[k].toNat = 46) (h : ns.length ≠ 4) : naive ns n (s.data.toList.drop k) = naive (ns ++ [n]) 0 (s.data.toList.drop (k + 1)) := by
  rw [drop_at s k hk]; conv => lhs; unfold naive
  rw [if_pos hc, if_neg h]
theorem naive_full_dot (hk : k < s.size) (hc : s[k].toNat = 46) (h : ns.length = 4) : naive ns n (s.data.toList.drop k) = none := by
  rw [drop_at s k hk]; unfold naive; rw [if_pos hc, if_pos h]
theorem naive_bad (hk : k < s.size) (hc : s[k].toNat ≠ 46) (h : s[k].toNat < 48 ∨ 57 < s[k].toNat ∨ 99 < n) : naive ns n (s.data.toList.drop k) = none := by
  rw [drop_at s k hk]; unfold naive; rw [if_neg hc, if_pos h]
theorem naive_dig (hk : k < s.size) (hc : s[k].toNat ≠ 46) (h : ¬ (s[k].toNat < 48 ∨ 57 < s[k].toNat ∨ 99 < n)) : naive ns n (s.data.toList.drop k) = naive ns (n * 10 + (s[k].toNat - 48)) (s.data.toList.drop (k + 1)) := by
  rw [drop_at s k hk]; conv => lhs; unfold naive
  rw [if_neg hc, if_neg h]
end
/-- where the loop stands: within the text, or behind its end -/
def Stand (l : List UInt8) (sz : Nat) (ns : List Nat) (n k : Nat) : Prop := (k ≤ sz ∧ naive ns n (l.drop k) = naive [] 0 l) ∨ (k = sz + 1 ∧ naive [] 0 l = some ns)
def NRel (l : List UInt8) (sz : Nat) (w : World) (nv iv : Value) (wr : World) : Prop :=
  ∃ (ns : List Nat) (n k : Nat), nv = .int .i64 (n : Nat) ∧ iv = .int .i64 (k : Nat) ∧ n ≤ 999 ∧ ns.length ≤ 4 ∧ Stand l sz ns n k ∧
    wr = boxed (boxed w 0 0 0 0 0) (ns.getD 0 0 : Nat) (ns.getD 1 0 : Nat) (ns.getD 2 0 : Nat) (ns.getD 3 0 : Nat) (ns.length : Nat)
theorem rtext_is {p : Pt} {l : List UInt8} (h : textP p = l) (w : World) : Calls Tryd.prog 13 #[p.v] w fun e w' => e = .returned (.string ⟨l.toArray⟩) ∧ Below w.heap.size w w' := by
  subst h; exact rtext_any p w

set_option maxRecDepth 1000000 in
set_option maxHeartbeats 8000000 in
theorem rparse_any (s : ByteArray) (w : World) (hs : s.size ≤ 100) (hs0 : 0 < s.size) :
    Calls Tryd.prog 7 #[.string s] w fun e w' => e = .returned (rparseV s.data.toList) ∧ Below w.heap.size w w' := by
  have hemp : (s.toList == []) = false := by
    rw [ByteArray.toList_eq]
    have hl : s.data.toList.length = s.size := Array.length_toList
    cases hh : s.data.toList with
    | nil => rw [hh] at hl; simp at hl; omega
    | cons c r => rfl
  go_enter Tryd.func7, Tryd.ntmps7
  go_wp2
  go_loopw [5, 6] (fun nv iv wr => NRel s.data.toList s.size w nv iv wr) (fun _ iv _ => s.size + 1 - (intOf iv).toNat)
  case atStart => exact ⟨[], 0, 0, rfl, rfl, by omega, by simp, .inl ⟨by omega, rfl⟩, rfl⟩
  case round =>
    obtain ⟨ns, n, k, rfl, rfl, hn, hl4, hst, rfl⟩ := hrel
    match ns, hl4, hst with
    | [], _, hst =>
      simp only [List.getD_nil, List.length_nil]
      rcases hst with ⟨hk, hE⟩ | ⟨hk, hE⟩
      · have HE := Lib.hid hE
        clear hE
        by_cases hend : k = s.size
        · have i1 : (k : Int) ≤ (s.size : Int) := by omega
          have i2 : ((k : Int) == (s.size : Int)) = true := by simp; omega
          have HZ : Hid (naive [] 0 s.data.toList = some ([] ++ [n])) := Lib.hid (by rw [← HE.out, hend]; exact naive_end (by simp))
          replace hend := Lib.hid hend
          go_wp2_with fail
          go_roundw
          case rel => exact ⟨[] ++ [n], 0, k + 1, rfl, by go_num, by omega, by simp, .inr ⟨by have := hend.out; omega, HZ.out⟩, rfl⟩
          case measure => have := hend.out; simp [intOf]; omega
        · have hlt : k < s.size := by omega
          have i1 : (k : Int) ≤ (s.size : Int) := by omega
          have i2 : ((k : Int) == (s.size : Int)) = false := by simp; omega
          have i0 : (0 : Int) ≤ (k : Int) := by omega
          clear hend
          by_cases hc : s[k].toNat = 46
          · have j1 : (((s[k].toNat : Nat) : Int) == 46) = true := by simp; omega
            have HZ := Lib.hid ((naive_dot (n := n) (ns := []) hlt hc (by simp)).symm.trans HE.out)
            clear hc
            go_wp2_with fail
            go_roundw
            case rel => exact ⟨[] ++ [n], 0, k + 1, rfl, by go_num, by omega, by simp, .inl ⟨by omega, HZ.out⟩, rfl⟩
            case measure => simp [intOf]; omega
          · have j1 : (((s[k].toNat : Nat) : Int) == 46) = false := by simp; omega
            by_cases hb : s[k].toNat < 48 ∨ 57 < s[k].toNat ∨ 99 < n
            · have HZ := Lib.hid (HE.out.symm.trans (naive_bad hlt hc hb))
              clear hc
              by_cases b1 : s[k].toNat < 48
              · have b1' : ((s[k].toNat : Nat) : Int) < 48 := by omega
                clear hb b1
                go_wp2_with fail
                exact bodyPost_ret (v := .tuple #[Pt.v ⟨0, 0, 0, 0, 0⟩, .int .i64 4]) (by simp [results, Tryd.results7, go_sem]) rfl ⟨by rw [rparse_none HZ.out], below_pair _ _ _⟩
              · by_cases b2 : 57 < s[k].toNat
                · have b1' : ¬ ((s[k].toNat : Nat) : Int) < 48 := by omega
                  have b2' : (57 : Int) < ((s[k].toNat : Nat) : Int) := by omega
                  clear hb b1 b2
                  go_wp2_with fail
                  exact bodyPost_ret (v := .tuple #[Pt.v ⟨0, 0, 0, 0, 0⟩, .int .i64 4]) (by simp [results, Tryd.results7, go_sem]) rfl ⟨by rw [rparse_none HZ.out], below_pair _ _ _⟩
                · have b1' : ¬ ((s[k].toNat : Nat) : Int) < 48 := by omega
                  have b2' : ¬ (57 : Int) < ((s[k].toNat : Nat) : Int) := by omega
                  have b3' : (99 : Int) < (n : Int) := by omega
                  clear hb b1 b2
                  go_wp2_with fail
                  exact bodyPost_ret (v := .tuple #[Pt.v ⟨0, 0, 0, 0, 0⟩, .int .i64 4]) (by simp [results, Tryd.results7, go_sem]) rfl ⟨by rw [rparse_none HZ.out], below_pair _ _ _⟩
            · have HZ := Lib.hid ((naive_dig (n := n) (ns := []) hlt hc hb).symm.trans HE.out)
              obtain ⟨q, hq⟩ : ∃ q, s[k].toNat = q := ⟨_, rfl⟩
              rw [hq] at HZ hb j1
              have b1' : ¬ (q : Int) < 48 := by omega
              have b2' : ¬ (57 : Int) < (q : Int) := by omega
              have b3' : ¬ (99 : Int) < (n : Int) := by omega
              have b4 : 48 ≤ q := by omega
              have b5 : q ≤ 57 := by omega
              have b6 : n ≤ 99 := by omega
              clear hc hb
              go_wp2_with fail
              go_roundw
              case rel => exact ⟨[], n * 10 + (q - 48), k + 1, by go_num, by go_num, by omega, by simp, .inl ⟨by omega, HZ.out⟩, rfl⟩
              case measure => simp [intOf]; omega
      · have i1 : ¬ (k : Int) ≤ (s.size : Int) := by omega
        have HE := Lib.hid hE
        clear hE
        obtain ⟨t, ht⟩ : ∃ t, textP ⟨0, 0, 0, 0, 0⟩ = t := ⟨_, rfl⟩
        have HN : Hid (nodeP [] = ⟨0, 0, 0, 0, 0⟩) := Lib.hid (by simp [nodeP])
        have HT := Lib.hid ht
        clear ht
        go_wp2_with fail
        refine (rtext_is HT.out _).mono ?_
        rintro r1 w1 ⟨rfl, hb1⟩
        obtain ⟨hc1, hf1⟩ := kept hb1
        obtain ⟨e0, e1, e2, e3, e4, _⟩ := ((PtAt.new w 0 0 0 0 0).alloc _).later hb1
        by_cases he : t = s.data.toList
        · have HV := Lib.hid (rparse_same (by intro z; have hl : s.data.toList.length = s.size := Array.length_toList; rw [z] at hl; simp at hl; omega) HE.out (by rw [HN.out, HT.out]; exact he))
          have k1 : (t == s.toList) = true := by rw [ByteArray.toList_eq, he]; simp
          have k2 : (t != s.toList) = false := by rw [ByteArray.toList_eq, he]; simp
          have k3 : t = s.toList := by rw [ByteArray.toList_eq, he]
          replace k3 := Lib.hid k3
          clear he
          go_wp2_with fail
          exact bodyPost_ret (v := .tuple #[Pt.v ⟨0, 0, 0, 0, 0⟩, .int .i64 0]) (by simp [results, Tryd.results7, go_sem, e0, e1, e2, e3, e4]) rfl ⟨by rw [HV.out, HN.out], below_set5 (below_past hb1) (by omega) _ _ _ _ _⟩
        · have HV := Lib.hid (rparse_other HE.out (by rw [HN.out, HT.out]; exact he))
          have k1 : (t == s.toList) = false := by rw [ByteArray.toList_eq]; simpa using he
          have k2 : (t != s.toList) = true := by rw [ByteArray.toList_eq]; simpa using he
          clear he
          go_wp2_with fail
          exact bodyPost_ret (v := .tuple #[Pt.v ⟨0, 0, 0, 0, 0⟩, .int .i64 4]) (by simp [results, Tryd.results7, go_sem, e0, e1, e2, e3, e4]) rfl ⟨by rw [HV.out], below_set5 (below_past hb1) (by omega) _ _ _ _ _⟩
    | [x], _, hst =>
      simp only [List.getD_nil, List.getD_cons_zero, List.getD_cons_succ, List.length_nil, List.length_cons]
      rcases hst with ⟨hk, hE⟩ | ⟨hk, hE⟩
      · have HE := Lib.hid hE
        clear hE
        by_cases hend : k = s.size
        · have i1 : (k : Int) ≤ (s.size : Int) := by omega
          have i2 : ((k : Int) == (s.size : Int)) = true := by simp; omega
          have HZ : Hid (naive [] 0 s.data.toList = some ([x] ++ [n])) := Lib.hid (by rw [← HE.out, hend]; exact naive_end (by simp))
          replace hend := Lib.hid hend
          go_wp2_with fail
          go_roundw
          case rel => exact ⟨[x] ++ [n], 0, k + 1, rfl, by go_num, by omega, by simp, .inr ⟨by have := hend.out; omega, HZ.out⟩, rfl⟩
          case measure => have := hend.out; simp [intOf]; omega
        · have hlt : k < s.size := by omega
          have i1 : (k : Int) ≤ (s.size : Int) := by omega
          have i2 : ((k : Int) == (s.size : Int)) = false := by simp; omega
          have i0 : (0 : Int) ≤ (k : Int) := by omega
          clear hend
          by_cases hc : s[k].toNat = 46
          · have j1 : (((s[k].toNat : Nat) : Int) == 46) = true := by simp; omega
            have HZ := Lib.hid ((naive_dot (n := n) (ns := [x]) hlt hc (by simp)).symm.trans HE.out)
            clear hc
            go_wp2_with fail
            go_roundw
            case rel => exact ⟨[x] ++ [n], 0, k + 1, rfl, by go_num, by omega, by simp, .inl ⟨by omega, HZ.out⟩, rfl⟩
            case measure => simp [intOf]; omega
          · have j1 : (((s[k].toNat : Nat) : Int) == 46) = false := by simp; omega
            by_cases hb : s[k].toNat < 48 ∨ 57 < s[k].toNat ∨ 99 < n
            · have HZ := Lib.hid (HE.out.symm.trans (naive_bad hlt hc hb))
              clear hc
              by_cases b1 : s[k].toNat < 48
              · have b1' : ((s[k].toNat : Nat) : Int) < 48 := by omega
                clear hb b1
                go_wp2_with fail
                exact bodyPost_ret (v := .tuple #[Pt.v ⟨0, 0, 0, 0, 0⟩, .int .i64 4]) (by simp [results, Tryd.results7, go_sem]) rfl ⟨by rw [rparse_none HZ.out], below_pair _ _ _⟩
              · by_cases b2 : 57 < s[k].toNat
                · have b1' : ¬ ((s[k].toNat : Nat) : Int) < 48 := by omega
                  have b2' : (57 : Int) < ((s[k].toNat : Nat) : Int) := by omega
                  clear hb b1 b2
                  go_wp2_with fail
                  exact bodyPost_ret (v := .tuple #[Pt.v ⟨0, 0, 0, 0, 0⟩, .int .i64 4]) (by simp [results, Tryd.results7, go_sem]) rfl ⟨by rw [rparse_none HZ.out], below_pair _ _ _⟩
                · have b1' : ¬ ((s[k].toNat : Nat) : Int) < 48 := by omega
                  have b2' : ¬ (57 : Int) < ((s[k].toNat : Nat) : Int) := by omega
                  have b3' : (99 : Int) < (n : Int) := by omega
                  clear hb b1 b2
                  go_wp2_with fail
                  exact bodyPost_ret (v := .tuple #[Pt.v ⟨0, 0, 0, 0, 0⟩, .int .i64 4]) (by simp [results, Tryd.results7, go_sem]) rfl ⟨by rw [rparse_none HZ.out], below_pair _ _ _⟩
            · have HZ := Lib.hid ((naive_dig (n := n) (ns := [x]) hlt hc hb).symm.trans HE.out)
              obtain ⟨q, hq⟩ : ∃ q, s[k].toNat = q := ⟨_, rfl⟩
              rw [hq] at HZ hb j1
              have b1' : ¬ (q : Int) < 48 := by omega
              have b2' : ¬ (57 : Int) < (q : Int) := by omega
              have b3' : ¬ (99 : Int) < (n : Int) := by omega
              have b4 : 48 ≤ q := by omega
              have b5 : q ≤ 57 := by omega
              have b6 : n ≤ 99 := by omega
              clear hc hb
              go_wp2_with fail
              go_roundw
              case rel => exact ⟨[x], n * 10 + (q - 48), k + 1, by go_num, by go_num, by omega, by simp, .inl ⟨by omega, HZ.out⟩, rfl⟩
              case measure => simp [intOf]; omega
      · have i1 : ¬ (k : Int) ≤ (s.size : Int) := by omega
        have HE := Lib.hid hE
        clear hE
        obtain ⟨t, ht⟩ : ∃ t, textP ⟨((x : Nat) : Int), 0, 0, 0, 1⟩ = t := ⟨_, rfl⟩
        have HN : Hid (nodeP [x] = ⟨((x : Nat) : Int), 0, 0, 0, 1⟩) := Lib.hid (by simp [nodeP])
        have HT := Lib.hid ht
        clear ht
        go_wp2_with fail
        refine (rtext_is HT.out _).mono ?_
        rintro r1 w1 ⟨rfl, hb1⟩
        obtain ⟨hc1, hf1⟩ := kept hb1
        obtain ⟨e0, e1, e2, e3, e4, _⟩ := ((PtAt.new w 0 0 0 0 0).alloc _).later hb1
        by_cases he : t = s.data.toList
        · have HV := Lib.hid (rparse_same (by intro z; have hl : s.data.toList.length = s.size := Array.length_toList; rw [z] at hl; simp at hl; omega) HE.out (by rw [HN.out, HT.out]; exact he))
          have k1 : (t == s.toList) = true := by rw [ByteArray.toList_eq, he]; simp
          have k2 : (t != s.toList) = false := by rw [ByteArray.toList_eq, he]; simp
          have k3 : t = s.toList := by rw [ByteArray.toList_eq, he]
          replace k3 := Lib.hid k3
          clear he
          go_wp2_with fail
          exact bodyPost_ret (v := .tuple #[Pt.v ⟨((x : Nat) : Int), 0, 0, 0, 1⟩, .int .i64 0]) (by simp [results, Tryd.results7, go_sem, e0, e1, e2, e3, e4]) rfl ⟨by rw [HV.out, HN.out], below_set5 (below_past hb1) (by omega) _ _ _ _ _⟩
        · have HV := Lib.hid (rparse_other HE.out (by rw [HN.out, HT.out]; exact he))
          have k1 : (t == s.toList) = false := by rw [ByteArray.toList_eq]; simpa using he
          have k2 : (t != s.toList) = true := by rw [ByteArray.toList_eq]; simpa using he
          clear he
          go_wp2_with fail
          exact bodyPost_ret (v := .tuple #[Pt.v ⟨0, 0, 0, 0, 0⟩, .int .i64 4]) (by simp [results, Tryd.results7, go_sem, e0, e1, e2, e3, e4]) rfl ⟨by rw [HV.out], below_set5 (below_past hb1) (by omega) _ _ _ _ _⟩
    | [x, y], _, hst =>
      simp only [List.getD_nil, List.getD_cons_zero, List.getD_cons_succ, List.length_nil, List.length_cons]
      rcases hst with ⟨hk, hE⟩ | ⟨hk, hE⟩
      · have HE := Lib.hid hE
        clear hE
        by_cases hend : k = s.size
        · have i1 : (k : Int) ≤ (s.size : Int) := by omega
          have i2 : ((k : Int) == (s.size : Int)) = true := by simp; omega
          have HZ : Hid (naive [] 0 s.data.toList = some ([x, y] ++ [n])) := Lib.hid (by rw [← HE.out, hend]; exact naive_end (by simp))
          replace hend := Lib.hid hend
          go_wp2_with fail
          go_roundw
          case rel => exact ⟨[x, y] ++ [n], 0, k + 1, rfl, by go_num, by omega, by simp, .inr ⟨by have := hend.out; omega, HZ.out⟩, rfl⟩
          case measure => have := hend.out; simp [intOf]; omega
        · have hlt : k < s.size := by omega
          have i1 : (k : Int) ≤ (s.size : Int) := by omega
          have i2 : ((k : Int) == (s.size : Int)) = false := by simp; omega
          have i0 : (0 : Int) ≤ (k : Int) := by omega
          clear hend
          by_cases hc : s[k].toNat = 46
          · have j1 : (((s[k].toNat : Nat) : Int) == 46) = true := by simp; omega
            have HZ := Lib.hid ((naive_dot (n := n) (ns := [x, y]) hlt hc (by simp)).symm.trans HE.out)
            clear hc
            go_wp2_with fail
            go_roundw
            case rel => exact ⟨[x, y] ++ [n], 0, k + 1, rfl, by go_num, by omega, by simp, .inl ⟨by omega, HZ.out⟩, rfl⟩
            case measure => simp [intOf]; omega
          · have j1 : (((s[k].toNat : Nat) : Int) == 46) = false := by simp; omega
            by_cases hb : s[k].toNat < 48 ∨ 57 < s[k].toNat ∨ 99 < n
            · have HZ := Lib.hid (HE.out.symm.trans (naive_bad hlt hc hb))
              clear hc
              by_cases b1 : s[k].toNat < 48
              · have b1' : ((s[k].toNat : Nat) : Int) < 48 := by omega
                clear hb b1
                go_wp2_with fail
                exact bodyPost_ret (v := .tuple #[Pt.v ⟨0, 0, 0, 0, 0⟩, .int .i64 4]) (by simp [results, Tryd.results7, go_sem]) rfl ⟨by rw [rparse_none HZ.out], below_pair _ _ _⟩
              · by_cases b2 : 57 < s[k].toNat
                · have b1' : ¬ ((s[k].toNat : Nat) : Int) < 48 := by omega
                  have b2' : (57 : Int) < ((s[k].toNat : Nat) : Int) := by omega
                  clear hb b1 b2
                  go_wp2_with fail
                  exact bodyPost_ret (v := .tuple #[Pt.v ⟨0, 0, 0, 0, 0⟩, .int .i64 4]) (by simp [results, Tryd.results7, go_sem]) rfl ⟨by rw [rparse_none HZ.out], below_pair _ _ _⟩
                · have b1' : ¬ ((s[k].toNat : Nat) : Int) < 48 := by omega
                  have b2' : ¬ (57 : Int) < ((s[k].toNat : Nat) : Int) := by omega
                  have b3' : (99 : Int) < (n : Int) := by omega
                  clear hb b1 b2
                  go_wp2_with fail
                  exact bodyPost_ret (v := .tuple #[Pt.v ⟨0, 0, 0, 0, 0⟩, .int .i64 4]) (by simp [results, Tryd.results7, go_sem]) rfl ⟨by rw [rparse_none HZ.out], below_pair _ _ _⟩
            · have HZ := Lib.hid ((naive_dig (n := n) (ns := [x, y]) hlt hc hb).symm.trans HE.out)
              obtain ⟨q, hq⟩ : ∃ q, s[k].toNat = q := ⟨_, rfl⟩
              rw [hq] at HZ hb j1
              have b1' : ¬ (q : Int) < 48 := by omega
              have b2' : ¬ (57 : Int) < (q : Int) := by omega
              have b3' : ¬ (99 : Int) < (n : Int) := by omega
              have b4 : 48 ≤ q := by omega
              have b5 : q ≤ 57 := by omega
              have b6 : n ≤ 99 := by omega
              clear hc hb
              go_wp2_with fail
              go_roundw
              case rel => exact ⟨[x, y], n * 10 + (q - 48), k + 1, by go_num, by go_num, by omega, by simp, .inl ⟨by omega, HZ.out⟩, rfl⟩
              case measure => simp [intOf]; omega
      · have i1 : ¬ (k : Int) ≤ (s.size : Int) := by omega
        have HE := Lib.hid hE
        clear hE
        obtain ⟨t, ht⟩ : ∃ t, textP ⟨((x : Nat) : Int), ((y : Nat) : Int), 0, 0, 2⟩ = t := ⟨_, rfl⟩
        have HN : Hid (nodeP [x, y] = ⟨((x : Nat) : Int), ((y : Nat) : Int), 0, 0, 2⟩) := Lib.hid (by simp [nodeP])
        have HT := Lib.hid ht
        clear ht
        go_wp2_with fail
        refine (rtext_is HT.out _).mono ?_
        rintro r1 w1 ⟨rfl, hb1⟩
        obtain ⟨hc1, hf1⟩ := kept hb1
        obtain ⟨e0, e1, e2, e3, e4, _⟩ := ((PtAt.new w 0 0 0 0 0).alloc _).later hb1
        by_cases he : t = s.data.toList
        · have HV := Lib.hid (rparse_same (by intro z; have hl : s.data.toList.length = s.size := Array.length_toList; rw [z] at hl; simp at hl; omega) HE.out (by rw [HN.out, HT.out]; exact he))
          have k1 : (t == s.toList) = true := by rw [ByteArray.toList_eq, he]; simp
          have k2 : (t != s.toList) = false := by rw [ByteArray.toList_eq, he]; simp
          have k3 : t = s.toList := by rw [ByteArray.toList_eq, he]
          replace k3 := Lib.hid k3
          clear he
          go_wp2_with fail
          exact bodyPost_ret (v := .tuple #[Pt.v ⟨((x : Nat) : Int), ((y : Nat) : Int), 0, 0, 2⟩, .int .i64 0]) (by simp [results, Tryd.results7, go_sem, e0, e1, e2, e3, e4]) rfl ⟨by rw [HV.out, HN.out], below_set5 (below_past hb1) (by omega) _ _ _ _ _⟩
        · have HV := Lib.hid (rparse_other HE.out (by rw [HN.out, HT.out]; exact he))
          have k1 : (t == s.toList) = false := by rw [ByteArray.toList_eq]; simpa using he
          have k2 : (t != s.toList) = true := by rw [ByteArray.toList_eq]; simpa using he
          clear he
          go_wp2_with fail
          exact bodyPost_ret (v := .tuple #[Pt.v ⟨0, 0, 0, 0, 0⟩, .int .i64 4]) (by simp [results, Tryd.results7, go_sem, e0, e1, e2, e3, e4]) rfl ⟨by rw [HV.out], below_set5 (below_past hb1) (by omega) _ _ _ _ _⟩
    | [x, y, u], _, hst =>
      simp only [List.getD_nil, List.getD_cons_zero, List.getD_cons_succ, List.length_nil, List.length_cons]
      rcases hst with ⟨hk, hE⟩ | ⟨hk, hE⟩
      · have HE := Lib.hid hE
        clear hE
        by_cases hend : k = s.size
        · have i1 : (k : Int) ≤ (s.size : Int) := by omega
          have i2 : ((k : Int) == (s.size : Int)) = true := by simp; omega
          have HZ : Hid (naive [] 0 s.data.toList = some ([x, y, u] ++ [n])) := Lib.hid (by rw [← HE.out, hend]; exact naive_end (by simp))
          replace hend := Lib.hid hend
          go_wp2_with fail
          go_roundw
          case rel => exact ⟨[x, y, u] ++ [n], 0, k + 1, rfl, by go_num, by omega, by simp, .inr ⟨by have := hend.out; omega, HZ.out⟩, rfl⟩
          case measure => have := hend.out; simp [intOf]; omega
        · have hlt : k < s.size := by omega
          have i1 : (k : Int) ≤ (s.size : Int) := by omega
          have i2 : ((k : Int) == (s.size : Int)) = false := by simp; omega
          have i0 : (0 : Int) ≤ (k : Int) := by omega
          clear hend
          by_cases hc : s[k].toNat = 46
          · have j1 : (((s[k].toNat : Nat) : Int) == 46) = true := by simp; omega
            have HZ := Lib.hid ((naive_dot (n := n) (ns := [x, y, u]) hlt hc (by simp)).symm.trans HE.out)
            clear hc
            go_wp2_with fail
            go_roundw
            case rel => exact ⟨[x, y, u] ++ [n], 0, k + 1, rfl, by go_num, by omega, by simp, .inl ⟨by omega, HZ.out⟩, rfl⟩
            case measure => simp [intOf]; omega
          · have j1 : (((s[k].toNat : Nat) : Int) == 46) = false := by simp; omega
            by_cases hb : s[k].toNat < 48 ∨ 57 < s[k].toNat ∨ 99 < n
            · have HZ := Lib.hid (HE.out.symm.trans (naive_bad hlt hc hb))
              clear hc
              by_cases b1 : s[k].toNat < 48
              · have b1' : ((s[k].toNat : Nat) : Int) < 48 := by omega
                clear hb b1
                go_wp2_with fail
                exact bodyPost_ret (v := .tuple #[Pt.v ⟨0, 0, 0, 0, 0⟩, .int .i64 4]) (by simp [results, Tryd.results7, go_sem]) rfl ⟨by rw [rparse_none HZ.out], below_pair _ _ _⟩
              · by_cases b2 : 57 < s[k].toNat
                · have b1' : ¬ ((s[k].toNat : Nat) : Int) < 48 := by omega
                  have b2' : (57 : Int) < ((s[k].toNat : Nat) : Int) := by omega
                  clear hb b1 b2
                  go_wp2_with fail
                  exact bodyPost_ret (v := .tuple #[Pt.v ⟨0, 0, 0, 0, 0⟩, .int .i64 4]) (by simp [results, Tryd.results7, go_sem]) rfl ⟨by rw [rparse_none HZ.out], below_pair _ _ _⟩
                · have b1' : ¬ ((s[k].toNat : Nat) : Int) < 48 := by omega
                  have b2' : ¬ (57 : Int) < ((s[k].toNat : Nat) : Int) := by omega
                  have b3' : (99 : Int) < (n : Int) := by omega
                  clear hb b1 b2
                  go_wp2_with fail
                  exact bodyPost_ret (v := .tuple #[Pt.v ⟨0, 0, 0, 0, 0⟩, .int .i64 4]) (by simp [results, Tryd.results7, go_sem]) rfl ⟨by rw [rparse_none HZ.out], below_pair _ _ _⟩
            · have HZ := Lib.hid ((naive_dig (n := n) (ns := [x, y, u]) hlt hc hb).symm.trans HE.out)
              obtain ⟨q, hq⟩ : ∃ q, s[k].toNat = q := ⟨_, rfl⟩
              rw [hq] at HZ hb j1
              have b1' : ¬ (q : Int) < 48 := by omega
              have b2' : ¬ (57 : Int) < (q : Int) := by omega
              have b3' : ¬ (99 : Int) < (n : Int) := by omega
              have b4 : 48 ≤ q := by omega
              have b5 : q ≤ 57 := by omega
              have b6 : n ≤ 99 := by omega
              clear hc hb
              go_wp2_with fail
              go_roundw
              case rel => exact ⟨[x, y, u], n * 10 + (q - 48), k + 1, by go_num, by go_num, by omega, by simp, .inl ⟨by omega, HZ.out⟩, rfl⟩
              case measure => simp [intOf]; omega
      · have i1 : ¬ (k : Int) ≤ (s.size : Int) := by omega
        have HE := Lib.hid hE
        clear hE
        obtain ⟨t, ht⟩ : ∃ t, textP ⟨((x : Nat) : Int), ((y : Nat) : Int), ((u : Nat) : Int), 0, 3⟩ = t := ⟨_, rfl⟩
        have HN : Hid (nodeP [x, y, u] = ⟨((x : Nat) : Int), ((y : Nat) : Int), ((u : Nat) : Int), 0, 3⟩) := Lib.hid (by simp [nodeP])
        have HT := Lib.hid ht
        clear ht
        go_wp2_with fail
        refine (rtext_is HT.out _).mono ?_
        rintro r1 w1 ⟨rfl, hb1⟩
        obtain ⟨hc1, hf1⟩ := kept hb1
        obtain ⟨e0, e1, e2, e3, e4, _⟩ := ((PtAt.new w 0 0 0 0 0).alloc _).later hb1
        by_cases he : t = s.data.toList
        · have HV := Lib.hid (rparse_same (by intro z; have hl : s.data.toList.length = s.size := Array.length_toList; rw [z] at hl; simp at hl; omega) HE.out (by rw [HN.out, HT.out]; exact he))
          have k1 : (t == s.toList) = true := by rw [ByteArray.toList_eq, he]; simp
          have k2 : (t != s.toList) = false := by rw [ByteArray.toList_eq, he]; simp
          have k3 : t = s.toList := by rw [ByteArray.toList_eq, he]
          replace k3 := Lib.hid k3
          clear he
          go_wp2_with fail
          exact bodyPost_ret (v := .tuple #[Pt.v ⟨((x : Nat) : Int), ((y : Nat) : Int), ((u : Nat) : Int), 0, 3⟩, .int .i64 0]) (by simp [results, Tryd.results7, go_sem, e0, e1, e2, e3, e4]) rfl ⟨by rw [HV.out, HN.out], below_set5 (below_past hb1) (by omega) _ _ _ _ _⟩
        · have HV := Lib.hid (rparse_other HE.out (by rw [HN.out, HT.out]; exact he))
          have k1 : (t == s.toList) = false := by rw [ByteArray.toList_eq]; simpa using he
          have k2 : (t != s.toList) = true := by rw [ByteArray.toList_eq]; simpa using he
          clear he
          go_wp2_with fail
          exact bodyPost_ret (v := .tuple #[Pt.v ⟨0, 0, 0, 0, 0⟩, .int .i64 4]) (by simp [results, Tryd.results7, go_sem, e0, e1, e2, e3, e4]) rfl ⟨by rw [HV.out], below_set5 (below_past hb1) (by omega) _ _ _ _ _⟩
    | [x, y, u, v], _, hst =>
      simp only [List.getD_cons_zero, List.getD_cons_succ, List.length_nil, List.length_cons]
      rcases hst with ⟨hk, hE⟩ | ⟨hk, hE⟩
      · have HE := Lib.hid hE
        clear hE
        by_cases hend : k = s.size
        · have i1 : (k : Int) ≤ (s.size : Int) := by omega
          have i2 : ((k : Int) == (s.size : Int)) = true := by simp; omega
          have HZ : Hid (naive [] 0 s.data.toList = none) := Lib.hid (by rw [← HE.out, hend]; exact naive_full_end (by simp))
          replace hend := Lib.hid hend
          go_wp2_with fail
          exact bodyPost_ret (v := .tuple #[Pt.v ⟨0, 0, 0, 0, 0⟩, .int .i64 4]) (by simp [results, Tryd.results7, go_sem]) rfl ⟨by rw [rparse_none HZ.out], below_pair _ _ _⟩
        · have hlt : k < s.size := by omega
          have i1 : (k : Int) ≤ (s.size : Int) := by omega
          have i2 : ((k : Int) == (s.size : Int)) = false := by simp; omega
          have i0 : (0 : Int) ≤ (k : Int) := by omega
          clear hend
          by_cases hc : s[k].toNat = 46
          · have j1 : (((s[k].toNat : Nat) : Int) == 46) = true := by simp; omega
            have HZ := Lib.hid (HE.out.symm.trans (naive_full_dot hlt hc (by simp)))
            clear hc
            go_wp2_with fail
            exact bodyPost_ret (v := .tuple #[Pt.v ⟨0, 0, 0, 0, 0⟩, .int .i64 4]) (by simp [results, Tryd.results7, go_sem]) rfl ⟨by rw [rparse_none HZ.out], below_pair _ _ _⟩
          · have j1 : (((s[k].toNat : Nat) : Int) == 46) = false := by simp; omega
            by_cases hb : s[k].toNat < 48 ∨ 57 < s[k].toNat ∨ 99 < n
            · have HZ := Lib.hid (HE.out.symm.trans (naive_bad hlt hc hb))
              clear hc
              by_cases b1 : s[k].toNat < 48
              · have b1' : ((s[k].toNat : Nat) : Int) < 48 := by omega
                clear hb b1
                go_wp2_with fail
                exact bodyPost_ret (v := .tuple #[Pt.v ⟨0, 0, 0, 0, 0⟩, .int .i64 4]) (by simp [results, Tryd.results7, go_sem]) rfl ⟨by rw [rparse_none HZ.out], below_pair _ _ _⟩
              · by_cases b2 : 57 < s[k].toNat
                · have b1' : ¬ ((s[k].toNat : Nat) : Int) < 48 := by omega
                  have b2' : (57 : Int) < ((s[k].toNat : Nat) : Int) := by omega
                  clear hb b1 b2
                  go_wp2_with fail
                  exact bodyPost_ret (v := .tuple #[Pt.v ⟨0, 0, 0, 0, 0⟩, .int .i64 4]) (by simp [results, Tryd.results7, go_sem]) rfl ⟨by rw [rparse_none HZ.out], below_pair _ _ _⟩
                · have b1' : ¬ ((s[k].toNat : Nat) : Int) < 48 := by omega
                  have b2' : ¬ (57 : Int) < ((s[k].toNat : Nat) : Int) := by omega
                  have b3' : (99 : Int) < (n : Int) := by omega
                  clear hb b1 b2
                  go_wp2_with fail
                  exact bodyPost_ret (v := .tuple #[Pt.v ⟨0, 0, 0, 0, 0⟩, .int .i64 4]) (by simp [results, Tryd.results7, go_sem]) rfl ⟨by rw [rparse_none HZ.out], below_pair _ _ _⟩
            · have HZ := Lib.hid ((naive_dig (n := n) (ns := [x, y, u, v]) hlt hc hb).symm.trans HE.out)
              obtain ⟨q, hq⟩ : ∃ q, s[k].toNat = q := ⟨_, rfl⟩
              rw [hq] at HZ hb j1
              have b1' : ¬ (q : Int) < 48 := by omega
              have b2' : ¬ (57 : Int) < (q : Int) := by omega
              have b3' : ¬ (99 : Int) < (n : Int) := by omega
              have b4 : 48 ≤ q := by omega
              have b5 : q ≤ 57 := by omega
              have b6 : n ≤ 99 := by omega
              clear hc hb
              go_wp2_with fail
              go_roundw
              case rel => exact ⟨[x, y, u, v], n * 10 + (q - 48), k + 1, by go_num, by go_num, by omega, by simp, .inl ⟨by omega, HZ.out⟩, rfl⟩
              case measure => simp [intOf]; omega
      · have i1 : ¬ (k : Int) ≤ (s.size : Int) := by omega
        have HE := Lib.hid hE
        clear hE
        obtain ⟨t, ht⟩ : ∃ t, textP ⟨((x : Nat) : Int), ((y : Nat) : Int), ((u : Nat) : Int), ((v : Nat) : Int), 4⟩ = t := ⟨_, rfl⟩
        have HN : Hid (nodeP [x, y, u, v] = ⟨((x : Nat) : Int), ((y : Nat) : Int), ((u : Nat) : Int), ((v : Nat) : Int), 4⟩) := Lib.hid (by simp [nodeP])
        have HT := Lib.hid ht
        clear ht
        go_wp2_with fail
        refine (rtext_is HT.out _).mono ?_
        rintro r1 w1 ⟨rfl, hb1⟩
        obtain ⟨hc1, hf1⟩ := kept hb1
        obtain ⟨e0, e1, e2, e3, e4, _⟩ := ((PtAt.new w 0 0 0 0 0).alloc _).later hb1
        by_cases he : t = s.data.toList
        · have HV := Lib.hid (rparse_same (by intro z; have hl : s.data.toList.length = s.size := Array.length_toList; rw [z] at hl; simp at hl; omega) HE.out (by rw [HN.out, HT.out]; exact he))
          have k1 : (t == s.toList) = true := by rw [ByteArray.toList_eq, he]; simp
          have k2 : (t != s.toList) = false := by rw [ByteArray.toList_eq, he]; simp
          have k3 : t = s.toList := by rw [ByteArray.toList_eq, he]
          replace k3 := Lib.hid k3
          clear he
          go_wp2_with fail
          exact bodyPost_ret (v := .tuple #[Pt.v ⟨((x : Nat) : Int), ((y : Nat) : Int), ((u : Nat) : Int), ((v : Nat) : Int), 4⟩, .int .i64 0]) (by simp [results, Tryd.results7, go_sem, e0, e1, e2, e3, e4]) rfl ⟨by rw [HV.out, HN.out], below_set5 (below_past hb1) (by omega) _ _ _ _ _⟩
        · have HV := Lib.hid (rparse_other HE.out (by rw [HN.out, HT.out]; exact he))
          have k1 : (t == s.toList) = false := by rw [ByteArray.toList_eq]; simpa using he
          have k2 : (t != s.toList) = true := by rw [ByteArray.toList_eq]; simpa using he
          clear he
          go_wp2_with fail
          exact bodyPost_ret (v := .tuple #[Pt.v ⟨0, 0, 0, 0, 0⟩, .int .i64 4]) (by simp [results, Tryd.results7, go_sem, e0, e1, e2, e3, e4]) rfl ⟨by rw [HV.out], below_set5 (below_past hb1) (by omega) _ _ _ _ _⟩
end Go.Proofs.YtmlljgijbffepaaDoor
