/- The contracts of what covers all of a list of modes: the program's and the document's. -/
import Derived.Test.YtagbfonmeolnjaaDoorR3
namespace Go.Proofs.YtagbfonmeolnjaaDoor
open Go Go.RowKit

def grpN (zs : List Int) : Nat := zs.foldl (fun a m => supN a (kn m)) 0
theorem grpN_le (zs : List Int) : grpN zs ≤ 6 := by
  unfold grpN
  have : ∀ (l : List Int) (a : Nat), a ≤ 6 → l.foldl (fun a m => supN a (kn m)) a ≤ 6 := by
    intro l
    induction l with
    | nil => intro a h; exact h
    | cons x l ih => intro a _; exact ih _ (supN_le _ _)
  exact this zs 0 (by omega)
theorem grpN_snoc (zs : List Int) (k : Nat) (hk : k < zs.length) : grpN (zs.take (k + 1)) = supN (grpN (zs.take k)) (kn (zs.getD k 0)) := by
  unfold grpN
  rw [List.take_add_one, List.foldl_append]
  simp [List.getD, List.getElem?_eq_getElem hk]

/-- a list of numbers lies behind an address, below a block -/
def Cells (B : Nat) (w : World) (ad : Addr) (zs : List Int) : Prop := ∀ i, i < zs.length → ad.block < B ∧ w.cell? (ad.add i) = some (.int .i64 (zs.getD i 0))
theorem block_add (a : Addr) (n : Nat) : (a.add n).block = a.block := by unfold Addr.add; split <;> rfl
theorem Cells.later {B : Nat} {w w' : World} {ad : Addr} {zs : List Int} (h : Cells B w ad zs) (hb : Below B w w') : Cells B w' ad zs := fun i hi =>
  ⟨(h i hi).1, by rw [hb.cell (p := ad.add i) (by rw [block_add]; exact (h i hi).1)]; exact (h i hi).2⟩
theorem Cells.more {B B' : Nat} {w : World} {ad : Addr} {zs : List Int} (h : Cells B w ad zs) (hb : B ≤ B') : Cells B' w ad zs := fun i hi => ⟨Nat.lt_of_lt_of_le (h i hi).1 hb, (h i hi).2⟩

theorem group_nil (A : Option Addr) (c : Nat) (w : World) :
    Calls Tryd.prog 27 #[.slice A 0 c] w fun e w' => e = .returned (.int .i64 (0 : Nat)) ∧ Below w.heap.size w w' := by
  go_enter Tryd.func27, Tryd.ntmps27
  go_wp2
  go_loop [3, 8] (fun t i => i = .int .i64 0 ∧ t = .int .i64 0) (fun _ _ => 0)
  case atStart => exact ⟨rfl, rfl⟩
  case round =>
    obtain ⟨rfl, rfl⟩ := hrel
    go_wp2
    go_ret
    exact ⟨rfl, Below.refl _ _⟩
theorem group_some (ad : Addr) (zs : List Int) (c : Nat) (w : World) (hc : Cells w.heap.size w ad zs) (hl : zs.length ≤ 200) :
    Calls Tryd.prog 27 #[.slice (some ad) zs.length c] w fun e w' => e = .returned (.int .i64 (grpN zs : Nat)) ∧ Below w.heap.size w w' := by
  have HC := Lib.hid hc
  clear hc
  obtain ⟨n, hn⟩ : ∃ n, zs.length = n := ⟨_, rfl⟩
  have HN := Lib.hid hn
  rw [hn] at hl ⊢
  clear hn
  go_enter Tryd.func27, Tryd.ntmps27
  go_wp2
  go_loopw [3, 8] (fun x i wr => ∃ k : Nat, k ≤ n ∧ i = .int .i64 k ∧ x = .int .i64 (grpN (zs.take k) : Nat) ∧ Below w.heap.size w wr) (fun _ i _ => n - (intOf i).toNat)
  case atStart => exact ⟨0, by omega, rfl, by simp [grpN], Below.refl _ _⟩
  case round =>
    obtain ⟨k, hk, rfl, rfl, hb⟩ := hrel
    by_cases hlt : k < n
    · have hcell := ((HC.out.later hb) k (by have := HN.out; omega)).2
      obtain ⟨z, hz⟩ : ∃ z, zs.getD k 0 = z := ⟨_, rfl⟩
      rw [hz] at hcell
      obtain ⟨g, hg⟩ : ∃ g, grpN (zs.take k) = g := ⟨_, rfl⟩
      have kg : g ≤ 6 := hg ▸ grpN_le _
      obtain ⟨v, hv⟩ : ∃ v, supN g (kn z) = v := ⟨_, rfl⟩
      have HV : Hid (grpN (zs.take (k + 1)) = v) := by unfold Hid; rw [grpN_snoc zs k (by have := HN.out; omega), hg, hz, hv]
      have q : Gives w 23 #[.int .i64 (g : Nat), .int .i64 z] (.int .i64 (v : Nat)) := sup_g w (by rw [kn_nat kg, hv])
      rw [hg]
      clear hz hg hv
      go_wp2_with (go_at_call 23; refine Gives.use (w0 := w) (by with_reducible assumption) (by assumption) ?_; intro w1 hb1)
      go_roundw
      case rel => exact ⟨k + 1, by omega, by go_num, by rw [HV.out], by assumption⟩
      case measure => simp [intOf]; omega
    · obtain rfl : k = n := by omega
      go_wp2
      go_ret
      exact ⟨ret_int (by rw [List.take_of_length_le (by have := HN.out; omega)]), hb⟩

theorem rgroup_nil (A : Option Addr) (c : Nat) (w : World) :
    Calls Tryd.prog 28 #[.slice A 0 c] w fun e w' => e = .returned (.int .i64 (0 : Nat)) ∧ Below w.heap.size w w' := by
  go_enter Tryd.func28, Tryd.ntmps28
  go_wp2
  go_loop [3, 8] (fun t i => i = .int .i64 0 ∧ t = .int .i64 0) (fun _ _ => 0)
  case atStart => exact ⟨rfl, rfl⟩
  case round =>
    obtain ⟨rfl, rfl⟩ := hrel
    go_wp2
    go_ret
    exact ⟨rfl, Below.refl _ _⟩
theorem rsup_g {m n : Int} {v : Nat} (w : World) (h : supN (kn m) (kn n) = v) : Gives w 31 #[.int .i64 m, .int .i64 n] (.int .i64 (v : Nat)) := fun w' hb => by rw [← h]; exact rsup_any m n w w' hb
theorem rgroup_some (ad : Addr) (zs : List Int) (c : Nat) (w : World) (hc : Cells w.heap.size w ad zs) (hl : zs.length ≤ 200) :
    Calls Tryd.prog 28 #[.slice (some ad) zs.length c] w fun e w' => e = .returned (.int .i64 (grpN zs : Nat)) ∧ Below w.heap.size w w' := by
  have HC := Lib.hid hc
  clear hc
  obtain ⟨n, hn⟩ : ∃ n, zs.length = n := ⟨_, rfl⟩
  have HN := Lib.hid hn
  rw [hn] at hl ⊢
  clear hn
  go_enter Tryd.func28, Tryd.ntmps28
  go_wp2
  go_loopw [3, 8] (fun x i wr => ∃ k : Nat, k ≤ n ∧ i = .int .i64 k ∧ x = .int .i64 (grpN (zs.take k) : Nat) ∧ Below w.heap.size w wr) (fun _ i _ => n - (intOf i).toNat)
  case atStart => exact ⟨0, by omega, rfl, by simp [grpN], Below.refl _ _⟩
  case round =>
    obtain ⟨k, hk, rfl, rfl, hb⟩ := hrel
    by_cases hlt : k < n
    · have hcell := ((HC.out.later hb) k (by have := HN.out; omega)).2
      obtain ⟨z, hz⟩ : ∃ z, zs.getD k 0 = z := ⟨_, rfl⟩
      rw [hz] at hcell
      obtain ⟨g, hg⟩ : ∃ g, grpN (zs.take k) = g := ⟨_, rfl⟩
      have kg : g ≤ 6 := hg ▸ grpN_le _
      obtain ⟨v, hv⟩ : ∃ v, supN g (kn z) = v := ⟨_, rfl⟩
      have HV : Hid (grpN (zs.take (k + 1)) = v) := by unfold Hid; rw [grpN_snoc zs k (by have := HN.out; omega), hg, hz, hv]
      have q : Gives w 31 #[.int .i64 (g : Nat), .int .i64 z] (.int .i64 (v : Nat)) := rsup_g w (by rw [kn_nat kg, hv])
      rw [hg]
      clear hz hg hv
      go_wp2_with (go_at_call 31; refine Gives.use (w0 := w) (by with_reducible assumption) (by assumption) ?_; intro w1 hb1)
      go_roundw
      case rel => exact ⟨k + 1, by omega, by go_num, by rw [HV.out], by assumption⟩
      case measure => simp [intOf]; omega
    · obtain rfl : k = n := by omega
      go_wp2
      go_ret
      exact ⟨ret_int (by rw [List.take_of_length_le (by have := HN.out; omega)]), hb⟩

/-- a slice that is nil, or whose numbers lie behind its address -/
def Inp (B : Nat) (w : World) (A : Option Addr) (n c : Nat) (zs : List Int) : Prop :=
  zs.length = n ∧ ((A = none ∧ n = 0 ∧ c = 0) ∨ ∃ ad, A = some ad ∧ Cells B w ad zs)
theorem Inp.later {B : Nat} {w w' : World} {A : Option Addr} {n c : Nat} {zs : List Int} (h : Inp B w A n c zs) (hb : Below B w w') : Inp B w' A n c zs := by
  obtain ⟨h1, h2 | ⟨ad, h2, h3⟩⟩ := h
  · exact ⟨h1, Or.inl h2⟩
  · exact ⟨h1, Or.inr ⟨ad, h2, h3.later hb⟩⟩
theorem Inp.more {B B' : Nat} {w : World} {A : Option Addr} {n c : Nat} {zs : List Int} (h : Inp B w A n c zs) (hb : B ≤ B') : Inp B' w A n c zs := by
  obtain ⟨h1, h2 | ⟨ad, h2, h3⟩⟩ := h
  · exact ⟨h1, Or.inl h2⟩
  · exact ⟨h1, Or.inr ⟨ad, h2, h3.more hb⟩⟩
theorem group_in {w : World} {A : Option Addr} {n c : Nat} {zs : List Int} (h : Inp w.heap.size w A n c zs) (hl : n ≤ 200) :
    Calls Tryd.prog 27 #[.slice A n c] w fun e w' => e = .returned (.int .i64 (grpN zs : Nat)) ∧ Below w.heap.size w w' := by
  obtain ⟨rfl, ⟨rfl, h0, rfl⟩ | ⟨ad, rfl, hc⟩⟩ := h
  · obtain rfl : zs = [] := List.length_eq_zero_iff.1 h0
    exact group_nil none 0 w
  · exact group_some ad zs c w hc hl
theorem rgroup_in {w : World} {A : Option Addr} {n c : Nat} {zs : List Int} (h : Inp w.heap.size w A n c zs) (hl : n ≤ 200) :
    Calls Tryd.prog 28 #[.slice A n c] w fun e w' => e = .returned (.int .i64 (grpN zs : Nat)) ∧ Below w.heap.size w w' := by
  obtain ⟨rfl, ⟨rfl, h0, rfl⟩ | ⟨ad, rfl, hc⟩⟩ := h
  · obtain rfl : zs = [] := List.length_eq_zero_iff.1 h0
    exact rgroup_nil none 0 w
  · exact rgroup_some ad zs c w hc hl
theorem group_g {w : World} {A : Option Addr} {n c : Nat} {zs : List Int} {v : Nat} (h : Inp w.heap.size w A n c zs) (hl : n ≤ 200) (hv : grpN zs = v) : Gives w 27 #[.slice A n c] (.int .i64 (v : Nat)) := fun _ hb => by
  rw [← hv]; exact acc hb (group_in ((h.later hb).more hb.size) hl)
theorem rgroup_g {w : World} {A : Option Addr} {n c : Nat} {zs : List Int} {v : Nat} (h : Inp w.heap.size w A n c zs) (hl : n ≤ 200) (hv : grpN zs = v) : Gives w 28 #[.slice A n c] (.int .i64 (v : Nat)) := fun _ hb => by
  rw [← hv]; exact acc hb (rgroup_in ((h.later hb).more hb.size) hl)

abbrev ints (zs : List Int) : List Value := zs.map fun z => Value.int .i64 z
theorem own_in {w : World} {base : Nat} {v : Value} {n : Nat} {zs : List Int} (h : w.ownsRow base 3 1 v n (ints zs)) : ∃ A c, v = .slice A n c ∧ Inp w.heap.size w A n c zs := by
  have hl : zs.length = n := by simpa using h.1
  rcases h.2 with ⟨rfl, rfl⟩ | ⟨g, cap, cur, rfl, _, hg, _⟩
  · exact ⟨none, 0, rfl, hl, Or.inl ⟨rfl, rfl, rfl⟩⟩
  · refine ⟨some ⟨g, 0, none⟩, cap, rfl, hl, Or.inr ⟨_, rfl, fun i hi => ⟨?_, ?_⟩⟩⟩
    · rcases Nat.lt_or_ge g w.heap.size with k | k
      · exact k
      · rw [Array.getElem?_eq_none k] at hg; cases hg
    · refine h.cells (g := g) rfl i _ ?_
      simp [ints, List.getD, List.getElem?_eq_getElem hi]
theorem info3' : (Tryd.prog.info? 3).map (fun i => (i.size, i.bytes, i.zero)) = some (1, 8, some (.int .i64 0)) := by kernel_rfl
theorem info3 : ∃ i, Tryd.prog.info? 3 = some i ∧ i.size = 1 ∧ i.bytes = 8 ∧ i.zero = some (.int .i64 0) := by
  obtain ⟨i, h, e⟩ := Option.map_eq_some_iff.1 info3'
  simp only [Prod.mk.injEq] at e
  exact ⟨i, h, e.1, e.2.1, e.2.2⟩
theorem app_run {w : World} {base : Nat} {v : Value} {n : Nat} {xs zs : List Int} {A : Option Addr} {m c : Nat} (hown : w.ownsRow base 3 1 v n (ints xs)) (hin : Inp w.heap.size w A m c zs) (hn : n + m ≤ 200) (hbase : base ≤ w.heap.size) :
    ∃ v' w', (Builtin.append_ #[35, 35] 35 #[v, .slice A m c]).run Tryd.prog w = .ok v' w' ∧ w'.ownsRow base 3 1 v' (n + m) (ints (xs ++ zs)) ∧ w.grownBy w' v.ownBlock := by
  obtain ⟨i, hi, hi1, hi2, hi3⟩ := info3
  obtain ⟨rfl, ⟨rfl, h0, rfl⟩ | ⟨ad, rfl, hc⟩⟩ := hin
  · obtain rfl : zs = [] := List.length_eq_zero_iff.1 h0
    exact ⟨v, w, run_append_owned_none w base 35 35 3 i 1 Tryd.underlying35 hi v n _ hown, by simpa using hown, ⟨rfl, rfl, rfl, Nat.le_refl _, fun _ _ _ => rfl⟩⟩
  · obtain ⟨v', w', h1, h2, h3, _⟩ := run_append_own (P := Tryd.prog) w base 35 35 3 i _ 1 8 Tryd.underlying35 hi hi3 hi1 hi2 rfl (by omega) v n (ints xs) hown ad zs.length c (ints zs) (by simp) (fun j u hu => by
        have hj : j < zs.length := by
          rcases Nat.lt_or_ge j zs.length with k | k
          · exact k
          · rw [List.getElem?_eq_none (by simpa using k)] at hu; cases hu
        rw [(hc j hj).2]
        simp [ints, List.getElem?_eq_getElem hj] at hu
        simp [List.getD, List.getElem?_eq_getElem hj, hu])
      (fun u hu => by obtain ⟨_, _, rfl⟩ := List.mem_map.1 hu; rfl) (by simp only [maxLen]; omega) (by omega) hbase
    exact ⟨v', w', h1, by simpa [ints] using h2, h3⟩
end Go.Proofs.YtagbfonmeolnjaaDoor
