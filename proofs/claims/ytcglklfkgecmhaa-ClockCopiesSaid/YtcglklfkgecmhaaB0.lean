/- A list that came in; what ticks and stamps keep. -/
import Derived.Test.YtcglklfkgecmhaaA3
namespace Go.Proofs.Ytcglklfkgecmhaa
open Go Go.RowKit

/-- a list of numbers lies behind an address, below a block -/
def Cells (B : Nat) (w : World) (ad : Addr) (zs : List Int) : Prop := ∀ i, i < zs.length → ad.block < B ∧ w.cell? (ad.add i) = some (.int .i64 (zs.getD i 0))
theorem block_add (a : Addr) (n : Nat) : (a.add n).block = a.block := by unfold Addr.add; split <;> rfl
theorem Cells.later {B : Nat} {w w' : World} {ad : Addr} {zs : List Int} (h : Cells B w ad zs) (hb : Below B w w') : Cells B w' ad zs := fun i hi =>
  ⟨(h i hi).1, by rw [hb.cell (p := ad.add i) (by rw [block_add]; exact (h i hi).1)]; exact (h i hi).2⟩
/-- a slice that is nil, or whose numbers lie behind its address -/
def Inp (B : Nat) (w : World) (A : Option Addr) (n c : Nat) (zs : List Int) : Prop :=
  zs.length = n ∧ ((A = none ∧ n = 0 ∧ c = 0) ∨ ∃ ad, A = some ad ∧ Cells B w ad zs)
/-- the number at a place of a list that came in, in a later world -/
theorem Inp.at {B : Nat} {w w' : World} {A : Option Addr} {n c k : Nat} {zs : List Int} (h : Inp B w A n c zs) (hb : Below B w w') (hk : k < n) : ∃ ad z, A = some ad ∧ w'.cell? (ad.add k) = some (.int .i64 z) := by
  obtain ⟨h1, h2 | ⟨ad, h2, h3⟩⟩ := h
  · omega
  · exact ⟨ad, _, h2, (h3.later hb k (by omega)).2⟩

/-- how a tick goes: it may not be, it is too far, or it goes -/
theorem tick_ways (n m t : Int) : (t < 0 ∧ tickE n m t = 1 ∧ tickN n m t = n) ∨ (¬ t < 0 ∧ m - n < t ∧ tickE n m t = 20 ∧ tickN n m t = n) ∨ (¬ t < 0 ∧ t ≤ m - n ∧ tickE n m t = 0 ∧ tickN n m t = n + t) := by
  unfold tickE tickN
  by_cases h : t < 0
  · left; simp [h]
  · by_cases h' : m - n < t
    · right; left; simp [h, h']
    · right; right; simp [h, h']; omega
theorem tick_bd {n m : Int} (t : Int) (h0 : 0 ≤ n) (h1 : n ≤ m) : 0 ≤ tickN n m t ∧ tickN n m t ≤ m := by
  rcases tick_ways n m t with ⟨_, _, h⟩ | ⟨_, _, _, h⟩ | ⟨_, _, _, h⟩ <;> rw [h] <;> omega
theorem st_ways (s m : Int) : (m - s < 1 ∧ stE s m = 20 ∧ stV s m = 0 ∧ stS s m = s) ∨ (1 ≤ m - s ∧ stE s m = 0 ∧ stV s m = s + 1 ∧ stS s m = s + 1) := by
  unfold stE stV stS
  by_cases h : m - s < 1
  · left; simp [h]
  · right; simp [h]; omega
theorem st_bd {s m : Int} (h0 : 0 ≤ s) (h1 : s ≤ m) : 0 ≤ stS s m ∧ stS s m ≤ m := by
  rcases st_ways s m with ⟨_, _, _, h⟩ | ⟨_, _, _, h⟩ <;> rw [h] <;> omega
end Go.Proofs.Ytcglklfkgecmhaa
