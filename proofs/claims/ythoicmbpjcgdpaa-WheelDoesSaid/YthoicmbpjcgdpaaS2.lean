/- A row of alarms, sorted by the library. -/
import Derived.Test.YthoicmbpjcgdpaaS1
import Derived.Test.YthoicmbpjcgdpaaA5
namespace Go.Proofs.Ythoicmbpjcgdpaa
open Go Go.RowKit Go.Shelf Go.Lib Go.Sort

def encA (x : Al) : List Value := [.int .i64 x.1, .int .i64 x.2]
/-- one alarm comes ahead of another one: by time, then by number -/
def before (x y : Al) : Bool := decide (x.2 < y.2 ∨ (x.2 = y.2 ∧ x.1 < y.1))
theorem lt_before (x y : Al) : ltOf cmpA x y = before x y := by
  unfold ltOf cmpA cmpI before
  by_cases h1 : x.2 < y.2
  · simp [h1]
  · by_cases h2 : y.2 < x.2
    · have : ¬ x.2 = y.2 := by omega
      simp [h1, h2, this]
    · have e : x.2 = y.2 := by omega
      by_cases h3 : x.1 < y.1
      · simp [e, h3]
      · by_cases h4 : y.1 < x.1 <;> simp [e, h3, h4]
theorem swoA : SWO (ltOf cmpA) where
  irrefl x := by rw [lt_before]; simp [before]
  trans x y z h1 h2 := by rw [lt_before] at *; simp [before] at *; omega
  ntrans x y z h1 h2 := by rw [lt_before] at *; simp [before] at *; omega
theorem totA (x y : Al) (h1 : ltOf cmpA x y = false) (h2 : ltOf cmpA y x = false) : x = y := by
  rw [lt_before] at *
  simp [before] at *
  exact Prod.ext (by omega) (by omega)
/-- alarms in order -/
def srt (xs : List Al) : List Al := xs.mergeSort fun x y => !(ltOf cmpA) y x
theorem srt_perm (xs : List Al) : (srt xs).Perm xs := List.mergeSort_perm _ _
theorem srt_length (xs : List Al) : (srt xs).length = xs.length := (srt_perm xs).length_eq
theorem srt_sorted (xs : List Al) : (srt xs).Pairwise (fun x y => before y x = false) := by
  have h := List.pairwise_mergeSort (le := fun x y => !(ltOf cmpA) y x)
    (fun a b c h1 h2 => by simp only [Bool.not_eq_true', lt_before] at *; simp [before] at *; omega)
    (fun a b => by simp only [Bool.or_eq_true, Bool.not_eq_true', lt_before]; simp [before]; omega) xs
  refine h.imp ?_
  intro a b hab
  simpa [lt_before] using hab

theorem grown_of {W w' : World} (h : Below W.heap.size W w') (hd : W.drawn ≤ w'.drawn) : ∃ q os', w' = grow (W.drewN q) os' := by
  refine ⟨w'.drawn - W.drawn, w'.heap.extract W.heap.size w'.heap.size, ?_⟩
  obtain ⟨h1, t1, d1, o1, u1⟩ := w'
  obtain ⟨h2, t2, d2, o2, u2⟩ := W
  have e1 := h.os
  have e2 := h.tape
  have e3 := h.output
  have e4 := h.size
  have e5 := h.block
  simp only at e1 e2 e3 e4 e5 hd
  subst e1 e2 e3
  unfold grow
  simp only [World.drewN, World.mk.injEq]
  refine ⟨?_, trivial, by omega, trivial, trivial⟩
  apply Array.ext_getElem?
  intro k
  rw [Array.getElem?_append]
  by_cases hk : k < h2.size
  · rw [if_pos hk]; exact e5 k hk
  · rw [if_neg hk, Array.getElem?_extract]
    by_cases hk2 : k < h1.size
    · rw [if_pos (by omega)]; congr 1; omega
    · rw [if_neg (by omega)]; simp; omega
theorem cmpLays31 (blk off size : Nat) (w : World) : CmpLays Try.prog 31 #[] encA 2 cmpA blk off size w :=
  fun _ _ _ _ x y => (compare_any x y _).mono fun _ _ ⟨he, hb, hd⟩ => ⟨he, grown_of hb hd⟩

theorem flatK_flat (xs : List Al) : flatK encA 2 xs.toArray = (flat xs).toArray := by
  apply Array.ext
  · simp [flat_length]
  · intro t h1 h2
    simp [flat_length] at h2
    have ht : t < xs.toArray.size * 2 := by simpa using h2
    have hd : t / 2 < xs.length := by omega
    have e1 : (flatK encA 2 xs.toArray)[t] = (encA xs.toArray[t / 2]!)[t % 2]! := by
      rw [← get_flatK encA 2 xs.toArray t ht, getElem!_pos _ t h1]
    rw [e1]
    have e2 : xs.toArray[t / 2]! = xs[t / 2] := by rw [getElem!_pos _ _ (by simpa using hd)]; simp
    rw [e2]
    obtain ⟨f1, f2⟩ := flat_at xs (t / 2) hd
    have h3 : t < (flat xs).length := by rw [flat_length]; exact h2
    show _ = (flat xs)[t]
    rcases Nat.mod_two_eq_zero_or_one t with hm | hm
    · have ht2 : t / 2 * 2 = t := by omega
      rw [ht2, List.getElem?_eq_getElem h3] at f1
      rw [hm]; simp only [Option.some.injEq] at f1; rw [f1]; rfl
    · have ht2 : t / 2 * 2 + 1 = t := by omega
      rw [ht2, List.getElem?_eq_getElem h3] at f2
      rw [hm]; simp only [Option.some.injEq] at f2; rw [f2]; rfl

theorem row_holds {W : World} {base g n cap : Nat} {xs : List Al} (h : Row W base (.slice (some ⟨g, 0, none⟩) n cap) xs) : HoldsK encA 2 W g 0 xs.toArray := by
  unfold HoldsK
  rw [flatK_flat]
  intro j hj
  have hj' : j < (flat xs).length := by simpa using hj
  have h1 := h.cells (g := g) rfl j _ (List.getElem?_eq_getElem hj')
  rw [add_at] at h1
  rcases h.2 with ⟨h0, _⟩ | ⟨g', cap', cur, e, _, hb, _⟩
  · cases h0
  · cases e
    refine ⟨?_, by rw [Nat.zero_add]; exact (blk_cell hb).2⟩
    rw [Nat.zero_add, h1, getElem!_pos _ j hj]
    simp

theorem sort_heap {w : World} {g m : Nat} {xs : List Al} {os : Array Obj} {cur : Array Value} (hg : w.heap[g]? = some (.cells cur 31 (0, 0))) :
    (sortWorldK encA 2 w g 0 m xs.toArray os).heap[g]? = some (.cells (putCells id 0 (flat xs).toArray cur) 31 (0, 0)) ∧
    (∀ k, k ≠ g → k < w.heap.size → (sortWorldK encA 2 w g 0 m xs.toArray os).heap[k]? = w.heap[k]?) ∧ w.heap.size ≤ (sortWorldK encA 2 w g 0 m xs.toArray os).heap.size := by
  have hlt := (Array.getElem?_eq_some_iff.1 hg).1
  have e : (Go.Sort.ahead w m).heap = w.heap := rfl
  unfold sortWorldK putRowK putRow mapBlock grow
  rw [flatK_flat, e]
  refine ⟨?_, fun k hk hks => ?_, ?_⟩
  · simp only [Array.getElem?_append, Array.size_modify]
    rw [if_pos hlt, Array.getElem?_modify, if_pos rfl, hg]
    rfl
  · simp only [Array.getElem?_append, Array.size_modify]
    rw [if_pos hks, Array.getElem?_modify, if_neg (Ne.symm hk)]
  · simp
theorem sort_row {w : World} {base g n cap m : Nat} {xs ys : List Al} {os : Array Obj} (h : Row w base (.slice (some ⟨g, 0, none⟩) n cap) xs) (hl : ys.length = xs.length) :
    Row (sortWorldK encA 2 w g 0 m ys.toArray os) base (.slice (some ⟨g, 0, none⟩) n cap) ys := by
  rcases h.2 with ⟨h0, _⟩ | ⟨g', cap', cur, e, hb, hg, h1, h2, h3, h4⟩
  · cases h0
  · cases e
    refine ⟨flat_length ys, .inr ⟨g, cap, _, by rw [hl], hb, (sort_heap hg).1, by rw [hl]; exact h1, h2, by simp [putCells, h3], ?_⟩⟩
    apply List.ext_getElem?
    intro k
    rw [List.getElem?_take]
    by_cases hk : k < ys.length * 2
    · rw [if_pos hk, Array.getElem?_toList]
      have hc : k < cur.size := by rw [h3]; rw [hl] at hk; omega
      have hf : k < (flat ys).length := by rw [flat_length]; exact hk
      unfold putCells
      rw [Array.getElem?_mapIdx, Array.getElem?_eq_getElem hc]
      simp only [Option.map_some, Nat.zero_le, Nat.zero_add, true_and, List.size_toArray]
      rw [if_pos hf, List.getElem?_eq_getElem hf, Nat.sub_zero, getElem!_pos _ k (by simpa using hf)]
      simp
    · rw [if_neg hk, List.getElem?_eq_none (by rw [flat_length]; omega)]

theorem sortf_any {w : World} {base : Nat} {v : Value} {xs : List Al} (h : Row w base v xs) (hl : xs.length ≤ 1000) :
    Calls Try.prog 35 #[v, .func (.func 31) #[] #[]] w fun e w' => e = .returned (.tuple #[]) ∧ Row w' base v (srt xs) ∧ Below base w w' := by
  have eg : ∀ args w, (callFunc 31 args).run Try.prog w = .ok (.enter 31 args) w := enters_of Try.func31 (by kernel_rfl) rfl
  by_cases h0 : xs = []
  · subst h0
    have e : srt [] = [] := by simp [srt]
    rw [e]
    have : ∃ p cap, v = .slice p 0 cap := by
      rcases h.2 with ⟨rfl, _⟩ | ⟨g', cap', cur, rfl, _⟩
      · exact ⟨_, _, rfl⟩
      · exact ⟨_, _, rfl⟩
    obtain ⟨p, cap, rfl⟩ := this
    have hc := AnyF.slices_SortFunc_none sortA p cap (.func (.func 31) #[] #[]) w
    refine Calls.mono (f := 35) hc ?_
    rintro e w' ⟨rfl, rfl⟩
    exact ⟨rfl, h, Below.refl _ _⟩
  · rcases h.2 with ⟨rfl, hn⟩ | ⟨g, cap, cur, rfl, hb, hg, h1, h2, h3, h4⟩
    · exact absurd (List.length_eq_zero_iff.1 hn) h0
    · have hlt := (Array.getElem?_eq_some_iff.1 hg).1
      have hc := AnyQ.slices_SortFunc_total sortA 2 Try.isAgg31 Try.sizeOf31 encA (fun _ => rfl) (fun x v hv => by simp [encA] at hv; rcases hv with rfl | rfl <;> rfl) cmpA swoA 31 #[] g 0 cap xs.toArray w eg (cmpLays31 _ _ _ _) (row_holds h) hlt (by simp; omega) totA
      refine Calls.mono (f := 35) hc ?_
      rintro e w' ⟨rfl, n, os, rfl⟩
      have hsz := (sort_heap (m := n) (xs := srt xs) (os := os) hg)
      refine ⟨rfl, sort_row h (srt_length xs), rfl, rfl, rfl, hsz.2.2, fun k hk => hsz.2.1 k (by omega) (by omega)⟩
end Go.Proofs.Ythoicmbpjcgdpaa
