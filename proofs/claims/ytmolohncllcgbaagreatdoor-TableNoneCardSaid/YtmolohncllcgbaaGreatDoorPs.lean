/- A row of nodes, sorted by the library. -/
import Derived.Test.YtmolohncllcgbaaGreatDoorPd
import Derived.Test.YtmolohncllcgbaaGreatDoorR1
namespace Go.Proofs.YtmolohncllcgbaaGreatDoor.Pa
open Go Go.RowKit Go.Shelf Go.Lib Go.Sort
set_option maxRecDepth 100000

/-- a list of numbers ahead of another one -/
theorem cmpL_self : ∀ l : List Int, cmpL l l = 0
  | [] => rfl
  | a :: l => by rw [cmpL, if_neg (by omega), if_neg (by omega)]; exact cmpL_self l
theorem cmpL_anti : ∀ l q : List Int, cmpL q l = - cmpL l q
  | [], [] => rfl
  | [], _ :: _ => rfl
  | _ :: _, [] => rfl
  | a :: l, b :: q => by
    have ih := cmpL_anti l q
    simp only [cmpL]
    by_cases h1 : a < b
    · simp only [if_neg (show ¬ b < a by omega), if_pos h1]; omega
    · by_cases h2 : b < a
      · simp only [if_neg h1, if_pos h2]
      · simp only [if_neg h1, if_neg h2]; exact ih
theorem cmpL_eq : ∀ l q : List Int, cmpL l q = 0 → l = q
  | [], [], _ => rfl
  | [], _ :: _, h => by simp [cmpL] at h
  | _ :: _, [], h => by simp [cmpL] at h
  | a :: l, b :: q, h => by
    rw [cmpL] at h
    by_cases h1 : a < b
    · rw [if_pos h1] at h; omega
    · by_cases h2 : b < a
      · rw [if_neg h1, if_pos h2] at h; omega
      · rw [if_neg h1, if_neg h2] at h
        rw [cmpL_eq l q h, show a = b by omega]
theorem cmpL_tr : ∀ l q r : List Int, cmpL l q < 0 → cmpL q r < 0 → cmpL l r < 0
  | [], [], _, h, _ => by simp [cmpL] at h
  | [], _ :: _, [], _, h => by simp [cmpL] at h
  | [], _ :: _, _ :: _, _, _ => by simp [cmpL]
  | _ :: _, [], _, h, _ => by simp [cmpL] at h
  | _ :: _, _ :: _, [], _, h => by simp [cmpL] at h
  | a :: l, b :: q, c :: r, h, k => by
    rw [cmpL] at h k ⊢
    by_cases h1 : a < b
    · by_cases k1 : b < c
      · rw [if_pos (by omega)]; omega
      · by_cases k2 : c < b
        · rw [if_neg k1, if_pos k2] at k; omega
        · rw [if_pos (by omega)]; omega
    · by_cases h2 : b < a
      · rw [if_neg h1, if_pos h2] at h; omega
      · rw [if_neg h1, if_neg h2] at h
        by_cases k1 : b < c
        · rw [if_pos (by omega)]; omega
        · by_cases k2 : c < b
          · rw [if_neg k1, if_pos k2] at k; omega
          · rw [if_neg k1, if_neg k2] at k
            rw [if_neg (by omega), if_neg (by omega)]
            exact cmpL_tr l q r h k
theorem nums_inj {p q : Pt} (hp : rightB p = true) (hq : rightB q = true) (h : numsP p = numsP q) : p = q := by
  unfold numsP at h
  rcases node_shape hp with ⟨a, rfl⟩ | ⟨a, b, rfl⟩ | ⟨a, b, c, rfl⟩ | ⟨a, b, c, d, rfl⟩ <;>
    rcases node_shape hq with ⟨a', rfl⟩ | ⟨a', b', rfl⟩ | ⟨a', b', c', rfl⟩ | ⟨a', b', c', d', rfl⟩ <;>
    simp at h <;> simp [h]
/-- nodes that may be -/
abbrev RPt : Type := { p : Pt // rightB p = true }
instance : Inhabited RPt := ⟨⟨⟨1, 0, 0, 0, 1⟩, by decide⟩⟩
theorem less_right (x y : RPt) : lessB x.1 y.1 = decide (cmpL (numsP x.1) (numsP y.1) < 0) := by unfold lessB; rw [x.2, y.2]; rfl
def cmpR (x y : RPt) : Int := cmpP x.1 y.1
theorem lt_less (x y : RPt) : ltOf cmpR x y = lessB x.1 y.1 := by
  unfold ltOf cmpR cmpP
  cases h1 : lessB x.1 y.1
  · cases h2 : lessB y.1 x.1 <;> simp
  · simp
theorem less_tr {p q r : Pt} (h : lessB p q = true) (k : lessB q r = true) : lessB p r = true := by
  unfold lessB at *
  simp only [Bool.and_eq_true, decide_eq_true_iff] at *
  exact ⟨⟨h.1.1, k.1.2⟩, cmpL_tr _ _ _ h.2 k.2⟩
theorem less_irr (p : Pt) : lessB p p = false := by
  unfold lessB
  rw [cmpL_self]
  simp
theorem less_tot (x y : RPt) (h1 : lessB x.1 y.1 = false) (h2 : lessB y.1 x.1 = false) : x = y := by
  rw [less_right] at h1 h2
  have a1 := of_decide_eq_false h1
  have a2 := of_decide_eq_false h2
  rw [cmpL_anti] at a2
  exact Subtype.ext (nums_inj x.2 y.2 (cmpL_eq _ _ (by omega)))
theorem swoR : SWO (ltOf cmpR) where
  irrefl x := by rw [lt_less]; exact less_irr _
  trans x y z h1 h2 := by rw [lt_less] at *; exact less_tr h1 h2
  ntrans x y z h1 h2 := by
    rw [lt_less] at *
    cases hz : lessB x.1 z.1
    · rfl
    · cases hy : lessB y.1 x.1
      · have := less_tot x y h1 hy
        subst this
        rw [hz] at h2; cases h2
      · have := less_tr hy hz
        rw [h2] at this; cases this
theorem totR (x y : RPt) (h1 : ltOf cmpR x y = false) (h2 : ltOf cmpR y x = false) : x = y := by
  rw [lt_less] at *
  exact less_tot x y h1 h2
/-- the cells of a node -/
def encN (p : Pt) : List Value := [.int .i64 p.a, .int .i64 p.b, .int .i64 p.c, .int .i64 p.d, .int .i64 p.e]
def encR (x : RPt) : List Value := encN x.1
def flatN (xs : List Pt) : List Value := xs.flatMap encN
theorem flatN_cons (x : Pt) (xs : List Pt) : flatN (x :: xs) = encN x ++ flatN xs := by simp [flatN]
theorem flatN_snoc (xs : List Pt) (x : Pt) : flatN (xs ++ [x]) = flatN xs ++ encN x := by simp [flatN]
theorem flatN_length (xs : List Pt) : (flatN xs).length = xs.length * 5 := by
  induction xs with
  | nil => rfl
  | cons x xs ih => rw [flatN_cons, List.length_append, ih]; simp [encN]; omega
theorem flatN_at (xs : List Pt) (i j : Nat) (h : i < xs.length) (hj : j < 5) : (flatN xs)[i * 5 + j]? = (encN xs[i])[j]? := by
  induction xs generalizing i with
  | nil => simp at h
  | cons x xs ih =>
    cases i with
    | zero => rw [flatN_cons, Nat.zero_mul, Nat.zero_add, List.getElem?_append_left (by simpa [encN] using hj)]; rfl
    | succ i =>
      rw [flatN_cons, List.getElem?_append_right (by simp [encN]; omega), show (i + 1) * 5 + j - (encN x).length = i * 5 + j by simp [encN]; omega, ih i (by simpa using h)]
      simp
def vals (xs : List RPt) : List Pt := xs.map (·.1)
theorem vals_length (xs : List RPt) : (vals xs).length = xs.length := by simp [vals]
/-- nodes in order -/
def srt (xs : List RPt) : List RPt := xs.mergeSort fun x y => !(ltOf cmpR) y x
theorem srt_perm (xs : List RPt) : (srt xs).Perm xs := List.mergeSort_perm _ _
theorem srt_length (xs : List RPt) : (srt xs).length = xs.length := (srt_perm xs).length_eq
theorem srt_sorted (xs : List RPt) : (srt xs).Pairwise (fun x y => lessB y.1 x.1 = false) := by
  have h := List.pairwise_mergeSort (le := fun x y => !(ltOf cmpR) y x)
    (fun a b c h1 h2 => by simp only [Bool.not_eq_true'] at *; exact swoR.ntrans c b a h2 h1)
    (fun a b => by
      simp only [Bool.or_eq_true, Bool.not_eq_true']
      cases h : ltOf cmpR b a
      · exact .inl rfl
      · right
        cases h2 : ltOf cmpR a b
        · rfl
        · have := swoR.trans _ _ _ h h2
          rw [swoR.irrefl] at this; cases this) xs
  refine h.imp ?_
  intro a b hab
  simpa [lt_less] using hab
theorem grown_of {W w' : World} (h : BelowD W w') : ∃ q os', w' = grow (W.drewN q) os' := by
  have hd := h.drawn
  replace h := h.bel
  refine ⟨w'.drawn - W.drawn, w'.heap.extract W.heap.size w'.heap.size, ?_⟩
  obtain ⟨h1, t1, d1, o1, u1⟩ := w'
  obtain ⟨h2, t2, d2, o2, u2⟩ := W
  have e1 := h.os
  have e2 := h.tape
  have e3 := h.output
  have e4 := h.size
  have e5 := h.block
  simp only at e1 e2 e3 e4 e5 hd
  subst e1 e2 e3
  unfold grow
  simp only [World.drewN, World.mk.injEq]
  refine ⟨?_, trivial, by omega, trivial, trivial⟩
  apply Array.ext_getElem?
  intro k
  rw [Array.getElem?_append]
  by_cases hk : k < h2.size
  · rw [if_pos hk]; exact e5 k hk
  · rw [if_neg hk, Array.getElem?_extract]
    by_cases hk2 : k < h1.size
    · rw [if_pos (by omega)]; congr 1; omega
    · rw [if_neg (by omega)]; simp; omega
theorem cmpLays (blk off size : Nat) (w : World) : CmpLays Tryz.prog 59 #[] encR 5 cmpR blk off size w :=
  fun _ _ _ _ x y => (tcompare_any x.1 y.1 _).mono fun _ _ ⟨he, hb⟩ => ⟨he, grown_of hb⟩
theorem flatK_flat (xs : List RPt) : flatK encR 5 xs.toArray = (flatN (vals xs)).toArray := by
  apply Array.ext
  · simp [flatN_length, vals_length]
  · intro t h1 h2
    simp [flatN_length, vals_length] at h2
    have ht : t < xs.toArray.size * 5 := by simpa using h2
    have hd : t / 5 < xs.length := by omega
    have hm : t % 5 < 5 := Nat.mod_lt _ (by omega)
    have e1 : (flatK encR 5 xs.toArray)[t] = (encR xs.toArray[t / 5]!)[t % 5]! := by
      rw [← get_flatK encR 5 xs.toArray t ht, getElem!_pos _ t h1]
    rw [e1]
    have e2 : xs.toArray[t / 5]! = xs[t / 5] := by rw [getElem!_pos _ _ (by simpa using hd)]; simp
    rw [e2]
    have f1 := flatN_at (vals xs) (t / 5) (t % 5) (by rw [vals_length]; exact hd) hm
    have h3 : t < (flatN (vals xs)).length := by rw [flatN_length, vals_length]; exact h2
    show _ = (flatN (vals xs))[t]
    rw [show t / 5 * 5 + t % 5 = t by omega, List.getElem?_eq_getElem h3] at f1
    have e3 : (vals xs)[t / 5]'(by rw [vals_length]; exact hd) = xs[t / 5].1 := by simp [vals]
    rw [e3] at f1
    have h5 : t % 5 < (encN xs[t / 5].1).length := by simpa [encN] using hm
    rw [List.getElem?_eq_getElem h5] at f1
    simp only [Option.some.injEq] at f1
    rw [f1]
    exact getElem!_pos (encN xs[t / 5].1) (t % 5) h5
/-- a row of nodes of one's own -/
abbrev Row (W : World) (base : Nat) (v : Value) (xs : List Pt) : Prop := W.ownsRow base 30 5 v xs.length (flatN xs)
theorem row_holds {W : World} {base g n cap : Nat} {xs : List RPt} (h : Row W base (.slice (some ⟨g, 0, none⟩) n cap) (vals xs)) : HoldsK encR 5 W g 0 xs.toArray := by
  unfold HoldsK
  rw [flatK_flat]
  intro j hj
  have hj' : j < (flatN (vals xs)).length := by simpa using hj
  have h1 := h.cells (g := g) rfl j _ (List.getElem?_eq_getElem hj')
  rw [add_at] at h1
  rcases h.2 with ⟨h0, _⟩ | ⟨g', cap', cur, e, _, hb, _⟩
  · cases h0
  · cases e
    refine ⟨?_, by rw [Nat.zero_add]; unfold World.frozen?; simp [hb]⟩
    rw [Nat.zero_add, h1, getElem!_pos _ j hj]
    simp
theorem sort_heap {w : World} {g m : Nat} {xs : List RPt} {os : Array Obj} {cur : Array Value} (hg : w.heap[g]? = some (.cells cur 30 (0, 0))) :
    (sortWorldK encR 5 w g 0 m xs.toArray os).heap[g]? = some (.cells (putCells id 0 (flatN (vals xs)).toArray cur) 30 (0, 0)) ∧
    (∀ k, k ≠ g → k < w.heap.size → (sortWorldK encR 5 w g 0 m xs.toArray os).heap[k]? = w.heap[k]?) ∧ w.heap.size ≤ (sortWorldK encR 5 w g 0 m xs.toArray os).heap.size := by
  have hlt := (Array.getElem?_eq_some_iff.1 hg).1
  have e : (Go.Sort.ahead w m).heap = w.heap := rfl
  unfold sortWorldK putRowK putRow mapBlock grow
  rw [flatK_flat, e]
  refine ⟨?_, fun k hk hks => ?_, ?_⟩
  · simp only [Array.getElem?_append, Array.size_modify]
    rw [if_pos hlt, Array.getElem?_modify, if_pos rfl, hg]
    rfl
  · simp only [Array.getElem?_append, Array.size_modify]
    rw [if_pos hks, Array.getElem?_modify, if_neg (Ne.symm hk)]
  · simp
theorem sort_row {w : World} {base g n cap m : Nat} {xs ys : List RPt} {os : Array Obj} (h : Row w base (.slice (some ⟨g, 0, none⟩) n cap) (vals xs)) (hl : ys.length = xs.length) :
    Row (sortWorldK encR 5 w g 0 m ys.toArray os) base (.slice (some ⟨g, 0, none⟩) n cap) (vals ys) := by
  have hl' : (vals ys).length = (vals xs).length := by rw [vals_length, vals_length, hl]
  rcases h.2 with ⟨h0, _⟩ | ⟨g', cap', cur, e, hb, hg, h1, h2, h3, h4⟩
  · cases h0
  · cases e
    refine ⟨flatN_length _, .inr ⟨g, cap, _, by rw [hl'], hb, (sort_heap hg).1, by rw [hl']; exact h1, h2, by simp [putCells, h3], ?_⟩⟩
    apply List.ext_getElem?
    intro k
    rw [List.getElem?_take]
    by_cases hk : k < (vals ys).length * 5
    · rw [if_pos hk, Array.getElem?_toList]
      have hc : k < cur.size := by rw [h3]; rw [hl'] at hk; omega
      have hf : k < (flatN (vals ys)).length := by rw [flatN_length]; exact hk
      unfold putCells
      rw [Array.getElem?_mapIdx, Array.getElem?_eq_getElem hc]
      simp only [Option.map_some, Nat.zero_le, Nat.zero_add, true_and, List.size_toArray]
      rw [if_pos hf, List.getElem?_eq_getElem hf, Nat.sub_zero, getElem!_pos _ k (by simpa using hf)]
      simp
    · rw [if_neg hk, List.getElem?_eq_none (by rw [flatN_length]; omega)]
theorem sortf_any {w : World} {base : Nat} {v : Value} {xs : List RPt} (h : Row w base v (vals xs)) (hl : xs.length ≤ 1000) :
    Calls Tryz.prog 58 #[v, .func (.func 59) #[] #[]] w fun e w' => e = .returned (.tuple #[]) ∧ Row w' base v (vals (srt xs)) ∧ Below base w w' ∧ OnlyS (fun k => v.ownBlock = some k) w w' := by
  have eg : ∀ args w, (callFunc 59 args).run Tryz.prog w = .ok (.enter 59 args) w := enters_of Tryz.func59 (by kernel_rfl) rfl
  by_cases h0 : xs = []
  · subst h0
    have e : srt [] = [] := by simp [srt]
    rw [e]
    have : ∃ p cap, v = .slice p 0 cap := by
      rcases h.2 with ⟨rfl, _⟩ | ⟨g', cap', cur, rfl, _⟩
      · exact ⟨_, _, rfl⟩
      · exact ⟨_, _, rfl⟩
    obtain ⟨p, cap, rfl⟩ := this
    have hc := AnyF.slices_SortFunc_none sortA p cap (.func (.func 59) #[] #[]) w
    refine Calls.mono (f := 58) hc ?_
    rintro e w' ⟨rfl, rfl⟩
    exact ⟨rfl, h, Below.refl _ _, OnlyS.refl _ _⟩
  · rcases h.2 with ⟨rfl, hn⟩ | ⟨g, cap, cur, rfl, hb, hg, h1, h2, h3, h4⟩
    · exact absurd (List.length_eq_zero_iff.1 (by rw [vals_length] at hn; exact hn)) h0
    · have hlt := (Array.getElem?_eq_some_iff.1 hg).1
      have hh := row_holds h
      rw [vals_length] at h ⊢
      have hc := AnyQ.slices_SortFunc_total sortA 5 Tryz.isAgg30 Tryz.sizeOf30 encR (fun _ => rfl) (fun x v hv => by simp [encR, encN] at hv; rcases hv with rfl | rfl | rfl | rfl | rfl <;> rfl) cmpR swoR 59 #[] g 0 cap xs.toArray w eg (cmpLays _ _ _ _) hh hlt (by simp; omega) totR
      refine Calls.mono (f := 58) hc ?_
      rintro e w' ⟨rfl, n, os, rfl⟩
      have hsz := (sort_heap (m := n) (xs := srt xs) (os := os) hg)
      refine ⟨rfl, sort_row h (srt_length xs), ⟨rfl, rfl, rfl, hsz.2.2, fun k hk => hsz.2.1 k (by omega) (by omega)⟩, ⟨rfl, rfl, rfl, hsz.2.2, fun k hk hn => hsz.2.1 k (fun e => hn (by rw [e]; rfl)) hk⟩⟩
end Go.Proofs.YtmolohncllcgbaaGreatDoor.Pa
