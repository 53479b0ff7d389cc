/- What one has is set: the program's answer and the document's. -/
import Derived.Test.YteaibamkfccplaaDoorHO1
namespace Go.Proofs.YteaibamkfccplaaDoor.Hs
open Go Go.RowKit Go.Shelf

/-- a mode for the first one of a transaction, or behind all -/
def setL (tx m : Int) : List Hd → List Hd
  | [] => [(tx, m)]
  | x :: xs => if x.1 == tx then (tx, m) :: xs else x :: setL tx m xs
/-- whether a transaction is there -/
def dn (tx : Int) (xs : List Hd) : Bool := xs.any (fun x => x.1 == tx)
theorem setL_none {tx m : Int} {xs : List Hd} (h : dn tx xs = false) : setL tx m xs = xs ++ [(tx, m)] := by
  induction xs with
  | nil => rfl
  | cons x xs ih =>
    unfold dn at h
    rw [List.any_cons, Bool.or_eq_false_iff] at h
    simp only [setL, h.1, List.cons_append]
    rw [ih h.2]
    rfl
theorem setL_at {tx m : Int} : ∀ {xs : List Hd} {k : Nat} (hk : k < xs.length), (∀ i (h : i < k), ((xs[i]'(by omega)).1 == tx) = false) → (xs[k].1 == tx) = true → setL tx m xs = xs.set k (tx, m)
  | x :: xs, 0, _, _, hp => by
    rw [List.getElem_cons_zero] at hp
    simp only [setL, hp, List.set_cons_zero, if_true]
  | x :: xs, k + 1, hk, h, hp => by
    have h1 := h 0 (by omega)
    have h2 := setL_at (m := m) (xs := xs) (k := k) (by simpa using hk) (fun i hi => h (i + 1) (by omega)) hp
    rw [List.getElem_cons_zero] at h1
    simp only [setL, h1, h2, List.set_cons_succ]
    rfl
theorem setL_app {tx m : Int} {x : Hd} {xs : List Hd} (h : dn tx xs = true) : setL tx m (xs ++ [x]) = setL tx m xs ++ [x] := by
  induction xs with
  | nil => simp [dn] at h
  | cons y xs ih =>
    simp only [List.cons_append, setL]
    cases hy : y.1 == tx
    · unfold dn at h
      rw [List.any_cons, hy, Bool.false_or] at h
      rw [if_neg (by simp), if_neg (by simp), ih h]
      rfl
    · rw [if_pos rfl, if_pos rfl]
      rfl
theorem setL_new {tx m : Int} {x : Hd} {xs : List Hd} (h : dn tx xs = false) (hx : (x.1 == tx) = true) : setL tx m (xs ++ [x]) = xs ++ [(tx, m)] := by
  induction xs with
  | nil => simp only [List.nil_append, setL, hx, if_true]
  | cons y xs ih =>
    unfold dn at h
    rw [List.any_cons, Bool.or_eq_false_iff] at h
    simp only [List.cons_append, setL, h.1]
    rw [ih h.2]
    rfl
theorem setL_len (tx m : Int) (xs : List Hd) : (setL tx m xs).length = if dn tx xs then xs.length else xs.length + 1 := by
  induction xs with
  | nil => rfl
  | cons x xs ih =>
    have e : dn tx (x :: xs) = (x.1 == tx || dn tx xs) := rfl
    rw [e]
    by_cases hx : (x.1 == tx) = true
    · simp [setL, hx]
    · have hx' : (x.1 == tx) = false := by simpa using hx
      rw [hx', Bool.false_or]
      simp only [setL, hx', Bool.false_eq_true, if_false, List.length_cons]
      rw [ih]
      split <;> rfl
/-- what has been put so far -/
def pre (tx m : Int) (l : List Hd) : List Hd := if dn tx l then setL tx m l else l
theorem dn_snoc (tx : Int) (l : List Hd) (x : Hd) : dn tx (l ++ [x]) = (dn tx l || x.1 == tx) := by simp [dn]
theorem pre_keep {tx m : Int} {l : List Hd} {x : Hd} (h : (x.1 == tx) = false ∨ dn tx l = true) : pre tx m (l ++ [x]) = pre tx m l ++ [x] := by
  unfold pre
  rw [dn_snoc]
  cases hd : dn tx l
  · rcases h with h | h
    · rw [h]; rfl
    · rw [hd] at h; cases h
  · simp only [Bool.true_or, if_true]
    exact setL_app hd
theorem pre_new {tx m : Int} {l : List Hd} {x : Hd} (h : (x.1 == tx) = true) (hd : dn tx l = false) : pre tx m (l ++ [x]) = pre tx m l ++ [(tx, m)] := by
  unfold pre
  rw [dn_snoc, hd, h]
  exact setL_new hd h
theorem pre_len (tx m : Int) (l : List Hd) : (pre tx m l).length = l.length := by
  unfold pre
  split
  · rename_i h; rw [setL_len, if_pos h]
  · rfl
theorem set_one {zs : List Hd} {i : Nat} (m : Int) (h : i < zs.length) : (flat zs).set (i * 2 + 1) (.int .i64 m) = flat (zs.set i (zs[i].1, m)) := by
  rw [flat_set _ _ _ h]
  congr 1
  have e := flat_at zs i 0 h (by omega)
  rw [Nat.add_zero] at e
  obtain ⟨h1, h2⟩ := List.getElem?_eq_some_iff.1 (e.trans rfl)
  rw [← h2, List.set_getElem_self]
theorem pair_of {x : Hd} {tx m : Int} (h : (x.1 == tx) = true) : (x.1, m) = (tx, m) := by
  have : x.1 = tx := by simpa using h
  rw [this]
/-- a row of one's own, made since -/
structure Kp (W : World) (l : List Hd) (v : Value) (w1 : World) : Prop where
  row : Row w1 W.heap.size v l
  bel : Below W.heap.size W w1
section
variable {W W' : World} {A : Option Addr} {c : Nat} {xs : List Hd} {l : List Hd} {v : Value}
theorem Kp.below (h : Kp W l v W') {w2 : World} (hb : Below W'.heap.size W' w2) : Kp W l v w2 := ⟨row_below h.row hb, h.bel.trans (hb.mono h.bel.size)⟩
/-- one is put behind a row of one's own -/
theorem Kp.app {n : Nat} {x : Hd} (h : Kp W l v W') (hn : l.length = n) (hl : n ≤ 900) (ty : TypeId) :
    ∃ A' c' w2, (Builtin.append_ #[25, 25] ty #[v, .slice (some ⟨W'.heap.size, 0, none⟩) 1 1]).run Tryd.prog (W'.alloc (.cells #[.int .i64 x.1, .int .i64 x.2] 76)) = .ok (.slice A' (n + 1) c') w2 ∧ Kp W (l ++ [x]) (.slice A' (n + 1) c') w2 := by
  have hb := box_below W' (.cells #[.int .i64 x.1, .int .i64 x.2] 76)
  have h1 := h.below hb
  obtain ⟨v', w2, hrun, hrow, hg, -⟩ := h1.row.app (box_ls W' x) (by simp; omega) h1.bel.size ty
  obtain ⟨A', c', rfl, -⟩ := hrow.ls
  rw [List.length_append, hn] at hrun hrow
  exact ⟨A', c', w2, hrun, hrow, h1.bel.trans (h1.row.app_below hg h1.bel.size)⟩
end
end Go.Proofs.YteaibamkfccplaaDoor.Hs
