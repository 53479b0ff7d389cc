/- A map in memory: its buckets are a row of chains; how chains are linked anew. -/
import Derived.Test.YtbeeekpofbhljaaA1
namespace Go.Proofs.Ytbeeekpofbhljaa
open Go Go.RowKit

/-- one of a chain: its key, its number, its block -/
structure En where
  key : Int
  v : Int
  blk : Nat
def hd : List En → Value
  | [] => .pointer none
  | e :: _ => .pointer (some ⟨e.blk, 0, none⟩)
structure EnAt (W : World) (e : En) (nx : Value) : Prop where
  c0 : W.cell? ⟨e.blk, 0, none⟩ = some (.int .u64 e.key)
  c1 : W.cell? ⟨e.blk, 1, none⟩ = some (.int .i64 e.v)
  c2 : W.cell? ⟨e.blk, 2, none⟩ = some nx
  fz : ∀ o, W.frozen? ⟨e.blk, o, none⟩ = false
theorem EnAt.keep {W W' : World} {e : En} {nx : Value} (h : EnAt W e nx) (hb : W'.heap[e.blk]? = W.heap[e.blk]?) : EnAt W' e nx :=
  ⟨(World.cell?_of_block (w := W) (a := ⟨e.blk, 0, none⟩) hb).trans h.c0, (World.cell?_of_block (w := W) (a := ⟨e.blk, 1, none⟩) hb).trans h.c1, (World.cell?_of_block (w := W) (a := ⟨e.blk, 2, none⟩) hb).trans h.c2,
   fun o => (World.frozen?_of_block (w := W) (a := ⟨e.blk, o, none⟩) hb).trans (h.fz o)⟩
/-- a chain lies in memory -/
def Ch (W : World) : List En → Prop
  | [] => True
  | e :: es => EnAt W e (hd es) ∧ Ch W es
theorem Ch.keep {W W' : World} {l : List En} (h : Ch W l) (hk : ∀ e ∈ l, W'.heap[e.blk]? = W.heap[e.blk]?) : Ch W' l := by
  induction l with
  | nil => trivial
  | cons e l ih => exact ⟨h.1.keep (hk e (by simp)), ih h.2 (fun f hf => hk f (by simp [hf]))⟩
theorem Ch.at_mem {W : World} {l : List En} {e : En} (h : Ch W l) (he : e ∈ l) : ∃ nx, EnAt W e nx := by
  induction l with
  | nil => simp at he
  | cons f l ih =>
    rcases List.mem_cons.1 he with rfl | he
    · exact ⟨_, h.1⟩
    · exact ih h.2 he
theorem Ch.right {W : World} {pre post : List En} (h : Ch W (pre ++ post)) : Ch W post := by
  induction pre with
  | nil => exact h
  | cons f l ih => exact ih h.2
theorem Ch.key_eq {W : World} {l l' : List En} {e f : En} (h : Ch W l) (h' : Ch W l') (he : e ∈ l) (hf : f ∈ l') (hb : e.blk = f.blk) : e.key = f.key := by
  obtain ⟨_, h1⟩ := h.at_mem he
  obtain ⟨_, h2⟩ := h'.at_mem hf
  have e1 := h1.c0
  rw [hb, h2.c0] at e1
  simpa using e1.symm
theorem Ch.lt {W : World} {l : List En} {e : En} (h : Ch W l) (he : e ∈ l) : e.blk < W.heap.size := by
  obtain ⟨_, h1⟩ := h.at_mem he
  exact cell_lt h1.c0
theorem hd_mid (pre : List En) (e : En) (p q : List En) : hd (pre ++ e :: p) = hd (pre ++ e :: q) := by cases pre <;> rfl
theorem set_other {W : World} {k o i : Nat} {u : Value} (h : i ≠ k) : (W.setCell ⟨k, o, none⟩ u).heap[i]? = W.heap[i]? := Below.heap_setCell W ⟨k, o, none⟩ u i h
theorem cell_far {W : World} {k o o' : Nat} {u : Value} (h : o' ≠ o) : (W.setCell ⟨k, o, none⟩ u).cell? ⟨k, o', none⟩ = W.cell? ⟨k, o', none⟩ :=
  World.cell?_setCell_other _ _ _ _ (fun e => h (by injection e with e1 e2; exact e2.symm))
theorem cell_near {W : World} {k o : Nat} {u x : Value} (h : W.cell? ⟨k, o, none⟩ = some x) : (W.setCell ⟨k, o, none⟩ u).cell? ⟨k, o, none⟩ = some u :=
  World.cell?_setCell_same' _ _ _ (by rw [h]; rfl)
theorem EnAt.next {W : World} {e : En} {nx u : Value} (h : EnAt W e nx) : EnAt (W.setCell ⟨e.blk, 2, none⟩ u) e u :=
  ⟨(cell_far (by omega)).trans h.c0, (cell_far (by omega)).trans h.c1, cell_near h.c2, fun o => by rw [World.frozen?_setCell]; exact h.fz o⟩
theorem EnAt.value {W : World} {e : En} {nx : Value} (h : EnAt W e nx) (v : Int) : EnAt (W.setCell ⟨e.blk, 1, none⟩ (.int .i64 v)) ⟨e.key, v, e.blk⟩ nx :=
  ⟨(cell_far (by omega)).trans h.c0, cell_near h.c1, (cell_far (by omega)).trans h.c2, fun o => by rw [World.frozen?_setCell]; exact h.fz o⟩
theorem Ch.relink {W : World} {pre post post' : List En} {e : En} (h : Ch W (pre ++ e :: post)) (h' : Ch W post') (h1 : ∀ f ∈ pre, f.blk ≠ e.blk) (h2 : ∀ f ∈ post', f.blk ≠ e.blk) :
    Ch (W.setCell ⟨e.blk, 2, none⟩ (hd post')) (pre ++ e :: post') := by
  induction pre with
  | nil => exact ⟨h.1.next, h'.keep (fun f hf => set_other (h2 f hf))⟩
  | cons f pre ih =>
    have q : EnAt W f (hd (pre ++ e :: post)) := h.1
    rw [hd_mid pre e post post'] at q
    exact ⟨q.keep (set_other (h1 f (by simp))), ih h.2 (fun x hx => h1 x (by simp [hx]))⟩
theorem Ch.value {W : World} {pre post : List En} {e : En} (h : Ch W (pre ++ e :: post)) (v : Int) (h1 : ∀ f ∈ pre, f.blk ≠ e.blk) (h2 : ∀ f ∈ post, f.blk ≠ e.blk) :
    Ch (W.setCell ⟨e.blk, 1, none⟩ (.int .i64 v)) (pre ++ ⟨e.key, v, e.blk⟩ :: post) := by
  induction pre with
  | nil => exact ⟨h.1.value v, h.2.keep (fun f hf => set_other (h2 f hf))⟩
  | cons f pre ih =>
    have q : EnAt W f (hd (pre ++ e :: post)) := h.1
    rw [show hd (pre ++ e :: post) = hd (pre ++ ⟨e.key, v, e.blk⟩ :: post) by cases pre <;> rfl] at q
    exact ⟨q.keep (set_other (h1 f (by simp))), ih h.2 (fun x hx => h1 x (by simp [hx]))⟩

/-- chains with one that is another -/
def upd (cs : Nat → List En) (j : Nat) (l : List En) : Nat → List En := fun i => if i = j then l else cs i
theorem upd_same (cs : Nat → List En) (j : Nat) (l : List En) : upd cs j l j = l := by simp [upd]
theorem upd_other {cs : Nat → List En} {j i : Nat} {l : List En} (h : i ≠ j) : upd cs j l i = cs i := by simp [upd, h]
/-- the cells of the row of chains -/
def rowOf (n : Nat) (cs : Nat → List En) : List Value := (List.range n).map fun j => hd (cs j)
theorem rowOf_length (n : Nat) (cs : Nat → List En) : (rowOf n cs).length = n := by simp [rowOf]
theorem rowOf_at {n j : Nat} (cs : Nat → List En) (h : j < n) : (rowOf n cs)[j]? = some (hd (cs j)) := by simp [rowOf, h]
theorem rowOf_set (n j : Nat) (cs : Nat → List En) (l : List En) : (rowOf n cs).set j (hd l) = rowOf n (upd cs j l) := by
  refine List.ext_getElem (by simp [rowOf]) fun i h1 h2 => ?_
  simp only [rowOf, List.getElem_set, List.getElem_map, List.getElem_range, upd]
  by_cases h : j = i
  · simp [h]
  · simp [h, Ne.symm h]
theorem rowOf_congr {n : Nat} {cs cs' : Nat → List En} (h : ∀ j, j < n → hd (cs j) = hd (cs' j)) : rowOf n cs = rowOf n cs' := by
  refine List.ext_getElem (by simp [rowOf]) fun i h1 h2 => ?_
  simp only [rowOf, List.getElem_map, List.getElem_range]
  exact h i (by simpa [rowOf] using h1)
theorem rowOf_succ (n : Nat) (cs : Nat → List En) : rowOf (n + 1) cs = rowOf n cs ++ [hd (cs n)] := by simp [rowOf, List.range_succ]

/-- a key is an unsigned number -/
def U (k : Int) : Prop := 0 ≤ k ∧ k < 18446744073709551616
/-- a map lies in memory: its block, that of its row, its chains, and a chain beside them that is in none -/
structure Mp (W : World) (L : Nat) (O : Nat → Prop) (b g c n : Nat) (cs : Nat → List En) (es : List En) (t : Int) (F : Int → Option Int) : Prop where
  c0 : W.cell? ⟨b, 0, none⟩ = some (.slice (some ⟨g, 0, none⟩) n c)
  c1 : W.cell? ⟨b, 1, none⟩ = some (.int .i64 t)
  fz : ∀ o, W.frozen? ⟨b, o, none⟩ = false
  row : W.ownsRow L 44 1 (.slice (some ⟨g, 0, none⟩) n c) n (rowOf n cs)
  ch : ∀ j, j < n → Ch W (cs j)
  che : Ch W es
  ne : b ≠ g
  o1 : O b
  o2 : O g
  ol : ∀ k, O k → L ≤ k ∧ k < W.heap.size
  mem : ∀ e, (e ∈ es ∨ ∃ j, j < n ∧ e ∈ cs j) → O e.blk ∧ e.blk ≠ b ∧ e.blk ≠ g ∧ U e.key ∧ F e.key = some e.v
  place : ∀ j, j < n → ∀ e ∈ cs j, bk n e.key = j
  keys : ∀ j, j < n → ((es ++ cs j).map (·.key)).Nodup
  full : ∀ k, U k → F k ≠ none → (∃ e ∈ es, e.key = k) ∨ ∃ e ∈ cs (bk n k), e.key = k
  n4 : 4 ≤ n
  nb : n < 250
variable {W W' : World} {L b g c n : Nat} {O : Nat → Prop} {cs : Nat → List En} {es : List En} {t : Int} {F : Int → Option Int}
theorem Mp.keep (h : Mp W L O b g c n cs es t F) (hs : W.heap.size ≤ W'.heap.size) (hk : ∀ k, O k → W'.heap[k]? = W.heap[k]?) : Mp W' L O b g c n cs es t F := by
  have hb := hk b h.o1
  exact ⟨(World.cell?_of_block (w := W) (a := ⟨b, 0, none⟩) hb).trans h.c0, (World.cell?_of_block (w := W) (a := ⟨b, 1, none⟩) hb).trans h.c1, fun o => (World.frozen?_of_block (w := W) (a := ⟨b, o, none⟩) hb).trans (h.fz o),
    row_keep h.row (fun k e => by obtain rfl : g = k := by simpa [Value.ownBlock] using e
                                  exact hk _ h.o2),
    fun j hj => (h.ch j hj).keep (fun e he => hk _ (h.mem e (.inr ⟨j, hj, he⟩)).1), h.che.keep (fun e he => hk _ (h.mem e (.inl he)).1),
    h.ne, h.o1, h.o2, fun k hk => ⟨(h.ol k hk).1, Nat.lt_of_lt_of_le (h.ol k hk).2 hs⟩, h.mem, h.place, h.keys, h.full, h.n4, h.nb⟩
theorem Mp.only {T : Nat → Prop} (h : Mp W L O b g c n cs es t F) (ho : OnlyS T W W') (hd : ∀ k, O k → ¬ T k) : Mp W' L O b g c n cs es t F :=
  h.keep ho.size (fun k hk => ho.block k (h.ol k hk).2 (hd k hk))
theorem Mp.below (h : Mp W L O b g c n cs es t F) (hb : Below W.heap.size W W') : Mp W' L O b g c n cs es t F :=
  h.keep hb.size (fun k hk => hb.block k (h.ol k hk).2)
theorem Mp.more {O' : Nat → Prop} (h : Mp W L O b g c n cs es t F) (ho : ∀ k, O k → O' k) (hl : ∀ k, O' k → L ≤ k ∧ k < W.heap.size) : Mp W L O' b g c n cs es t F :=
  ⟨h.c0, h.c1, h.fz, h.row, h.ch, h.che, h.ne, ho _ h.o1, ho _ h.o2, hl, fun e he => ⟨ho _ (h.mem e he).1, (h.mem e he).2⟩, h.place, h.keys, h.full, h.n4, h.nb⟩
theorem Mp.cell (h : Mp W L O b g c n cs es t F) {j : Nat} (hj : j < n) : W.cell? ⟨g, j, none⟩ = some (hd (cs j)) ∧ ∀ o, W.frozen? ⟨g, o, none⟩ = false := by
  have h1 := h.row.cells (g := g) rfl j _ (rowOf_at cs hj)
  rw [add_at] at h1
  exact ⟨h1, fun o => h.row.frozenAt _⟩
theorem Mp.count (h : Mp W L O b g c n cs es t F) (t' : Int) : Mp (W.setCell ⟨b, 1, none⟩ (.int .i64 t')) L O b g c n cs es t' F := by
  have q : ∀ k, k ≠ b → (W.setCell ⟨b, 1, none⟩ (.int .i64 t')).heap[k]? = W.heap[k]? := fun k hk => set_other hk
  exact ⟨(cell_far (by omega)).trans h.c0, cell_near h.c1, fun o => by rw [World.frozen?_setCell]; exact h.fz o,
    row_keep h.row (fun k e => by obtain rfl : g = k := by simpa [Value.ownBlock] using e
                                  exact q _ (Ne.symm h.ne)),
    fun j hj => (h.ch j hj).keep (fun e he => q _ (h.mem e (.inr ⟨j, hj, he⟩)).2.1), h.che.keep (fun e he => q _ (h.mem e (.inl he)).2.1),
    h.ne, h.o1, h.o2, fun k hk => ⟨(h.ol k hk).1, by simpa [World.setCell] using (h.ol k hk).2⟩, h.mem, h.place, h.keys, h.full, h.n4, h.nb⟩
/-- where the pointer to what is behind these of a chain lies -/
def la (g j : Nat) (pre : List En) : Addr := match pre.getLast? with | none => ⟨g, j, none⟩ | some e => ⟨e.blk, 2, none⟩
theorem la_nil (g j : Nat) : la g j [] = ⟨g, j, none⟩ := rfl
theorem la_snoc (g j : Nat) (pre : List En) (e : En) : la g j (pre ++ [e]) = ⟨e.blk, 2, none⟩ := by simp [la]
theorem Mp.link (h : Mp W L O b g c n cs es t F) {j : Nat} (hj : j < n) {pre post : List En} (hs : cs j = pre ++ post) : W.cell? (la g j pre) = some (hd post) ∧ W.frozen? (la g j pre) = false := by
  rcases List.eq_nil_or_concat pre with rfl | ⟨p0, e, rfl⟩
  · have := h.cell hj
    rw [hs] at this
    exact ⟨this.1, this.2 _⟩
  · rw [List.concat_eq_append, la_snoc]
    have q := h.ch j hj
    rw [hs, List.concat_eq_append, List.append_assoc] at q
    have q1 : EnAt W e (hd post) := q.right.1
    exact ⟨q1.c2, q1.fz _⟩
theorem Mp.la_own (h : Mp W L O b g c n cs es t F) {j : Nat} (hj : j < n) {pre post : List En} (hs : cs j = pre ++ post) : ∃ k o, la g j pre = ⟨k, o, none⟩ ∧ O k := by
  rcases List.eq_nil_or_concat pre with rfl | ⟨p0, e, rfl⟩
  · exact ⟨g, j, rfl, h.o2⟩
  · rw [List.concat_eq_append, la_snoc]
    exact ⟨_, _, rfl, (h.mem e (.inr ⟨j, hj, by rw [hs]; simp⟩)).1⟩
end Go.Proofs.Ytbeeekpofbhljaa
