/- An alarm is found by its number; how many there are; and the time of one. -/
import Derived.Test.YthoicmbpjcgdpaaA2
namespace Go.Proofs.Ythoicmbpjcgdpaa
open Go Go.RowKit Go.Shelf
attribute [local go_sem] Oper.semAt_some

/-- what a value that is ranged over as a wheel tells -/
abbrev Seen (pv : Value) (xs : List Al) (w : World) : Prop := Tells Try.prog 27 #[pv] #[] (fun x : Al => #[alv x]) (· < w.heap.size) xs w
/-- the alarm of a number, and whether there is one -/
def findA (id : Int) (xs : List Al) : Al × Bool := match xs.find? (fun y => y.1 == id) with | some y => (y, true) | none => ((0, 0), false)

structure FindB (W : World) (B : Nat) (id : Int) (y : Al) (f : Bool) : Prop where
  c0 : W.cell? ⟨B, 0, none⟩ = some (.int .i64 id)
  c1 : W.cell? ⟨B + 1, 0, none⟩ = some (.int .i64 y.1)
  c2 : W.cell? ⟨B + 1, 1, none⟩ = some (.int .i64 y.2)
  c3 : W.cell? ⟨B + 1 + 1, 0, none⟩ = some (.bool f)
  f1 : W.frozen? ⟨B + 1, 0, none⟩ = false
  f2 : W.frozen? ⟨B + 1, 1, none⟩ = false
  f3 : W.frozen? ⟨B + 1 + 1, 0, none⟩ = false
theorem FindB.turn {W W' : World} {B C : Nat} {id : Int} {y : Al} {f : Bool} (h : FindB W B id y f) (t : Turn C W W') : FindB W' B id y f :=
  ⟨t.cell h.c0, t.cell h.c1, t.cell h.c2, t.cell h.c3, (t.frozen h.c1).trans h.f1, (t.frozen h.c2).trans h.f2, (t.frozen h.c3).trans h.f3⟩
/-- a box of an alarm -/
structure BoxA (W : World) (b : Nat) (x : Al) : Prop where
  c0 : W.cell? ⟨b, 0, none⟩ = some (.int .i64 x.1)
  c1 : W.cell? ⟨b, 1, none⟩ = some (.int .i64 x.2)
theorem BoxA.turn {W W' : World} {C b : Nat} {x : Al} (h : BoxA W b x) (t : Turn C W W') : BoxA W' b x := ⟨t.cell h.c0, t.cell h.c1⟩
theorem BoxA.new (W : World) (x : Al) : BoxA (W.alloc (.cells #[.int .i64 x.1, .int .i64 x.2] 31)) W.heap.size x := by
  constructor <;> simp [go_sem]
theorem keeps_alloc (B : Nat) (W : World) (o : Obj) : KeepsFrom B W (W.alloc o) := (KeepsOthers.alloc W o).from B
theorem keeps_set (B : Nat) (W : World) (p : Addr) (v : Value) : KeepsFrom B W (W.setCell p v) := (KeepsOthers.setCell W p v).from B
theorem put_below {B D : Nat} {w W : World} {o : Obj} (h : Below B w W) (hD : B ≤ D) (hd : W.heap[D]? = some o) (o' : Obj) : Below B w (W.putObj D o') :=
  h.grown (grownBy_putObj' W D o') (by have := (Array.getElem?_eq_some_iff.1 hd).1; omega) (fun k e => by cases e; exact hD)

theorem cell_lt {w : World} {a : Addr} {v : Value} (h : w.cell? a = some v) : a.block < w.heap.size := by
  obtain ⟨o, ho, _⟩ := cells_of_cell h
  exact (Array.getElem?_eq_some_iff.1 ho).1
theorem find_all_none {id : Int} {xs : List Al} (h : ∀ y ∈ xs, y.1 ≠ id) : findA id xs = ((0, 0), false) := by
  unfold findA
  rw [List.find?_eq_none.2 (fun y hy => by simpa using h y hy)]
theorem find_some {id : Int} {ini post : List Al} {x : Al} (h : ∀ y ∈ ini, y.1 ≠ id) (hx : x.1 = id) : findA id (ini ++ [x] ++ post) = (x, true) := by
  unfold findA
  have e : (ini ++ [x] ++ post).find? (fun y => y.1 == id) = some x := by
    rw [List.append_assoc, List.find?_append, List.find?_eq_none.2 (fun y hy => by simpa using h y hy)]
    simp [hx]
  rw [e]

def FindI (w : World) (id : Int) (pre : List Al) (W : World) : Prop := (∀ y ∈ pre, y.1 ≠ id) ∧ FindB W w.heap.size id (0, 0) false ∧ Below w.heap.size w W
def FindX (w : World) (id : Int) (c : Code) (pre : List Al) (W : World) : Prop := c = .ret ∧ ∃ ini x, pre = ini ++ [x] ∧ (∀ y ∈ ini, y.1 ≠ id) ∧ x.1 = id ∧ FindB W w.heap.size id x true ∧ Below w.heap.size w W
theorem FindB.set {W : World} {B : Nat} {id : Int} {y : Al} {f : Bool} (h : FindB W B id y f) (x : Al) (f' : Bool) :
    FindB (((W.setCell ⟨B + 1, 0, none⟩ (.int .i64 x.1)).setCell ⟨B + 1, 1, none⟩ (.int .i64 x.2)).setCell ⟨B + 1 + 1, 0, none⟩ (.bool f')) B id x f' := by
  obtain ⟨c0, c1, c2, c3, f1, f2, f3⟩ := h
  constructor <;> simp [go_sem, c0, c1, c2, c3, f1, f2, f3]
theorem keeps3 (B : Nat) (W : World) (p q r : Addr) (u v t : Value) : KeepsFrom B W (((W.setCell p u).setCell q v).setCell r t) := ((keeps_set B W p u).trans (keeps_set B _ q v)).trans (keeps_set B _ r t)
theorem below3 {C : Nat} {w W : World} (h : Below C w W) {p q r : Addr} (hp : C ≤ p.block) (hq : C ≤ q.block) (hr : C ≤ r.block) (u v t : Value) : Below C w (((W.setCell p u).setCell q v).setCell r t) := ((h.setCell hp u).setCell hq v).setCell hr t

set_option maxRecDepth 100000 in
set_option maxHeartbeats 2000000 in
theorem find_any {pv : Value} {xs : List Al} {w : World} (id : Int) (hs : Seen pv xs w) :
    Calls Try.prog 21 #[pv, .int .i64 id] w fun e w' => e = .returned (.tuple #[alv (findA id xs).1, .bool (findA id xs).2]) ∧ Below w.heap.size w w' := by
  refine (callsIn_wide (n := 9)).1 ?_
  refine callsIn_of_wp_marks Try.func21 rfl trivial ?_ rfl
  simp only [Try.ntmps21, List.size_toArray, List.length_cons, List.length_nil, Nat.reduceAdd, Nat.reduceSub, Array.replicate_succ, Array.replicate_zero, List.push_toArray, List.append_toArray, List.nil_append, List.cons_append]
  have HS := Lib.hid hs
  clear hs
  gi_wp2
  obtain ⟨w3, hw3⟩ : ∃ w3, ((w.alloc (.cells #[.int .i64 id] 3)).alloc (.cells #[.int .i64 0, .int .i64 0] 31)).alloc (.cells #[.bool false] 4) = w3 := ⟨_, rfl⟩
  have hb3 : Below w.heap.size w w3 := by rw [← hw3]; exact (((Below.refl _ w).alloc (Nat.le_refl _) _).alloc (by simp) _).alloc (by simp; omega) _
  have hf3 : FindB w3 w.heap.size id (0, 0) false := by rw [← hw3]; constructor <;> simp [go_sem]
  rw [hw3]
  clear hw3
  have hz3 := hb3.size
  have HF := Lib.hid hf3
  refine wp_range (α := Al) (encs := fun x => #[alv x]) (xs := xs) (S := (· < w.heap.size)) rfl (enters_of Try.func27 (by kernel_rfl) rfl) (HS.out.later hb3) (fun _ hk => Nat.lt_of_lt_of_le hk hb3.size) (fun _ => rfl)
    (FindI w id) (FindX w id)
    (fun pre x a' W => FindI w id pre W ∧ ∃ Bx, w.heap.size + 2 < Bx ∧ BoxA W Bx x ∧
      a' = { tmps := #[pv, .int .i64 id, undef, .pointer (some ⟨w.heap.size, 0, none⟩), .pointer (some ⟨w.heap.size + 1, 0, none⟩), .pointer (some ⟨w.heap.size + 1 + 1, 0, none⟩), .pointer (some ⟨Bx, 0, none⟩), pv, .func (.func 27) #[pv] #[], alv x, undef, undef, undef, undef, undef, undef], defers := [] })
    ?hI ?hIx ?hA ⟨by simp, hf3, hb3⟩ ?assign ?body ?done ?stop
  case hI => exact fun s => (Abides.pure _ _).and (Abides.and (fun _ _ h t => h.turn t) (Abides.below hb3.size (Nat.le_refl _)))
  case hIx =>
    rintro c s W W' ⟨hc, ini, x, h1, h2, h3, h4, h5⟩ t
    exact ⟨hc, ini, x, h1, h2, h3, h4.turn t, t.below h5 hb3.size (Nat.le_refl _)⟩
  case hA =>
    rintro s x a' W W' ⟨⟨h1, h2, h3⟩, Bx, h4, h5, h6⟩ t
    exact ⟨⟨h1, h2.turn t, t.below h3 hb3.size (Nat.le_refl _)⟩, Bx, h4, h5.turn t, h6⟩
  case assign =>
    rintro l pre x W ⟨h1, h2, h3⟩
    have hz : w.heap.size + 2 < W.heap.size := cell_lt h2.c3
    have hb := h3.size
    have H2 := Lib.hid h2
    have H1 := Lib.hid h1
    clear h2 h1 hf3
    gi_wp2
    exact ⟨keeps_alloc _ _ _, keeps_of ((Below.refl _ W).alloc hb _) (fun _ hk => hk), ⟨H1.out, H2.out.turn (Turn.later (B := 0) (box_below _ _)), h3.alloc hb _⟩, W.heap.size, hz, BoxA.new _ _, rfl⟩
  case body =>
    rintro l pre x post a' W hx ⟨⟨h1, h2, h3⟩, Bx, hBx, hbx, rfl⟩
    have H2 := Lib.hid h2
    obtain ⟨c0, c1, c2, c3, f1, f2, f3⟩ := h2
    obtain ⟨d0, d1⟩ := hbx
    have H1 := Lib.hid h1
    clear h1 hx hf3
    by_cases e : x.1 = id
    · have he : (x.1 == id) = true := by simpa using e
      have HE := Lib.hid e
      clear e
      gi_wp2
      exact ⟨keeps3 _ _ _ _ _ _ _ _, rfl, pre, x, rfl, H1.out, HE.out, H2.out.set x true, below3 h3 (by simp) (by simp) (by simp; omega) _ _ _⟩
    · have he : (x.1 == id) = false := by simpa using e
      have HE := Lib.hid e
      clear e
      gi_wp2
      refine ⟨KeepsFrom.refl _ _, Keeps.refl _ _, fun y hy => ?_, H2.out, h3⟩
      rcases List.mem_append.1 hy with hy | hy
      · exact H1.out y hy
      · rw [List.mem_singleton.1 hy]; exact HE.out
  case done =>
    rintro D W hD ⟨h1, h2, h3⟩ hd
    have H2 := Lib.hid h2
    obtain ⟨c0, c1, c2, c3, f1, f2, f3⟩ := h2
    have H1 := Lib.hid h1
    have HD := Lib.hid hd
    clear h1 hd hf3
    gi_wp2
    have hd := (keeps3 0 W ⟨w.heap.size + 1, 0, none⟩ ⟨w.heap.size + 1, 1, none⟩ ⟨w.heap.size + 1 + 1, 0, none⟩ (.int .i64 0) (.int .i64 0) (.bool false)).same D _ (Nat.zero_le _) HD.out rfl
    have hB := below3 h3 (p := ⟨w.heap.size + 1, 0, none⟩) (q := ⟨w.heap.size + 1, 1, none⟩) (r := ⟨w.heap.size + 1 + 1, 0, none⟩) (by simp) (by simp) (by simp; omega) (.int .i64 0) (.int .i64 0) (.bool false)
    have hF := H2.out.set (0, 0) false
    dsimp only at hF
    generalize ((W.setCell ⟨w.heap.size + 1, 0, none⟩ (.int .i64 0)).setCell ⟨w.heap.size + 1, 1, none⟩ (.int .i64 0)).setCell ⟨w.heap.size + 1 + 1, 0, none⟩ (.bool false) = W4 at hd hB hF ⊢
    refine ⟨by simp, .inl ⟨_, _, rfl, run_takeDeferred hd, ?_⟩⟩
    have hF' := hF.turn (Turn.put (B := 0) (.deferred none) (Nat.zero_le _) hd rfl)
    obtain ⟨g0, g1, g2, g3, _⟩ := hF'
    refine ⟨.tuple #[alv (0, 0), .bool false], ?_, by rw [find_all_none H1.out], put_below hB (Nat.le_trans hz3 hD) hd _⟩
    simp [results, Try.f21, go_sem, g1, g2, g3]
  case stop =>
    rintro D c pre post W hD hx ⟨rfl, ini, y, hp, h1, h2, h3, h4⟩ hd
    have HR := Lib.hid (show findA id xs = (y, true) by rw [hx, hp]; exact find_some h1 h2)
    have HD := Lib.hid hd
    have H3 := Lib.hid h3
    clear h1 hp hx hd h2 h3 hf3
    gi_wp2
    refine ⟨by simp, .inl ⟨_, _, rfl, run_takeDeferred HD.out, ?_⟩⟩
    have hF' := H3.out.turn (Turn.put (B := 0) (.deferred none) (Nat.zero_le _) HD.out rfl)
    obtain ⟨g0, g1, g2, g3, _⟩ := hF'
    refine ⟨.tuple #[alv y, .bool true], ?_, by rw [HR.out], put_below h4 (Nat.le_trans hz3 hD) HD.out _⟩
    simp [results, Try.f21, go_sem, g1, g2, g3]
end Go.Proofs.Ythoicmbpjcgdpaa
