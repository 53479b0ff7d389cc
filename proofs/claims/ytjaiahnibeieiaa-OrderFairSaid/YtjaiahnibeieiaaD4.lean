/- How far it is from each number to the same one again: told one by one. -/
import Derived.Test.YtjaiahnibeieiaaM3
import Derived.Test.YtjaiahnibeieiaaD2
import Derived.Test.YtjaiahnibeieiaaR3
import Derived.RangeFuncLeaves
import Derived.RangeFuncCalls
import Derived.Maps.OwnIn
namespace Go.Proofs.Ytjaiahnibeieiaa
open Go Go.RowKit Go.Shelf
attribute [local go_sem] Oper.semAt_some

theorem Tells.later {α : Type} {P : Program} {gf : Nat} {bs lb : Array Value} {encs : α → Array Value} {S : Nat → Prop} {xs : List α} {w w' : World} (h : Tells P gf bs lb encs S xs w) (hb : Below w.heap.size w w') : Tells P gf bs lb encs S xs w' :=
  fun l J Jx W hW => h l J Jx W (hb.trans (hW.mono hb.size))
theorem gaps_any (A : Option Addr) (L c : Nat) (n : Int) (W : World) : Calls Try.prog 23 #[.slice A L c, .int .i64 n] W fun e w' => e = .returned (.func (.func 27) #[] #[wp (W.heap.size + 1), wp W.heap.size]) ∧ w' = (W.alloc (.cells #[.slice A L c] 23)).alloc (.cells #[.int .i64 n] 3) := by
  go_enter Try.func23, Try.ntmps23
  go_wp2
  go_ret
  exact ⟨rfl, rfl⟩
theorem Arr.turn {W W' : World} {g N C : Nat} {f : Nat → Int} (h : Arr W g N f) (hN : 1 ≤ N) (t : Turn C W W') : Arr W' g N f := by
  obtain ⟨o, ho, hoc⟩ := cells_of_cell (h.at' 0 hN)
  exact h.keep t.size ((t.cells _ _ ho hoc).trans ho.symm)
/-- what gaps keeps for itself -/
structure Gs (B bY bx g N l : Nat) (f : Nat → Int) (X : World) : Prop where
  yb : Boxed X bY 43 (.func (.yield l) #[] #[])
  lb : Boxed X bx 23 (.slice (some ⟨g, 0, none⟩) N N)
  arr : Arr X g N f
  hy : B ≤ bY
  hx : B ≤ bx
  hg : B ≤ g
  n1 : g ≠ bY
  n2 : g ≠ bx
section
variable {B bY bx g N l C : Nat} {f : Nat → Int} {X Y : World}
theorem Gs.turn (h : Gs B bY bx g N l f X) (hN : 1 ≤ N) (t : Turn C X Y) : Gs B bY bx g N l f Y :=
  ⟨Abides.boxed _ _ _ _ _ _ h.yb t, Abides.boxed _ _ _ _ _ _ h.lb t, h.arr.turn hN t, h.hy, h.hx, h.hg, h.n1, h.n2⟩
theorem Gs.only {T : Nat → Prop} (h : Gs B bY bx g N l f X) (ho : OnlyS T X Y) (hT : ∀ k, T k → k < B) : Gs B bY bx g N l f Y := by
  have n : ∀ k, B ≤ k → ¬ T k := fun k hk ht => by have := hT k ht; omega
  exact ⟨(ho.block _ h.yb.lt (n _ h.hy)).trans h.yb, (ho.block _ h.lb.lt (n _ h.hx)).trans h.lb, h.arr.only ho (n _ h.hg), h.hy, h.hx, h.hg, h.n1, h.n2⟩
theorem Gs.set (h : Gs B bY bx g N l f X) (k : Nat) (x : Int) : Gs B bY bx g N l (upd f k x) (X.setCell ⟨g, k, none⟩ (.int .i64 x)) :=
  ⟨(set_other (fun e => h.n1 e.symm)).trans h.yb, (set_other (fun e => h.n2 e.symm)).trans h.lb, h.arr.set k x, h.hy, h.hx, h.hg, h.n1, h.n2⟩
end
theorem RoundIn.any {m m' : Nat} {P : Program} {l : Nat} {f : FuncId} {tmps : Array Value} {assign body : Code} {w : World} {R : Ending → World → Prop}
    (h : RoundIn Fence.wide m P l f tmps assign body w R) : RoundIn Fence.wide m' P l f tmps assign body w R := ⟨h.1, fun c cs _ => h.2 c cs (fun _ hd => by cases hd)⟩
/-- between two rounds -/
structure Gi (W : World) (R : Nat → Prop) (J : List Int → World → Prop) (bx g N l : Nat) (f : Nat → Int) (gs : List Int) (X : World) : Prop where
  st : Gs W.heap.size W.heap.size bx g N l f X
  j : J gs X
  rd : ∀ k, R k → X.heap[k]? = W.heap[k]?
  sz : bx + 3 ≤ X.heap.size
theorem below_of_turn {B C : Nat} {X Y : World} (t : Turn C X Y) (h1 : B ≤ C) (h2 : B ≤ X.heap.size) : Below B X Y := ⟨t.os, t.tape, t.output, t.size, fun k hk => t.low k (by omega) (by omega)⟩
section
variable {W X Y : World} {R T : Nat → Prop} {J Jx : List Int → World → Prop} {bx g N l C : Nat} {f : Nat → Int} {gs gs' : List Int}
theorem Gi.turn (h : Gi W R J bx g N l f gs X) (hN : 1 ≤ N) (hJ : ∀ s A B, J s A → Below W.heap.size A B → J s B) (hR : ∀ k, R k → k < W.heap.size) (hC : W.heap.size ≤ C) (t : Turn C X Y) : Gi W R J bx g N l f gs Y := by
  have hs : W.heap.size ≤ X.heap.size := Nat.le_of_lt h.st.yb.lt
  have hb := below_of_turn t hC hs
  exact ⟨h.st.turn hN t, hJ _ _ _ h.j hb, fun k hk => (hb.block k (hR k hk)).trans (h.rd k hk), Nat.le_trans h.sz t.size⟩
theorem Gi.below (h : Gi W R J bx g N l f gs X) (hJ : ∀ s A B, J s A → Below W.heap.size A B → J s B) (hR : ∀ k, R k → k < W.heap.size) (hb : Below X.heap.size X Y) : Gi W R J bx g N l f gs Y := by
  have hs : W.heap.size ≤ X.heap.size := Nat.le_of_lt h.st.yb.lt
  have hb' := hb.mono hs
  exact ⟨h.st.only (T := fun _ => False) (OnlyS.of_below hb) (fun _ h => h.elim), hJ _ _ _ h.j hb', fun k hk => (hb'.block k (hR k hk)).trans (h.rd k hk), Nat.le_trans h.sz hb.size⟩
/-- one more is told -/
theorem Gi.told (h : Gi W R J bx g N l f gs X) (ho : OnlyS T X Y) (hT : ∀ k, T k → k < W.heap.size) (hRT : ∀ k, R k → k < W.heap.size ∧ ¬ T k) (hj : J gs' Y) : Gi W R J bx g N l f gs' Y :=
  ⟨h.st.only ho hT, hj, fun k hk => (ho.block k (Nat.lt_of_lt_of_le (hRT k hk).1 (Nat.le_of_lt h.st.yb.lt)) (hRT k hk).2).trans (h.rd k hk), Nat.le_trans h.sz ho.size⟩
theorem below_set {B b o : Nat} (X : World) (v : Value) (h : B ≤ b) : Below B X (X.setCell ⟨b, o, none⟩ v) := (Below.refl B X).setCell (p := ⟨b, o, none⟩) h v
theorem Gi.put (h : Gi W R J bx g N l f gs X) (hJ : ∀ s A B, J s A → Below W.heap.size A B → J s B) (hR : ∀ k, R k → k < W.heap.size) (k : Nat) (x : Int) : Gi W R J bx g N l (upd f k x) gs (X.setCell ⟨g, k, none⟩ (.int .i64 x)) :=
  ⟨h.st.set k x, hJ _ _ _ h.j (below_set X _ h.st.hg), fun i hi => (set_other (fun e => by have := hR i hi; have := h.st.hg; omega)).trans (h.rd i hi), by simpa [World.setCell] using h.sz⟩
end
theorem gp_append (a b : List Told) : ∀ f, gp f (a ++ b) = gp f a ++ gp (lastF f a) b := by
  induction a with
  | nil => intro f; rfl
  | cons q r ih =>
    intro f
    show _ :: gp _ (r ++ b) = _ :: (gp _ r ++ _)
    rw [ih]
    rfl
theorem lastF_bound {M : Nat} (ps : List Told) : ∀ f : Nat → Int, (∀ m, -1 ≤ f m ∧ f m < (M : Int)) → (∀ p ∈ ps, p.1 < M) → ∀ m, -1 ≤ lastF f ps m ∧ lastF f ps m < (M : Int) := by
  induction ps with
  | nil => intro f hf _ m; exact hf m
  | cons q r ih =>
    intro f hf hp
    refine ih (upd f q.2.toNat (q.1 : Int)) (fun m => ?_) (fun p h => hp p (List.mem_cons_of_mem _ h))
    have := hp q List.mem_cons_self
    unfold upd
    split
    · omega
    · exact hf m
/-- where a round stands among all that is told -/
theorem gap_at {z : Nat → Int} {L N : Nat} {pre post : List Told} {x : Told} (h : plN z N L = pre ++ x :: post) :
    ∃ m : Nat, x.2 = (m : Int) ∧ m < N ∧ x.1 < L ∧ (∃ r, gapsL z L N = gapP pre ++ ((x.1 : Int) - lastP pre m) :: r) ∧ -1 ≤ lastP pre m ∧ lastP pre m < (L : Int) ∧ gapP (pre ++ [x]) = gapP pre ++ [(x.1 : Int) - lastP pre m] ∧ lastP (pre ++ [x]) = upd (lastP pre) m (x.1 : Int) := by
  have hm := mem_plN (x := x) (show x ∈ plN z N L by rw [h]; simp)
  obtain ⟨m, hx⟩ : ∃ m : Nat, x.2 = (m : Int) := ⟨x.2.toNat, by omega⟩
  have e : x.2.toNat = m := by omega
  have hb := lastF_bound (M := L) pre (fun _ => -1) (fun _ => ⟨Int.le_refl _, by omega⟩) (fun p hp => (mem_plN (x := p) (show p ∈ plN z N L by rw [h]; simp [hp])).1) m
  have hs := gapP_snoc pre x
  rw [e] at hs
  refine ⟨m, hx, by omega, hm.1, ⟨gp (lastF (fun _ => -1) (pre ++ [x])) post ++ tl L (lastP (plN z N L)) N, ?_⟩, hb.1, hb.2, hs, by rw [lastP_snoc, e]⟩
  unfold gapsL
  rw [show gapP (plN z N L) = gapP (pre ++ [x]) ++ gp (lastF (fun _ => -1) (pre ++ [x])) post by
    rw [h, show pre ++ x :: post = (pre ++ [x]) ++ post by simp]
    exact gp_append _ _ _, hs]
  simp
theorem wrap_small {x : Int} (h1 : -9223372036854775808 ≤ x) (h2 : x < 9223372036854775808) : IntKind.i64.wrap x = x := by
  simp [IntKind.wrap, IntKind.bits, IntKind.signed]
  omega
/-- a round is over -/
def Turned (J Jx : List Int → World → Prop) (T : Nat → Prop) (gs : List Int) (X : World) (b : Bool) (Y : World) : Prop := OnlyS T X Y ∧ (b = true → J gs Y) ∧ (b = false → Jx gs Y)
theorem turned {J Jx : List Int → World → Prop} {T : Nat → Prop} {gs : List Int} {X : World} (e : Ending) (Y : World) (h : (e = .returned (.bool true) ∧ J gs Y ∧ OnlyS T X Y) ∨ (e = .returned (.bool false) ∧ Jx gs Y ∧ OnlyS T X Y)) : ∃ b, e = .returned (.bool b) ∧ Turned J Jx T gs X b Y := by
  rcases h with ⟨rfl, h1, h2⟩ | ⟨rfl, h1, h2⟩
  · exact ⟨true, rfl, h2, fun _ => h1, fun h => by cases h⟩
  · exact ⟨false, rfl, h2, (fun h => by cases h), fun _ => h1⟩
theorem keeps_from {U : Nat → Prop} {B : Nat} {X Y : World} (h : OnlyS U X Y) (hU : ∀ k, U k → k < B) : KeepsFrom B X Y :=
  ⟨h.size, fun k o hB hk _ => (h.block k (Array.getElem?_eq_some_iff.1 hk).1 (fun hu => by have := hU k hu; omega)).trans hk⟩
theorem keeps_only {U S : Nat → Prop} {X Y : World} (h : OnlyS U X Y) (hS : ∀ k, S k → k < X.heap.size ∧ ¬ U k) : Keeps S X Y :=
  ⟨h.size, fun k hk => h.block k (hS k hk).1 (hS k hk).2⟩
abbrev encG (g : Int) : Array Value := #[.int .i64 g]
set_option maxRecDepth 100000 in
set_option maxHeartbeats 4000000 in
theorem gaps_tells {w : World} {bn bl L c N : Nat} {A : Option Addr} {z : Nat → Int} {T : Nat → Prop} (h1 : w.cell? ⟨bl, 0, none⟩ = some (.slice A L c)) (h2 : w.cell? ⟨bn, 0, none⟩ = some (.int .i64 (N : Int))) (hz : Rf w A L z) (hL : L ≤ 1000) (hN1 : 1 ≤ N) (hN2 : N ≤ 1000)
    (hR : ∀ k, Reads bl bn A L k → k < w.heap.size ∧ ¬ T k) (hT : ∀ k, T k → k < w.heap.size) : Tells2 Try.prog 27 #[] #[wp bn, wp bl] encG T (gapsL z L N) w := by
  intro l J Jx W hW hJ hJx hY h0
  have q1 : W.cell? ⟨bl, 0, none⟩ = some (.slice A L c) := (hW.cell (p := ⟨bl, 0, none⟩) (cell_lt h1)).trans h1
  have q2 : W.cell? ⟨bn, 0, none⟩ = some (.int .i64 (N : Int)) := (hW.cell (p := ⟨bn, 0, none⟩) (cell_lt h2)).trans h2
  have HZ := Lib.hid (hz.below hW)
  have HY := Lib.hid hY
  have HJ := Lib.hid hJ
  have HJx := Lib.hid hJx
  have H0 := Lib.hid h0
  have HR := Lib.hid hR
  have HT := Lib.hid hT
  have hwW := hW.size
  clear hY hJ hJx h0 hR hT hW h1 h2 hz
  have hbl := cell_lt q1
  have hbn := cell_lt q2
  refine callsIn_of_wp_marks Try.func27 rfl trivial ?_ rfl
  simp only [Try.ntmps27, List.size_toArray, List.length_cons, List.length_nil, Nat.reduceAdd, Nat.reduceSub, Array.replicate_succ, Array.replicate_zero, List.push_toArray, List.append_toArray, List.nil_append, List.cons_append]
  refine wpIn_wide.2 ?_
  have HQ1 := Lib.hid q1
  have HQ2 := Lib.hid q2
  go_wp2_with fail
  have hb2 : Below W.heap.size W ((W.alloc (.cells #[.func (.yield l) #[] #[]] 43)).alloc (.cells #[.int .i64 (-1)] 3)) := ((Below.refl _ W).alloc (Nat.le_refl _) _).alloc (by simp) _
  have hs2 : ((W.alloc (.cells #[.func (.yield l) #[] #[]] 43)).alloc (.cells #[.int .i64 (-1)] 3)).heap.size = W.heap.size + 2 := by simp
  refine (repeat_any (b := W.heap.size + 1) (by simp [go_sem]) hN1 (by omega)).mono ?_
  rintro e w3 ⟨g, rfl, ha, hb3, hg⟩
  have hyb : Boxed w3 W.heap.size 43 (.func (.yield l) #[] #[]) := (hb3.block _ (by omega)).trans ((Boxed.new W 43 (.func (.yield l) #[] #[])).alloc _)
  have hb3' : Below W.heap.size W w3 := hb2.trans (hb3.mono (by omega))
  have hs3 : W.heap.size + 2 ≤ w3.heap.size := by have := hb3.size; omega
  rw [hs2] at hg
  clear hb2 hb3 hs2 q1 q2
  have q1 : w3.cell? ⟨bl, 0, none⟩ = some (.slice A L c) := (hb3'.cell (p := ⟨bl, 0, none⟩) hbl).trans HQ1.out
  have q2 : w3.cell? ⟨bn, 0, none⟩ = some (.int .i64 (N : Int)) := (hb3'.cell (p := ⟨bn, 0, none⟩) hbn).trans HQ2.out
  have hl1 : bl < w3.heap.size := by omega
  have hl2 : bn < w3.heap.size := by omega
  have HA := Lib.hid ha
  have HYB := Lib.hid hyb
  have HB3 := Lib.hid hb3'
  clear ha hyb hb3'
  go_wp2_with fail
  refine (places_any A L c (N : Int) _).mono ?_
  rintro e w5 ⟨rfl, rfl⟩
  have hb5 : Below w3.heap.size w3 (((w3.alloc (.cells #[.slice (some ⟨g, 0, none⟩) N N] 23)).alloc (.cells #[.slice A L c] 23)).alloc (.cells #[.int .i64 (N : Int)] 3)) := (((Below.refl _ w3).alloc (Nat.le_refl _) _).alloc (by simp) _).alloc (by simp; omega) _
  have hs5 : (((w3.alloc (.cells #[.slice (some ⟨g, 0, none⟩) N N] 23)).alloc (.cells #[.slice A L c] 23)).alloc (.cells #[.int .i64 (N : Int)] 3)).heap.size = w3.heap.size + 3 := by simp
  have hbx := ((Boxed.new w3 23 (.slice (some ⟨g, 0, none⟩) N N)).alloc (.cells #[.slice A L c] 23)).alloc (.cells #[.int .i64 (N : Int)] 3)
  have hc1 : (((w3.alloc (.cells #[.slice (some ⟨g, 0, none⟩) N N] 23)).alloc (.cells #[.slice A L c] 23)).alloc (.cells #[.int .i64 (N : Int)] 3)).cell? ⟨w3.heap.size + 1, 0, none⟩ = some (.slice A L c) := by simp [go_sem]
  have hc2 : (((w3.alloc (.cells #[.slice (some ⟨g, 0, none⟩) N N] 23)).alloc (.cells #[.slice A L c] 23)).alloc (.cells #[.int .i64 (N : Int)] 3)).cell? ⟨w3.heap.size + 1 + 1, 0, none⟩ = some (.int .i64 (N : Int)) := by simp [go_sem]
  rw [World.size_alloc]
  go_wp2_with fail
  generalize ((w3.alloc (.cells #[.slice (some ⟨g, 0, none⟩) N N] 23)).alloc (.cells #[.slice A L c] 23)).alloc (.cells #[.int .i64 (N : Int)] 3) = w5 at hb5 hs5 hbx hc1 hc2 ⊢
  have hW5 : Below W.heap.size W w5 := HB3.out.trans (hb5.mono (by omega))
  have hRW : ∀ k, Reads bl bn A L k → k < W.heap.size := fun k hk => Nat.lt_of_lt_of_le (HR.out k hk).1 hwW
  have HRW := Lib.hid hRW
  have HG := Lib.hid (show Gi W (Reads bl bn A L) J w3.heap.size g N l (lastP []) (gapP []) w5 from
    ⟨⟨(hb5.block _ HYB.out.lt).trans HYB.out, hbx, HA.out.below hb5, Nat.le_refl _, by omega, by omega, by omega, by have := HA.out.lt; omega⟩, HJ.out _ _ _ H0.out hW5, fun k hk => hW5.block k (hRW k hk), by omega⟩)
  have HTE := Lib.hid (places_tells hc1 hc2 (HZ.out.keep hW5.size (fun ad ha h0 => hW5.block _ (hRW _ (.inr (.inr ⟨ad, ha, h0, rfl⟩))))) (by unfold maxLen; omega))
  have hS5 : ∀ k, Reads (w3.heap.size + 1) (w3.heap.size + 1 + 1) A L k → k < w5.heap.size := by
    rintro k (rfl | rfl | ⟨ad, ha, h0, rfl⟩)
    · omega
    · omega
    · have := hRW ad.block (.inr (.inr ⟨ad, ha, h0, rfl⟩)); omega
  have HS5 := Lib.hid hS5
  have hgw3 := HA.out.lt
  clear hb5 hbx hc1 hc2 hRW HYB HA H0 HB3 hS5 hW5
  refine (wpIn_wide (n := 9)).1 ?_
  refine wp_range (α := Told) (encs := encT) (xs := plN z (N : Int) L) (S := Reads (w3.heap.size + 1) (w3.heap.size + 1 + 1) A L) rfl (enters_of Try.func26 (by kernel_rfl) rfl) HTE.out HS5.out (fun _ => rfl)
    (fun pre X => Gi W (Reads bl bn A L) J w3.heap.size g N l (lastP pre) (gapP pre) X)
    (fun cd _ X => cd = .ret ∧ ∃ pr post, gapsL z L N = pr ++ post ∧ Jx pr X ∧ W.heap.size ≤ X.heap.size)
    (fun pre x a' X => Gi W (Reads bl bn A L) J w3.heap.size g N l (lastP pre) (gapP pre) X ∧ a' = { tmps := #[.func (.yield l) #[] #[], wp bn, wp bl, wp W.heap.size, wp w3.heap.size, .int .i64 (x.1 : Int), .int .i64 x.2, undef, undef, .slice (some ⟨W.heap.size + 1, 0, none⟩) 1 1, .int .i64 (N : Int), .slice (some ⟨g, 0, none⟩) N N, .slice A L c, .int .i64 (N : Int), .func (.func 26) #[] #[wp (w3.heap.size + 1), wp (w3.heap.size + 1 + 1)], .int .i64 (x.1 : Int), .int .i64 x.2, undef, undef, undef, undef, undef, undef, undef, undef, undef, undef, undef, undef, undef, undef, undef, undef, undef, undef, undef, undef, undef, undef, undef, undef, undef, undef, undef], defers := [] }) ?hI ?hIx ?hA HG.out ?assign ?body ?done ?stop
  case hI => exact fun s X Y h t => h.turn hN1 HJ.out HRW.out (by omega) t
  case hIx =>
    rintro cd s X Y ⟨rfl, pr, post, e, h, hsz⟩ t
    exact ⟨rfl, pr, post, e, HJx.out _ _ _ h (below_of_turn t (by omega) hsz), Nat.le_trans hsz t.size⟩
  case hA =>
    rintro s x a' X Y ⟨h, h'⟩ t
    exact ⟨h.turn hN1 HJ.out HRW.out (by omega) t, h'⟩
  case assign =>
    rintro l1 pre x X hi
    have HI := Lib.hid hi
    clear hi
    gi_wp2
    exact ⟨KeepsFrom.refl _ _, Keeps.refl _ _, HI.out, by simp⟩
  case body =>
    rintro l1 pre ⟨at0, x2⟩ post a' X hx ⟨hg, rfl⟩
    obtain ⟨m, hxm, hmN, hatL, ⟨r, hr⟩, hlo, hhi, hgs, hla⟩ := gap_at hx
    obtain rfl : x2 = (m : Int) := hxm
    have hat : at0 < L := hatL
    have HG1 := Lib.hid hg
    obtain ⟨fn, tmps, assign, body, hy, hRo⟩ := HY.out (gapP pre) ((at0 : Int) - lastP pre m) r X.drew hr (HJ.out _ _ _ hg.j ((Below.refl _ X).drew))
    have hRd := RoundIn.deep (m' := 6) (l' := l1) (hRo.mono (turned (gs := gapP pre ++ [(at0 : Int) - lastP pre m])))
    have c0 := hg.st.yb.cell
    have c1 := hg.st.lb.cell
    have c2 := hg.st.arr.at' m hmN
    clear hg hx hatL hRo
    generalize lastP pre m = y at *
    have hw : IntKind.i64.wrap ((at0 : Int) - y) = (at0 : Int) - y := wrap_small (by omega) (by omega)
    have hmo : Try.prog.follows .mixedOrders = true := by kernel_rfl
    gi_wp2
    refine region_in (r := l1) 7 hmo (by kernel_rfl) (by kernel_rfl) (by kernel_rfl) rfl (by decide) (by kernel_rfl) (by kernel_rfl) ?_
    simp only [List.take_succ_cons, List.take_zero, List.drop_succ_cons, List.drop_zero]
    repeat still_step
    try refine wpStill_nil ?_
    gi_wp2
    refine hRd.mono ?_
    rintro e W3 ⟨b, rfl, hk3, hj3, hjx3⟩
    have hT' : ∀ k, (T k ∨ (w.heap.size ≤ k ∧ k < W.heap.size)) → k < W.heap.size := by
      rintro k (h | h)
      · have := HT.out k h; omega
      · exact h.2
    have hR' : ∀ k, Reads bl bn A L k → k < W.heap.size ∧ ¬ (T k ∨ (w.heap.size ≤ k ∧ k < W.heap.size)) := by
      intro k hk
      have := HR.out k hk
      refine ⟨by omega, ?_⟩
      rintro (h | h)
      · exact this.2 h
      · omega
    have HGd := Lib.hid (HG1.out.below HJ.out HRW.out (drew_below X 1))
    have hOX : OnlyS (fun k => T k ∨ (w.heap.size ≤ k ∧ k < W.heap.size)) X W3 := (OnlyS.of_below (drew_below X 1)).trans hk3
    have hgl := HG.out.st.arr.lt
    have hszX := HG1.out.sz
    clear hRd hy c0 c1 c2
    cases b with
    | true =>
      have hG3 := HGd.out.told hk3 hT' hR' (hj3 rfl)
      have c1 := hG3.st.lb.cell
      have c2 := hG3.st.arr.at' m hmN
      have c3 := hG3.st.arr.fz m
      have HE := Lib.hid (hG3.put HJ.out HRW.out m (at0 : Int))
      have HOX := Lib.hid ((hOX.mono (T := fun k => (T k ∨ (w.heap.size ≤ k ∧ k < W.heap.size)) ∨ k = g) (fun _ _ h => .inl h)).setIn g m (.int .i64 (at0 : Int)) (.inl (.inr rfl)))
      have HT' := Lib.hid hT'
      have HRr := Lib.hid hR'
      clear hG3 hk3 hj3 hjx3 hOX hR' hT'
      generalize lastP pre m = y2 at c2
      gi_wp2
      refine ⟨keeps_from HOX.out ?_, keeps_only HOX.out ?_, ?_⟩
      · rintro k (h | rfl)
        · have := HT'.out k h; omega
        · exact hgl
      · rintro k (rfl | rfl | ⟨ad, ha, h0, rfl⟩)
        · refine ⟨by omega, ?_⟩
          rintro (h | h)
          · have := HT'.out _ h; omega
          · omega
        · refine ⟨by omega, ?_⟩
          rintro (h | h)
          · have := HT'.out _ h; omega
          · omega
        · have q := HRr.out ad.block (.inr (.inr ⟨ad, ha, h0, rfl⟩))
          refine ⟨by omega, ?_⟩
          rintro (h | h)
          · exact q.2 h
          · omega
      · show Gi W (Reads bl bn A L) J w3.heap.size g N l (lastP (pre ++ [(at0, (m : Int))])) (gapP (pre ++ [(at0, (m : Int))])) _
        rw [hla, hgs]
        exact HE.out
    | false =>
      gi_wp2
      refine ⟨keeps_from hOX (fun k h => by have := hT' k h; omega), rfl, _, r, ?_, hjx3 (by simp), ?_⟩
      · rw [hr]; simp
      · have := hOX.size; omega
  case stop =>
    rintro D cd pre post X hD hx ⟨rfl, pr, po, e, hj, hsz⟩ hd
    have HD := Lib.hid hd
    have HJ2 := Lib.hid hj
    clear hd hj hx
    gi_wp2
    refine ⟨by simp, .inl ⟨_, _, rfl, run_takeDeferred HD.out, ?_⟩⟩
    exact ⟨_, results_none rfl _ _ _, ⟨_, rfl⟩, .inr ⟨pr, po, e, HJx.out _ _ _ HJ2.out (below_put _ _ (by omega))⟩⟩
  case done =>
    rintro D X hD hg hd
    have HD := Lib.hid hd
    have HG1 := Lib.hid hg
    have c1 := hg.st.lb.cell
    clear hd hg
    dsimp only [Exit.inBlock, Exit.then]
    rename_i hK0
    refine hK0 _ _ ?_
    clear hK0
    refine (wpIn_wide (n := 9)).1 ?_
    gi_wp2
    have hT' : ∀ k, (T k ∨ (w.heap.size ≤ k ∧ k < W.heap.size)) → k < W.heap.size := by
      rintro k (h | h)
      · have := HT.out k h; omega
      · exact h.2
    have hR' : ∀ k, Reads bl bn A L k → k < W.heap.size ∧ ¬ (T k ∨ (w.heap.size ≤ k ∧ k < W.heap.size)) := by
      intro k hk
      have := HR.out k hk
      refine ⟨by omega, ?_⟩
      rintro (h | h)
      · exact this.2 h
      · omega
    have HT' := Lib.hid hT'
    have HR' := Lib.hid hR'
    clear hT' hR' c1
    gi_loopw [32] (fun t wr => ∃ k : Nat, k ≤ N ∧ t = .int .i64 k ∧ Gi W (Reads bl bn A L) J w3.heap.size g N l (lastP (plN z N L)) (gapP (plN z N L) ++ tl L (lastP (plN z N L)) k) wr ∧ wr.heap[D]? = some (.deferred (some []))) (fun t _ => N - (intOf t).toNat)
    case atStart => exact ⟨0, by omega, rfl, by show Gi _ _ _ _ _ _ _ _ (gapP (plN z N L) ++ []) _; rw [List.append_nil]; exact HG1.out, HD.out⟩
    case round =>
      obtain ⟨k, hk, rfl, hg, hd⟩ := hrel
      have HGk := Lib.hid hg
      have HDk := Lib.hid hd
      clear HG1 HD
      by_cases hlt : k < N
      · have hlb : -1 ≤ lastP (plN z N L) k ∧ lastP (plN z N L) k < (L : Int) := by rw [lastP_plN L hlt]; exact lastN_lt L _
        obtain ⟨r, hr⟩ := tl_split L (lastP (plN z N L)) (show k + 1 ≤ N from hlt)
        have hall : gapsL z L N = (gapP (plN z N L) ++ tl L (lastP (plN z N L)) k) ++ ((L : Int) - lastP (plN z N L) k) :: r := by
          unfold gapsL
          rw [hr]
          show _ ++ ((tl L (lastP (plN z N L)) k ++ [_]) ++ r) = _
          simp
        obtain ⟨fn, tmps, assign, body, hy, hRo⟩ := HY.out _ _ r wr hall hg.j
        have hRd := RoundIn.any (m' := 8) (hRo.mono (turned (gs := (gapP (plN z N L) ++ tl L (lastP (plN z N L)) k) ++ [(L : Int) - lastP (plN z N L) k])))
        have HALL := Lib.hid (show gapsL z L N = ((gapP (plN z N L) ++ tl L (lastP (plN z N L)) k) ++ [(L : Int) - lastP (plN z N L) k]) ++ r by rw [hall]; simp)
        have HSN := Lib.hid (show gapP (plN z N L) ++ tl L (lastP (plN z N L)) (k + 1) = (gapP (plN z N L) ++ tl L (lastP (plN z N L)) k) ++ [(L : Int) - lastP (plN z N L) k] by
          show _ ++ (tl L (lastP (plN z N L)) k ++ [_]) = _
          simp)
        have c0 := hg.st.yb.cell
        have c2 := hg.st.arr.at' k hlt
        have c3 : wr.cell? ⟨bl, 0, none⟩ = some (.slice A L c) := (World.cell?_of_block (w := W) (a := ⟨bl, 0, none⟩) (hg.rd bl (.inl rfl))).trans HQ1.out
        clear hg hd hr hall hRo
        generalize lastP (plN z N L) k = y at *
        have hw : IntKind.i64.wrap ((L : Int) - y) = (L : Int) - y := wrap_small (by omega) (by omega)
        gi_wp2
        refine hRd.mono ?_
        rintro e W3 ⟨b, rfl, hk3, hj3, hjx3⟩
        have hD3 := Lib.hid ((hk3.block D (Array.getElem?_eq_some_iff.1 HDk.out).1 (fun h => by have := HT'.out D h; omega)).trans HDk.out)
        clear hRd hy c0 c2 c3
        cases b with
        | true =>
          have HG3 := Lib.hid (HGk.out.told hk3 HT'.out HR'.out (hj3 rfl))
          clear hk3 hj3 hjx3
          gi_wp2
          go_roundw
          case rel => exact ⟨k + 1, by omega, by go_num, by rw [HSN.out]; exact HG3.out, hD3.out⟩
          case measure => simp [intOf]; omega
        | false =>
          gi_wp2
          refine ⟨by simp, .inl ⟨_, _, rfl, run_takeDeferred hD3.out, ?_⟩⟩
          exact ⟨_, results_none rfl _ _ _, ⟨_, rfl⟩, .inr ⟨_, r, HALL.out, HJx.out _ _ _ (hjx3 (by simp)) (below_put _ _ (by omega))⟩⟩
      · obtain rfl : k = N := by omega
        gi_wp2
        refine ⟨by simp, .inl ⟨_, _, rfl, run_takeDeferred HDk.out, ?_⟩⟩
        exact ⟨_, results_none rfl _ _ _, ⟨_, rfl⟩, .inl (HJ.out _ _ _ HGk.out.j (below_put _ _ (by omega)))⟩
end Go.Proofs.Ytjaiahnibeieiaa
