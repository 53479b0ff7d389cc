/- A queue: whether a request goes, whether it has its turn, and what is granted. -/
import Derived.Test.YteaibamkfccplaaDoorQA
import Derived.Test.YteaibamkfccplaaDoorQR
import Derived.Deep.RegionLaw
import Derived.Deep.RegionHeld3
namespace Go.Proofs.YteaibamkfccplaaDoor
open Go Go.RowKit Go.Shelf
set_option maxRecDepth 100000

/-- the worlds in which all that was in W is as it was -/
structure Later (W : World) where
  w : World
  h : Below W.heap.size W w
instance {W : World} : Inhabited (Later W) := ⟨⟨W, Below.refl _ _⟩⟩
@[go_sem] theorem Later.cell {W : World} (x : Later W) (b o : Nat) (h : b < W.heap.size) : x.w.cell? ⟨b, o, none⟩ = W.cell? ⟨b, o, none⟩ := x.h.cell (p := ⟨b, o, none⟩) h
theorem wp_region_later {P : Program} (W : World) {id : Nat} {Q : Exit → Act → World → Prop} {a : Act} {w : World} {l : List Oper} (hm : P.follows .mixedOrders = true) (hB : Region.lexB .any l.toArray = true)
    (hw : Below W.heap.size W w)
    (h : wpQuiet P l.toArray (fun w' => ∃ x : Later W, w' = x.w) (fun a' => ∀ w', (∃ x : Later W, w' = x.w) → Q .normal a' w') l a) : (Code.region id l.toArray true).wp P Q a w :=
  wp_region_quiet (C := fun w' => ∃ x : Later W, w' = x.w) hm hB ⟨⟨w.drew, hw.drew⟩, rfl⟩ (by simpa using h)
theorem Gives.later {W : World} {f : Nat} {args : Array Value} {v : Value} {x : Later W} (h : Gives W f args v) :
    Calls Tryd.prog f args x.w fun e w'' => e = .returned v ∧ ∃ y : Later W, w'' = y.w :=
  (h x.w x.h).mono fun _ w'' ⟨he, hb⟩ => ⟨he, ⟨w'', hb⟩, rfl⟩
theorem in_later {W w : World} (h : ∃ x : Later W, w = x.w) : Below W.heap.size W w := by
  obtain ⟨x, rfl⟩ := h
  exact x.h

theorem Hs.Ls.off {W W' : World} {b c : Nat} {A : Option Addr} {xs : List Hs.Hd} (h : Hs.Ls W A c xs) (hs : ∀ k, ∀ x ∈ xs, W.cell? ⟨b, k, none⟩ ≠ some (.int .i64 x.1)) (ho : OnlyS (· = b) W W') : Hs.Ls W' A c xs := by
  cases xs with
  | nil => exact ⟨h.cap, h.room, h.nil, fun _ _ j u hj => by simp [Hs.flat] at hj⟩
  | cons x xs =>
    refine h.only ho fun a ha hab => ?_
    have h0 := h.at' a ha 0 (.int .i64 x.1) (by simp [Hs.flat, Hs.cellsW])
    rw [show a.add 0 = a from if_pos rfl] at h0
    obtain ⟨ab, ao, sp⟩ := a
    simp only at hab
    subst hab
    cases sp with
    | none => exact hs ao x List.mem_cons_self h0
    | some s =>
      unfold World.cell? at h0
      split at h0
      · simp at h0
      · simp at h0
theorem Ws.Ls.off {W W' : World} {b c : Nat} {A : Option Addr} {xs : List Ws.Wt} (h : Ws.Ls W A c xs) (hs : ∀ k, ∀ x ∈ xs, W.cell? ⟨b, k, none⟩ ≠ some (.int .i64 x.1)) (ho : OnlyS (· = b) W W') : Ws.Ls W' A c xs := by
  cases xs with
  | nil => exact ⟨h.cap, h.room, h.nil, fun _ _ j u hj => by simp [Ws.flat] at hj⟩
  | cons x xs =>
    refine h.only ho fun a ha hab => ?_
    have h0 := h.at' a ha 0 (.int .i64 x.1) (by simp [Ws.flat, Ws.cellsW])
    rw [show a.add 0 = a from if_pos rfl] at h0
    obtain ⟨ab, ao, sp⟩ := a
    simp only at hab
    subst hab
    cases sp with
    | none => exact hs ao x List.mem_cons_self h0
    | some s =>
      unfold World.cell? at h0
      split at h0
      · simp at h0
      · simp at h0
theorem set_blk {W : World} {g o : Nat} {cur : Array Value} {t : TypeId} {fr : Nat × Nat} (v : Value) (h : W.heap[g]? = some (.cells cur t fr)) : (W.setCell ⟨g, o, none⟩ v).heap[g]? = some (.cells (cur.setIfInBounds o v) t fr) := Hs.set_blk v h
section
variable {W W' : World} {b n1 n2 : Nat} {A1 A2 B1 B2 : Option Addr} {c1 c2 d1 d2 : Nat} {H H' : List Hs.Hd} {L L' : List Ws.Wt}
theorem QAt.noint (h : QAt W b A1 c1 A2 c2 H L) (k : Nat) (x : Int) : W.cell? ⟨b, k, none⟩ ≠ some (.int .i64 x) := by
  rw [cell_blk h.blk]
  match k with
  | 0 => simp
  | 1 => simp
  | k + 2 => simp
theorem QAt.fz (h : QAt W b A1 c1 A2 c2 H L) (k : Nat) : W.frozen? ⟨b, k, none⟩ = false := free_blk h.blk
/-- other holds are laid into it -/
theorem QAt.set0 (h : QAt W b A1 c1 A2 c2 H L) (hh : Hs.Ls W B1 d1 H') : QAt (W.setCell ⟨b, 0, none⟩ (.slice B1 H'.length d1)) b B1 d1 A2 c2 H' L :=
  ⟨by rw [set_blk _ h.blk]; rfl, hh.off (b := b) (fun k x _ => h.noint k x.1) (OnlyS.set _ _ _ _), h.l.off (b := b) (fun k x _ => h.noint k x.1) (OnlyS.set _ _ _ _)⟩
theorem QAt.set1 (h : QAt W b A1 c1 A2 c2 H L) (hl : Ws.Ls W B2 d2 L') : QAt (W.setCell ⟨b, 1, none⟩ (.slice B2 L'.length d2)) b A1 c1 B2 d2 H L' :=
  ⟨by rw [set_blk _ h.blk]; rfl, h.h.off (b := b) (fun k x _ => h.noint k x.1) (OnlyS.set _ _ _ _), hl.off (b := b) (fun k x _ => h.noint k x.1) (OnlyS.set _ _ _ _)⟩

theorem qgoes_any (ht : TabG W) (h : QAt W b A1 c1 A2 c2 H L) (hl : H.length ≤ 400) (tx m : Int) (cv ii : Bool) :
    Calls Tryd.prog 68 #[qp b, Ws.wv (tx, m, cv, ii)] W fun e w' => e = .returned (.bool (Hs.goesB tx m H)) ∧ Below W.heap.size W w' := by
  have hx := box_below W (.cells #[.int .i64 tx, .int .i64 m, .bool cv, .bool ii] 60)
  have hq := h.below hx
  have HX := Lib.hid hx
  have e0 := hq.e0
  have e1 : (W.alloc (.cells #[.int .i64 tx, .int .i64 m, .bool cv, .bool ii] 60)).cell? ⟨W.heap.size, 0, none⟩ = some (.int .i64 tx) := by simp [go_sem]
  have e2 : (W.alloc (.cells #[.int .i64 tx, .int .i64 m, .bool cv, .bool ii] 60)).cell? ⟨W.heap.size, 1, none⟩ = some (.int .i64 m) := by simp [go_sem]
  have hlt := hq.lt
  have hlt2 : W.heap.size < (W.alloc (.cells #[.int .i64 tx, .int .i64 m, .bool cv, .bool ii] 60)).heap.size := by simp
  have gG : Gives (W.alloc (.cells #[.int .i64 tx, .int .i64 m, .bool cv, .bool ii] 60)) 27 #[.slice A1 H.length c1, .int .i64 tx, .int .i64 m] (.bool (Hs.goesB tx m H)) :=
    fun w' hb => acc hb (Hs.goes_any ((ht.later hx).later hb) ((h.h.below hx).below hb) (by omega) tx m)
  clear h ht hq hx
  generalize Hs.goesB tx m H = z at *
  generalize H.length = n at *
  go_enter Tryd.func68, Tryd.ntmps68
  go_wp2
  generalize W.alloc (.cells #[.int .i64 tx, .int .i64 m, .bool cv, .bool ii] 60) = W1 at *
  refine wp_region_later W1 (by kernel_rfl) (by kernel_rfl) (Below.refl _ _) ?_
  repeat (go_big_quiet_step ((go_at_call 27; exact Gives.later (by with_reducible assumption))))
  refine wpQuiet_nil ?_
  intro w2 hw2
  have hb2 := in_later hw2
  clear hw2
  go_wp2
  go_ret
  exact ⟨rfl, HX.out.trans (hb2.mono HX.out.size)⟩
/-- whether a new request stands behind nobody -/
def turnB (cv : Bool) (L : List Ws.Wt) : Bool := if cv then decide (Ws.plc true L = 0) else decide (L.length = 0)
theorem turn_any (h : QAt W b A1 c1 A2 c2 H L) (hl : L.length ≤ 400) (tx m : Int) (cv ii : Bool) :
    Calls Tryd.prog 67 #[qp b, Ws.wv (tx, m, cv, ii)] W fun e w' => e = .returned (.bool (turnB cv L)) ∧ Below W.heap.size W w' := by
  have hx := box_below W (.cells #[.int .i64 tx, .int .i64 m, .bool cv, .bool ii] 60)
  have hq := h.below hx
  have HX := Lib.hid hx
  have e0 := hq.e1
  have HP := Lib.hid (Ws.place_any (h.l.below hx) (by omega) true)
  clear h hq hx
  cases cv
  · have HE := Lib.hid (show turnB false L = decide ((L.length : Int) = 0) by unfold turnB; simp)
    generalize turnB false L = z at *
    generalize L.length = n at *
    clear HP
    go_enter Tryd.func67, Tryd.ntmps67
    go_wp2
    go_ret
    exact ⟨by rw [HE.out]; rfl, HX.out⟩
  · have HE := Lib.hid (show turnB true L = decide ((Ws.plc true L : Int) = 0) by unfold turnB; simp)
    generalize turnB true L = z at *
    generalize Ws.plc true L = k at *
    generalize L.length = n at *
    go_enter Tryd.func67, Tryd.ntmps67
    go_wp2_with fail
    refine HP.out.mono ?_
    rintro e w1 ⟨rfl, hb1⟩
    have HB1 := Lib.hid (HX.out.trans (hb1.mono HX.out.size))
    clear hb1
    go_wp2_with fail
    go_ret
    exact ⟨by rw [HE.out]; rfl, HB1.out⟩
/-- what holds are behind a grant -/
def grantH (x : Ws.Wt) (H : List Hs.Hd) : List Hs.Hd := if x.2.2.2 then H else Hs.setL x.1 x.2.1 H
/-- what a call leaves that may change this queue alone -/
def Left (b : Nat) (W : World) (H : List Hs.Hd) (L : List Ws.Wt) (w' : World) : Prop := (∃ A1 c1 A2 c2, QAt w' b A1 c1 A2 c2 H L) ∧ OnlyS (· = b) W w'
theorem QAt.left (h : QAt W' b A1 c1 A2 c2 H L) (hh : Hs.Ls W' B1 d1 H') (ho : Below W.heap.size W W') : Left b W H' L (W'.setCell ⟨b, 0, none⟩ (.slice B1 H'.length d1)) :=
  ⟨⟨_, _, _, _, h.set0 hh⟩, (OnlyS.of_below ho).trans (OnlyS.set _ _ _ _)⟩
theorem QAt.left1 (h : QAt W' b A1 c1 A2 c2 H L) (hl : Ws.Ls W' B2 d2 L') (ho : Below W.heap.size W W') : Left b W H L' (W'.setCell ⟨b, 1, none⟩ (.slice B2 L'.length d2)) :=
  ⟨⟨_, _, _, _, h.set1 hl⟩, (OnlyS.of_below ho).trans (OnlyS.set _ _ _ _)⟩
theorem undrew {W1 w1 : World} (h : Below W1.drew.heap.size W1.drew w1) : Below W1.heap.size W1 w1 := ⟨h.os, h.tape, h.output, h.size, h.block⟩
set_option maxHeartbeats 1000000 in
theorem grant_row (h : QAt W b A1 c1 A2 c2 H L) (hl : H.length ≤ 400) (tx m : Int) (cv ii : Bool) :
    Calls Tryd.prog 69 #[qp b, Ws.wv (tx, m, cv, ii)] W fun e w' => e = .returned (.tuple #[]) ∧ ∃ B1 d1, QAt w' b B1 d1 A2 c2 (grantH (tx, m, cv, ii) H) L ∧ OnlyS (· = b) W w' ∧ ((grantH (tx, m, cv, ii) H = H ∧ B1 = A1) ∨ ∀ a, B1 = some a → W.heap.size ≤ a.block) := by
  have hx := box_below W (.cells #[.int .i64 tx, .int .i64 m, .bool cv, .bool ii] 60)
  have hq := h.below hx
  have HX := Lib.hid hx
  have HQ := Lib.hid hq
  have e0 := hq.e0
  have f0 := hq.fz
  have hlt := h.lt
  cases ii
  · have HS := Lib.hid (fun (w1 : World) (hb : Below W.heap.size W w1) => Hs.set_row (h.h.below hb) (by omega) tx m)
    have HE := Lib.hid (show grantH (tx, m, cv, false) H = Hs.setL tx m H from rfl)
    rw [HE.out]
    obtain ⟨n, hn⟩ : ∃ n, H.length = n := ⟨_, rfl⟩
    have HN := Lib.hid hn
    rw [hn] at HS e0 hl
    clear h hq hx hn
    go_enter Tryd.func69, Tryd.ntmps69
    go_wp2
    go_region_law (first | (go_simp; go_at_call 89; refine (HS.out _ HX.out.drew).mono ?_; rintro e w1 ⟨B1, d1, rfl, hrw1, hb1⟩; have hb2 := undrew hb1; have hq2 := HQ.out.below hb2; have hc2 := hq2.e0; have hf2 := hq2.fz 0; rw [HN.out] at hc2))
    all_goals
      have HL1 := Lib.hid (show ∃ B1' d1', QAt (w1.setCell ⟨b, 0, none⟩ (.slice B1 (Hs.setL tx m H).length d1)) b B1' d1' A2 c2 (Hs.setL tx m H) L ∧ OnlyS (· = b) W (w1.setCell ⟨b, 0, none⟩ (.slice B1 (Hs.setL tx m H).length d1)) ∧ ((Hs.setL tx m H = H ∧ B1' = A1) ∨ ∀ a, B1' = some a → W.heap.size ≤ a.block) from
        ⟨B1, d1, hq2.set0 hrw1.lsv, (OnlyS.of_below (HX.out.trans (hb2.mono HX.out.size))).trans (OnlyS.set _ _ _ _), by exact .inr fun a ha => Nat.le_trans HX.out.size (hrw1.far a ha)⟩)
      clear hq2 hrw1 hb1 hb2
      go_wp2
      go_end0
      exact ⟨rfl, HL1.out⟩
  · have HE := Lib.hid (show grantH (tx, m, cv, true) H = H from rfl)
    rw [HE.out]
    clear h hq hx
    go_enter Tryd.func69, Tryd.ntmps69
    go_wp2
    go_end0
    exact ⟨rfl, _, _, HQ.out, OnlyS.of_below HX.out, .inl ⟨by trivial, by trivial⟩⟩
theorem grant_any (h : QAt W b A1 c1 A2 c2 H L) (hl : H.length ≤ 400) (tx m : Int) (cv ii : Bool) :
    Calls Tryd.prog 69 #[qp b, Ws.wv (tx, m, cv, ii)] W fun e w' => e = .returned (.tuple #[]) ∧ Left b W (grantH (tx, m, cv, ii) H) L w' :=
  (grant_row h hl tx m cv ii).mono fun _ _ ⟨he, _, _, h1, h2, _⟩ => ⟨he, ⟨_, _, _, _, h1⟩, h2⟩
end
end Go.Proofs.YteaibamkfccplaaDoor
