/- Holds set, and requests left out: what is handed back is a list of one's own. -/
import Derived.Test.YtlhhopanegnliaaGreatDoorHs
import Derived.Test.YtlhhopanegnliaaGreatDoorWs
import Derived.Deep.QuietTactic
import Derived.Deep.RegionLaw
import Derived.Deep.RegionHeld3
namespace Go.Proofs.YtlhhopanegnliaaGreatDoor.Hs
open Go Go.RowKit Go.Shelf
set_option maxRecDepth 100000

/-- a list of one's own that is handed back -/
def Rows (W : World) (xs : List Hd) (e : Ending) (w' : World) : Prop := ∃ A c, e = .returned (.slice A xs.length c) ∧ Row w' W.heap.size (.slice A xs.length c) xs ∧ Below W.heap.size W w'
theorem Row.lsv {W : World} {K c n : Nat} {A : Option Addr} {xs : List Hd} (h : Row W K (.slice A n c) xs) : Ls W A c xs := by
  obtain ⟨A', c', e, hls⟩ := h.ls
  cases e
  exact hls
theorem Row.far {W : World} {K c n : Nat} {A : Option Addr} {xs : List Hd} (h : Row W K (.slice A n c) xs) : ∀ a, A = some a → K ≤ a.block := by
  rintro a rfl
  rcases h.2 with ⟨h0, _⟩ | ⟨g, cap, cur, e, hb, _⟩
  · cases h0
  · cases e; exact hb
theorem rows_of {W w2 : World} {zs ys : List Hd} {A' : Option Addr} {c' k : Nat} (h : Kp W ys (.slice A' k c') w2) (hk : ys.length = k) (he : ys = zs) : Rows W zs (.returned (.slice A' k c')) w2 := by
  subst he
  subst hk
  exact ⟨_, _, rfl, h.row, h.bel⟩
section
variable {W W' : World} {A : Option Addr} {c : Nat} {xs : List Hd}
set_option maxHeartbeats 1000000 in
theorem set_row (hr : Ls W A c xs) (hl : xs.length ≤ 500) (tx m : Int) : Calls Tryz.prog 212 #[.slice A xs.length c, .int .i64 tx, .int .i64 m] W (Rows W (setL tx m xs)) := by
  have H := Lib.hid (clone_any hr hl)
  obtain ⟨n, hn⟩ : ∃ n, xs.length = n := ⟨_, rfl⟩
  rcases idx_cases (fun x => x.1 == tx) xs with ⟨h1, h2⟩ | ⟨k, hk, h1, h3, h4⟩
  · have HI := Lib.hid (fun (w1 : World) (A1 : Option Addr) (c1 : Nat) (h : Ls w1 A1 c1 xs) => by
      have := index_any (prd_tx (T := fun _ => False) (W := w1.alloc (.cells #[.int .i64 tx] 3)) (B := w1.heap.size) (tx := tx) (by simp [go_sem]) (fun h => h)) (h.below (box_below _ _)) (by omega)
      rw [h1, hn] at this
      exact this)
    have HE := Lib.hid (setL_none (m := m) (dn_false h2))
    have HN := Lib.hid hn
    rw [hn] at hl H ⊢
    clear hr h1 h2 hn
    go_enter Tryz.func212, Tryz.ntmps212
    go_wp2_with fail
    refine H.out.mono ?_
    rintro e w1 ⟨v, rfl, hv, hb⟩
    obtain ⟨A1, c1, rfl, hls⟩ := hv.ls
    rw [HN.out] at hv ⊢
    have HI1 := Lib.hid (HI.out _ _ _ hls)
    have HK := Lib.hid (show Kp W xs (.slice A1 n c1) w1 from ⟨hv, hb⟩)
    clear hv hb hls HI
    go_wp2_with (go_at_call 194; ((with_reducible refine (ofc_any tx _).mono ?_); rintro e w' ⟨rfl, rfl⟩))
    refine HI1.out.mono ?_
    rintro e w2 ⟨rfl, hb2⟩
    obtain ⟨A2, c2, w3, hrun, hk3⟩ := ((HK.out.below (box_below _ _)).below hb2).app (x := (tx, m)) HN.out (by omega) 83
    have HK3 := Lib.hid hk3
    clear hk3 hb2 HI1
    simp only at hrun
    go_wp2_with (at_builtin; refine Lib.wpList_append_run _ rfl _ _ _ _ rfl _ _ rfl rfl _ _ hrun ?_)
    go_ret
    exact rows_of HK3.out (by rw [List.length_append, HN.out]; rfl) HE.out.symm
  · have HI := Lib.hid (fun (w1 : World) (A1 : Option Addr) (c1 : Nat) (h : Ls w1 A1 c1 xs) => by
      have := index_any (prd_tx (T := fun _ => False) (W := w1.alloc (.cells #[.int .i64 tx] 3)) (B := w1.heap.size) (tx := tx) (by simp [go_sem]) (fun h => h)) (h.below (box_below _ _)) (by omega)
      rw [h1, hn] at this
      exact this)
    have HE := Lib.hid (setL_at (m := m) hk h4 h3)
    have HP := Lib.hid (pair_of (m := m) h3)
    have HN := Lib.hid hn
    have hkn : k < n := by rw [← hn]; exact hk
    have HK0 := Lib.hid hk
    rw [hn] at hl H ⊢
    clear hr h1 h3 h4 hn
    go_enter Tryz.func212, Tryz.ntmps212
    go_wp2_with fail
    refine H.out.mono ?_
    rintro e w1 ⟨v, rfl, hv, hb⟩
    obtain ⟨A1, c1, rfl, hls⟩ := hv.ls
    rw [HN.out] at hv ⊢
    have HI1 := Lib.hid (HI.out _ _ _ hls)
    have HK := Lib.hid (show Kp W xs (.slice A1 n c1) w1 from ⟨hv, hb⟩)
    clear HI
    obtain ⟨g, rfl⟩ : ∃ g, A1 = some ⟨g, 0, none⟩ := by
      rcases hv.2 with ⟨h0, _⟩ | ⟨g, cap, cur, e, _⟩
      · cases h0; omega
      · cases e; exact ⟨g, rfl⟩
    have hgl := (hv.lt g rfl).1
    clear hv hb hls
    go_wp2_with (go_at_call 194; ((with_reducible refine (ofc_any tx _).mono ?_); rintro e w' ⟨rfl, rfl⟩))
    refine HI1.out.mono ?_
    rintro e w2 ⟨rfl, hb2⟩
    have hk2 := (HK.out.below (box_below _ _)).below hb2
    obtain ⟨y, t1⟩ := Option.isSome_iff_exists.1 (hk2.row.there (k := k * 2 + 1) (by rw [HN.out]; omega))
    have f1 : w2.frozen? ⟨g, k * 2 + 1, none⟩ = false := hk2.row.free
    have hrw := hk2.row
    unfold Row at hrw
    rw [HN.out] at hrw
    have hst := row_store hrw (k * 2 + 1) (.int .i64 m)
    rw [set_one m HK0.out, HP.out] at hst
    have HK3 := Lib.hid (show Kp W (xs.set k (tx, m)) (.slice (some ⟨g, 0, none⟩) n c1) (w2.setCell ⟨g, k * 2 + 1, none⟩ (.int .i64 m)) from ⟨by unfold Row; rw [List.length_set, HN.out]; exact hst, hk2.bel.setCell (p := ⟨g, k * 2 + 1, none⟩) hgl _⟩)
    clear hk2 hrw hst hb2 HI1
    go_wp2_with fail
    go_ret
    exact rows_of HK3.out (by rw [List.length_set, HN.out]) HE.out.symm
theorem without_row (hr : Ls W A c xs) (hl : xs.length ≤ 500) (tx : Int) : Calls Tryz.prog 184 #[.slice A xs.length c, .int .i64 tx] W (Rows W (wout tx xs)) := by
  have H := Lib.hid (clone_any hr hl)
  have HD := Lib.hid (fun (w1 : World) (v : Value) (h : Row w1 W.heap.size v xs) (hb : Below W.heap.size W w1) =>
    (show Calls Tryz.prog 208 #[v, .func (.func 216) #[] #[.pointer (some ⟨w1.heap.size, 0, none⟩)]] (w1.alloc (.cells #[.int .i64 tx] 3)) (Rows W (wout tx xs)) from by
      have hx := box_below w1 (.cells #[.int .i64 tx] 3)
      refine (delete_any (prd_tx (tx := tx) (by simp [go_sem]) ?_) (row_below h hx) (by omega)).mono ?_
      · intro e
        have := (h.lt _ e).2
        omega
      · rintro e w' ⟨v', rfl, h1, h2⟩
        obtain ⟨A', c', rfl, -⟩ := h1.ls
        exact ⟨A', c', rfl, h1, (hb.trans (hx.mono hb.size)).trans (h2.below (fun k hk => (h.lt k hk).1) (Nat.le_trans hb.size hx.size))⟩))
  clear hr hl
  generalize xs.length = n at *
  go_enter Tryz.func184, Tryz.ntmps184
  go_wp2_with fail
  refine H.out.mono ?_
  rintro e w1 ⟨v, rfl, h1, h2⟩
  have HC := Lib.hid (HD.out _ _ h1 h2)
  clear h1 h2
  go_wp2_with (first | (go_at_call 194; ((with_reducible refine (ofc_any tx _).mono ?_); rintro e w' ⟨rfl, rfl⟩)) | (go_at_call 208; ((with_reducible refine HC.out.mono ?_); rintro e w' ⟨A', c', rfl, hls, hb⟩)))
  have HL := Lib.hid hls
  have HB := Lib.hid hb
  clear hls hb
  obtain ⟨k, hk⟩ : ∃ k, (wout tx xs).length = k := ⟨_, rfl⟩
  have HK := Lib.hid hk
  rw [hk]
  clear hk
  go_ret
  exact ⟨A', c', by rw [HK.out]; rfl, HL.out, HB.out⟩
end
end Go.Proofs.YtlhhopanegnliaaGreatDoor.Hs
namespace Go.Proofs.YtlhhopanegnliaaGreatDoor.Ws
open Go Go.RowKit Go.Shelf
set_option maxRecDepth 100000

/-- a list of one's own that is handed back -/
def Rows (W : World) (xs : List Wt) (e : Ending) (w' : World) : Prop := ∃ A c, e = .returned (.slice A xs.length c) ∧ Row w' W.heap.size (.slice A xs.length c) xs ∧ Below W.heap.size W w'
theorem Row.lsv {W : World} {K c n : Nat} {A : Option Addr} {xs : List Wt} (h : Row W K (.slice A n c) xs) : Ls W A c xs := by
  obtain ⟨A', c', e, hls⟩ := h.ls
  cases e
  exact hls
theorem Row.far {W : World} {K c n : Nat} {A : Option Addr} {xs : List Wt} (h : Row W K (.slice A n c) xs) : ∀ a, A = some a → K ≤ a.block := by
  rintro a rfl
  rcases h.2 with ⟨h0, _⟩ | ⟨g, cap, cur, e, hb, _⟩
  · cases h0
  · cases e; exact hb
section
variable {W W' : World} {A : Option Addr} {c : Nat} {xs : List Wt}
theorem without_row (hr : Ls W A c xs) (hl : xs.length ≤ 500) (tx : Int) : Calls Tryz.prog 181 #[.slice A xs.length c, .int .i64 tx] W (Rows W (wout tx xs)) := by
  have H := Lib.hid (clone_any hr hl)
  have HD := Lib.hid (fun (w1 : World) (v : Value) (h : Row w1 W.heap.size v xs) (hb : Below W.heap.size W w1) =>
    (show Calls Tryz.prog 207 #[v, .func (.func 156) #[] #[.pointer (some ⟨w1.heap.size, 0, none⟩)]] (w1.alloc (.cells #[.int .i64 tx] 3)) (Rows W (wout tx xs)) from by
      have hx := box_below w1 (.cells #[.int .i64 tx] 3)
      refine (delete_any (prd_tx (tx := tx) (by simp [go_sem]) ?_) (row_below h hx) (by omega)).mono ?_
      · intro e
        have := (h.lt _ e).2
        omega
      · rintro e w' ⟨v', rfl, h1, h2⟩
        obtain ⟨A', c', rfl, -⟩ := h1.ls
        exact ⟨A', c', rfl, h1, (hb.trans (hx.mono hb.size)).trans (h2.below (fun k hk => (h.lt k hk).1) (Nat.le_trans hb.size hx.size))⟩))
  clear hr hl
  generalize xs.length = n at *
  go_enter Tryz.func181, Tryz.ntmps181
  go_wp2_with fail
  refine H.out.mono ?_
  rintro e w1 ⟨v, rfl, h1, h2⟩
  have HC := Lib.hid (HD.out _ _ h1 h2)
  clear h1 h2
  go_wp2_with (first | (go_at_call 117; ((with_reducible refine (ofc_any tx _).mono ?_); rintro e w' ⟨rfl, rfl⟩)) | (go_at_call 207; ((with_reducible refine HC.out.mono ?_); rintro e w' ⟨A', c', rfl, hls, hb⟩)))
  have HL := Lib.hid hls
  have HB := Lib.hid hb
  clear hls hb
  obtain ⟨k, hk⟩ : ∃ k, (wout tx xs).length = k := ⟨_, rfl⟩
  have HK := Lib.hid hk
  rw [hk]
  clear hk
  go_ret
  exact ⟨A', c', by rw [HK.out]; rfl, HL.out, HB.out⟩
end
end Go.Proofs.YtlhhopanegnliaaGreatDoor.Ws
/- A queue in memory: what the readers tell of it; of none. -/
namespace Go.Proofs.YtlhhopanegnliaaGreatDoor
open Go Go.RowKit Go.Shelf
set_option maxRecDepth 100000

abbrev qp (b : Nat) : Value := .pointer (some ⟨b, 0, none⟩)
/-- both lists as a value -/
abbrev qv (A1 : Option Addr) (n1 c1 : Nat) (A2 : Option Addr) (n2 c2 : Nat) : Value := .agg #[.slice A1 n1 c1, .slice A2 n2 c2]
@[go_sem] theorem field_h (w : World) (A1 A2 : Option Addr) (n1 c1 n2 c2 : Nat) : (Instr.field 139 (qv A1 n1 c1 A2 n2 c2) 0).run Tryz.prog w = .ok (.slice A1 n1 c1) w := by
  simp [Instr.field, asAgg, part]
@[go_sem] theorem field_w (w : World) (A1 A2 : Option Addr) (n1 c1 n2 c2 : Nat) : (Instr.field 139 (qv A1 n1 c1 A2 n2 c2) 1).run Tryz.prog w = .ok (.slice A2 n2 c2) w := by
  simp [Instr.field, asAgg, part]
/-- a queue lies in a block: its holds, its waits -/
structure QAt (W : World) (b : Nat) (A1 : Option Addr) (c1 : Nat) (A2 : Option Addr) (c2 : Nat) (H : List Hs.Hd) (L : List Ws.Wt) : Prop where
  blk : W.heap[b]? = some (.cells #[.slice A1 H.length c1, .slice A2 L.length c2] 139 (0, 0))
  h : Hs.Ls W A1 c1 H
  l : Ws.Ls W A2 c2 L
theorem cell_blk {W : World} {b k : Nat} {cs : Array Value} {t : TypeId} {fr : Nat × Nat} (h : W.heap[b]? = some (.cells cs t fr)) : W.cell? ⟨b, k, none⟩ = cs[k]? := by
  unfold World.cell?
  simp [h]
theorem free_blk {W : World} {b k : Nat} {cs : Array Value} {t : TypeId} (h : W.heap[b]? = some (.cells cs t (0, 0))) : W.frozen? ⟨b, k, none⟩ = false := by
  unfold World.frozen?
  simp [h]
theorem lt_blk {W : World} {b : Nat} {o : Obj} (h : W.heap[b]? = some o) : b < W.heap.size := (Array.getElem?_eq_some_iff.1 h).1
section
variable {W W' : World} {b n1 n2 : Nat} {A1 A2 : Option Addr} {c1 c2 : Nat} {H : List Hs.Hd} {L : List Ws.Wt}
theorem QAt.e0 (h : QAt W b A1 c1 A2 c2 H L) : W.cell? ⟨b, 0, none⟩ = some (.slice A1 H.length c1) := by rw [cell_blk h.blk]; rfl
theorem QAt.e1 (h : QAt W b A1 c1 A2 c2 H L) : W.cell? ⟨b, 1, none⟩ = some (.slice A2 L.length c2) := by rw [cell_blk h.blk]; rfl
theorem QAt.lt (h : QAt W b A1 c1 A2 c2 H L) : b < W.heap.size := lt_blk h.blk
theorem QAt.below (h : QAt W b A1 c1 A2 c2 H L) (hb : Below W.heap.size W W') : QAt W' b A1 c1 A2 c2 H L :=
  ⟨(hb.block b h.lt).trans h.blk, h.h.below hb, h.l.below hb⟩

/-- what the lists of a queue, or of none, are told to be -/
structure Its (W : World) (p : Value) (A1 : Option Addr) (c1 : Nat) (A2 : Option Addr) (c2 : Nat) (H : List Hs.Hd) (L : List Ws.Wt) : Prop where
  h : Hs.Ls W A1 c1 H
  l : Ws.Ls W A2 c2 L
  its : ∀ W', Below W.heap.size W W' → Calls Tryz.prog 91 #[p] W' fun e w' => e = .returned (qv A1 H.length c1 A2 L.length c2) ∧ Below W'.heap.size W' w'
theorem Its.below {p : Value} (h : Its W p A1 c1 A2 c2 H L) (hb : Below W.heap.size W W') : Its W' p A1 c1 A2 c2 H L :=
  ⟨h.h.below hb, h.l.below hb, fun W'' hb' => h.its W'' (hb.trans (hb'.mono hb.size))⟩
theorem results_queue {fn : Func} {p : Tmp} (h : fn.results = #[.cell p 139]) {tmps : Array Value} {w : World} {b : Nat} (hp : tmps.getD p undef = .pointer (some ⟨b, 0, none⟩))
    (h0 : w.cell? ⟨b, 0, none⟩ = some (.slice A1 n1 c1)) (h1 : w.cell? ⟨b, 1, none⟩ = some (.slice A2 n2 c2)) :
    (results fn tmps).run Tryz.prog w = .ok (qv A1 n1 c1 A2 n2 c2) w := by
  have hp' : tmps[p]?.getD undef = .pointer (some ⟨b, 0, none⟩) := by simpa using hp
  simp [results, h, hp', go_sem, h0, h1]
theorem its_none (W : World) : Calls Tryz.prog 91 #[.pointer none] W fun e w' => e = .returned (qv none 0 0 none 0 0) ∧ Below W.heap.size W w' := by
  go_enter Tryz.func91, Tryz.ntmps91
  go_wp2
  exact bodyPost_ret (results_queue rfl rfl (by simp [go_sem]) (by simp [go_sem])) rfl ⟨rfl, box_below _ _⟩
theorem its_some (q0 : W.cell? ⟨b, 0, none⟩ = some (.slice A1 n1 c1)) (q1 : W.cell? ⟨b, 1, none⟩ = some (.slice A2 n2 c2)) :
    Calls Tryz.prog 91 #[qp b] W fun e w' => e = .returned (qv A1 n1 c1 A2 n2 c2) ∧ Below W.heap.size W w' := by
  have hlt := cell_lt q0
  go_enter Tryz.func91, Tryz.ntmps91
  go_wp2
  exact bodyPost_ret (results_queue rfl rfl (by simp [go_sem]) (by simp [go_sem])) rfl ⟨rfl, box_below _ _⟩
theorem Its.none (W : World) : Its W (.pointer none) Option.none 0 Option.none 0 [] [] := ⟨Hs.Ls.nils _, Ws.Ls.nils _, fun W' _ => its_none W'⟩
theorem QAt.its (h : QAt W b A1 c1 A2 c2 H L) : Its W (qp b) A1 c1 A2 c2 H L :=
  ⟨h.h, h.l, fun _ hb => its_some (h.below hb).e0 (h.below hb).e1⟩
variable {p : Value}
theorem holds_far (h : Its W p A1 c1 A2 c2 H L) (hl : H.length ≤ 500) : Calls Tryz.prog 51 #[p] W fun e w' => ∃ A c, e = .returned (.slice A H.length c) ∧ (Hs.Ls w' A c H ∧ ∀ a, A = some a → W.heap.size ≤ a.block) ∧ Below W.heap.size W w' := by
  have HI := Lib.hid (h.its W (Below.refl _ _))
  have HC := Lib.hid (fun (w1 : World) (hb : Below W.heap.size W w1) => Hs.clone_any (h.h.below hb) hl)
  clear h hl
  obtain ⟨n, hn⟩ : ∃ n, H.length = n := ⟨_, rfl⟩
  have HN := Lib.hid hn
  rw [hn] at HI HC
  clear hn
  go_enter Tryz.func51, Tryz.ntmps51
  go_wp2_with fail
  refine HI.out.mono ?_
  rintro e w1 ⟨rfl, hb1⟩
  have HC1 := Lib.hid (HC.out _ hb1)
  have HB1 := Lib.hid hb1
  clear hb1 HI HC
  go_wp2_with fail
  refine HC1.out.mono ?_
  rintro e w2 ⟨v, rfl, hr, hb2⟩
  obtain ⟨A, c, rfl, hls⟩ := hr.ls
  have hfar := hr.far
  have HR := Lib.hid (show Hs.Ls w2 A c H ∧ ∀ a, A = some a → W.heap.size ≤ a.block from ⟨hls, fun a ha => Nat.le_trans HB1.out.size (hfar a ha)⟩)
  have HB2 := Lib.hid (HB1.out.trans (hb2.mono HB1.out.size))
  rw [HN.out]
  clear hr hls hb2 hfar
  go_wp2_with fail
  go_ret
  exact ⟨A, c, by rw [HN.out]; rfl, HR.out, HB2.out⟩
theorem holds_any (h : Its W p A1 c1 A2 c2 H L) (hl : H.length ≤ 500) : Calls Tryz.prog 51 #[p] W (Hs.Lists W H) :=
  (holds_far h hl).mono fun _ _ ⟨A, c, h1, h2, h3⟩ => ⟨A, c, h1, h2.1, h3⟩
theorem waits_far (h : Its W p A1 c1 A2 c2 H L) (hl : L.length ≤ 500) : Calls Tryz.prog 52 #[p] W fun e w' => ∃ A c, e = .returned (.slice A L.length c) ∧ (Ws.Ls w' A c L ∧ ∀ a, A = some a → W.heap.size ≤ a.block) ∧ Below W.heap.size W w' := by
  have HI := Lib.hid (h.its W (Below.refl _ _))
  have HC := Lib.hid (fun (w1 : World) (hb : Below W.heap.size W w1) => Ws.clone_any (h.l.below hb) hl)
  clear h hl
  obtain ⟨n, hn⟩ : ∃ n, L.length = n := ⟨_, rfl⟩
  have HN := Lib.hid hn
  rw [hn] at HI HC
  clear hn
  go_enter Tryz.func52, Tryz.ntmps52
  go_wp2_with fail
  refine HI.out.mono ?_
  rintro e w1 ⟨rfl, hb1⟩
  have HC1 := Lib.hid (HC.out _ hb1)
  have HB1 := Lib.hid hb1
  clear hb1 HI HC
  go_wp2_with fail
  refine HC1.out.mono ?_
  rintro e w2 ⟨v, rfl, hr, hb2⟩
  obtain ⟨A, c, rfl, hls⟩ := hr.ls
  have hfar := hr.far
  have HR := Lib.hid (show Ws.Ls w2 A c L ∧ ∀ a, A = some a → W.heap.size ≤ a.block from ⟨hls, fun a ha => Nat.le_trans HB1.out.size (hfar a ha)⟩)
  have HB2 := Lib.hid (HB1.out.trans (hb2.mono HB1.out.size))
  rw [HN.out]
  clear hr hls hb2 hfar
  go_wp2_with fail
  go_ret
  exact ⟨A, c, by rw [HN.out]; rfl, HR.out, HB2.out⟩
theorem waits_any (h : Its W p A1 c1 A2 c2 H L) (hl : L.length ≤ 500) : Calls Tryz.prog 52 #[p] W (Ws.Lists W L) :=
  (waits_far h hl).mono fun _ _ ⟨A, c, h1, h2, h3⟩ => ⟨A, c, h1, h2.1, h3⟩
theorem qmode_any (h : Its W p A1 c1 A2 c2 H L) (hl : H.length ≤ 500) (tx : Int) : Calls Tryz.prog 112 #[p, .int .i64 tx] W fun e w' => e = .returned (.int .i64 (Hs.fst tx H)) ∧ Below W.heap.size W w' := by
  have HI := Lib.hid (h.its W (Below.refl _ _))
  have HC := Lib.hid (fun (w1 : World) (hb : Below W.heap.size W w1) => Hs.modeOf_any (h.h.below hb) (by omega) tx)
  clear h hl
  generalize Hs.fst tx H = z at *
  generalize H.length = n at *
  go_enter Tryz.func112, Tryz.ntmps112
  go_wp2_with fail
  refine HI.out.mono ?_
  rintro e w1 ⟨rfl, hb1⟩
  have HC1 := Lib.hid (HC.out _ hb1)
  have HB1 := Lib.hid hb1
  clear hb1 HI HC
  go_wp2_with fail
  refine HC1.out.mono ?_
  rintro e w2 ⟨rfl, hb2⟩
  have HB2 := Lib.hid (HB1.out.trans (hb2.mono HB1.out.size))
  clear hb2
  go_wp2_with fail
  go_ret
  exact ⟨rfl, HB2.out⟩
theorem size_any (h : Its W p A1 c1 A2 c2 H L) (h1 : H.length ≤ 5000) (h2 : L.length ≤ 5000) : Calls Tryz.prog 146 #[p] W fun e w' => e = .returned (.int .i64 ((H.length + L.length : Nat) : Int)) ∧ Below W.heap.size W w' := by
  have HI := Lib.hid h.its
  have HI0 := Lib.hid (h.its W (Below.refl _ _))
  clear h
  generalize H.length = n at *
  generalize L.length = m at *
  go_enter Tryz.func146, Tryz.ntmps146
  go_wp2_with fail
  refine HI0.out.mono ?_
  rintro e w1 ⟨rfl, hb1⟩
  have HI1 := Lib.hid (HI.out _ hb1)
  have HB1 := Lib.hid hb1
  clear hb1 HI HI0
  go_wp2_with fail
  refine HI1.out.mono ?_
  rintro e w2 ⟨rfl, hb2⟩
  have HB2 := Lib.hid (HB1.out.trans (hb2.mono HB1.out.size))
  clear hb2
  go_wp2_with fail
  go_ret
  exact ⟨ret_int (by omega), HB2.out⟩
theorem has_any (h : Its W p A1 c1 A2 c2 H L) (hl : H.length ≤ 500) (tx : Int) : Calls Tryz.prog 183 #[p, .int .i64 tx] W fun e w' => e = .returned (.bool (Hs.fst tx H != 0)) ∧ Below W.heap.size W w' := by
  have HC := Lib.hid (qmode_any h hl tx)
  clear h hl
  generalize Hs.fst tx H = z at *
  go_enter Tryz.func183, Tryz.ntmps183
  go_wp2_with fail
  refine HC.out.mono ?_
  rintro e w1 ⟨rfl, hb1⟩
  have HB1 := Lib.hid hb1
  clear hb1
  go_wp2_with fail
  go_ret
  exact ⟨rfl, HB1.out⟩
theorem awaits_any (h : Its W p A1 c1 A2 c2 H L) (hl : L.length ≤ 500) (tx : Int) : Calls Tryz.prog 180 #[p, .int .i64 tx] W fun e w' => e = .returned (.bool (decide (0 ≤ Ws.fndI tx L))) ∧ Below W.heap.size W w' := by
  have HI := Lib.hid (h.its W (Below.refl _ _))
  have HC := Lib.hid (fun (w1 : World) (hb : Below W.heap.size W w1) => Ws.find_any (h.l.below hb) (by omega) tx)
  clear h hl
  generalize Ws.fndI tx L = z at *
  generalize L.length = n at *
  go_enter Tryz.func180, Tryz.ntmps180
  go_wp2_with fail
  refine HI.out.mono ?_
  rintro e w1 ⟨rfl, hb1⟩
  have HC1 := Lib.hid (HC.out _ hb1)
  have HB1 := Lib.hid hb1
  clear hb1 HI HC
  go_wp2_with fail
  refine HC1.out.mono ?_
  rintro e w2 ⟨rfl, hb2⟩
  have HB2 := Lib.hid (HB1.out.trans (hb2.mono HB1.out.size))
  clear hb2
  go_wp2_with fail
  go_ret
  exact ⟨rfl, HB2.out⟩
theorem copy_none (W : World) : Calls Tryz.prog 89 #[.pointer none] W fun e w' => e = .returned (.pointer none) ∧ W = w' := by
  go_enter Tryz.func89, Tryz.ntmps89
  go_wp2
  go_ret
  exact ⟨rfl, rfl⟩
theorem QAt.new (W : World) (hh : Hs.Ls W A1 c1 H) (hl : Ws.Ls W A2 c2 L) : QAt (W.alloc (.cells #[.slice A1 H.length c1, .slice A2 L.length c2] 139)) W.heap.size A1 c1 A2 c2 H L :=
  ⟨heap_alloc_new W _, hh.below (box_below _ _), hl.below (box_below _ _)⟩
/-- a queue that was made since -/
def Mk (W : World) (H : List Hs.Hd) (L : List Ws.Wt) (e : Ending) (w' : World) : Prop := ∃ b A1 c1 A2 c2, e = .returned (qp b) ∧ QAt w' b A1 c1 A2 c2 H L ∧ Below W.heap.size W w' ∧ W.heap.size ≤ b ∧ (∀ a, A1 = some a → W.heap.size ≤ a.block) ∧ ∀ a, A2 = some a → W.heap.size ≤ a.block
theorem copy_some (h : Its W (qp b) A1 c1 A2 c2 H L) (h1 : H.length ≤ 500) (h2 : L.length ≤ 500) : Calls Tryz.prog 89 #[qp b] W (Mk W H L) := by
  have HH := Lib.hid (holds_far h h1)
  have HW := Lib.hid (fun (w1 : World) (hb : Below W.heap.size W w1) => waits_far (h.below hb) h2)
  clear h h1 h2
  go_enter Tryz.func89, Tryz.ntmps89
  go_wp2_with fail
  refine HH.out.mono ?_
  rintro e w1 ⟨B1, d1, rfl, ⟨hls1, hf1⟩, hb1⟩
  have HL1 := Lib.hid hls1
  have HF1 := Lib.hid hf1
  have HW1 := Lib.hid (HW.out _ hb1)
  have HB1 := Lib.hid hb1
  obtain ⟨n, hn⟩ : ∃ n, H.length = n := ⟨_, rfl⟩
  have HN := Lib.hid hn
  rw [hn]
  have HZ1 := Lib.hid hb1.size
  clear hls1 hf1 hb1 HH HW hn
  go_wp2_with fail
  refine HW1.out.mono ?_
  rintro e w2 ⟨B2, d2, rfl, ⟨hls2, hf2⟩, hb2⟩
  have HQ := Lib.hid (QAt.new w2 (HL1.out.below hb2) hls2)
  have HF2 := Lib.hid (show ∀ a, B2 = some a → W.heap.size ≤ a.block from fun a ha => Nat.le_trans HZ1.out (hf2 a ha))
  have HB2 := Lib.hid (HB1.out.trans (hb2.mono HB1.out.size))
  obtain ⟨m, hm⟩ : ∃ m, L.length = m := ⟨_, rfl⟩
  rw [HN.out, hm] at HQ
  rw [hm]
  clear hls2 hf2 hb2 hm
  go_wp2_with fail
  go_ret
  exact ⟨w2.heap.size, B1, d1, B2, d2, rfl, HQ.out, HB2.out.trans ((box_below _ _).mono HB2.out.size), HB2.out.size, HF1.out, HF2.out⟩
end
end Go.Proofs.YtlhhopanegnliaaGreatDoor
/- A queue: whether a request goes, whether it has its turn, and what is granted. -/
namespace Go.Proofs.YtlhhopanegnliaaGreatDoor
open Go Go.RowKit Go.Shelf
set_option maxRecDepth 100000

/-- the worlds in which all that was in W is as it was -/
structure Later (W : World) where
  w : World
  h : Below W.heap.size W w
instance {W : World} : Inhabited (Later W) := ⟨⟨W, Below.refl _ _⟩⟩
@[go_sem] theorem Later.cell {W : World} (x : Later W) (b o : Nat) (h : b < W.heap.size) : x.w.cell? ⟨b, o, none⟩ = W.cell? ⟨b, o, none⟩ := x.h.cell (p := ⟨b, o, none⟩) h
theorem wp_region_later {P : Program} (W : World) {id : Nat} {Q : Exit → Act → World → Prop} {a : Act} {w : World} {l : List Oper} (hm : P.follows .mixedOrders = true) (hB : Region.lexB .any l.toArray = true)
    (hw : Below W.heap.size W w)
    (h : wpQuiet P l.toArray (fun w' => ∃ x : Later W, w' = x.w) (fun a' => ∀ w', (∃ x : Later W, w' = x.w) → Q .normal a' w') l a) : (Code.region id l.toArray true).wp P Q a w :=
  wp_region_quiet (C := fun w' => ∃ x : Later W, w' = x.w) hm hB ⟨⟨w.drew, hw.drew⟩, rfl⟩ (by simpa using h)
theorem Gives.later {W : World} {f : Nat} {args : Array Value} {v : Value} {x : Later W} (h : Gives W f args v) :
    Calls Tryz.prog f args x.w fun e w'' => e = .returned v ∧ ∃ y : Later W, w'' = y.w :=
  (h x.w x.h).mono fun _ w'' ⟨he, hb⟩ => ⟨he, ⟨w'', hb⟩, rfl⟩
theorem in_later {W w : World} (h : ∃ x : Later W, w = x.w) : Below W.heap.size W w := by
  obtain ⟨x, rfl⟩ := h
  exact x.h

theorem Hs.Ls.off {W W' : World} {b c : Nat} {A : Option Addr} {xs : List Hs.Hd} (h : Hs.Ls W A c xs) (hs : ∀ k, ∀ x ∈ xs, W.cell? ⟨b, k, none⟩ ≠ some (.int .i64 x.1)) (ho : OnlyS (· = b) W W') : Hs.Ls W' A c xs := by
  cases xs with
  | nil => exact ⟨h.cap, h.room, h.nil, fun _ _ j u hj => by simp [Hs.flat] at hj⟩
  | cons x xs =>
    refine h.only ho fun a ha hab => ?_
    have h0 := h.at' a ha 0 (.int .i64 x.1) (by simp [Hs.flat, Hs.cellsW])
    rw [show a.add 0 = a from if_pos rfl] at h0
    obtain ⟨ab, ao, sp⟩ := a
    simp only at hab
    subst hab
    cases sp with
    | none => exact hs ao x List.mem_cons_self h0
    | some s =>
      unfold World.cell? at h0
      split at h0
      · simp at h0
      · simp at h0
theorem Ws.Ls.off {W W' : World} {b c : Nat} {A : Option Addr} {xs : List Ws.Wt} (h : Ws.Ls W A c xs) (hs : ∀ k, ∀ x ∈ xs, W.cell? ⟨b, k, none⟩ ≠ some (.int .i64 x.1)) (ho : OnlyS (· = b) W W') : Ws.Ls W' A c xs := by
  cases xs with
  | nil => exact ⟨h.cap, h.room, h.nil, fun _ _ j u hj => by simp [Ws.flat] at hj⟩
  | cons x xs =>
    refine h.only ho fun a ha hab => ?_
    have h0 := h.at' a ha 0 (.int .i64 x.1) (by simp [Ws.flat, Ws.cellsW])
    rw [show a.add 0 = a from if_pos rfl] at h0
    obtain ⟨ab, ao, sp⟩ := a
    simp only at hab
    subst hab
    cases sp with
    | none => exact hs ao x List.mem_cons_self h0
    | some s =>
      unfold World.cell? at h0
      split at h0
      · simp at h0
      · simp at h0
theorem set_blk {W : World} {g o : Nat} {cur : Array Value} {t : TypeId} {fr : Nat × Nat} (v : Value) (h : W.heap[g]? = some (.cells cur t fr)) : (W.setCell ⟨g, o, none⟩ v).heap[g]? = some (.cells (cur.setIfInBounds o v) t fr) := Hs.set_blk v h
section
variable {W W' : World} {b n1 n2 : Nat} {A1 A2 B1 B2 : Option Addr} {c1 c2 d1 d2 : Nat} {H H' : List Hs.Hd} {L L' : List Ws.Wt}
theorem QAt.noint (h : QAt W b A1 c1 A2 c2 H L) (k : Nat) (x : Int) : W.cell? ⟨b, k, none⟩ ≠ some (.int .i64 x) := by
  rw [cell_blk h.blk]
  match k with
  | 0 => simp
  | 1 => simp
  | k + 2 => simp
theorem QAt.fz (h : QAt W b A1 c1 A2 c2 H L) (k : Nat) : W.frozen? ⟨b, k, none⟩ = false := free_blk h.blk
/-- other holds are laid into it -/
theorem QAt.set0 (h : QAt W b A1 c1 A2 c2 H L) (hh : Hs.Ls W B1 d1 H') : QAt (W.setCell ⟨b, 0, none⟩ (.slice B1 H'.length d1)) b B1 d1 A2 c2 H' L :=
  ⟨by rw [set_blk _ h.blk]; rfl, hh.off (b := b) (fun k x _ => h.noint k x.1) (OnlyS.set _ _ _ _), h.l.off (b := b) (fun k x _ => h.noint k x.1) (OnlyS.set _ _ _ _)⟩
theorem QAt.set1 (h : QAt W b A1 c1 A2 c2 H L) (hl : Ws.Ls W B2 d2 L') : QAt (W.setCell ⟨b, 1, none⟩ (.slice B2 L'.length d2)) b A1 c1 B2 d2 H L' :=
  ⟨by rw [set_blk _ h.blk]; rfl, h.h.off (b := b) (fun k x _ => h.noint k x.1) (OnlyS.set _ _ _ _), hl.off (b := b) (fun k x _ => h.noint k x.1) (OnlyS.set _ _ _ _)⟩

theorem qgoes_any (ht : TabG W) (h : QAt W b A1 c1 A2 c2 H L) (hl : H.length ≤ 400) (tx m : Int) (cv ii : Bool) :
    Calls Tryz.prog 189 #[qp b, Ws.wv (tx, m, cv, ii)] W fun e w' => e = .returned (.bool (Hs.goesB tx m H)) ∧ Below W.heap.size W w' := by
  have hx := box_below W (.cells #[.int .i64 tx, .int .i64 m, .bool cv, .bool ii] 61)
  have hq := h.below hx
  have HX := Lib.hid hx
  have e0 := hq.e0
  have e1 : (W.alloc (.cells #[.int .i64 tx, .int .i64 m, .bool cv, .bool ii] 61)).cell? ⟨W.heap.size, 0, none⟩ = some (.int .i64 tx) := by simp [go_sem]
  have e2 : (W.alloc (.cells #[.int .i64 tx, .int .i64 m, .bool cv, .bool ii] 61)).cell? ⟨W.heap.size, 1, none⟩ = some (.int .i64 m) := by simp [go_sem]
  have hlt := hq.lt
  have hlt2 : W.heap.size < (W.alloc (.cells #[.int .i64 tx, .int .i64 m, .bool cv, .bool ii] 61)).heap.size := by simp
  have gG : Gives (W.alloc (.cells #[.int .i64 tx, .int .i64 m, .bool cv, .bool ii] 61)) 211 #[.slice A1 H.length c1, .int .i64 tx, .int .i64 m] (.bool (Hs.goesB tx m H)) :=
    fun w' hb => acc hb (Hs.goes_any ((ht.later hx).later hb) ((h.h.below hx).below hb) (by omega) tx m)
  clear h ht hq hx
  generalize Hs.goesB tx m H = z at *
  generalize H.length = n at *
  go_enter Tryz.func189, Tryz.ntmps189
  go_wp2
  generalize W.alloc (.cells #[.int .i64 tx, .int .i64 m, .bool cv, .bool ii] 61) = W1 at *
  refine wp_region_later W1 (by kernel_rfl) (by kernel_rfl) (Below.refl _ _) ?_
  repeat (go_big_quiet_step ((go_at_call 211; exact Gives.later (by with_reducible assumption))))
  refine wpQuiet_nil ?_
  intro w2 hw2
  have hb2 := in_later hw2
  clear hw2
  go_wp2
  go_ret
  exact ⟨rfl, HX.out.trans (hb2.mono HX.out.size)⟩
/-- whether a new request stands behind nobody -/
def turnB (cv : Bool) (L : List Ws.Wt) : Bool := if cv then decide (Ws.plc true L = 0) else decide (L.length = 0)
theorem turn_any (h : QAt W b A1 c1 A2 c2 H L) (hl : L.length ≤ 400) (tx m : Int) (cv ii : Bool) :
    Calls Tryz.prog 188 #[qp b, Ws.wv (tx, m, cv, ii)] W fun e w' => e = .returned (.bool (turnB cv L)) ∧ Below W.heap.size W w' := by
  have hx := box_below W (.cells #[.int .i64 tx, .int .i64 m, .bool cv, .bool ii] 61)
  have hq := h.below hx
  have HX := Lib.hid hx
  have e0 := hq.e1
  have HP := Lib.hid (Ws.place_any (h.l.below hx) (by omega) true)
  clear h hq hx
  cases cv
  · have HE := Lib.hid (show turnB false L = decide ((L.length : Int) = 0) by unfold turnB; simp)
    generalize turnB false L = z at *
    generalize L.length = n at *
    clear HP
    go_enter Tryz.func188, Tryz.ntmps188
    go_wp2
    go_ret
    exact ⟨by rw [HE.out]; rfl, HX.out⟩
  · have HE := Lib.hid (show turnB true L = decide ((Ws.plc true L : Int) = 0) by unfold turnB; simp)
    generalize turnB true L = z at *
    generalize Ws.plc true L = k at *
    generalize L.length = n at *
    go_enter Tryz.func188, Tryz.ntmps188
    go_wp2_with fail
    refine HP.out.mono ?_
    rintro e w1 ⟨rfl, hb1⟩
    have HB1 := Lib.hid (HX.out.trans (hb1.mono HX.out.size))
    clear hb1
    go_wp2_with fail
    go_ret
    exact ⟨by rw [HE.out]; rfl, HB1.out⟩
/-- what holds are behind a grant -/
def grantH (x : Ws.Wt) (H : List Hs.Hd) : List Hs.Hd := if x.2.2.2 then H else Hs.setL x.1 x.2.1 H
/-- an address that is as it was, or was made since -/
def Fr {α : Type} (B : Nat) (A : Option Addr × List α) (A' : Option Addr) (xs : List α) : Prop := (A' = A.1 ∧ xs = A.2) ∨ ∀ a, A' = some a → B ≤ a.block
theorem Fr.refl {α : Type} {xs : List α} (B : Nat) (A : Option Addr) : Fr B (A, xs) A xs := .inl ⟨rfl, rfl⟩
theorem Fr.new {α : Type} {xs : List α} {B : Nat} {A : Option Addr × List α} {A' : Option Addr} (h : ∀ a, A' = some a → B ≤ a.block) : Fr B A A' xs := .inr h
theorem Fr.trans {α : Type} {xs ys : List α} {B B' : Nat} {A : Option Addr × List α} {A' A'' : Option Addr} (h : Fr B A A' xs) (k : Fr B' (A', xs) A'' ys) (hb : B ≤ B') : Fr B A A'' ys := by
  rcases k with ⟨rfl, rfl⟩ | k
  · exact h
  · exact .inr fun a ha => Nat.le_trans hb (k a ha)
/-- what a call leaves that may change this queue alone -/
def Left (b : Nat) (W : World) (A1 : Option Addr × List Hs.Hd) (A2 : Option Addr × List Ws.Wt) (H : List Hs.Hd) (L : List Ws.Wt) (w' : World) : Prop := (∃ B1 d1 B2 d2, QAt w' b B1 d1 B2 d2 H L ∧ Fr W.heap.size A1 B1 H ∧ Fr W.heap.size A2 B2 L) ∧ OnlyS (· = b) W w'
theorem undrew {W1 w1 : World} (h : Below W1.drew.heap.size W1.drew w1) : Below W1.heap.size W1 w1 := ⟨h.os, h.tape, h.output, h.size, h.block⟩
set_option maxHeartbeats 1000000 in
theorem grant_row (h : QAt W b A1 c1 A2 c2 H L) (hl : H.length ≤ 400) (tx m : Int) (cv ii : Bool) :
    Calls Tryz.prog 190 #[qp b, Ws.wv (tx, m, cv, ii)] W fun e w' => e = .returned (.tuple #[]) ∧ ∃ B1 d1, QAt w' b B1 d1 A2 c2 (grantH (tx, m, cv, ii) H) L ∧ OnlyS (· = b) W w' ∧ ((grantH (tx, m, cv, ii) H = H ∧ B1 = A1) ∨ ∀ a, B1 = some a → W.heap.size ≤ a.block) := by
  have hx := box_below W (.cells #[.int .i64 tx, .int .i64 m, .bool cv, .bool ii] 61)
  have hq := h.below hx
  have HX := Lib.hid hx
  have HQ := Lib.hid hq
  have e0 := hq.e0
  have f0 := hq.fz
  have hlt := h.lt
  cases ii
  · have HS := Lib.hid (fun (w1 : World) (hb : Below W.heap.size W w1) => Hs.set_row (h.h.below hb) (by omega) tx m)
    have HE := Lib.hid (show grantH (tx, m, cv, false) H = Hs.setL tx m H from rfl)
    rw [HE.out]
    obtain ⟨n, hn⟩ : ∃ n, H.length = n := ⟨_, rfl⟩
    have HN := Lib.hid hn
    rw [hn] at HS e0 hl
    clear h hq hx hn
    go_enter Tryz.func190, Tryz.ntmps190
    go_wp2
    go_region_law (first | (go_simp; go_at_call 212; refine (HS.out _ HX.out.drew).mono ?_; rintro e w1 ⟨B1, d1, rfl, hrw1, hb1⟩; have hb2 := undrew hb1; have hq2 := HQ.out.below hb2; have hc2 := hq2.e0; have hf2 := hq2.fz 0; rw [HN.out] at hc2))
    all_goals
      have HL1 := Lib.hid (show ∃ B1' d1', QAt (w1.setCell ⟨b, 0, none⟩ (.slice B1 (Hs.setL tx m H).length d1)) b B1' d1' A2 c2 (Hs.setL tx m H) L ∧ OnlyS (· = b) W (w1.setCell ⟨b, 0, none⟩ (.slice B1 (Hs.setL tx m H).length d1)) ∧ ((Hs.setL tx m H = H ∧ B1' = A1) ∨ ∀ a, B1' = some a → W.heap.size ≤ a.block) from
        ⟨B1, d1, hq2.set0 hrw1.lsv, (OnlyS.of_below (HX.out.trans (hb2.mono HX.out.size))).trans (OnlyS.set _ _ _ _), by exact .inr fun a ha => Nat.le_trans HX.out.size (hrw1.far a ha)⟩)
      clear hq2 hrw1 hb1 hb2
      go_wp2
      go_end0
      exact ⟨rfl, HL1.out⟩
  · have HE := Lib.hid (show grantH (tx, m, cv, true) H = H from rfl)
    rw [HE.out]
    clear h hq hx
    go_enter Tryz.func190, Tryz.ntmps190
    go_wp2
    go_end0
    exact ⟨rfl, _, _, HQ.out, OnlyS.of_below HX.out, .inl ⟨by trivial, by trivial⟩⟩
theorem grant_any (h : QAt W b A1 c1 A2 c2 H L) (hl : H.length ≤ 400) (tx m : Int) (cv ii : Bool) :
    Calls Tryz.prog 190 #[qp b, Ws.wv (tx, m, cv, ii)] W fun e w' => e = .returned (.tuple #[]) ∧ Left b W (A1, H) (A2, L) (grantH (tx, m, cv, ii) H) L w' :=
  (grant_row h hl tx m cv ii).mono fun _ _ ⟨he, _, _, h1, h2, h3⟩ => ⟨he, ⟨_, _, _, _, h1, h3.imp And.symm id, Fr.refl _ _⟩, h2⟩
end
end Go.Proofs.YtlhhopanegnliaaGreatDoor
/- A queue: what an Ask comes to, as plain functions; whether it may be. -/
namespace Go.Proofs.YtlhhopanegnliaaGreatDoor
open Go Go.RowKit Go.Shelf
set_option maxRecDepth 100000

def tgtV (had asked : Int) : Value := .tuple #[.int .i64 (supN (kn had) (kn asked) : Nat), .bool (!covB (kn had) (kn asked))]
theorem target_any (had asked : Int) (w0 w : World) (hb : Below w0.heap.size w0 w) : Calls Tryz.prog 187 #[.int .i64 had, .int .i64 asked] w fun e w' => e = .returned (tgtV had asked) ∧ Below w0.heap.size w0 w' := by
  have H1 := Lib.hid (fun (w1 : World) (h : Below w0.heap.size w0 w1) => sup_any had asked w0 w1 h)
  have H2 := Lib.hid (fun (w1 : World) (h : Below w0.heap.size w0 w1) => covers_any had asked w0 w1 h)
  have HV := Lib.hid (show tgtV had asked = .tuple #[.int .i64 (supN (kn had) (kn asked) : Nat), .bool (!covB (kn had) (kn asked))] from rfl)
  generalize supN (kn had) (kn asked) = s at *
  generalize covB (kn had) (kn asked) = q at *
  have H1' := Lib.hid (H1.out _ hb)
  go_enter Tryz.func187, Tryz.ntmps187
  go_wp2_with fail
  refine H1'.out.mono ?_
  rintro e w1 ⟨rfl, hb1⟩
  have H2' := Lib.hid (H2.out _ hb1)
  go_wp2_with fail
  refine H2'.out.mono ?_
  rintro e w2 ⟨rfl, hb2⟩
  go_wp2_with fail
  go_ret2
  exact ⟨by rw [HV.out]; rfl, hb2⟩

/-- the error of a request, whatever others have -/
def errR (tx m fl : Int) (L : List Ws.Wt) : Int := if Ws.okB3 tx m fl then (if 0 ≤ Ws.fndI tx L then 3 else 0) else 1
theorem errR_cases (tx m fl : Int) (L : List Ws.Wt) : (Ws.okB3 tx m fl = false ∧ errR tx m fl L = 1) ∨ (Ws.okB3 tx m fl = true ∧ 0 ≤ Ws.fndI tx L ∧ errR tx m fl L = 3) ∨ (Ws.okB3 tx m fl = true ∧ Ws.fndI tx L < 0 ∧ errR tx m fl L = 0) := by
  unfold errR
  cases h : Ws.okB3 tx m fl
  · exact .inl ⟨rfl, rfl⟩
  · by_cases h1 : 0 ≤ Ws.fndI tx L
    · exact .inr (.inl ⟨rfl, h1, by rw [if_pos h1]; rfl⟩)
    · exact .inr (.inr ⟨rfl, by omega, by rw [if_neg h1]; rfl⟩)
section
variable {W W' : World} {b n1 n2 : Nat} {A1 A2 B1 B2 : Option Addr} {c1 c2 d1 d2 : Nat} {H H' : List Hs.Hd} {L L' : List Ws.Wt}
theorem refuses_none (tx m fl : Int) (W : World) : Calls Tryz.prog 186 #[.pointer none, .int .i64 tx, .int .i64 m, .int .i64 fl] W fun e w' => e = .returned (.int .i64 70) ∧ W = w' := by
  go_enter Tryz.func186, Tryz.ntmps186
  go_wp2
  go_ret
  exact ⟨rfl, rfl⟩
theorem refuses_any (h : Its W (qp b) A1 c1 A2 c2 H L) (hl : L.length ≤ 400) (tx m fl : Int) : Calls Tryz.prog 186 #[qp b, .int .i64 tx, .int .i64 m, .int .i64 fl] W fun e w' => e = .returned (.int .i64 (errR tx m fl L)) ∧ Below W.heap.size W w' := by
  have HC := fun w => Lib.hid (Ws.check_any tx m fl w)
  have HA := Lib.hid (awaits_any h (by omega) tx)
  have HB0 := Lib.hid (Below.refl W.heap.size W)
  rcases errR_cases tx m fl L with ⟨h1, h2⟩ | ⟨h1, h3, h2⟩ | ⟨h1, h3, h2⟩
  · rw [h1] at HC
    rw [h2]
    clear h h1 h2
    rw [show Ws.errV false = 1 from rfl] at HC
    go_enter Tryz.func186, Tryz.ntmps186
    go_wp2_with fail
    refine (HC _).out.mono ?_
    rintro e w1 ⟨rfl, rfl⟩
    go_wp2_with fail
    go_ret
    exact ⟨rfl, HB0.out⟩
  · rw [h1] at HC
    rw [h2]
    have e1 : decide (0 ≤ Ws.fndI tx L) = true := by simpa using h3
    rw [e1] at HA
    clear h h1 h2 h3 e1
    rw [show Ws.errV true = 0 from rfl] at HC
    go_enter Tryz.func186, Tryz.ntmps186
    go_wp2_with fail
    refine (HC _).out.mono ?_
    rintro e w1 ⟨rfl, rfl⟩
    go_wp2_with fail
    refine HA.out.mono ?_
    rintro e w2 ⟨rfl, hb2⟩
    go_wp2_with fail
    go_ret
    exact ⟨rfl, hb2⟩
  · rw [h1] at HC
    rw [h2]
    have e1 : decide (0 ≤ Ws.fndI tx L) = false := by simpa using h3
    rw [e1] at HA
    clear h h1 h2 h3 e1
    rw [show Ws.errV true = 0 from rfl] at HC
    go_enter Tryz.func186, Tryz.ntmps186
    go_wp2_with fail
    refine (HC _).out.mono ?_
    rintro e w1 ⟨rfl, rfl⟩
    go_wp2_with fail
    refine HA.out.mono ?_
    rintro e w2 ⟨rfl, hb2⟩
    go_wp2_with fail
    go_ret
    exact ⟨rfl, hb2⟩
end
/-- an answer, an error, the holds and the waits behind it -/
abbrev Ans := Int × Int × List Hs.Hd × List Ws.Wt
def tgt (tx m : Int) (H : List Hs.Hd) : Int := ((supN (kn (Hs.fst tx H)) (kn m) : Nat) : Int)
/-- what is asked for, as a request -/
def reqW (tx m fl : Int) (H : List Hs.Hd) : Ws.Wt := (tx, tgt tx m H, Hs.fst tx H != 0, fl == 2)
/-- whether it can be had at once -/
def atOnce (tx m : Int) (H : List Hs.Hd) (L : List Ws.Wt) : Bool := turnB (Hs.fst tx H != 0) L && Hs.goesB tx (tgt tx m H) H
def has (tx m : Int) (H : List Hs.Hd) : Bool := (Hs.fst tx H != 0) && covB (kn (Hs.fst tx H)) (kn m)
def ask (tx m fl : Int) (H : List Hs.Hd) (L : List Ws.Wt) : Ans :=
  if errR tx m fl L ≠ 0 then (0, errR tx m fl L, H, L)
  else if has tx m H then (1, 0, H, L)
  else if atOnce tx m H L then (1, 0, grantH (reqW tx m fl H) H, L)
  else if fl = 1 then (0, 40, H, L)
  else (2, 0, H, Ws.ins (reqW tx m fl H) L)
section
variable {tx m fl : Int} {H : List Hs.Hd} {L : List Ws.Wt}
theorem ask_err {x : Int} (h : errR tx m fl L = x) (h0 : x ≠ 0) : ask tx m fl H L = (0, x, H, L) := by
  subst h
  unfold ask
  rw [if_pos h0]
theorem ask_has (h : errR tx m fl L = 0) (h1 : has tx m H = true) : ask tx m fl H L = (1, 0, H, L) := by
  unfold ask
  rw [if_neg (by omega), if_pos h1]
theorem ask_now (h : errR tx m fl L = 0) (h1 : has tx m H = false) (h2 : atOnce tx m H L = true) : ask tx m fl H L = (1, 0, grantH (reqW tx m fl H) H, L) := by
  unfold ask
  rw [if_neg (by omega), if_neg (by simp [h1]), if_pos h2]
theorem ask_not (h : errR tx m fl L = 0) (h1 : has tx m H = false) (h2 : atOnce tx m H L = false) (h3 : fl = 1) : ask tx m fl H L = (0, 40, H, L) := by
  unfold ask
  rw [if_neg (by omega), if_neg (by simp [h1]), if_neg (by simp [h2]), if_pos h3]
theorem ask_wait (h : errR tx m fl L = 0) (h1 : has tx m H = false) (h2 : atOnce tx m H L = false) (h3 : fl ≠ 1) : ask tx m fl H L = (2, 0, H, Ws.ins (reqW tx m fl H) L) := by
  unfold ask
  rw [if_neg (by omega), if_neg (by simp [h1]), if_neg (by simp [h2]), if_neg h3]
theorem ask_cases (tx m fl : Int) (H : List Hs.Hd) (L : List Ws.Wt) :
    (∃ x, errR tx m fl L = x ∧ x ≠ 0 ∧ ask tx m fl H L = (0, x, H, L)) ∨
    (errR tx m fl L = 0 ∧ has tx m H = true ∧ ask tx m fl H L = (1, 0, H, L)) ∨
    (errR tx m fl L = 0 ∧ has tx m H = false ∧ atOnce tx m H L = true ∧ ask tx m fl H L = (1, 0, grantH (reqW tx m fl H) H, L)) ∨
    (errR tx m fl L = 0 ∧ has tx m H = false ∧ atOnce tx m H L = false ∧ fl = 1 ∧ ask tx m fl H L = (0, 40, H, L)) ∨
    (errR tx m fl L = 0 ∧ has tx m H = false ∧ atOnce tx m H L = false ∧ fl ≠ 1 ∧ ask tx m fl H L = (2, 0, H, Ws.ins (reqW tx m fl H) L)) := by
  by_cases h0 : errR tx m fl L = 0
  · cases h1 : has tx m H
    · cases h2 : atOnce tx m H L
      · by_cases h3 : fl = 1
        · exact .inr (.inr (.inr (.inl ⟨h0, rfl, rfl, h3, ask_not h0 h1 h2 h3⟩)))
        · exact .inr (.inr (.inr (.inr ⟨h0, rfl, rfl, h3, ask_wait h0 h1 h2 h3⟩)))
      · exact .inr (.inr (.inl ⟨h0, rfl, rfl, ask_now h0 h1 h2⟩))
    · exact .inr (.inl ⟨h0, rfl, ask_has h0 h1⟩)
  · exact .inl ⟨_, rfl, h0, ask_err rfl h0⟩
end
end Go.Proofs.YtlhhopanegnliaaGreatDoor
/- A queue: what an Ask comes to: the walk that changes nothing. -/
namespace Go.Proofs.YtlhhopanegnliaaGreatDoor
open Go Go.RowKit Go.Shelf
set_option maxRecDepth 100000

def okH (X : Ans) : List Hs.Hd := if X.2.1 = 0 then X.2.2.1 else []
def okL (X : Ans) : List Ws.Wt := if X.2.1 = 0 then X.2.2.2 else []
/-- what an Ask comes to, handed back -/
def Askd (W : World) (A1 : Option Addr × List Hs.Hd) (A2 : Option Addr × List Ws.Wt) (X : Ans) (e : Ending) (w' : World) : Prop :=
  ∃ B1 d1 B2 d2, e = .returned (.tuple #[qv B1 (okH X).length d1 B2 (okL X).length d2, .int .i64 X.1, .int .i64 X.2.1]) ∧ Hs.Ls w' B1 d1 (okH X) ∧ Ws.Ls w' B2 d2 (okL X) ∧ Below W.heap.size W w' ∧ Fr W.heap.size A1 B1 (okH X) ∧ Fr W.heap.size A2 B2 (okL X)
section
variable {W W' : World} {b n1 n2 : Nat} {A1 A2 B1 B2 : Option Addr} {c1 c2 d1 d2 : Nat} {H H' : List Hs.Hd} {L L' : List Ws.Wt}
theorem results_asked {fn : Func} {p q r : Tmp} (h : fn.results = #[.cell p 139, .tmp q, .tmp r]) {tmps : Array Value} {w : World} {b : Nat} {x y : Int} (hp : tmps.getD p undef = .pointer (some ⟨b, 0, none⟩)) (hq : tmps.getD q undef = .int .i64 x) (hr : tmps.getD r undef = .int .i64 y)
    (h0 : w.cell? ⟨b, 0, none⟩ = some (.slice A1 n1 c1)) (h1 : w.cell? ⟨b, 1, none⟩ = some (.slice A2 n2 c2)) :
    (results fn tmps).run Tryz.prog w = .ok (.tuple #[qv A1 n1 c1 A2 n2 c2, .int .i64 x, .int .i64 y]) w := by
  have hp' : tmps[p]?.getD undef = .pointer (some ⟨b, 0, none⟩) := by simpa using hp
  have hq' : tmps[q]?.getD undef = .int .i64 x := by simpa using hq
  have hr' : tmps[r]?.getD undef = .int .i64 y := by simpa using hr
  simp [results, h, hp', hq', hr', go_sem, h0, h1]
theorem QAt.nils (W : World) : QAt (W.alloc (.cells #[.slice none 0 0, .slice none 0 0] 139)) W.heap.size none 0 none 0 [] [] := QAt.new W (Hs.Ls.nils _) (Ws.Ls.nils _)
/-- a queue stays where another one is changed -/
theorem QAt.far {b0 : Nat} (h : QAt W b0 A1 c1 A2 c2 H L) (hk : QAt W b B1 d1 B2 d2 H' L') (hne : b0 ≠ b) (ho : OnlyS (· = b) W W') : QAt W' b0 A1 c1 A2 c2 H L :=
  ⟨(ho.block b0 h.lt hne).trans h.blk, h.h.off (b := b) (fun k x _ => hk.noint k x.1) ho, h.l.off (b := b) (fun k x _ => hk.noint k x.1) ho⟩
set_option maxHeartbeats 1000000 in
theorem asked_none (tx m fl : Int) (W : World) : Calls Tryz.prog 145 #[.pointer none, .int .i64 tx, .int .i64 m, .int .i64 fl] W fun e w' => e = .returned (.tuple #[qv none 0 0 none 0 0, .int .i64 0, .int .i64 70]) ∧ Below W.heap.size W w' := by
  have hr := QAt.nils W
  have r0 := hr.e0
  have r1 := hr.e1
  have f0 := hr.fz 0
  have f1 := hr.fz 1
  simp only [List.length_nil] at r0 r1
  have HB := Lib.hid (box_below W (.cells #[.slice none 0 0, .slice none 0 0] 139))
  clear hr
  go_enter Tryz.func145, Tryz.ntmps145
  go_wp2_with fail
  refine (refuses_none tx m fl _).mono ?_
  rintro e w1 ⟨rfl, rfl⟩
  go_wp2_with fail
  exact bodyPost_ret (results_asked rfl rfl rfl rfl (by simp [go_sem]) (by simp [go_sem])) rfl ⟨rfl, HB.out⟩
set_option maxHeartbeats 1000000 in
theorem asked_err (h : QAt W b A1 c1 A2 c2 H L) (hl : L.length ≤ 400) (tx m fl : Int) {x : Int} (he : errR tx m fl L = x) (hx : x ≠ 0) :
    Calls Tryz.prog 145 #[qp b, .int .i64 tx, .int .i64 m, .int .i64 fl] W fun e w' => e = .returned (.tuple #[qv none 0 0 none 0 0, .int .i64 0, .int .i64 x]) ∧ Below W.heap.size W w' := by
  have hr := QAt.nils W
  have HR := Lib.hid hr
  have HB := Lib.hid (box_below W (.cells #[.slice none 0 0, .slice none 0 0] 139))
  have HF := Lib.hid (refuses_any (h.below HB.out).its hl tx m fl)
  rw [he] at HF
  have hx' : (x != 0) = true := by simpa using hx
  clear hr h he hx
  go_enter Tryz.func145, Tryz.ntmps145
  go_wp2_with fail
  refine HF.out.mono ?_
  rintro e w1 ⟨rfl, hb1⟩
  have hr1 := HR.out.below hb1
  have r0 := hr1.e0
  have r1 := hr1.e1
  have f0 := hr1.fz 0
  have f1 := hr1.fz 1
  have HR1 := Lib.hid ((hr1.set0 (Hs.Ls.nils w1)).set1 (Ws.Ls.nils _))
  simp only [List.length_nil] at r0 r1
  have HB1 := Lib.hid (HB.out.trans (hb1.mono HB.out.size))
  clear hb1 hr1 HB HR HF
  go_wp2_with fail
  exact bodyPost_ret (results_asked rfl rfl rfl rfl HR1.out.e0 HR1.out.e1) rfl ⟨rfl, (HB1.out.setCell (p := ⟨W.heap.size, 0, none⟩) (Nat.le_refl _) _).setCell (p := ⟨W.heap.size, 1, none⟩) (Nat.le_refl _) _⟩
end
end Go.Proofs.YtlhhopanegnliaaGreatDoor
