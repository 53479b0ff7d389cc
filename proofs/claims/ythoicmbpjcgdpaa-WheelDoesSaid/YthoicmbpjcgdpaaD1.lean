/- Which alarms go: the two conditions, and the first place at which one holds. -/
import Derived.Test.YthoicmbpjcgdpaaA7
import Derived.Lib.SliceRun
namespace Go.Proofs.Ythoicmbpjcgdpaa
open Go Go.RowKit Go.Shelf

/-- a function value that reads one captured variable and tells of an alarm whether a condition holds -/
def Pred (gf Bc : Nat) (cv : Value) (p : Al → Bool) : Prop :=
  (∀ args w, (callFunc gf args).run Try.prog w = .ok (.enter gf args) w) ∧
  ∀ (W : World) (x : Al), W.cell? ⟨Bc, 0, none⟩ = some cv → Calls Try.prog gf #[alv x, .pointer (some ⟨Bc, 0, none⟩)] W fun e w' => e = .returned (.bool (p x)) ∧ Below W.heap.size W w'
theorem pred_id (Bc : Nat) (id : Int) : Pred 24 Bc (.int .i64 id) (fun x => x.1 == id) := by
  refine ⟨enters_of Try.func24 (by kernel_rfl) rfl, fun W x hc => ?_⟩
  have hlt := cell_lt hc
  go_enter Try.func24, Try.ntmps24
  go_wp2
  go_ret
  exact ⟨rfl, box_below _ _⟩
theorem pred_due (Bc : Nat) (now : Int) : Pred 26 Bc (.int .i64 now) (fun x => decide (x.2 ≤ now)) := by
  refine ⟨enters_of Try.func26 (by kernel_rfl) rfl, fun W x hc => ?_⟩
  have hlt := cell_lt hc
  go_enter Try.func26, Try.ntmps26
  go_wp2
  go_ret
  exact ⟨rfl, box_below _ _⟩

/-- the first place at which it holds; -1 -/
def idxP (p : Al → Bool) : List Al → Int
  | [] => -1
  | x :: xs => if p x then 0 else if idxP p xs = -1 then -1 else idxP p xs + 1
theorem idx_none {p : Al → Bool} {xs : List Al} (h : ∀ x ∈ xs, p x = false) : idxP p xs = -1 := by
  induction xs with
  | nil => rfl
  | cons x xs ih =>
    have h1 := h x (by simp)
    have h2 := ih (fun y hy => h y (by simp [hy]))
    simp [idxP, h1, h2]
theorem idx_some {p : Al → Bool} {pre post : List Al} {x : Al} (h : ∀ y ∈ pre, p y = false) (hx : p x = true) : idxP p (pre ++ x :: post) = pre.length := by
  induction pre with
  | nil => simp [idxP, hx]
  | cons y pre ih =>
    have h1 := h y (by simp)
    have h2 := ih (fun z hz => h z (by simp [hz]))
    have h3 : ¬ ((pre.length : Int) = -1) := by omega
    simp [idxP, h1, h2, h3]

set_option maxRecDepth 100000 in
set_option maxHeartbeats 2000000 in
theorem index_any {gf Bc : Nat} {cv : Value} {p : Al → Bool} {W : World} {base : Nat} {v : Value} {xs : List Al} (hp : Pred gf Bc cv p) (hr : Row W base v xs) (hc : W.cell? ⟨Bc, 0, none⟩ = some cv) :
    Calls Try.prog 32 #[v, .func (.func gf) #[] #[.pointer (some ⟨Bc, 0, none⟩)]] W fun e w' => e = .returned (.int .i64 (idxP p xs)) ∧ Below W.heap.size W w' := by
  obtain ⟨eg, hp⟩ := hp
  have HP := Lib.hid hp
  have HR := Lib.hid hr
  have HC := Lib.hid hc
  have hcl := cell_lt hc
  clear hp hc
  rcases hr.2 with ⟨rfl, hn⟩ | ⟨g, cap, cur, rfl, hgb, hg, hnc, hcm, hcs, hct⟩
  · obtain rfl : xs = [] := List.length_eq_zero_iff.1 hn
    clear hr hn
    go_enter Try.func32, Try.ntmps32
    go_wp2
    go_loop [8] (fun i => i = .int .i64 0) (fun _ => 0)
    case atStart => exact rfl
    case round =>
      subst hrel
      go_wp2
      go_ret
      exact ⟨rfl, Below.refl _ _⟩
  · obtain ⟨n, hn⟩ : ∃ n, xs.length = n := ⟨_, rfl⟩
    rw [hn] at hnc ⊢
    have HN := Lib.hid hn
    have hm : n ≤ 9223372036854775807 := by unfold maxLen at hcm; omega
    have hgl := (Array.getElem?_eq_some_iff.1 hg).1
    clear hr hg hcs hct hgb hcm hn
    go_enter Try.func32, Try.ntmps32
    go_wp2
    go_loopw [8] (fun t wr => ∃ j : Nat, j ≤ n ∧ t = .int .i64 j ∧ (∀ y ∈ xs.take j, p y = false) ∧ Below W.heap.size W wr) (fun t _ => n - (intOf t).toNat)
    case atStart => exact ⟨0, by omega, rfl, by simp, Below.refl _ _⟩
    case round =>
      obtain ⟨j, hj, rfl, hall, hb⟩ := hrel
      have HA := Lib.hid hall
      clear hall
      by_cases hjn : j < n
      · have hjl : j < xs.length := by rw [HN.out]; exact hjn
        have hro : Row wr base (.slice (some ⟨g, 0, none⟩) xs.length cap) xs := HR.out.keep fun g' hg' => hb.block g' (HR.out.lt g' hg').2
        obtain ⟨c1, c2⟩ := row_cells hro hjl
        obtain ⟨x, hx⟩ : ∃ x, xs[j] = x := ⟨_, rfl⟩
        rw [hx] at c1 c2
        obtain ⟨hs1, hs2⟩ := take_split xs hjl
        rw [hx] at hs1 hs2
        have hcc : wr.cell? ⟨Bc, 0, none⟩ = some cv := (hb.cell (p := ⟨Bc, 0, none⟩) hcl).trans HC.out
        have HS1 := Lib.hid hs1
        have HS2 := Lib.hid hs2
        have hcall := Lib.hid (HP.out wr x hcc)
        clear hs1 hs2 hx hro hjl hcc
        cases hpx : p x
        · rw [hpx] at hcall
          have HX := Lib.hid hpx
          clear hpx
          go_wp2_with fail
          refine hcall.out.mono ?_
          rintro e w1 ⟨rfl, hb1⟩
          have HB := Lib.hid (hb.trans (hb1.mono hb.size))
          clear c1 c2 hb1 hcall
          go_wp2_with fail
          go_roundw
          case rel =>
            refine ⟨j + 1, by omega, by go_num, fun y hy => ?_, HB.out⟩
            rw [HS2.out] at hy
            rcases List.mem_append.1 hy with hy | hy
            · exact HA.out y hy
            · rw [List.mem_singleton.1 hy]; exact HX.out
          case measure => simp [intOf]; omega
        · rw [hpx] at hcall
          have HX := Lib.hid hpx
          clear hpx
          go_wp2_with fail
          refine hcall.out.mono ?_
          rintro e w1 ⟨rfl, hb1⟩
          have HB := Lib.hid (hb.trans (hb1.mono hb.size))
          clear c1 c2 hb1 hcall
          go_wp2_with fail
          go_ret
          refine ⟨ret_int ?_, HB.out⟩
          have e1 : idxP p xs = (xs.take j).length := by
            conv => lhs; rw [HS1.out]
            exact idx_some HA.out HX.out
          rw [e1, List.length_take, HN.out]
          omega
      · obtain rfl : j = n := by omega
        go_wp2_with fail
        go_ret
        refine ⟨ret_int ?_, hb⟩
        rw [idx_none]
        intro y hy
        refine HA.out y ?_
        rw [List.take_of_length_le (Nat.le_of_eq HN.out)]
        exact hy
end Go.Proofs.Ythoicmbpjcgdpaa
