/- What a mode lets one do; the mode that is needed above; the first place at which a lock stands; what is held at a node; a list is copied. -/
import Derived.Test.YthjlapcccmbhbaaLa
import Derived.StillTailTactics
import Derived.Laws.FloatArith
namespace Go.Proofs.Ythjlapcccmbhbaa.Lk
open Go Go.RowKit Go.Shelf Pa
set_option maxRecDepth 100000

/-- the mode that is needed above -/
def parN (j : Nat) : Nat := if j = 0 then 0 else if j = 1 ∨ j = 3 then 1 else 2
theorem parent_any (m : Int) (w : World) :
    Calls Try.prog 49 #[.int .i64 m] w fun e w' => e = .returned (.int .i64 (parN (kn m) : Nat)) ∧ Below w.heap.size w w' := by
  have H := Lib.hid (known_any m w)
  have hc := kn_cases m
  obtain ⟨k, hk⟩ : ∃ k, kn m = k := ⟨_, rfl⟩
  rw [hk] at H hc ⊢
  rcases hc with rfl | rfl | rfl | rfl | rfl | rfl | rfl
  all_goals
    go_enter Try.func49, Try.ntmps49
    go_wp2_with fail
    refine H.out.mono ?_
    rintro e w' ⟨rfl, rfl⟩
    go_wp2_with fail
    go_ret
    exact ⟨rfl, Below.refl _ _⟩
theorem conv_is (w : World) : ∀ x, x ≤ 3 → (convert 62 3 (.float .f64 (fb x))).run Try.prog w = .ok (.int .i64 (x : Nat)) w := by
  intro x hx
  refine run_convert_float_int w 62 3 .f64 .i64 _ _ (by rw [Try.underlying62]; rfl) Try.underlying3 ?_
  have h1 : x = 0 ∨ x = 1 ∨ x = 2 ∨ x = 3 := by omega
  rcases h1 with rfl | rfl | rfl | rfl <;> decide +kernel
theorem does_any (m : Int) (w : World) :
    Calls Try.prog 51 #[.int .i64 m] w fun e w' => e = .returned (.int .i64 (reN (kn m) : Nat)) ∧ Below w.heap.size w w' := by
  have H := Lib.hid (at_is m w (kn m) (kn_le m) rfl)
  have hc := fun w => conv_is w (reN (kn m)) (reN_le _)
  go_enter Try.func51, Try.ntmps51
  go_wp2_with fail
  refine H.out.mono ?_
  rintro e w' ⟨rfl, hb⟩
  go_wp2_with fail
  go_ret
  exact ⟨rfl, hb⟩
def plB (m : Int) : Bool := m == 3 || m == 5 || m == 6
/-- a function value that tells of a lock whether a condition holds, in whatever world that is as this one but for these blocks -/
def Prd (T : Nat → Prop) (W : World) (gf : Nat) (cs : Array Value) (p : Hd → Bool) : Prop :=
  (∀ args w, (callFunc gf args).run Try.prog w = .ok (.enter gf args) w) ∧
  ∀ (W' : World) (x : Hd), OnlyS T W W' → Calls Try.prog gf (#[wv x] ++ cs) W' fun e w' => e = .returned (.bool (p x)) ∧ Below W'.heap.size W' w'
theorem prd_at {T : Nat → Prop} {W : World} {B : Nat} {p : Pt} (hc : PtAt W B p) (hT : ¬ T B) : Prd T W 70 #[.pointer (some ⟨B, 0, none⟩)] (fun x => eqP x.1 p) := by
  refine ⟨enters_of Try.func70 (by kernel_rfl) rfl, fun W' x ho => ?_⟩
  obtain ⟨⟨xa, xb, xc, xd, xe⟩, m⟩ := x
  obtain ⟨pa, pb, pc, pd, pe⟩ := p
  obtain ⟨c0, c1, c2, c3, c4, hl⟩ := hc
  simp only at c0 c1 c2 c3 c4
  have d0 := ho.cell c0 hT
  have d1 := ho.cell c1 hT
  have d2 := ho.cell c2 hT
  have d3 := ho.cell c3 hT
  have d4 := ho.cell c4 hT
  have hlt := cell_lt d0
  simp only at hlt
  have hne : ¬ B = W'.heap.size := Nat.ne_of_lt hlt
  clear ho c0 c1 c2 c3 c4 hT
  go_enter Try.func70, Try.ntmps70
  go_wp2_with fail
  go_ret
  exact ⟨rfl, Go.Proofs.Ythjlapcccmbhbaa.box_below _ _⟩
/-- the first place at which it holds; -1 -/
def idxP (p : Hd → Bool) : List Hd → Int
  | [] => -1
  | x :: xs => if p x then 0 else if idxP p xs = -1 then -1 else idxP p xs + 1
theorem idx_none {p : Hd → Bool} {xs : List Hd} (h : ∀ i (h : i < xs.length), p xs[i] = false) : idxP p xs = -1 := by
  induction xs with
  | nil => rfl
  | cons x xs ih =>
    have h1 := h 0 (by simp)
    have h2 := ih (fun i hi => h (i + 1) (by simpa using hi))
    simp at h1
    simp [idxP, h1, h2]
theorem idx_some {p : Hd → Bool} : ∀ {xs : List Hd} {k : Nat} (hk : k < xs.length), (∀ i (h : i < k), p (xs[i]'(by omega)) = false) → p xs[k] = true → idxP p xs = k
  | x :: xs, 0, _, _, hp => by simp at hp; simp [idxP, hp]
  | x :: xs, k + 1, hk, h, hp => by
    have h1 := h 0 (by omega)
    have h2 := idx_some (xs := xs) (k := k) (by simpa using hk) (fun i hi => h (i + 1) (by omega)) hp
    simp at h1
    have h3 : ¬ ((k : Int) = -1) := by omega
    simp [idxP, h1, h2, h3]
theorem idx_cases (p : Hd → Bool) (xs : List Hd) : (idxP p xs = -1 ∧ ∀ x ∈ xs, p x = false) ∨ ∃ (k : Nat) (hk : k < xs.length), idxP p xs = k ∧ p xs[k] = true ∧ ∀ i (h : i < k), p (xs[i]'(by omega)) = false := by
  induction xs with
  | nil => exact .inl ⟨rfl, by simp⟩
  | cons x xs ih =>
    cases hx : p x
    · rcases ih with ⟨h1, h2⟩ | ⟨k, hk, h1, h2, h3⟩
      · exact .inl ⟨by simp [idxP, hx, h1], fun y hy => by
          rcases List.mem_cons.1 hy with rfl | hy
          · exact hx
          · exact h2 y hy⟩
      · refine .inr ⟨k + 1, by simpa using hk, ?_, by simpa using h2, fun i hi => ?_⟩
        · have h4 : ¬ ((k : Int) = -1) := by omega
          simp [idxP, hx, h1, h4]
        · cases i with
          | zero => simpa using hx
          | succ i => simpa using h3 i (by omega)
    · exact .inr ⟨0, by simp, by simp [idxP, hx], by simpa using hx, fun i hi => by omega⟩
section
variable {T : Nat → Prop} {W W' : World} {gf : Nat} {cs : Array Value} {p : Hd → Bool} {A : Option Addr} {c : Nat} {xs : List Hd}
set_option maxHeartbeats 2000000 in
theorem index_any (hp : Prd T W gf cs p) (hr : Ls W A c xs) (hl : xs.length ≤ 5000) :
    Calls Try.prog 66 #[.slice A xs.length c, .func (.func gf) #[] cs] W fun e w' => e = .returned (.int .i64 (idxP p xs)) ∧ Below W.heap.size W w' := by
  obtain ⟨eg, hp⟩ := hp
  have HP := Lib.hid hp
  have HR := Lib.hid hr
  obtain ⟨n, hn⟩ : ∃ n, xs.length = n := ⟨_, rfl⟩
  rw [hn] at hl ⊢
  have HN := Lib.hid hn
  clear hp hr hn
  go_enter Try.func66, Try.ntmps66
  go_wp2
  go_loopw [8] (fun t wr => ∃ j : Nat, j ≤ n ∧ t = .int .i64 j ∧ (∀ i (_ : i < j) (h : i < xs.length), p xs[i] = false) ∧ Below W.heap.size W wr) (fun t _ => n - (intOf t).toNat)
  case atStart => exact ⟨0, by omega, rfl, fun i hi => by omega, Below.refl _ _⟩
  case round =>
    obtain ⟨j, hj, rfl, hall, hb⟩ := hrel
    have HA := Lib.hid hall
    clear hall
    by_cases hjn : j < n
    · have hjl : j < xs.length := by rw [HN.out]; exact hjn
      obtain ⟨a, rfl, hh⟩ := (HR.out.below hb).here hjl
      obtain ⟨c0, c1, c2, c3, c4, c5⟩ := hh
      have hcall := Lib.hid (HP.out wr xs[j] (OnlyS.of_below hb))
      have HB0 := Lib.hid hb
      have hsz := hb.size
      clear hb
      obtain ⟨x, hx⟩ : ∃ x, xs[j] = x := ⟨_, rfl⟩
      have HX := Lib.hid hx
      rw [hx] at c0 c1 c2 c3 c4 c5 hcall
      obtain ⟨q, hq⟩ : ∃ q, p x = q := ⟨_, rfl⟩
      rw [hq] at hcall
      have HQ := Lib.hid hq
      clear hq hx
      cases q
      · go_wp2_with fail
        refine hcall.out.mono ?_
        rintro e w1 ⟨rfl, hb1⟩
        have HB := Lib.hid (HB0.out.trans (hb1.mono HB0.out.size))
        clear c0 c1 c2 c3 c4 c5 hb1 hcall
        go_wp2_with fail
        go_roundw
        case rel =>
          refine ⟨j + 1, by omega, by go_num, fun i hi hi' => ?_, HB.out⟩
          by_cases e : i = j
          · subst e
            rw [HX.out]; exact HQ.out
          · exact HA.out i (by omega) hi'
        case measure => simp [intOf]; omega
      · go_wp2_with fail
        refine hcall.out.mono ?_
        rintro e w1 ⟨rfl, hb1⟩
        have HB := Lib.hid (HB0.out.trans (hb1.mono HB0.out.size))
        clear c0 c1 c2 c3 c4 c5 hb1 hcall
        go_wp2_with fail
        go_ret
        refine ⟨?_, HB.out⟩
        rw [idx_some hjl (fun i hi => HA.out i hi (by omega)) (by rw [HX.out]; exact HQ.out)]
        rfl
    · obtain rfl : j = n := by omega
      go_wp2_with fail
      go_ret
      refine ⟨?_, hb⟩
      rw [idx_none fun i hi => HA.out i (by rw [← HN.out]; exact hi) hi]
      rfl
/-- where the first one at a node stands -/
abbrev plI (xs : List Hd) (p : Pt) : Int := idxP (fun x => eqP x.1 p) xs
/-- what is held at a node -/
def ofL : List Hd → Pt → Int
  | [], _ => 0
  | x :: xs, p => if eqP x.1 p then x.2 else ofL xs p
theorem of_none {p : Pt} : ∀ {xs : List Hd}, (∀ x ∈ xs, eqP x.1 p = false) → ofL xs p = 0
  | [], _ => rfl
  | x :: xs, h => by rw [ofL, h x (by simp), of_none (fun y hy => h y (by simp [hy]))]; simp
theorem of_some {p : Pt} : ∀ {xs : List Hd} {k : Nat} (hk : k < xs.length), (∀ i (h : i < k), eqP (xs[i]'(by omega)).1 p = false) → eqP xs[k].1 p = true → ofL xs p = xs[k].2
  | x :: xs, 0, _, _, hp => by simp at hp; simp [ofL, hp]
  | x :: xs, k + 1, hk, h, hp => by
    have h1 := h 0 (by omega)
    have h2 := of_some (xs := xs) (k := k) (by simpa using hk) (fun i hi => h (i + 1) (by omega)) hp
    simp at h1
    simp [ofL, h1, h2]
theorem place_any (hr : Ls W A c xs) (hl : xs.length ≤ 1000) (q : Pt) :
    Calls Try.prog 52 #[.slice A xs.length c, q.v] W fun e w' => e = .returned (.int .i64 (plI xs q)) ∧ Below W.heap.size W w' := by
  have hx := Go.Proofs.Ythjlapcccmbhbaa.box_below W (.cells #[.int .i64 q.a, .int .i64 q.b, .int .i64 q.c, .int .i64 q.d, .int .i64 q.e] 25)
  have H := Lib.hid (index_any (prd_at (T := fun _ => False) (PtAt.new W q.a q.b q.c q.d q.e) (fun h => h)) (hr.below hx) (by omega))
  have HX := Lib.hid hx
  obtain ⟨a, b, c', d, e⟩ := q
  simp only at H HX hx
  clear hx hr
  go_enter Try.func52, Try.ntmps52
  go_wp2_with fail
  refine H.out.mono ?_
  rintro r w1 ⟨rfl, hb1⟩
  have HB := Lib.hid (HX.out.trans (hb1.mono HX.out.size))
  clear hb1
  go_wp2_with fail
  go_ret
  exact ⟨rfl, HB.out⟩
set_option maxHeartbeats 1000000 in
theorem of_any (hr : Ls W A c xs) (hl : xs.length ≤ 1000) (q : Pt) :
    Calls Try.prog 21 #[.slice A xs.length c, q.v] W fun e w' => e = .returned (.int .i64 (ofL xs q)) ∧ Below W.heap.size W w' := by
  have hx := Go.Proofs.Ythjlapcccmbhbaa.box_below W (.cells #[.int .i64 q.a, .int .i64 q.b, .int .i64 q.c, .int .i64 q.d, .int .i64 q.e] 25)
  have hr1 := hr.below hx
  have H := Lib.hid (place_any hr1 hl q)
  have hp := PtAt.new W q.a q.b q.c q.d q.e
  obtain ⟨c0, c1, c2, c3, c4, hlt⟩ := hp
  have HX := Lib.hid hx
  have HR := Lib.hid hr1
  obtain ⟨n, hn⟩ : ∃ n, xs.length = n := ⟨_, rfl⟩
  rcases idx_cases (fun x => eqP x.1 q) xs with ⟨h1, h2⟩ | ⟨k, hk, h1, h2, h3⟩
  · have HO := Lib.hid (of_none h2)
    have h1' : plI xs q = -1 := h1
    rw [h1'] at H
    rw [HO.out]
    obtain ⟨a, b, c', d, e⟩ := q
    simp only at H HX hx c0 c1 c2 c3 c4
    clear hx hr hr1 h1 h2 HR h1'
    rw [hn] at H ⊢
    clear hn
    go_enter Try.func21, Try.ntmps21
    go_wp2_with fail
    refine H.out.mono ?_
    rintro r w1 ⟨rfl, hb1⟩
    have HB := Lib.hid (HX.out.trans (hb1.mono HX.out.size))
    clear hb1
    go_wp2_with fail
    go_ret
    exact ⟨rfl, HB.out⟩
  · obtain ⟨m, hm⟩ : ∃ m, xs[k].2 = m := ⟨_, rfl⟩
    have HO := Lib.hid ((of_some hk h3 h2).trans hm)
    have HM := Lib.hid hm
    clear hm
    have h1' : plI xs q = (k : Int) := h1
    rw [h1'] at H
    rw [HO.out]
    obtain ⟨a, b, c', d, e⟩ := q
    simp only at H HX hx c0 c1 c2 c3 c4
    have hk' : k < n := by omega
    have hl' : n ≤ 1000 := by omega
    clear hx hr hr1 h1 h2 h3 h1'
    rw [hn] at H ⊢
    have HN := Lib.hid hn
    clear hn
    have hk0 : ¬ (k : Int) < 0 := by omega
    go_enter Try.func21, Try.ntmps21
    go_wp2_with fail
    refine H.out.mono ?_
    rintro r w1 ⟨rfl, hb1⟩
    obtain ⟨a', rfl, hh⟩ := (HR.out.below hb1).here hk
    have HB := Lib.hid (HX.out.trans (hb1.mono HX.out.size))
    clear hb1 c0 c1 c2 c3 c4
    obtain ⟨_, _, _, _, _, c5⟩ := hh
    rw [HM.out] at c5
    go_wp2_with fail
    go_ret
    exact ⟨rfl, HB.out⟩
@[go_sem] theorem eql22_none (w : World) (n c : Nat) : (binOp .eql 22 (.slice none n c) (.slice none 0 0)).run Try.prog w = .ok (.bool true) w := Lib.run_eql_slice_nil w 22 27 none n c 0 0 Try.underlying22
@[go_sem] theorem eql22_some (w : World) (a : Addr) (n c : Nat) : (binOp .eql 22 (.slice (some a) n c) (.slice none 0 0)).run Try.prog w = .ok (.bool false) w := Lib.run_eql_slice_nil w 22 27 (some a) n c 0 0 Try.underlying22
theorem clone_any (hr : Ls W A c xs) (hl : xs.length ≤ 500) : Calls Try.prog 58 #[.slice A xs.length c] W fun e w' => ∃ v, e = .returned v ∧ Row w' W.heap.size v xs ∧ Below W.heap.size W w' := by
  cases A with
  | none =>
    have := hr.empty; subst this
    have hc := hr.nil rfl
    subst hc
    clear hr
    go_enter Try.func58, Try.ntmps58
    go_wp2
    go_ret
    exact ⟨_, rfl, World.ownsRow_nil _ _ _ _, Below.refl _ _⟩
  | some a =>
    have h0 : Row (W.alloc (.cells #[] 27)) W.heap.size (.slice (some ⟨W.heap.size, 0, none⟩) 0 0) [] :=
      ⟨rfl, .inr ⟨W.heap.size, 0, #[], rfl, Nat.le_refl _, heap_alloc_new W _, Nat.le_refl _, Nat.zero_le _, rfl, rfl⟩⟩
    have hx := Go.Proofs.Ythjlapcccmbhbaa.box_below W (.cells #[] 27)
    obtain ⟨v', w', hrun, hrow, hg, -⟩ := h0.app (hr.below hx) (by simp; omega) hx.size 22
    have HR := Lib.hid hrow
    have HB := Lib.hid (hx.trans (h0.app_below hg hx.size))
    simp only [List.nil_append] at HR
    generalize xs.length = n at *
    clear hr h0 hx hrow hg
    go_enter Try.func58, Try.ntmps58
    go_wp2_with (at_builtin; refine Lib.wpList_append_run _ rfl _ _ _ _ rfl _ _ rfl rfl _ _ hrun ?_)
    go_ret
    exact ⟨_, rfl, HR.out, HB.out⟩
end
end Go.Proofs.Ythjlapcccmbhbaa.Lk
