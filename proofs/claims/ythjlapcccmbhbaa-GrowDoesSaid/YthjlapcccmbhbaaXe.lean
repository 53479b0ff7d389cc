/- With one lock in the place of those below: the program's answer. -/
import Derived.Test.YthjlapcccmbhbaaXd
import Derived.Test.YthjlapcccmbhbaaWc
namespace Go.Proofs.Ythjlapcccmbhbaa.Lk
open Go Go.RowKit Go.Shelf Pa
set_option maxRecDepth 100000

section
variable {W W' : World} {A : Option Addr} {c : Nat} {xs : List Hd}
set_option maxHeartbeats 2000000 in
theorem with_row (hr : Ls W A c xs) (hl : xs.length ≤ 400) (x : Hd) : Calls Try.prog 44 #[.slice A xs.length c, wv x] W fun e w' => ∃ v, e = .returned v ∧ Row w' (W.heap.size + 1) v (withL xs x) ∧ Below W.heap.size W w' := by
  have hx := Go.Proofs.Ythjlapcccmbhbaa.box_below W (.cells #[.int .i64 x.1.a, .int .i64 x.1.b, .int .i64 x.1.c, .int .i64 x.1.d, .int .i64 x.1.e, .int .i64 x.2] 27)
  have HC := Lib.hid (clone_any (hr.below hx) (by omega))
  have HP := Lib.hid (fun (w1 : World) (hb : Below W.heap.size W w1) => place_any (hr.below hb) (by omega) x.1)
  have HX := Lib.hid hx
  have HB := Lib.hid (LkAt.new W x)
  have hcs := idx_cases (fun y => eqP y.1 x.1) xs
  obtain ⟨n, hn⟩ : ∃ n, xs.length = n := ⟨_, rfl⟩
  have HN := Lib.hid hn
  rw [hn] at HC HP hl ⊢
  clear hr hx
  rcases hcs with ⟨h1, h2⟩ | ⟨k, hk, h1, h2, h3⟩
  · have HW := Lib.hid (with_none h2)
    have h1' : plI xs x.1 = -1 := h1
    simp only [h1'] at HP
    clear h1 h2 h1' hn
    obtain ⟨⟨xa, xb, xc, xd, xe⟩, xm⟩ := x
    simp only at HC HP HX HB
    go_enter Try.func44, Try.ntmps44
    go_wp2_with fail
    refine HC.out.mono ?_
    rintro e1 w1 ⟨v, rfl, hrow, hb1⟩
    have hB1 := HB.out.later hb1
    have HB1 := Lib.hid hB1
    obtain ⟨d0, d1, d2, d3, d4, d5, hlt⟩ := hB1
    have HX1 := Lib.hid (thenCall HX.out hb1)
    have HRow := Lib.hid hrow
    have HS1 := Lib.hid hb1.size
    have HK : Hid (W.heap.size ≤ (W.alloc (.cells #[.int .i64 xa, .int .i64 xb, .int .i64 xc, .int .i64 xd, .int .i64 xe, .int .i64 xm] 27)).heap.size) := HX.out.size
    clear hrow hb1
    go_wp2_with fail
    refine (HP.out _ HX1.out).mono ?_
    rintro e2 w2 ⟨rfl, hb2⟩
    obtain ⟨d0, d1, d2, d3, d4, d5, hlt⟩ := HB1.out.later hb2
    simp only at d0 d1 d2 d3 d4 d5 hlt
    have hb3 := Go.Proofs.Ythjlapcccmbhbaa.box_below w2 (.cells #[.int .i64 xa, .int .i64 xb, .int .i64 xc, .int .i64 xd, .int .i64 xe, .int .i64 xm] 27)
    have hrow3 := row_below (row_below HRow.out hb2) hb3
    have hle3 : (W.alloc (.cells #[.int .i64 xa, .int .i64 xb, .int .i64 xc, .int .i64 xd, .int .i64 xe, .int .i64 xm] 27)).heap.size ≤ (w2.alloc (.cells #[.int .i64 xa, .int .i64 xb, .int .i64 xc, .int .i64 xd, .int .i64 xe, .int .i64 xm] 27)).heap.size := by
      exact Nat.le_trans (Nat.le_trans HS1.out hb2.size) hb3.size
    obtain ⟨v', w9, hrun, hrow9, hg9, -⟩ := Row.app hrow3 (box_ls w2 (⟨xa, xb, xc, xd, xe⟩, xm)) (by simp [HN.out]; omega) hle3 22
    have HB9 := Lib.hid ((thenCall (thenCall HX1.out hb2) hb3).trans ((Row.app_below hrow3 hg9 hle3).mono HK.out))
    have HRow9 := Lib.hid hrow9
    clear hrow3 hrow9 hg9 hle3 hb2 hb3
    go_wp2_with (at_builtin; refine Lib.wpList_append_run _ rfl _ _ _ _ rfl _ _ rfl rfl _ _ hrun ?_)
    go_ret
    rw [HW.out]
    exact ⟨_, rfl, row_base HRow9.out (by simp), HB9.out⟩
  · have HW := Lib.hid (with_some hk h3 h2)
    have h1' : plI xs x.1 = (k : Int) := h1
    simp only [h1'] at HP
    have hkn : (k : Int) < (n : Int) := by omega
    have hk0 : ¬ (k : Int) < 0 := by omega
    have hk1 : (0 : Int) ≤ (k : Int) := by omega
    have HK := Lib.hid hk
    clear h1 h2 h1' hn h3 hk
    obtain ⟨⟨xa, xb, xc, xd, xe⟩, xm⟩ := x
    simp only at HC HP HX HB
    go_enter Try.func44, Try.ntmps44
    go_wp2_with fail
    refine HC.out.mono ?_
    rintro e1 w1 ⟨v, rfl, hrow, hb1⟩
    have hB1 := HB.out.later hb1
    have HB1 := Lib.hid hB1
    obtain ⟨d0, d1, d2, d3, d4, d5, hlt⟩ := hB1
    have HX1 := Lib.hid (thenCall HX.out hb1)
    have HRow := Lib.hid hrow
    clear hrow hb1
    go_wp2_with fail
    refine (HP.out _ HX1.out).mono ?_
    rintro e2 w2 ⟨rfl, hb2⟩
    obtain ⟨d0, d1, d2, d3, d4, d5, hlt⟩ := HB1.out.later hb2
    simp only at d0 d1 d2 d3 d4 d5 hlt
    have hrow2 := row_below HRow.out hb2
    have HX2 := Lib.hid (thenCall HX1.out hb2)
    rcases hrow2.2 with ⟨rfl, hz⟩ | ⟨g, cap, cur, rfl, hbg, hg, -⟩
    · exfalso
      have := HK.out
      omega
    have HRow2 := Lib.hid hrow2
    obtain ⟨q0, q1, q2, q3, q4, q5, f0, f1, f2, f3, f4, f5, hlg⟩ := Row.at hrow2 HK.out
    rw [HN.out]
    clear hg hb2 hrow2
    go_wp2_with fail
    go_ret
    have hp := Row.put HRow2.out rfl HK.out (⟨xa, xb, xc, xd, xe⟩, xm)
    rw [HW.out]
    refine ⟨_, rfl, row_base (base := (W.alloc (.cells #[.int .i64 xa, .int .i64 xb, .int .i64 xc, .int .i64 xd, .int .i64 xe, .int .i64 xm] 27)).heap.size) ?_ (by rw [World.size_alloc]; omega), HX2.out.trans ((put6_only w2 g (k * 6) (⟨xa, xb, xc, xd, xe⟩, xm)).below (fun _ e => by rw [e]; exact Nat.le_trans HX.out.size hbg) HX2.out.size)⟩
    rw [HN.out] at hp
    exact hp
set_option maxHeartbeats 2000000 in
theorem aft_at {T : Nat → Prop} {W : World} {B : Nat} {x : Hd} (hc : LkAt W B x) (hT : ¬ T B) : Prd T W 45 #[.pointer (some ⟨B, 0, none⟩)] (fun k => belB k.1 x.1) := by
  refine ⟨enters_of Try.func45 (by kernel_rfl) rfl, fun W' k ho => ?_⟩
  have HC := Lib.hid (fun w => below_any k.1 x.1 w)
  obtain ⟨r, hr⟩ : ∃ r, belB k.1 x.1 = r := ⟨_, rfl⟩
  simp only [hr] at HC ⊢
  obtain ⟨⟨xa, xb, xc, xd, xe⟩, xm⟩ := x
  obtain ⟨⟨ka, kb, kc, kd, ke⟩, km⟩ := k
  obtain ⟨c0, c1, c2, c3, c4, c5, hl⟩ := hc
  simp only at c0 c1 c2 c3 c4 c5
  have d0 := ho.cell c0 hT
  have d1 := ho.cell c1 hT
  have d2 := ho.cell c2 hT
  have d3 := ho.cell c3 hT
  have d4 := ho.cell c4 hT
  have hlt := cell_lt d0
  simp only at hlt
  have hne : ¬ B = W'.heap.size := Nat.ne_of_lt hlt
  have HX := Lib.hid (Go.Proofs.Ythjlapcccmbhbaa.box_below W' (.cells #[.int .i64 ka, .int .i64 kb, .int .i64 kc, .int .i64 kd, .int .i64 ke, .int .i64 km] 27))
  clear ho c0 c1 c2 c3 c4 c5 hT hr
  go_enter Try.func45, Try.ntmps45
  go_wp2_with fail
  refine (HC.out _).mono ?_
  rintro e1 w1 ⟨rfl, hb1⟩
  have HB := Lib.hid (thenCall HX.out hb1)
  clear hb1 d0 d1 d2 d3 d4
  go_wp2_with fail
  go_ret
  exact ⟨rfl, HB.out⟩
/-- with one lock in the place of those below -/
def aftL (xs : List Hd) (x : Hd) : List Hd := (withL xs x).filter fun k => !(belB k.1 x.1)
theorem aft_len (xs : List Hd) (x : Hd) : (aftL xs x).length ≤ xs.length + 1 := Nat.le_trans (List.length_filter_le _ _) (with_len x xs)
set_option maxHeartbeats 4000000 in
theorem after_any (hr : Ls W A c xs) (hl : xs.length ≤ 400) (x : Hd) : Calls Try.prog 17 #[.slice A xs.length c, wv x] W (Lists W (aftL xs x)) := by
  have hx := Go.Proofs.Ythjlapcccmbhbaa.box_below W (.cells #[.int .i64 x.1.a, .int .i64 x.1.b, .int .i64 x.1.c, .int .i64 x.1.d, .int .i64 x.1.e, .int .i64 x.2] 27)
  have HWi := Lib.hid (with_row (hr.below hx) hl x)
  have HLk := Lib.hid (LkAt.new W x)
  have HX := Lib.hid hx
  have hw1 := with_len x xs
  obtain ⟨n, hn⟩ : ∃ n, xs.length = n := ⟨_, rfl⟩
  rw [hn] at HWi hl hw1 ⊢
  have HL1 : Hid ((withL xs x).length ≤ 5000) := by unfold Hid; omega
  clear hr hx hn hw1
  have HDe := Lib.hid (fun (w1 : World) (v : Value) (hb : Below (W.alloc (.cells #[.int .i64 x.1.a, .int .i64 x.1.b, .int .i64 x.1.c, .int .i64 x.1.d, .int .i64 x.1.e, .int .i64 x.2] 27)).heap.size (W.alloc (.cells #[.int .i64 x.1.a, .int .i64 x.1.b, .int .i64 x.1.c, .int .i64 x.1.d, .int .i64 x.1.e, .int .i64 x.2] 27)) w1) (hrow : Row w1 (W.heap.size + 1) v (withL xs x)) =>
    delete_any (aft_at (T := fun k => v.ownBlock = some k) (HLk.out.later hb) (fun e => by have := (hrow.lt _ e).1; omega)) hrow HL1.out)
  obtain ⟨⟨xa, xb, xc, xd, xe⟩, xm⟩ := x
  simp only at HWi HLk HX HDe
  go_enter Try.func17, Try.ntmps17
  go_wp2_with fail
  refine HWi.out.mono ?_
  rintro e1 w1 ⟨v, rfl, hrow, hb1⟩
  have HD1 := Lib.hid (HDe.out w1 v hb1 (row_base hrow (by rw [World.size_alloc]; omega)))
  have HB1 := Lib.hid (thenCall HX.out hb1)
  have HRow := Lib.hid hrow
  clear hrow hb1
  go_wp2_with fail
  refine HD1.out.mono ?_
  rintro e2 w2 ⟨v', rfl, hrow2, ho2⟩
  obtain ⟨A', c', rfl, hls⟩ := hrow2.ls
  have HLs := Lib.hid hls
  have HB2 := Lib.hid (HB1.out.trans (ho2.below (B := W.heap.size) (fun k e => Nat.le_trans (by rw [World.size_alloc]; omega) (HRow.out.lt k e).1) HB1.out.size))
  clear hrow2 ho2 hls
  go_wp2_with fail
  go_ret
  exact ⟨A', c', rfl, HLs.out, HB2.out⟩
end
end Go.Proofs.Ythjlapcccmbhbaa.Lk
