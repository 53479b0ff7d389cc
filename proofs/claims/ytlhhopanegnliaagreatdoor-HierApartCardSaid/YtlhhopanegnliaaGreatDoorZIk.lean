import Derived.Test.YtlhhopanegnliaaGreatDoorZIf
import Derived.Test.YtlhhopanegnliaaGreatDoorZMLd
namespace Go.Proofs.YtlhhopanegnliaaGreatDoor
open Go Go.RowKit Go.Shelf
set_option maxRecDepth 100000

section
variable {W W' w w' : World} {T U : Nat → Prop} {b m c u t : Nat} {B0 : Lo0} {mr tx : Int} {C C1 : CC}
theorem Ta.rightH (h : Ta W b T m mr c C B0 u t) (hm : m ≤ 1000) (hc : c ≤ 400) (tx : Int) :
    Calls Tryz.prog 14 #[tp b, .int .i64 tx] W (Lk.Tells W (Lk.Rt (heldL C tx))) := by
  have HH := Lib.hid (h.heldH hm hc tx)
  have hl := (h.heldN tx).1
  have HR := Lib.hid (h.ord.1.rt1 tx)
  clear h
  generalize heldL C tx = xs at *
  go_enter Tryz.func14, Tryz.ntmps14
  go_wp2_with fail
  refine HH.out.mono ?_
  rintro e w1 ⟨A1, c1, rfl, hls, hb1, -⟩
  have HB := Lib.hid hb1
  have HBa := Lib.hid (Lk.right_any hls (by omega) fun x hx => Lk.fit_right (HR.out.2 x hx).1)
  clear hls hb1 HH
  go_wp2_with fail
  refine HBa.out.mono ?_
  rintro e w2 ⟨q, rfl, hq, hb2⟩
  have HB2 := Lib.hid (HB.out.trans (hb2.mono HB.out.size))
  have HQ := Lib.hid hq
  clear hb2 hq HBa
  go_wp2_with fail
  go_ret
  exact ⟨q, rfl, HQ.out, HB2.out⟩
end
def Cl (xs : List Lk) : CC := fun q => (hold1 1 (Lk.ofL xs q).toNat, [])
structure Okl (xs : List Lk) : Prop where
  srt : (xs.map (·.1)).Pairwise (fun p q => Pa.lessB p q = true)
  all : ∀ x ∈ xs, Pa.rightB x.1 = true ∧ 1 ≤ x.2 ∧ x.2 ≤ 6
section
variable {xs : List Lk} {l : Lk} {q : Pa.Pt}
theorem Okl.nodup (h : Okl xs) : (xs.map (·.1)).Nodup := by
  unfold List.Nodup
  refine h.srt.imp ?_
  intro a b hab e
  rw [e, Pa.less_self] at hab
  cases hab
theorem Okl.bd (h : Okl xs) (q : Pa.Pt) : Lk.ofL xs q = 0 ∨ 1 ≤ Lk.ofL xs q ∧ Lk.ofL xs q ≤ 6 := by
  by_cases h0 : Lk.ofL xs q = 0
  · exact .inl h0
  · obtain ⟨y, hy, -, e⟩ := Lk.of_mem h0
    rw [← e]
    exact .inr (h.all y hy).2
theorem cl_fst (h : Okl xs) (q : Pa.Pt) : Hs.fst 1 (Cl xs q).1 = Lk.ofL xs q := by
  unfold Cl
  rw [fst_hold1]
  have := h.bd q
  omega
theorem cl_ord (h : Okl xs) : Ord (Cl xs) (xs.map (·.1)) := by
  refine ⟨h.srt, fun p => ?_, fun p hp => ?_, fun p => inv_hold1 (by decide) (by have := h.bd p; omega)⟩
  · have hs : 0 < szC (Cl xs p) ↔ Lk.ofL xs p ≠ 0 := by
      unfold szC Cl hold1
      have := h.bd p
      by_cases h0 : Lk.ofL xs p = 0
      · simp [h0]
      · rw [if_neg (by omega)]
        simp [h0]
    rw [hs, List.mem_map]
    constructor
    · rintro ⟨x, hx, rfl⟩
      rw [Lk.of_own h.nodup hx]
      have := (h.all x hx).2.1
      omega
    · intro h0
      obtain ⟨y, hy, e, -⟩ := Lk.of_mem h0
      exact ⟨y, hy, e⟩
  · obtain ⟨x, hx, rfl⟩ := List.mem_map.1 hp
    exact (h.all x hx).1
theorem locks_self (mo : Pa.Pt → Int) : ∀ {xs : List Lk}, (∀ x ∈ xs, mo x.1 = x.2 ∧ x.2 ≠ 0) → locksOf mo (xs.map (·.1)) = xs
  | [], _ => rfl
  | x :: xs, h => by
    have ih := locks_self mo (xs := xs) fun y hy => h y (List.mem_cons_of_mem _ hy)
    obtain ⟨h1, h2⟩ := h x List.mem_cons_self
    unfold locksOf at *
    rw [List.map_cons, List.filter_cons, if_pos (by simp [h1, h2]), List.map_cons, ih, h1]
theorem cl_held (h : Okl xs) : heldL (Cl xs) 1 = xs := by
  unfold heldL
  rw [(cl_ord h).ps]
  exact locks_self _ fun x hx => ⟨by rw [cl_fst h, Lk.of_own h.nodup hx], by have := (h.all x hx).2.1; omega⟩
theorem of_end : ∀ {xs : List Lk}, (l.1 ≠ q → Lk.ofL (xs ++ [l]) q = Lk.ofL xs q) ∧ ((∀ y ∈ xs, y.1 ≠ q) → Lk.ofL (xs ++ [l]) q = Lk.ofL [l] q)
  | [] => ⟨fun h => by simp only [List.nil_append, Lk.ofL]; rw [if_neg (by simp only [Pa.eqP_ne h]; decide)], fun _ => rfl⟩
  | x :: xs => by
    have ih := of_end (xs := xs)
    refine ⟨fun h => ?_, fun h => ?_⟩
    · rw [List.cons_append, Lk.ofL, Lk.ofL, ih.1 h]
    · rw [List.cons_append, Lk.ofL, if_neg (by simp only [Pa.eqP_ne (h x List.mem_cons_self)]; decide)]
      exact ih.2 fun y hy => h y (List.mem_cons_of_mem _ hy)
theorem cl_up (hn : ∀ y ∈ xs, y.1 ≠ l.1) (h1 : 1 ≤ l.2) : upC (Cl xs) l.1 ([(1, l.2)], []) = Cl (xs ++ [l]) := by
  funext q
  by_cases e : q = l.1
  · subst e
    rw [upC_same]
    unfold Cl
    rw [of_end.2 hn, Lk.ofL, if_pos (Pa.eqP_self _)]
    unfold hold1
    rw [if_neg (by omega), Int.toNat_of_nonneg (by omega)]
  · rw [upC_ne _ _ e]
    unfold Cl
    rw [of_end.1 (Ne.symm e)]
theorem cl_none (hn : ∀ y ∈ xs, y.1 ≠ q) : Cl xs q = ([], []) := by
  have : Lk.ofL xs q = 0 := Lk.of_none fun y hy => Pa.eqP_ne (hn y hy)
  unfold Cl
  rw [this]
  rfl
theorem cl_step {p : Pa.Pt} {md : Int} (h : Okl xs) (hx : nxL xs p md = (l, true, 0)) (hn : ∀ y ∈ xs, y.1 ≠ l.1) (h1 : 1 ≤ l.2) (ha : askT 9 9 xs.length ((xs.map (·.1)).map fun p => szC (Cl xs p)).sum (fun _ => ([], [])) 1 l.1 l.2 0 = (1, 0, [(1, l.2)], [])) :
    stT 9 9 1 p md 0 (Cl xs) = (1, 0, Cl (xs ++ [l])) := by
  have hu : usC (Cl xs) = xs.length := by unfold usC; rw [(cl_ord h).ps, List.length_map]
  have ht : ttC (Cl xs) = ((xs.map (·.1)).map fun p => szC (Cl xs p)).sum := by unfold ttC; rw [(cl_ord h).ps]
  rw [st_ask (by rw [cl_held h]; exact hx), hu, ht, askT_of (cl_none hn), ha]
  simp only
  rw [cl_up hn h1]
end
abbrev e1 : Lk := (⟨1, 0, 0, 0, 1⟩, 1)
abbrev e2 : Lk := (⟨1, 1, 0, 0, 2⟩, 1)
abbrev e3 : Lk := (⟨1, 1, 1, 0, 3⟩, 1)
abbrev e4 : Lk := (⟨1, 1, 1, 1, 4⟩, 3)
theorem okl0 : Okl [] := ⟨by decide, by decide⟩
theorem okl1 : Okl [e1] := ⟨by decide, by decide⟩
theorem okl2 : Okl [e1, e2] := ⟨by decide, by decide⟩
theorem okl3 : Okl [e1, e2, e3] := ⟨by decide, by decide⟩
theorem okl4 : Okl [e1, e2, e3, e4] := ⟨by decide, by decide⟩
theorem go_of {xs ys : List Lk} {p : Pa.Pt} {md : Int} {n n2 : Lk × Bool × Int} (h : Okl xs) (k : Okl ys) (h1 : nxL xs p md = n) (h2 : nxL ys p md = n2) : goOn 1 p md (Cl xs) (1, 0, Cl ys) = (n2.2.1 && !Lk.eqH n2.1 n.1) := by
  unfold goOn
  rw [cl_held h, cl_held k, h1, h2]
  rfl
theorem ex_take : tkT 9 9 1 ⟨1, 1, 1, 1, 4⟩ 3 0 3 (Cl []) = (1, 0, Cl [e1, e2, e3, e4]) := by
  have n0 : nxL [] ⟨1, 1, 1, 1, 4⟩ 3 = (e1, true, 0) := by kernel_rfl
  have n1 : nxL [e1] ⟨1, 1, 1, 1, 4⟩ 3 = (e2, true, 0) := by kernel_rfl
  have n2 : nxL [e1, e2] ⟨1, 1, 1, 1, 4⟩ 3 = (e3, true, 0) := by kernel_rfl
  have n3 : nxL [e1, e2, e3] ⟨1, 1, 1, 1, 4⟩ 3 = (e4, true, 0) := by kernel_rfl
  have s0 : stT 9 9 1 ⟨1, 1, 1, 1, 4⟩ 3 0 (Cl []) = (1, 0, Cl [e1]) := cl_step okl0 n0 (by simp) (by decide) (by kernel_rfl)
  have s1 : stT 9 9 1 ⟨1, 1, 1, 1, 4⟩ 3 0 (Cl [e1]) = (1, 0, Cl [e1, e2]) := cl_step okl1 n1 (by simp) (by decide) (by kernel_rfl)
  have s2 : stT 9 9 1 ⟨1, 1, 1, 1, 4⟩ 3 0 (Cl [e1, e2]) = (1, 0, Cl [e1, e2, e3]) := cl_step okl2 n2 (by simp) (by decide) (by kernel_rfl)
  have s3 : stT 9 9 1 ⟨1, 1, 1, 1, 4⟩ 3 0 (Cl [e1, e2, e3]) = (1, 0, Cl [e1, e2, e3, e4]) := cl_step okl3 n3 (by simp) (by decide) (by kernel_rfl)
  rw [tkT, s0, go_of okl0 okl1 n0 n1, if_pos (by rfl), tkT, s1, go_of okl1 okl2 n1 n2, if_pos (by rfl), tkT, s2, go_of okl2 okl3 n2 n3, if_pos (by rfl), tkT, s3]
theorem ex_right : Lk.Rt [e1, e2, e3, e4] := ⟨⟨okl4.nodup, by decide⟩, by decide⟩
set_option maxHeartbeats 1000000 in
theorem awake_any (w : World) (ht : TabG w) : Calls Tryz.prog 6 #[] w fun e w' => e = .returned (.bool true) ∧ Below w.heap.size w w' := by
  have HT := Lib.hid ht
  have HN := Lib.hid (tnew_any 9 9 w ht.size)
  clear ht
  go_enter Tryz.func6, Tryz.ntmps6
  go_wp2_with fail
  refine HN.out.mono ?_
  rintro e w1 ⟨b, T, rfl, hta, hb1⟩
  have hC : (fun _ => ([], []) : CC) = Cl [] := rfl
  rw [hC, show clamp 9 256 = 9 from rfl, show ((clamp 9 1024 : Nat) : Int) = 9 from rfl] at hta
  have HB1 := Lib.hid hb1
  have HTk := Lib.hid (hta.take (HT.out.later hb1) (by decide) (by decide) 1 ⟨1, 1, 1, 1, 4⟩ 3 0 ex_take)
  have HLo := Lib.hid (fun k (hk : T k) => (hta.lt hk).1)
  clear hta hb1 HN hC
  go_wp2_with fail
  refine HTk.out.mono ?_
  rintro e w2 ⟨rfl, T2, u2, t2, hta2, ho2, -⟩
  have HB2 : Hid (Below w.heap.size w w2) := HB1.out.trans (ho2.below (fun k hk => HLo.out k hk) HB1.out.size)
  have hu : u2 = 4 := by
    rw [← hta2.ord.2.1]
    unfold usC
    rw [(cl_ord okl4).ps]
    rfl
  subst hu
  have HHd := Lib.hid hta2.heads
  have HTa2 := Lib.hid hta2
  clear hta2 ho2 HTk HLo
  have he1 : ((1 : Int) == 1) = true := rfl
  go_wp2_with fail
  refine HHd.out.mono ?_
  rintro e w3 ⟨rfl, hb3⟩
  have HB3 := Lib.hid (HB2.out.trans (hb3.mono HB2.out.size))
  have HRi := Lib.hid ((HTa2.out.below hb3).rightH (by decide) (by decide) 1)
  rw [cl_held okl4] at HRi
  clear hb3 HTa2 HHd
  go_wp2_with fail
  refine HRi.out.mono ?_
  rintro e w4 ⟨q, rfl, hq, hb4⟩
  obtain rfl : q = true := hq.2 ex_right
  have HB4 := Lib.hid (HB3.out.trans (hb4.mono HB3.out.size))
  clear hq hb4 HRi
  go_wp2_with fail
  go_ret
  exact ⟨rfl, HB4.out⟩
end Go.Proofs.YtlhhopanegnliaaGreatDoor
