/- The walk of the law on groups: whatever the two lists are, it returns true and changes nothing that was there. -/
import Derived.Test.YtagbfonmeolnjaaDoorG1
namespace Go.Proofs.YtagbfonmeolnjaaDoor
open Go Go.RowKit

theorem lat_trans : ∀ i, i ≤ 6 → ∀ j, j ≤ 6 → ∀ k, k ≤ 6 → covB i j = true → covB j k = true → covB i k = true := by decide +kernel
theorem lat_zero : ∀ i, i ≤ 6 → supN 0 i = i := by decide +kernel
theorem fold_le (l : List Int) : ∀ a, a ≤ 6 → l.foldl (fun a m => supN a (kn m)) a ≤ 6 := by
  induction l with
  | nil => intro a h; exact h
  | cons x l ih => intro a _; exact ih _ (supN_le _ _)
theorem fold_up (l : List Int) : ∀ a, a ≤ 6 → covB (l.foldl (fun a m => supN a (kn m)) a) a = true := by
  induction l with
  | nil => intro a h; exact lat_refl a h
  | cons x l ih => intro a h; exact lat_trans _ (fold_le l _ (supN_le _ _)) _ (supN_le _ _) _ h (ih _ (supN_le _ _)) (lat_left _ h _ (kn_le x))
theorem fold_all (l : List Int) : ∀ a, a ≤ 6 → ∀ x ∈ l, covB (l.foldl (fun a m => supN a (kn m)) a) (kn x) = true := by
  induction l with
  | nil => intro a _ x hx; cases hx
  | cons y l ih =>
    intro a h x hx
    rcases List.mem_cons.1 hx with rfl | hx
    · exact lat_trans _ (fold_le l _ (supN_le _ _)) _ (supN_le _ _) _ (kn_le x) (fold_up l _ (supN_le _ _)) (lat_right _ h _ (kn_le x))
    · exact ih _ (supN_le _ _) x hx
theorem grp_covers (zs : List Int) (i : Nat) (hi : i < zs.length) : covB (grpN zs) (kn (zs.getD i 0)) = true := by
  refine fold_all zs 0 (by omega) _ ?_
  simp [List.getD, List.getElem?_eq_getElem hi]
theorem fold_sup (l : List Int) : ∀ a, a ≤ 6 → l.foldl (fun a m => supN a (kn m)) a = supN a (grpN l) := by
  induction l with
  | nil => intro a h; show a = supN a 0; rw [lat_comm 0 (by omega) a h]; exact (lat_zero a h).symm
  | cons x l ih =>
    intro a h
    show l.foldl _ (supN a (kn x)) = supN a (l.foldl _ (supN 0 (kn x)))
    rw [ih _ (supN_le _ _), ih _ (supN_le _ _), lat_zero _ (kn_le x)]
    exact (lat_assoc a h _ (kn_le x) _ (grpN_le l)).symm
theorem grp_append (xs ys : List Int) : grpN (xs ++ ys) = supN (grpN xs) (grpN ys) := by
  unfold grpN
  rw [List.foldl_append]
  exact fold_sup ys _ (grpN_le xs)

theorem groups_long (A1 A2 : Option Addr) (n1 c1 n2 c2 : Nat) (w : World) (ht : TabG w) (h : 50 < n1 ∨ 50 < n2) (hm1 : n1 ≤ maxLen) (hm2 : n2 ≤ maxLen) :
    Calls Tryd.prog 6 #[.slice A1 n1 c1, .slice A2 n2 c2] w fun e w' => e = .returned (.bool true) ∧ Below w.heap.size w w' := by
  unfold maxLen at hm1 hm2
  have hb0 : Below w.heap.size w w := Below.refl _ _
  have qa := awake_g ht
  by_cases h1 : 50 < n1
  · clear h
    have h1' : (50 : Int) < (n1 : Int) := by omega
    go_enter Tryd.func6, Tryd.ntmps6
    go_wp2_with (go_at_call 8; refine Gives.use (w0 := w) (by with_reducible assumption) (by assumption) ?_; intro w1 hb1)
    go_ret
    exact ⟨rfl, by assumption⟩
  · have h2 : 50 < n2 := by omega
    clear h
    have h1' : ¬ (50 : Int) < (n1 : Int) := by omega
    have h2' : (50 : Int) < (n2 : Int) := by omega
    go_enter Tryd.func6, Tryd.ntmps6
    go_wp2_with (go_at_call 8; refine Gives.use (w0 := w) (by with_reducible assumption) (by assumption) ?_; intro w1 hb1)
    go_ret
    exact ⟨rfl, by assumption⟩

/-- an append whose run is known, under a guard that is met -/
theorem step_append {P : Program} {ops : Array Oper} {rest : List Oper} {o : Oper} {a : Act} {w : World} {Q : Exit → Act → World → Prop} (hw : Region.wanted o (yielded ops a.tmps) = true) (s x : Operand) (t : TypeId)
    (ho : o.op = .call { callee := .builtin .append, args := #[s, x], argTypes := #[t, t] }) {v v' r : Value} {w' : World} (hs : a.eval s = v) (hx : a.eval x = v')
    (hr : (Builtin.append_ #[t, t] o.type #[v, v']).run P w = .ok r w') (h : wpList P ops Q rest (a.put o.dst r) w') : wpList P ops Q (o :: rest) a w :=
  wpList_step fun K hK => by
    rw [if_pos hw]
    unfold Oper.wp execOp
    simp only [ho, resolve, invoke, builtin, Sem.run_bind, Sem.run_pure, Result.andThen_ok, List.map_toArray, List.map_cons, List.map_nil, hs, hx, hr]
    exact hK _ _ h

/-- the two appends: a list of the call's own, in which both lists stand one behind the other -/
theorem app_two {w w2 : World} {A1 A2 : Option Addr} {n1 c1 n2 c2 : Nat} {xs ys : List Int} {S : Nat} (hb : Below w.heap.size w w2) (i1 : Inp w.heap.size w A1 n1 c1 xs) (i2 : Inp w.heap.size w A2 n2 c2 ys) (h1 : n1 ≤ 50) (h2 : n2 ≤ 50) (hS : grpN (xs ++ ys) = S) :
    ∃ v1 w3 v2 w4, (Builtin.append_ #[35, 35] 35 #[.slice none 0 0, .slice A1 n1 c1]).run Tryd.prog w2 = .ok v1 w3 ∧
      (Builtin.append_ #[35, 35] 35 #[v1, .slice A2 n2 c2]).run Tryd.prog w3 = .ok v2 w4 ∧
      Calls Tryd.prog 27 #[v2] w4 fun e w' => e = .returned (.int .i64 (S : Nat)) ∧ Below w.heap.size w w' := by
  obtain ⟨v1, w3, r1, o1, g1⟩ := app_run (base := w.heap.size) (n := 0) (xs := []) (World.ownsRow_nil w2 _ 3 1) ((i1.later hb).more hb.size) (by omega) hb.size
  have hb3 : Below w.heap.size w w3 := hb.grown g1 hb.size (fun k hk => by cases hk)
  rw [Nat.zero_add, List.nil_append] at o1
  obtain ⟨v2, w4, r2, o2, g2⟩ := app_run o1 ((i2.later hb3).more hb3.size) (by omega) hb3.size
  have hb4 : Below w.heap.size w w4 := hb3.grown g2 hb3.size (fun k hk => (o1.lt k hk).1)
  obtain ⟨A, c, rfl, hin⟩ := own_in o2
  have hg := acc hb4 (group_in hin (by omega))
  rw [hS] at hg
  exact ⟨v1, w3, _, w4, r1, r2, hg⟩

set_option maxRecDepth 100000 in
theorem groups_short (A1 A2 : Option Addr) (n1 c1 n2 c2 : Nat) (xs ys : List Int) (w : World) (ht : TabG w) (h1 : ¬ 50 < n1) (h2 : ¬ 50 < n2) (i1 : Inp w.heap.size w A1 n1 c1 xs) (i2 : Inp w.heap.size w A2 n2 c2 ys) :
    Calls Tryd.prog 6 #[.slice A1 n1 c1, .slice A2 n2 c2] w fun e w' => e = .returned (.bool true) ∧ Below w.heap.size w w' := by
  have hb0 : Below w.heap.size w w := Below.refl _ _
  have qa := awake_g ht
  have h1' : ¬ (50 : Int) < (n1 : Int) := by omega
  have h2' : ¬ (50 : Int) < (n2 : Int) := by omega
  obtain ⟨G, hG⟩ : ∃ G, grpN xs = G := ⟨_, rfl⟩
  obtain ⟨K, hK⟩ : ∃ K, grpN ys = K := ⟨_, rfl⟩
  obtain ⟨S, hS⟩ : ∃ S, supN G K = S := ⟨_, rfl⟩
  have kG : G ≤ 6 := hG ▸ grpN_le _
  have kK : K ≤ 6 := hK ▸ grpN_le _
  have r1 : Gives w 27 #[.slice A1 n1 c1] (.int .i64 (G : Nat)) := group_g i1 (by omega) hG
  have r2 : Gives w 28 #[.slice A1 n1 c1] (.int .i64 (G : Nat)) := rgroup_g i1 (by omega) hG
  have r3 : Gives w 27 #[.slice A2 n2 c2] (.int .i64 (K : Nat)) := group_g i2 (by omega) hK
  have r4 : Gives w 23 #[.int .i64 (G : Nat), .int .i64 (K : Nat)] (.int .i64 (S : Nat)) := sup_g w (by rw [kn_nat kG, kn_nat kK, hS])
  have HC : Hid (∀ i, i < xs.length → Gives w 24 #[.int .i64 (G : Nat), .int .i64 (xs.getD i 0)] (.bool true)) := fun i hi => cov_g w (by rw [kn_nat kG, ← hG]; exact grp_covers xs i hi)
  have HA : Hid (grpN (xs ++ ys) = S) := by unfold Hid; rw [grp_append, hG, hK, hS]
  have I1 := Lib.hid i1
  have I2 := Lib.hid i2
  clear hG hK hS i1 i2
  go_enter Tryd.func6, Tryd.ntmps6
  go_wp2_with ((first | go_at_call 8 | go_at_call 27); refine Gives.use (w0 := w) (by with_reducible assumption) (by assumption) ?_; intro w1 hb1)
  go_loopw [22] (fun i wr => ∃ k : Nat, k ≤ n1 ∧ i = .int .i64 k ∧ Below w.heap.size w wr) (fun i _ => n1 - (intOf i).toNat)
  case atStart => exact ⟨0, by omega, rfl, by assumption⟩
  case round =>
    obtain ⟨k, hk, rfl, hb⟩ := hrel
    by_cases hlt : k < n1
    · obtain ⟨hl, hc⟩ := I1.out
      obtain ⟨ad, hA, hcell⟩ : ∃ ad, A1 = some ad ∧ Cells w.heap.size w ad xs := by
        rcases hc with ⟨_, h0, _⟩ | h
        · omega
        · exact h
      have hx := ((hcell.later hb) k (by omega)).2
      have q := HC.out k (by omega)
      obtain ⟨z, hz⟩ : ∃ z, xs.getD k 0 = z := ⟨_, rfl⟩
      rw [hz] at hx q
      clear hz hcell hc hl I1 I2 HC HA r1 r2 r3
      subst hA
      go_wp2_with (go_at_call 24; refine Gives.use (w0 := w) (by with_reducible assumption) (by assumption) ?_; intro w1 hb1)
      go_roundw
      case rel => exact ⟨k + 1, by omega, by go_num, by assumption⟩
      case measure => simp [intOf]; omega
    · obtain rfl : k = n1 := by omega
      go_wp2_with (first | (go_at_call 28; refine Gives.use (w0 := w) (by with_reducible assumption) (by assumption) ?_; intro w2 hb2; obtain ⟨v1, w3, v2, w4, t1, t2, t3⟩ := app_two hb2 I1.out I2.out (by omega) (by omega) HA.out; have T1 := Lib.hid t1; have T2 := Lib.hid t2; clear t1 t2) | (at_builtin; first | refine step_append rfl _ _ 35 rfl rfl rfl T1.out ?_ | refine step_append rfl _ _ 35 rfl rfl rfl T2.out ?_) | (go_at_call 27; (with_reducible refine t3.mono ?_); rintro e w5 ⟨rfl, hb5⟩) | ((first | go_at_call 27 | go_at_call 23); refine Gives.use (w0 := w) (by with_reducible assumption) (by assumption) ?_; intro w6 hb6))
      go_ret
      exact ⟨rfl, by assumption⟩
theorem groups_walk (A1 A2 : Option Addr) (n1 c1 n2 c2 : Nat) (xs ys : List Int) (w : World) (ht : TabG w) (m1 : n1 ≤ maxLen) (m2 : n2 ≤ maxLen) (i1 : Inp w.heap.size w A1 n1 c1 xs) (i2 : Inp w.heap.size w A2 n2 c2 ys) :
    Calls Tryd.prog 6 #[.slice A1 n1 c1, .slice A2 n2 c2] w fun e w' => e = .returned (.bool true) ∧ Below w.heap.size w w' := by
  by_cases h1 : 50 < n1
  · exact groups_long A1 A2 n1 c1 n2 c2 w ht (Or.inl h1) m1 m2
  · by_cases h2 : 50 < n2
    · exact groups_long A1 A2 n1 c1 n2 c2 w ht (Or.inr h2) m1 m2
    · exact groups_short A1 A2 n1 c1 n2 c2 xs ys w ht h1 h2 i1 i2
end Go.Proofs.YtagbfonmeolnjaaDoor
