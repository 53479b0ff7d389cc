/- The document's answers: who gives way, who is chosen; two lists of edges held against each other. -/
import Derived.Test.YtggmnjnigmbooaaVd
import Derived.Test.YtggmnjnigmbooaaVf
namespace Go.Proofs.Ytggmnjnigmbooaa
open Go Go.RowKit Go.Shelf
set_option maxRecDepth 100000

theorem rjudge_any (p a b : Int) (w : World) : Calls Try.prog 12 #[.int .i64 p, .int .i64 a, .int .i64 b] w fun e w' => e = .returned (.int .i64 (judge p a b)) ∧ w' = w := by
  unfold judge
  by_cases h1 : p = 1
  · subst h1
    by_cases h2 : b < a
    · rw [if_pos rfl, if_pos h2]
      go_enter Try.func12, Try.ntmps12
      go_wp2
      go_ret
      exact ⟨rfl, rfl⟩
    · rw [if_pos rfl, if_neg h2]
      go_enter Try.func12, Try.ntmps12
      go_wp2
      go_ret
      exact ⟨rfl, rfl⟩
  · rw [if_neg h1]
    by_cases h2 : p = 2
    · subst h2
      by_cases h3 : a < b
      · rw [if_pos rfl, if_pos h3]
        go_enter Try.func12, Try.ntmps12
        go_wp2
        go_ret
        exact ⟨rfl, rfl⟩
      · rw [if_pos rfl, if_neg h3]
        go_enter Try.func12, Try.ntmps12
        go_wp2
        go_ret
        exact ⟨rfl, rfl⟩
    · rw [if_neg h2]
      go_enter Try.func12, Try.ntmps12
      go_wp2
      go_ret
      exact ⟨rfl, rfl⟩
section
variable {W W' : World} {A1 A2 : Option Addr} {c1 c2 : Nat} {xs : List Es.Ed}
set_option maxHeartbeats 1000000 in
theorem Es.same_any (h1 : Es.Ls W A1 c1 xs) (h2 : Es.Ls W A2 c2 xs) (hl : xs.length ≤ 1000000) : Calls Try.prog 13 #[.slice A1 xs.length c1, .slice A2 xs.length c2] W fun e w' => e = .returned (.bool true) ∧ Below W.heap.size W w' := by
  have H1 := Lib.hid h1
  have H2 := Lib.hid h2
  clear h1 h2
  obtain ⟨n, hn⟩ : ∃ n, xs.length = n := ⟨_, rfl⟩
  rw [hn] at hl ⊢
  have HN := Lib.hid hn
  clear hn
  go_enter Try.func13, Try.ntmps13
  go_wp2
  go_loopw [13] (fun t wr => ∃ k : Nat, k ≤ n ∧ t = .int .i64 k ∧ ∃ j, wr = W.drewN j) (fun t _ => n - (intOf t).toNat)
  case atStart => exact ⟨0, by omega, rfl, 0, rfl⟩
  case round =>
    obtain ⟨k, hk, rfl, j, rfl⟩ := hrel
    by_cases hlt : k < n
    · have hlt' : k < xs.length := by rw [HN.out]; exact hlt
      obtain ⟨g1, rfl, e1⟩ := (H1.out.drewN j).here hlt'
      obtain ⟨g2, rfl, e2⟩ := (H2.out.drewN j).here hlt'
      generalize xs[k] = x at e1 e2
      obtain ⟨t, m⟩ := x
      obtain ⟨a0, a1⟩ := e1
      obtain ⟨b0, b1⟩ := e2
      simp only at a0 a1 b0 b1
      have heq := Es.eqE_self (t, m)
      generalize hX : W.drewN j = X at a0 a1 b0 b1 ⊢
      have HX := Lib.hid hX
      clear hX hlt'
      go_wp2
      go_quiet (fail)
      have HE := Lib.hid (show X.drewN nq = W.drewN (j + nq) by rw [← HX.out]; simp [World.drewN]; omega)
      generalize X.drewN nq = Y at HE ⊢
      clear a0 a1 b0 b1
      go_wp2
      go_roundw
      case rel => exact ⟨k + 1, by omega, by go_num, j + nq, HE.out⟩
      case measure => simp [intOf]; omega
    · obtain rfl : k = n := by omega
      go_wp2
      go_ret
      exact ⟨rfl, drew_below W j⟩
end
section
variable {W : World} {A A2 : Option Addr} {c c2 : Nat} {st lk : List Int}
set_option maxHeartbeats 8000000 in
theorem ryoungest_any (hs : Is.Ls W A c st) (hk : Is.Ls W A2 c2 lk) : Calls Try.prog 10 #[.slice A st.length c, .slice A2 lk.length c2, .int .i64 0] W fun e w' => e = .returned (.int .i64 (chS st ([] : List Int) st.length)) ∧ ∃ j, w' = W.drewN j := by
  have HS := Lib.hid hs
  have HK := Lib.hid hk
  have hroom := hs.room
  have hcap := hs.cap
  have hroom2 := hk.room
  have hcap2 := hk.cap
  unfold maxLen at hroom hroom2
  obtain ⟨n2, hn2⟩ : ∃ n, lk.length = n := ⟨_, rfl⟩
  obtain ⟨n, hn⟩ : ∃ n, st.length = n := ⟨_, rfl⟩
  have HN := Lib.hid hn
  have HN2 := Lib.hid hn2
  rw [hn] at hcap ⊢
  rw [hn2] at hcap2 ⊢
  clear hs hn hk hn2
  go_enter Try.func10, Try.ntmps10
  go_wp2_with fail
  go_loopw [7, 13] (fun u t wr => ∃ k : Nat, k ≤ n ∧ t = .int .i64 k ∧ u = .int .i64 (chS st ([] : List Int) k) ∧ ∃ j, wr = W.drewN j) (fun _ t _ => n - (intOf t).toNat)
  case atStart => exact ⟨0, by omega, rfl, rfl, 0, rfl⟩
  case round =>
    obtain ⟨k, hk, rfl, rfl, j, rfl⟩ := hrel
    by_cases hkn : k < n
    · have hks : k < st.length := by rw [HN.out]; exact hkn
      obtain ⟨a, ha, z0⟩ := (HS.out.drewN j).here hks
      subst ha
      have hcl := chS_lt st ([] : List Int) k
      obtain ⟨b, hb⟩ : ∃ b, chS st ([] : List Int) k = b := ⟨_, rfl⟩
      have hsk := atL_at hks
      obtain ⟨s, hs⟩ : ∃ x, st[k] = x := ⟨_, rfl⟩
      rw [hs] at z0 hsk
      rw [hb] at hcl
      by_cases hb0 : b < 0
      · have hz := Lib.hid (show chS st ([] : List Int) (k + 1) = k from chS_yes (.inl (hb ▸ hb0)))
        rw [hb]
        obtain ⟨hc1, hc2, -⟩ := hcl
        obtain rfl : b = -1 := by omega
        clear hb hs hsk hc1 hc2 hb0
        go_wp2_with fail
        go_roundw
        case rel => exact ⟨k + 1, by omega, by go_num, by rw [hz.out], j, rfl⟩
        case measure => simp [intOf]; omega
      · obtain ⟨hc1, hc2, -⟩ := hcl
        obtain ⟨m, rfl⟩ : ∃ m : Nat, b = (m : Int) := ⟨b.toNat, by omega⟩
        have hmk : m < k := by omega
        have hms : m < st.length := by omega
        obtain ⟨a1, ha1, z1⟩ := (HS.out.drewN j).here hms
        obtain rfl : a = a1 := by simpa using ha1
        have hsm := atL_at hms
        obtain ⟨r, hr⟩ : ∃ x, st[m] = x := ⟨_, rfl⟩
        rw [hr] at z1 hsm
        have e0 : ∀ i, atL [] i = 0 := fun i => by
          by_cases h : i < 0
          · exact atL_neg h
          · exact atL_off (by simpa using h)
        
        have hno : ¬ (r < s) → chS st ([] : List Int) (k + 1) = m := fun h => by
          rw [← hb]
          exact chS_no (by
            rw [hb, e0, e0, hsm, hsk]
            rintro (q | q | q)
            · omega
            · omega
            · exact h q.2)
        have hyes : (r < s) → chS st ([] : List Int) (k + 1) = k := fun h => chS_yes (.inr (.inr (by rw [hb, e0, e0, hsm, hsk]; exact ⟨rfl, h⟩)))
        rw [hb]
        clear hr ha1 hms hc1 hc2 hb0 hb hs hsk hsm e0
        generalize hX : W.drewN j = X at z0 z1 ⊢
        have HX := Lib.hid hX
        clear hX
        by_cases d0 : k < n2
        · obtain ⟨a2, ha2, y0⟩ := (HK.out.drewN j).here (i := k) (by rw [HN2.out]; exact d0)
          subst ha2
          rw [HX.out] at y0
          obtain ⟨u, hu⟩ : ∃ x, lk[k]'(by rw [HN2.out]; exact d0) = x := ⟨_, rfl⟩
          rw [hu] at y0
          have d1 : m < n2 := by omega
          obtain ⟨a3, ha3, y1⟩ := (HK.out.drewN j).here (i := m) (by rw [HN2.out]; exact d1)
          obtain rfl : a2 = a3 := by simpa using ha3
          rw [HX.out] at y1
          obtain ⟨v, hv⟩ : ∃ x, lk[m]'(by rw [HN2.out]; exact d1) = x := ⟨_, rfl⟩
          rw [hv] at y1
          clear hu hv ha3
          by_cases h3 : r < s
          · have hz := Lib.hid (hyes h3)
            clear hno hyes
            go_wp2_with fail
            go_quiet (fail)
            have HE := Lib.hid (show X.drewN nq = W.drewN (j + nq) by rw [← HX.out]; simp [World.drewN]; omega)
            generalize X.drewN nq = Y at HE ⊢
            clear z0 z1
            go_wp2_with fail
            go_roundw
            case rel => exact ⟨k + 1, by omega, by go_num, by rw [hz.out], j + nq, HE.out⟩
            case measure => simp [intOf]; omega
          · have hz := Lib.hid (hno h3)
            clear hno hyes
            go_wp2_with fail
            go_quiet (fail)
            have HE := Lib.hid (show X.drewN nq = W.drewN (j + nq) by rw [← HX.out]; simp [World.drewN]; omega)
            generalize X.drewN nq = Y at HE ⊢
            clear z0 z1
            go_wp2_with fail
            go_roundw
            case rel => exact ⟨k + 1, by omega, by go_num, by rw [hz.out], j + nq, HE.out⟩
            case measure => simp [intOf]; omega
        · by_cases d1 : m < n2
          · obtain ⟨a3, ha3, y1⟩ := (HK.out.drewN j).here (i := m) (by rw [HN2.out]; exact d1)
            subst ha3
            rw [HX.out] at y1
            obtain ⟨v, hv⟩ : ∃ x, lk[m]'(by rw [HN2.out]; exact d1) = x := ⟨_, rfl⟩
            rw [hv] at y1
            clear hv
            by_cases h3 : r < s
            · have hz := Lib.hid (hyes h3)
              clear hno hyes
              go_wp2_with fail
              go_quiet (fail)
              have HE := Lib.hid (show X.drewN nq = W.drewN (j + nq) by rw [← HX.out]; simp [World.drewN]; omega)
              generalize X.drewN nq = Y at HE ⊢
              clear z0 z1
              go_wp2_with fail
              go_roundw
              case rel => exact ⟨k + 1, by omega, by go_num, by rw [hz.out], j + nq, HE.out⟩
              case measure => simp [intOf]; omega
            · have hz := Lib.hid (hno h3)
              clear hno hyes
              go_wp2_with fail
              go_quiet (fail)
              have HE := Lib.hid (show X.drewN nq = W.drewN (j + nq) by rw [← HX.out]; simp [World.drewN]; omega)
              generalize X.drewN nq = Y at HE ⊢
              clear z0 z1
              go_wp2_with fail
              go_roundw
              case rel => exact ⟨k + 1, by omega, by go_num, by rw [hz.out], j + nq, HE.out⟩
              case measure => simp [intOf]; omega
          · by_cases h3 : r < s
            · have hz := Lib.hid (hyes h3)
              clear hno hyes
              go_wp2_with fail
              go_quiet (fail)
              have HE := Lib.hid (show X.drewN nq = W.drewN (j + nq) by rw [← HX.out]; simp [World.drewN]; omega)
              generalize X.drewN nq = Y at HE ⊢
              clear z0 z1
              go_wp2_with fail
              go_roundw
              case rel => exact ⟨k + 1, by omega, by go_num, by rw [hz.out], j + nq, HE.out⟩
              case measure => simp [intOf]; omega
            · have hz := Lib.hid (hno h3)
              clear hno hyes
              go_wp2_with fail
              go_quiet (fail)
              have HE := Lib.hid (show X.drewN nq = W.drewN (j + nq) by rw [← HX.out]; simp [World.drewN]; omega)
              generalize X.drewN nq = Y at HE ⊢
              clear z0 z1
              go_wp2_with fail
              go_roundw
              case rel => exact ⟨k + 1, by omega, by go_num, by rw [hz.out], j + nq, HE.out⟩
              case measure => simp [intOf]; omega
    · obtain rfl : k = n := by omega
      go_wp2_with fail
      go_ret
      exact ⟨rfl, j, rfl⟩
set_option maxHeartbeats 8000000 in
theorem rfewest_any (hs : Is.Ls W A c st) (hk : Is.Ls W A2 c2 lk) : Calls Try.prog 10 #[.slice A st.length c, .slice A2 lk.length c2, .int .i64 1] W fun e w' => e = .returned (.int .i64 (chS st lk st.length)) ∧ ∃ j, w' = W.drewN j := by
  have HS := Lib.hid hs
  have HK := Lib.hid hk
  have hroom := hs.room
  have hcap := hs.cap
  have hroom2 := hk.room
  have hcap2 := hk.cap
  unfold maxLen at hroom hroom2
  obtain ⟨n2, hn2⟩ : ∃ n, lk.length = n := ⟨_, rfl⟩
  obtain ⟨n, hn⟩ : ∃ n, st.length = n := ⟨_, rfl⟩
  have HN := Lib.hid hn
  have HN2 := Lib.hid hn2
  rw [hn] at hcap ⊢
  rw [hn2] at hcap2 ⊢
  clear hs hn hk hn2
  go_enter Try.func10, Try.ntmps10
  go_wp2_with fail
  go_loopw [7, 13] (fun u t wr => ∃ k : Nat, k ≤ n ∧ t = .int .i64 k ∧ u = .int .i64 (chS st lk k) ∧ ∃ j, wr = W.drewN j) (fun _ t _ => n - (intOf t).toNat)
  case atStart => exact ⟨0, by omega, rfl, rfl, 0, rfl⟩
  case round =>
    obtain ⟨k, hk, rfl, rfl, j, rfl⟩ := hrel
    by_cases hkn : k < n
    · have hks : k < st.length := by rw [HN.out]; exact hkn
      obtain ⟨a, ha, z0⟩ := (HS.out.drewN j).here hks
      subst ha
      have hcl := chS_lt st lk k
      obtain ⟨b, hb⟩ : ∃ b, chS st lk k = b := ⟨_, rfl⟩
      have hsk := atL_at hks
      obtain ⟨s, hs⟩ : ∃ x, st[k] = x := ⟨_, rfl⟩
      rw [hs] at z0 hsk
      rw [hb] at hcl
      by_cases hb0 : b < 0
      · have hz := Lib.hid (show chS st lk (k + 1) = k from chS_yes (.inl (hb ▸ hb0)))
        rw [hb]
        obtain ⟨hc1, hc2, -⟩ := hcl
        obtain rfl : b = -1 := by omega
        clear hb hs hsk hc1 hc2 hb0
        go_wp2_with fail
        go_roundw
        case rel => exact ⟨k + 1, by omega, by go_num, by rw [hz.out], j, rfl⟩
        case measure => simp [intOf]; omega
      · obtain ⟨hc1, hc2, -⟩ := hcl
        obtain ⟨m, rfl⟩ : ∃ m : Nat, b = (m : Int) := ⟨b.toNat, by omega⟩
        have hmk : m < k := by omega
        have hms : m < st.length := by omega
        obtain ⟨a1, ha1, z1⟩ := (HS.out.drewN j).here hms
        obtain rfl : a = a1 := by simpa using ha1
        have hsm := atL_at hms
        obtain ⟨r, hr⟩ : ∃ x, st[m] = x := ⟨_, rfl⟩
        rw [hr] at z1 hsm
        obtain ⟨few, hfew⟩ : ∃ x, atL lk (k : Int) = x := ⟨_, rfl⟩
        obtain ⟨old, hold⟩ : ∃ x, atL lk (m : Int) = x := ⟨_, rfl⟩
        have hno : ¬ (few < old ∨ few = old ∧ r < s) → chS st lk (k + 1) = m := fun h => by
          rw [← hb]
          exact chS_no (by
            rw [hb, hfew, hold, hsm, hsk]
            rintro (q | q)
            · omega
            · exact h q)
        have hyes : (few < old ∨ few = old ∧ r < s) → chS st lk (k + 1) = k := fun h => chS_yes (.inr (by rw [hb, hfew, hold, hsm, hsk]; exact h))
        rw [hb]
        clear hr ha1 hms hc1 hc2 hb0 hb hs hsk hsm
        generalize hX : W.drewN j = X at z0 z1 ⊢
        have HX := Lib.hid hX
        clear hX
        by_cases d0 : k < n2
        · have d0' : k < lk.length := by rw [HN2.out]; exact d0
          obtain ⟨a2, ha2, y0⟩ := (HK.out.drewN j).here (i := k) d0'
          subst ha2
          rw [← atL_at d0', hfew, HX.out] at y0
          have d1 : m < n2 := by omega
          have d1' : m < lk.length := by rw [HN2.out]; exact d1
          obtain ⟨a3, ha3, y1⟩ := (HK.out.drewN j).here (i := m) d1'
          obtain rfl : a2 = a3 := by simpa using ha3
          rw [← atL_at d1', hold, HX.out] at y1
          clear ha3 hfew hold d0' d1'
          by_cases h1 : few < old
          · have hz := Lib.hid (hyes (.inl h1))
            clear hno hyes
            go_wp2_with fail
            go_quiet (fail)
            have HE := Lib.hid (show X.drewN nq = W.drewN (j + nq) by rw [← HX.out]; simp [World.drewN]; omega)
            generalize X.drewN nq = Y at HE ⊢
            clear z0 z1
            go_wp2_with fail
            go_roundw
            case rel => exact ⟨k + 1, by omega, by go_num, by rw [hz.out], j + nq, HE.out⟩
            case measure => simp [intOf]; omega
          by_cases h2 : few = old
          · subst h2
            by_cases h3 : r < s
            · have hz := Lib.hid (hyes (.inr ⟨rfl, h3⟩))
              clear hno hyes
              go_wp2_with fail
              go_quiet (fail)
              have HE := Lib.hid (show X.drewN nq = W.drewN (j + nq) by rw [← HX.out]; simp [World.drewN]; omega)
              generalize X.drewN nq = Y at HE ⊢
              clear z0 z1
              go_wp2_with fail
              go_roundw
              case rel => exact ⟨k + 1, by omega, by go_num, by rw [hz.out], j + nq, HE.out⟩
              case measure => simp [intOf]; omega
            · have hz := Lib.hid (hno (by omega))
              clear hno hyes
              go_wp2_with fail
              go_quiet (fail)
              have HE := Lib.hid (show X.drewN nq = W.drewN (j + nq) by rw [← HX.out]; simp [World.drewN]; omega)
              generalize X.drewN nq = Y at HE ⊢
              clear z0 z1
              go_wp2_with fail
              go_roundw
              case rel => exact ⟨k + 1, by omega, by go_num, by rw [hz.out], j + nq, HE.out⟩
              case measure => simp [intOf]; omega
          · have hz := Lib.hid (hno (by omega))
            clear hno hyes
            go_wp2_with fail
            go_quiet (fail)
            have HE := Lib.hid (show X.drewN nq = W.drewN (j + nq) by rw [← HX.out]; simp [World.drewN]; omega)
            generalize X.drewN nq = Y at HE ⊢
            clear z0 z1
            go_wp2_with fail
            go_roundw
            case rel => exact ⟨k + 1, by omega, by go_num, by rw [hz.out], j + nq, HE.out⟩
            case measure => simp [intOf]; omega
        · have e0 : few = 0 := by rw [← hfew]; exact atL_off (by have := HN2.out; omega)
          clear hfew
          subst e0
          by_cases d1 : m < n2
          · have d1' : m < lk.length := by rw [HN2.out]; exact d1
            obtain ⟨a3, ha3, y1⟩ := (HK.out.drewN j).here (i := m) d1'
            subst ha3
            rw [← atL_at d1', hold, HX.out] at y1
            clear hold d1'
            by_cases h1 : 0 < old
            · have hz := Lib.hid (hyes (.inl h1))
              clear hno hyes
              go_wp2_with fail
              go_quiet (fail)
              have HE := Lib.hid (show X.drewN nq = W.drewN (j + nq) by rw [← HX.out]; simp [World.drewN]; omega)
              generalize X.drewN nq = Y at HE ⊢
              clear z0 z1
              go_wp2_with fail
              go_roundw
              case rel => exact ⟨k + 1, by omega, by go_num, by rw [hz.out], j + nq, HE.out⟩
              case measure => simp [intOf]; omega
            by_cases h2 : 0 = old
            · subst h2
              by_cases h3 : r < s
              · have hz := Lib.hid (hyes (.inr ⟨rfl, h3⟩))
                clear hno hyes
                go_wp2_with fail
                go_quiet (fail)
                have HE := Lib.hid (show X.drewN nq = W.drewN (j + nq) by rw [← HX.out]; simp [World.drewN]; omega)
                generalize X.drewN nq = Y at HE ⊢
                clear z0 z1
                go_wp2_with fail
                go_roundw
                case rel => exact ⟨k + 1, by omega, by go_num, by rw [hz.out], j + nq, HE.out⟩
                case measure => simp [intOf]; omega
              · have hz := Lib.hid (hno (by omega))
                clear hno hyes
                go_wp2_with fail
                go_quiet (fail)
                have HE := Lib.hid (show X.drewN nq = W.drewN (j + nq) by rw [← HX.out]; simp [World.drewN]; omega)
                generalize X.drewN nq = Y at HE ⊢
                clear z0 z1
                go_wp2_with fail
                go_roundw
                case rel => exact ⟨k + 1, by omega, by go_num, by rw [hz.out], j + nq, HE.out⟩
                case measure => simp [intOf]; omega
            · have hz := Lib.hid (hno (by omega))
              clear hno hyes
              go_wp2_with fail
              go_quiet (fail)
              have HE := Lib.hid (show X.drewN nq = W.drewN (j + nq) by rw [← HX.out]; simp [World.drewN]; omega)
              generalize X.drewN nq = Y at HE ⊢
              clear z0 z1
              go_wp2_with fail
              go_roundw
              case rel => exact ⟨k + 1, by omega, by go_num, by rw [hz.out], j + nq, HE.out⟩
              case measure => simp [intOf]; omega
          · have e1 : old = 0 := by rw [← hold]; exact atL_off (by have := HN2.out; omega)
            clear hold
            subst e1
            by_cases h3 : r < s
            · have hz := Lib.hid (hyes (.inr ⟨rfl, h3⟩))
              clear hno hyes
              go_wp2_with fail
              go_quiet (fail)
              have HE := Lib.hid (show X.drewN nq = W.drewN (j + nq) by rw [← HX.out]; simp [World.drewN]; omega)
              generalize X.drewN nq = Y at HE ⊢
              clear z0 z1
              go_wp2_with fail
              go_roundw
              case rel => exact ⟨k + 1, by omega, by go_num, by rw [hz.out], j + nq, HE.out⟩
              case measure => simp [intOf]; omega
            · have hz := Lib.hid (hno (by omega))
              clear hno hyes
              go_wp2_with fail
              go_quiet (fail)
              have HE := Lib.hid (show X.drewN nq = W.drewN (j + nq) by rw [← HX.out]; simp [World.drewN]; omega)
              generalize X.drewN nq = Y at HE ⊢
              clear z0 z1
              go_wp2_with fail
              go_roundw
              case rel => exact ⟨k + 1, by omega, by go_num, by rw [hz.out], j + nq, HE.out⟩
              case measure => simp [intOf]; omega
    · obtain rfl : k = n := by omega
      go_wp2_with fail
      go_ret
      exact ⟨rfl, j, rfl⟩
theorem rchoose_any (hs : Is.Ls W A c st) (hk : Is.Ls W A2 c2 lk) (how : Int) : Calls Try.prog 10 #[.slice A st.length c, .slice A2 lk.length c2, .int .i64 how] W fun e w' => e = .returned (.int .i64 (chooseL st lk how)) ∧ ∃ j, w' = W.drewN j := by
  unfold chooseL
  by_cases h0 : how = 0
  · subst h0
    rw [if_pos rfl]
    exact ryoungest_any hs hk
  by_cases h1 : how = 1
  · subst h1
    rw [if_neg (by decide), if_pos rfl]
    exact rfewest_any hs hk
  rw [if_neg h0, if_neg h1]
  generalize st.length = n
  generalize lk.length = n2
  have b0 : (how != 0) = true := by simpa using h0
  have b1 : (how != 1) = true := by simpa using h1
  clear hs hk
  go_enter Try.func10, Try.ntmps10
  go_wp2_with fail
  go_loopw [7, 13] (fun u t wr => u = .int .i64 (-1) ∧ t = .int .i64 0 ∧ wr = W) (fun _ _ _ => 0)
  case atStart => exact ⟨rfl, rfl, rfl⟩
  case round =>
    obtain ⟨rfl, rfl, rfl⟩ := hrel
    by_cases hn : 0 < n
    · go_wp2_with fail
      go_ret
      exact ⟨rfl, 0, rfl⟩
    · obtain rfl : n = 0 := by omega
      go_wp2_with fail
      go_ret
      exact ⟨rfl, 0, rfl⟩
end
end Go.Proofs.Ytggmnjnigmbooaa
