/- Who is chosen: the program's answer. -/
import Derived.Test.YtggmnjnigmbooaaVc
namespace Go.Proofs.Ytggmnjnigmbooaa
open Go Go.RowKit Go.Shelf
set_option maxRecDepth 100000

/-- who is chosen of the first k places: fewest locks, the greatest stamp of such, the first of such -/
def chS (st lk : List Int) : Nat → Int
  | 0 => -1
  | k + 1 => if chS st lk k < 0 ∨ atL lk k < atL lk (chS st lk k) ∨ atL lk k = atL lk (chS st lk k) ∧ atL st (chS st lk k) < atL st k then k else chS st lk k
/-- who is chosen -/
def chooseL (st lk : List Int) (how : Int) : Int := if how = 0 then chS st [] st.length else if how = 1 then chS st lk st.length else -1
theorem chS_lt (st lk : List Int) : ∀ k, chS st lk k < k ∧ -1 ≤ chS st lk k ∧ (0 < k → 0 ≤ chS st lk k)
  | 0 => by simp [chS]
  | k + 1 => by
    have := chS_lt st lk k
    unfold chS
    split <;> omega
theorem chS_yes {st lk : List Int} {k : Nat} (h : chS st lk k < 0 ∨ atL lk k < atL lk (chS st lk k) ∨ atL lk k = atL lk (chS st lk k) ∧ atL st (chS st lk k) < atL st k) : chS st lk (k + 1) = k := by
  rw [chS, if_pos h]
theorem chS_no {st lk : List Int} {k : Nat} (h : ¬ (chS st lk k < 0 ∨ atL lk k < atL lk (chS st lk k) ∨ atL lk k = atL lk (chS st lk k) ∧ atL st (chS st lk k) < atL st k)) : chS st lk (k + 1) = chS st lk k := by
  rw [chS, if_neg h]
section
variable {W : World} {A A2 : Option Addr} {c c2 : Nat} {st lk : List Int}
theorem nilL (W : World) : Is.Ls W none 0 [] := ⟨Nat.le_refl _, Nat.zero_le _, fun _ => rfl, by simp⟩
set_option maxHeartbeats 4000000 in
theorem fewest_any (hs : Is.Ls W A c st) (hk : Is.Ls W A2 c2 lk) : Calls Try.prog 9 #[.slice A st.length c, .slice A2 lk.length c2, .int .i64 1] W fun e w' => e = .returned (.int .i64 (chS st lk st.length)) ∧ w' = W := by
  have HS := Lib.hid hs
  have hroom := hs.room
  have hcap := hs.cap
  unfold maxLen at hroom
  have HLk := Lib.hid (fun i => atI_any hk i)
  obtain ⟨n2, hn2⟩ : ∃ n, lk.length = n := ⟨_, rfl⟩
  rw [hn2] at HLk ⊢
  clear hk hn2
  obtain ⟨n, hn⟩ : ∃ n, st.length = n := ⟨_, rfl⟩
  have HN := Lib.hid hn
  rw [hn] at hcap ⊢
  clear hs hn
  go_enter Try.func9, Try.ntmps9
  go_wp2_with fail
  go_loopw [7, 8, 19] (fun u v t wr => ∃ k : Nat, k ≤ n ∧ t = .int .i64 k ∧ u = .int .i64 (chS st lk k) ∧ v = .int .i64 (atL lk (chS st lk k)) ∧ wr = W) (fun _ _ t _ => n - (intOf t).toNat)
  case atStart => exact ⟨0, by omega, rfl, rfl, by rw [show chS st lk 0 = -1 from rfl, atL_neg (by omega)], rfl⟩
  case round =>
    obtain ⟨k, hk, rfl, rfl, rfl, rfl⟩ := hrel
    by_cases hkn : k < n
    · have hks : k < st.length := by rw [HN.out]; exact hkn
      obtain ⟨a, ha, z0⟩ := HS.out.here hks
      subst ha
      have HF := Lib.hid (HLk.out (k : Int))
      have hcl := chS_lt st lk k
      obtain ⟨b, hb⟩ : ∃ b, chS st lk k = b := ⟨_, rfl⟩
      obtain ⟨few, hfew⟩ : ∃ x, atL lk (k : Int) = x := ⟨_, rfl⟩
      obtain ⟨old, hold⟩ : ∃ x, atL lk b = x := ⟨_, rfl⟩
      have hsk := atL_at hks
      obtain ⟨s, hs⟩ : ∃ x, st[k] = x := ⟨_, rfl⟩
      rw [hs] at z0 hsk
      rw [hfew] at HF
      rw [hb] at hcl
      have hno : ¬ (b < 0 ∨ few < old ∨ few = old ∧ atL st b < s) → chS st lk (k + 1) = b := fun h => by
        rw [← hb]
        exact chS_no (by rw [hb, hfew, hold, hsk]; exact h)
      have hyes : (b < 0 ∨ few < old ∨ few = old ∧ atL st b < s) → chS st lk (k + 1) = k := fun h => chS_yes (by rw [hb, hfew, hold, hsk]; exact h)
      have HNo := Lib.hid (fun h => show chS st lk (k + 1) = b ∧ atL lk (chS st lk (k + 1)) = old by rw [hno h]; exact ⟨rfl, hold⟩)
      have HYes := Lib.hid (fun h => show chS st lk (k + 1) = k ∧ atL lk (chS st lk (k + 1)) = few by rw [hyes h]; exact ⟨rfl, hfew⟩)
      rw [hb, hold]
      clear hno hyes hb hfew hold hsk hs
      obtain ⟨hc1, hc2, -⟩ := hcl
      by_cases hb0 : b < 0
      · have hz := Lib.hid (HYes.out (.inl hb0))
        clear HNo HYes
        go_wp2_with fail
        refine HF.out.mono ?_
        rintro e w1 ⟨rfl, rfl⟩
        go_wp2_with fail
        go_roundw
        case rel => exact ⟨k + 1, by omega, by go_num, by rw [hz.out.1], by rw [hz.out.2], trivial⟩
        case measure => simp [intOf]; omega
      · obtain ⟨m, rfl⟩ : ∃ m : Nat, b = (m : Int) := ⟨b.toNat, by omega⟩
        have hmk : m < k := by omega
        have hms : m < st.length := by omega
        obtain ⟨a1, ha1, z1⟩ := HS.out.here hms
        obtain rfl : a = a1 := by simpa using ha1
        rw [atL_at hms] at HNo HYes
        obtain ⟨r, hr⟩ : ∃ x, st[m] = x := ⟨_, rfl⟩
        rw [hr] at HNo HYes z1
        clear hr ha1 hms hc1 hc2 hb0
        by_cases h1 : few < old
        · have hz := Lib.hid (HYes.out (.inr (.inl h1)))
          clear HNo HYes
          go_wp2_with fail
          refine HF.out.mono ?_
          rintro e w1 ⟨rfl, rfl⟩
          go_wp2_with fail
          go_roundw
          case rel => exact ⟨k + 1, by omega, by go_num, by rw [hz.out.1], by rw [hz.out.2], trivial⟩
          case measure => simp [intOf]; omega
        · by_cases h2 : few = old
          · by_cases h3 : r < s
            · have hz := Lib.hid (HYes.out (.inr (.inr ⟨h2, h3⟩)))
              clear HNo HYes
              go_wp2_with fail
              refine HF.out.mono ?_
              rintro e w1 ⟨rfl, rfl⟩
              go_wp2_with fail
              go_roundw
              case rel => exact ⟨k + 1, by omega, by go_num, by rw [hz.out.1], by rw [hz.out.2, h2], trivial⟩
              case measure => simp [intOf]; omega
            · have hz := Lib.hid (HNo.out (by omega))
              clear HNo HYes
              go_wp2_with fail
              refine HF.out.mono ?_
              rintro e w1 ⟨rfl, rfl⟩
              go_wp2_with fail
              go_roundw
              case rel => exact ⟨k + 1, by omega, by go_num, by rw [hz.out.1], by rw [hz.out.2], trivial⟩
              case measure => simp [intOf]; omega
          · have hz := Lib.hid (HNo.out (by omega))
            clear HNo HYes
            go_wp2_with fail
            refine HF.out.mono ?_
            rintro e w1 ⟨rfl, rfl⟩
            go_wp2_with fail
            go_roundw
            case rel => exact ⟨k + 1, by omega, by go_num, by rw [hz.out.1], by rw [hz.out.2], trivial⟩
            case measure => simp [intOf]; omega
    · obtain rfl : k = n := by omega
      go_wp2_with fail
      go_ret
      exact ⟨rfl, rfl⟩
set_option maxHeartbeats 4000000 in
theorem youngest_any (hs : Is.Ls W A c st) {n2 : Nat} : Calls Try.prog 9 #[.slice A st.length c, .slice A2 n2 c2, .int .i64 0] W fun e w' => e = .returned (.int .i64 (chS st ([] : List Int) st.length)) ∧ w' = W := by
  have HS := Lib.hid hs
  have hroom := hs.room
  have hcap := hs.cap
  unfold maxLen at hroom
  have HLk := Lib.hid (fun i => atI_any (nilL W) i)
  simp only [List.length_nil] at HLk
  obtain ⟨n, hn⟩ : ∃ n, st.length = n := ⟨_, rfl⟩
  have HN := Lib.hid hn
  rw [hn] at hcap ⊢
  clear hs hn
  go_enter Try.func9, Try.ntmps9
  go_wp2_with fail
  go_loopw [7, 8, 19] (fun u v t wr => ∃ k : Nat, k ≤ n ∧ t = .int .i64 k ∧ u = .int .i64 (chS st ([] : List Int) k) ∧ v = .int .i64 (atL ([] : List Int) (chS st ([] : List Int) k)) ∧ wr = W) (fun _ _ t _ => n - (intOf t).toNat)
  case atStart => exact ⟨0, by omega, rfl, rfl, by rw [show chS st ([] : List Int) 0 = -1 from rfl, atL_neg (by omega)], rfl⟩
  case round =>
    obtain ⟨k, hk, rfl, rfl, rfl, rfl⟩ := hrel
    by_cases hkn : k < n
    · have hks : k < st.length := by rw [HN.out]; exact hkn
      obtain ⟨a, ha, z0⟩ := HS.out.here hks
      subst ha
      have HF := Lib.hid (HLk.out (k : Int))
      have hcl := chS_lt st ([] : List Int) k
      obtain ⟨b, hb⟩ : ∃ b, chS st ([] : List Int) k = b := ⟨_, rfl⟩
      obtain ⟨few, hfew⟩ : ∃ x, atL ([] : List Int) (k : Int) = x := ⟨_, rfl⟩
      obtain ⟨old, hold⟩ : ∃ x, atL ([] : List Int) b = x := ⟨_, rfl⟩
      have hsk := atL_at hks
      obtain ⟨s, hs⟩ : ∃ x, st[k] = x := ⟨_, rfl⟩
      rw [hs] at z0 hsk
      rw [hfew] at HF
      rw [hb] at hcl
      have hno : ¬ (b < 0 ∨ few < old ∨ few = old ∧ atL st b < s) → chS st ([] : List Int) (k + 1) = b := fun h => by
        rw [← hb]
        exact chS_no (by rw [hb, hfew, hold, hsk]; exact h)
      have hyes : (b < 0 ∨ few < old ∨ few = old ∧ atL st b < s) → chS st ([] : List Int) (k + 1) = k := fun h => chS_yes (by rw [hb, hfew, hold, hsk]; exact h)
      have HNo := Lib.hid (fun h => show chS st ([] : List Int) (k + 1) = b ∧ atL ([] : List Int) (chS st ([] : List Int) (k + 1)) = old by rw [hno h]; exact ⟨rfl, hold⟩)
      have HYes := Lib.hid (fun h => show chS st ([] : List Int) (k + 1) = k ∧ atL ([] : List Int) (chS st ([] : List Int) (k + 1)) = few by rw [hyes h]; exact ⟨rfl, hfew⟩)
      rw [hb, hold]
      clear hno hyes hb hfew hold hsk hs
      obtain ⟨hc1, hc2, -⟩ := hcl
      by_cases hb0 : b < 0
      · have hz := Lib.hid (HYes.out (.inl hb0))
        clear HNo HYes
        go_wp2_with fail
        refine HF.out.mono ?_
        rintro e w1 ⟨rfl, rfl⟩
        go_wp2_with fail
        go_roundw
        case rel => exact ⟨k + 1, by omega, by go_num, by rw [hz.out.1], by rw [hz.out.2], trivial⟩
        case measure => simp [intOf]; omega
      · obtain ⟨m, rfl⟩ : ∃ m : Nat, b = (m : Int) := ⟨b.toNat, by omega⟩
        have hmk : m < k := by omega
        have hms : m < st.length := by omega
        obtain ⟨a1, ha1, z1⟩ := HS.out.here hms
        obtain rfl : a = a1 := by simpa using ha1
        rw [atL_at hms] at HNo HYes
        obtain ⟨r, hr⟩ : ∃ x, st[m] = x := ⟨_, rfl⟩
        rw [hr] at HNo HYes z1
        clear hr ha1 hms hc1 hc2 hb0
        by_cases h1 : few < old
        · have hz := Lib.hid (HYes.out (.inr (.inl h1)))
          clear HNo HYes
          go_wp2_with fail
          refine HF.out.mono ?_
          rintro e w1 ⟨rfl, rfl⟩
          go_wp2_with fail
          go_roundw
          case rel => exact ⟨k + 1, by omega, by go_num, by rw [hz.out.1], by rw [hz.out.2], trivial⟩
          case measure => simp [intOf]; omega
        · by_cases h2 : few = old
          · by_cases h3 : r < s
            · have hz := Lib.hid (HYes.out (.inr (.inr ⟨h2, h3⟩)))
              clear HNo HYes
              go_wp2_with fail
              refine HF.out.mono ?_
              rintro e w1 ⟨rfl, rfl⟩
              go_wp2_with fail
              go_roundw
              case rel => exact ⟨k + 1, by omega, by go_num, by rw [hz.out.1], by rw [hz.out.2, h2], trivial⟩
              case measure => simp [intOf]; omega
            · have hz := Lib.hid (HNo.out (by omega))
              clear HNo HYes
              go_wp2_with fail
              refine HF.out.mono ?_
              rintro e w1 ⟨rfl, rfl⟩
              go_wp2_with fail
              go_roundw
              case rel => exact ⟨k + 1, by omega, by go_num, by rw [hz.out.1], by rw [hz.out.2], trivial⟩
              case measure => simp [intOf]; omega
          · have hz := Lib.hid (HNo.out (by omega))
            clear HNo HYes
            go_wp2_with fail
            refine HF.out.mono ?_
            rintro e w1 ⟨rfl, rfl⟩
            go_wp2_with fail
            go_roundw
            case rel => exact ⟨k + 1, by omega, by go_num, by rw [hz.out.1], by rw [hz.out.2], trivial⟩
            case measure => simp [intOf]; omega
    · obtain rfl : k = n := by omega
      go_wp2_with fail
      go_ret
      exact ⟨rfl, rfl⟩
theorem choose_any (hs : Is.Ls W A c st) (hk : Is.Ls W A2 c2 lk) (how : Int) : Calls Try.prog 9 #[.slice A st.length c, .slice A2 lk.length c2, .int .i64 how] W fun e w' => e = .returned (.int .i64 (chooseL st lk how)) ∧ w' = W := by
  unfold chooseL
  by_cases h0 : how = 0
  · subst h0
    rw [if_pos rfl]
    exact youngest_any hs
  by_cases h1 : how = 1
  · subst h1
    rw [if_neg (by decide), if_pos rfl]
    exact fewest_any hs hk
  rw [if_neg h0, if_neg h1]
  generalize st.length = n
  generalize lk.length = n2
  clear hs hk
  go_enter Try.func9, Try.ntmps9
  go_wp2_with fail
  go_ret
  exact ⟨rfl, rfl⟩
end
end Go.Proofs.Ytggmnjnigmbooaa
