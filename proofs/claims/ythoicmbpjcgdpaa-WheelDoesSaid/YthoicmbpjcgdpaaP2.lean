/- What is due of the document's wheel. -/
import Derived.Test.YthoicmbpjcgdpaaP1
namespace Go.Proofs.Ythoicmbpjcgdpaa
open Go Go.RowKit Go.Shelf

theorem due_take {now : Int} {xs : List Al} {j : Nat} (h : ∀ y ∈ xs.take j, y.2 ≤ now) (hs : xs.length ≤ j ∨ ∃ hj : j < xs.length, now < xs[j].2) : dueL now xs = xs.take j := by
  rcases hs with hs | ⟨hj, hs⟩
  · rw [List.take_of_length_le hs] at h ⊢
    exact due_all h
  · have := due_part (post := xs.drop (j + 1)) h hs
    rw [List.append_assoc] at this
    conv at this => lhs; rw [show xs.take j ++ ([xs[j]] ++ xs.drop (j + 1)) = xs from (take_split xs hj).1.symm]
    exact this
/-- what the document's call that tells those that are due leaves -/
def RDue (W : World) (bx : Nat) (A : Option Addr) (now : Int) (xs : List Al) (e : Ending) (w' : World) : Prop :=
  ∃ v A' c', e = .returned v ∧ Reads w' v (dueL now xs) ∧ RefAt w' bx A' c' (xs.drop (dueL now xs).length) ∧ OnlyS (· = bx) W w' ∧ ∀ k, OfLst A' k → OfLst A k
theorem rdue_done {W : World} {bx c j : Nat} {a : Addr} {now : Int} {xs : List Al} {a' : Addr} (h : RefAt W bx (some a) c xs) (hj : j ≤ xs.length) (hd : dueL now xs = xs.take j) (ha' : a' = if c = j then a else a.add (j * 2)) :
    RDue W bx (some a) now xs (.returned (.slice (some a) j j)) (W.setCell ⟨bx, 0, none⟩ (.slice (some a') (xs.length - j) (c - j))) := by
  obtain ⟨g, off, rfl, hg, hc⟩ := h.lst.at' a rfl
  have hgb : g ≠ bx := fun e => h.ne ⟨_, rfl, e⟩
  have hl : (dueL now xs).length = j := by rw [hd, List.length_take]; omega
  have hcell : W.cell? ⟨bx, 0, none⟩ = some (.slice (some ⟨g, off, none⟩) xs.length c) := h.cell
  have hblk : (W.setCell ⟨bx, 0, none⟩ (.slice (some a') (xs.length - j) (c - j))).heap[g]? = W.heap[g]? := Below.heap_setCell _ _ _ _ hgb
  have hon : OnlyS (· = bx) W (W.setCell ⟨bx, 0, none⟩ (.slice (some a') (xs.length - j) (c - j))) := OnlyS.set _ _ _ _
  have hcap := h.lst.cap
  refine ⟨_, some a', c - j, rfl, ?_, ⟨?_, ?_, ⟨by simp, ?_, ?_, ?_, fun a2 ha2 => ?_⟩, ?_⟩, hon, ?_⟩
  · rw [hd]
    refine ⟨some ⟨g, off, none⟩, j, by rw [List.length_take, Nat.min_eq_left hj], fun i hi => ?_⟩
    rw [List.length_take] at hi
    have hi2 : i < xs.length := by omega
    refine ⟨g, off, rfl, ?_, ?_⟩
    · rw [List.getElem_take]; exact (World.cell?_of_block (w := W) (a := ⟨g, off + i * 2, none⟩) hblk).trans (hc i hi2).1
    · rw [List.getElem_take]; exact (World.cell?_of_block (w := W) (a := ⟨g, off + i * 2 + 1, none⟩) hblk).trans (hc i hi2).2
  · rw [hl, List.length_drop]
    exact World.cell?_setCell_same' _ _ _ (by rw [hcell]; rfl)
  · rw [World.frozen?_setCell]; exact h.free
  · rw [hl, List.length_drop]; omega
  · rw [hl, List.length_drop]; have := h.lst.small; omega
  · have := h.lst.room; omega
  · obtain rfl : a' = a2 := by simpa using ha2
    by_cases e : c = j
    · rw [if_pos e] at ha'
      subst ha'
      refine ⟨g, off, rfl, Nat.lt_of_lt_of_le hg hon.size, fun i hi => ?_⟩
      rw [hl, List.length_drop] at hi
      omega
    · rw [if_neg e] at ha'
      have ha2 : a' = ⟨g, off + j * 2, none⟩ := by
        rw [ha']
        unfold Addr.add
        split
        · rename_i h0; rw [h0]; rfl
        · rfl
      subst ha2
      refine ⟨g, off + j * 2, rfl, Nat.lt_of_lt_of_le hg hon.size, fun i hi => ?_⟩
      have hi2 : j + i < xs.length := by rw [hl, List.length_drop] at hi; omega
      have e1 : (xs.drop (dueL now xs).length)[i] = xs[j + i] := by simp [List.getElem_drop, hl]
      rw [e1]
      have e2 : off + j * 2 + i * 2 = off + (j + i) * 2 := by omega
      rw [e2]
      exact ⟨(World.cell?_of_block (w := W) (a := ⟨g, off + (j + i) * 2, none⟩) hblk).trans (hc _ hi2).1, (World.cell?_of_block (w := W) (a := ⟨g, off + (j + i) * 2 + 1, none⟩) hblk).trans (hc _ hi2).2⟩
  · rintro ⟨a2, ha2, hb⟩
    obtain rfl : a' = a2 := by simpa using ha2
    apply hgb
    rw [← hb, ha']
    split
    · rfl
    · rw [block_add]
  · rintro k ⟨a2, ha2, hb⟩
    obtain rfl : a' = a2 := by simpa using ha2
    refine ⟨_, rfl, ?_⟩
    rw [← hb, ha']
    split
    · rfl
    · rw [block_add]

set_option maxRecDepth 100000 in
set_option maxHeartbeats 4000000 in
theorem rdue_some {W : World} {bx : Nat} {a : Addr} {c : Nat} {xs : List Al} (now : Int) (h : RefAt W bx (some a) c xs) :
    Calls Try.prog 15 #[wp bx, .int .i64 now] W (RDue W bx (some a) now xs) := by
  have H := Lib.hid h
  have hc := h.cell
  have hf := h.free
  have hs := h.lst.small
  have hcp := h.lst.cap
  have hrm := h.lst.room
  obtain ⟨n, hn⟩ : ∃ n, xs.length = n := ⟨_, rfl⟩
  have HN := Lib.hid hn
  rw [hn] at hc hs hcp
  clear h hn
  go_enter Try.func15, Try.ntmps15
  go_wp2
  go_loop [5] (fun t => ∃ j : Nat, j ≤ n ∧ t = .int .i64 j ∧ (∀ y ∈ xs.take j, y.2 ≤ now)) (fun t => n - (intOf t).toNat)
  case atStart => exact ⟨0, by omega, rfl, by simp⟩
  case round =>
    obtain ⟨j, hj, rfl, hall⟩ := hrel
    have HA := Lib.hid hall
    clear hall
    by_cases hjn : j < n
    · have hjl : j < xs.length := by rw [HN.out]; exact hjn
      obtain ⟨g, off, rfl, _, hcs⟩ := H.out.lst.at' a rfl
      obtain ⟨c1, c2⟩ := hcs j hjl
      obtain ⟨x, hx⟩ : ∃ x, xs[j] = x := ⟨_, rfl⟩
      rw [hx] at c1 c2
      by_cases hle : x.2 ≤ now
      · obtain ⟨hs1, hs2⟩ := take_split xs hjl
        rw [hx] at hs1 hs2
        have HS2 := Lib.hid hs2
        clear hs1 hs2 hx hcs hjl
        go_wp2
        go_round
        case rel =>
          refine ⟨j + 1, by omega, by go_num, fun y hy => ?_⟩
          rw [HS2.out] at hy
          rcases List.mem_append.1 hy with hy | hy
          · exact HA.out y hy
          · rw [List.mem_singleton.1 hy]; exact hle
        case measure => simp [intOf]; omega
      · have HT := Lib.hid (due_take HA.out (.inr ⟨hjl, by rw [hx]; omega⟩))
        have hgt : decide (x.2 ≤ now) = false := by simp; omega
        clear hx hcs hjl
        go_wp2
        go_ret
        have ha := rdue_done (a' := ⟨g, off + j * 2, none⟩) H.out (by rw [HN.out]; omega) HT.out (by
          rw [if_neg (by omega)]
          unfold Addr.add
          split
          · rename_i h0; rw [h0]; rfl
          · rfl)
        rw [HN.out] at ha
        exact ha
    · obtain rfl : j = n := by omega
      have HT := Lib.hid (due_take HA.out (.inl (Nat.le_of_eq HN.out)))
      by_cases hcj : c = j
      · subst hcj
        obtain ⟨g, off, rfl, _, hcs⟩ := H.out.lst.at' a rfl
        clear hcs
        go_wp2
        go_ret
        have ha := rdue_done (a' := ⟨g, off, none⟩) H.out (by rw [HN.out]; omega) HT.out (by rw [if_pos rfl])
        rw [HN.out, Nat.sub_self] at ha
        exact ha
      · have hcj2 : ¬ c = j := hcj
        obtain ⟨g, off, rfl, _, hcs⟩ := H.out.lst.at' a rfl
        clear hcs
        go_wp2
        go_ret
        have ha := rdue_done (a' := ⟨g, off + j * 2, none⟩) H.out (by rw [HN.out]; omega) HT.out (by
          rw [if_neg hcj]
          unfold Addr.add
          split
          · rename_i h0; rw [h0]; rfl
          · rfl)
        rw [HN.out, Nat.sub_self] at ha
        exact ha
set_option maxRecDepth 100000 in
theorem rdue_none {W : World} {bx c : Nat} {xs : List Al} (now : Int) (h : RefAt W bx none c xs) :
    Calls Try.prog 15 #[wp bx, .int .i64 now] W (RDue W bx none now xs) := by
  obtain ⟨rfl, rfl⟩ := h.lst.nil rfl
  have H := Lib.hid h
  have hc := h.cell
  have hf := h.free
  simp only [List.length_nil] at hc
  clear h
  go_enter Try.func15, Try.ntmps15
  go_wp2
  go_loop [5] (fun t => t = .int .i64 0) (fun _ => 0)
  case atStart => exact rfl
  case round =>
    subst hrel
    go_wp2
    go_ret
    refine ⟨.slice none 0 0, none, 0, rfl, ⟨none, 0, rfl, fun i hi => by simp [dueL] at hi⟩, ?_, OnlyS.set _ _ _ _, fun _ h => h⟩
    refine ⟨World.cell?_setCell_same' _ _ _ (by rw [hc]; rfl), by rw [World.frozen?_setCell]; exact hf, ⟨fun _ => ⟨rfl, rfl⟩, Nat.le_refl _, by simp, by simp, fun a ha => by simp at ha⟩, fun ⟨a, ha, _⟩ => by simp at ha⟩
theorem rdue_any {W : World} {bx : Nat} {A : Option Addr} {c : Nat} {xs : List Al} (now : Int) (h : RefAt W bx A c xs) : Calls Try.prog 15 #[wp bx, .int .i64 now] W (RDue W bx A now xs) := by
  cases A with
  | none => exact rdue_none now h
  | some a => exact rdue_some now h
end Go.Proofs.Ythoicmbpjcgdpaa
