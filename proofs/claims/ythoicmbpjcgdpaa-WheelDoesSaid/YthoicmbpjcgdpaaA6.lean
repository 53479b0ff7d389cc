/- A row, told one by one; all alarms of a wheel in order. -/
import Derived.Test.YthoicmbpjcgdpaaS2
namespace Go.Proofs.Ythoicmbpjcgdpaa
open Go Go.RowKit Go.Shelf
attribute [local go_sem] Oper.semAt_some

theorem row_slice {W : World} {base : Nat} {v : Value} {xs : List Al} (h : Row W base v xs) : ∃ A c, v = .slice A xs.length c := by
  rcases h.2 with ⟨rfl, h0⟩ | ⟨g, cap, cur, rfl, _⟩
  · exact ⟨none, 0, by rw [h0]⟩
  · exact ⟨_, _, rfl⟩
theorem sorted_any {gf : Nat} {bs lb : Array Value} {xs : List Al} {w : World} (eg : ∀ args w, (callFunc gf args).run Try.prog w = .ok (.enter gf args) w) (hs : Tells Try.prog gf bs lb (fun x : Al => #[alv x]) (· < w.heap.size) xs w) (hl : xs.length ≤ 1000) :
    Calls Try.prog 30 #[.func (.func gf) bs lb, .func (.func 31) #[] #[]] w (GivesRow w (srt xs)) := by
  have H := Lib.hid (collect_any eg hs hl)
  clear eg hs
  go_enter Try.func30, Try.ntmps30
  go_wp2_with fail
  refine H.out.mono ?_
  rintro e w1 ⟨v, rfl, hr, hb⟩
  have H1 := Lib.hid hr
  clear hr
  go_wp2_with fail
  refine (sortf_any H1.out hl).mono ?_
  rintro e w2 ⟨rfl, hr2, hb2⟩
  have H2 := Lib.hid hr2
  clear hr2
  go_wp2_with fail
  go_ret
  exact ⟨v, rfl, H2.out, hb.trans hb2⟩
theorem values_any (A : Option Addr) (n c : Nat) (w : World) :
    Calls Try.prog 29 #[.slice A n c] w fun e w' => e = .returned (.func (.func 33) #[] #[.pointer (some ⟨w.heap.size, 0, none⟩)]) ∧ w' = w.alloc (.cells #[.slice A n c] 27) := by
  go_enter Try.func29, Try.ntmps29
  go_wp2
  go_ret
  exact ⟨rfl, rfl⟩

/-- the blocks of a row and of the box that holds it -/
def OfRow (Bs : Nat) (v : Value) (k : Nat) : Prop := k = Bs ∨ v.ownBlock = some k

set_option maxRecDepth 100000 in
set_option maxHeartbeats 2000000 in
theorem values_tells {w : World} {Bs base : Nat} {v : Value} {xs : List Al} (hB : Boxed w Bs 27 v) (hr : Row w base v xs) :
    Tells Try.prog 33 #[] #[.pointer (some ⟨Bs, 0, none⟩)] (fun x : Al => #[alv x]) (OfRow Bs v) xs w := by
  intro l J Jx W hW hJ hY h0
  have hc : W.cell? ⟨Bs, 0, none⟩ = some v := (hW.cell (p := ⟨Bs, 0, none⟩) hB.lt).trans hB.cell
  have hrW : Row W base v xs := hr.keep fun g hg => hW.block g (hr.lt g hg).2
  have HJ := Lib.hid hJ
  have HY := Lib.hid hY
  have HR := Lib.hid hrW
  have hS1 : ∀ g, v.ownBlock = some g → OfRow Bs v g := fun g h => .inr h
  have hS2 : ∀ k, OfRow Bs v k → k < W.heap.size := by
    rintro k (rfl | hk)
    · exact Nat.lt_of_lt_of_le hB.lt hW.size
    · exact (hrW.lt k hk).2
  generalize OfRow Bs v = S at HY hS1 hS2
  have HS1 := Lib.hid hS1
  have HS2 := Lib.hid hS2
  clear hJ hY hr hB hW hS1 hS2
  rcases hrW.2 with ⟨rfl, hn⟩ | ⟨g, cap, cur, rfl, hgb, hg, hnc, hcm, hcs, hct⟩
  · obtain rfl : xs = [] := List.length_eq_zero_iff.1 hn
    clear hrW hn
    refine callsIn_of_wp Try.func33 rfl trivial ?_ rfl
    simp only [Try.ntmps33, List.size_toArray, List.length_cons, List.length_nil, Nat.reduceAdd, Nat.reduceSub, Array.replicate_succ, Array.replicate_zero, List.push_toArray, List.append_toArray, List.nil_append, List.cons_append]
    gi_wp2
    gi_loopw [7] (fun i wr => i = .int .i64 0 ∧ J [] wr) (fun _ _ => 0)
    case atStart => exact ⟨rfl, h0⟩
    case round =>
      obtain ⟨rfl, hJs⟩ := hrel
      gi_wp2
      go_end0
      exact ⟨⟨_, rfl⟩, .inl hJs⟩
  · obtain ⟨n, hn⟩ : ∃ n, xs.length = n := ⟨_, rfl⟩
    rw [hn] at hnc hc
    have HN := Lib.hid hn
    have hm : n ≤ 9223372036854775807 := by unfold maxLen at hcm; omega
    clear hrW hg hcs hct hgb hcm
    refine callsIn_of_wp Try.func33 rfl trivial ?_ rfl
    simp only [Try.ntmps33, List.size_toArray, List.length_cons, List.length_nil, Nat.reduceAdd, Nat.reduceSub, Array.replicate_succ, Array.replicate_zero, List.push_toArray, List.append_toArray, List.nil_append, List.cons_append]
    clear hn
    gi_wp2
    gi_loopw [7] (fun t wr' => ∃ j : Nat, j ≤ n ∧ t = .int .i64 j ∧ J (xs.take j) wr' ∧ Keeps S W wr') (fun t _ => n - (intOf t).toNat)
    case atStart => exact ⟨0, by omega, rfl, by simpa using h0, Keeps.refl _ _⟩
    case round =>
      obtain ⟨j, hj, rfl, hjj, hbj⟩ := hrel
      clear hc h0
      by_cases hjn : j < n
      · have hjl : j < xs.length := by rw [HN.out]; exact hjn
        have hro : Row wr base (.slice (some ⟨g, 0, none⟩) xs.length cap) xs := HR.out.keep fun g' hg' => hbj.block g' (HS1.out g' hg')
        obtain ⟨c1, c2⟩ := row_cells hro hjl
        obtain ⟨x, hx⟩ : ∃ x, xs[j] = x := ⟨_, rfl⟩
        rw [hx] at c1 c2
        obtain ⟨hs1, hs2⟩ := take_split xs hjl
        rw [hx] at hs1 hs2
        have hb1 := box_below wr (.cells #[.int .i64 x.1, .int .i64 x.2] 31)
        have hkb : Keeps S wr (wr.alloc (.cells #[.int .i64 x.1, .int .i64 x.2] 31)) := keeps_of hb1 fun k hk => Nat.lt_of_lt_of_le (HS2.out k hk) hbj.size
        obtain ⟨fn, tmps, assign, body, hy, hR⟩ := HY.out _ x _ _ hs1 (HJ.out _ _ _ hjj hb1)
        have HS := Lib.hid hs2
        have HP := Lib.hid (show xs = (xs.take j ++ [x]) ++ xs.drop (j + 1) by rw [List.append_assoc]; exact hs1)
        have HB := Lib.hid (hbj.trans hkb)
        clear hs1 hs2 hx hro hb1 hjl hkb
        gi_wp2
        refine hR.mono ?_
        rintro e W3 (⟨rfl, hJ3, hk3⟩ | ⟨rfl, hJx3⟩)
        · have HB3 := Lib.hid (HB.out.trans hk3)
          clear hy hR c1 c2 hbj hjj hk3
          gi_wp2
          go_roundw
          case rel => exact ⟨j + 1, by omega, by go_num, by rw [HS.out]; exact hJ3, HB3.out⟩
          case measure => simp [intOf]; omega
        · gi_wp2
          refine bodyPost_ret (results_none rfl _ _ _) rfl ?_
          exact ⟨⟨_, rfl⟩, .inr ⟨_, _, HP.out, hJx3⟩⟩
      · obtain rfl : j = n := by omega
        gi_wp2
        go_end0
        refine ⟨⟨_, rfl⟩, .inl ?_⟩
        rw [List.take_of_length_le (Nat.le_of_eq HN.out)] at hjj
        exact hjj
end Go.Proofs.Ythoicmbpjcgdpaa
