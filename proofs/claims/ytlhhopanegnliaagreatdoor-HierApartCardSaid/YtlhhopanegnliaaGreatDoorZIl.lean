import Derived.Test.YtlhhopanegnliaaGreatDoorZIh
import Derived.Test.YtlhhopanegnliaaGreatDoorZIk
import Derived.Test.YtlhhopanegnliaaGreatDoorZTg
namespace Go.Proofs.YtlhhopanegnliaaGreatDoor
open Go Go.RowKit Go.Shelf
set_option maxRecDepth 100000

section
variable {W W' w w' : World} {T U : Nat → Prop} {b m c u t : Nat} {B0 : Lo0} {mr tx md fl : Int} {C C1 : CC} {p : Pa.Pt}
theorem ask_ws {H : List Hs.Hd} {L : List Ws.Wt} : ∀ z ∈ (ask tx md fl H L).2.2.2, z ∈ L ∨ z = reqW tx md fl H := by
  intro z hz
  unfold ask at hz
  split at hz
  · exact .inl hz
  · split at hz
    · exact .inl hz
    · split at hz
      · exact .inl hz
      · split at hz
        · exact .inl hz
        · unfold Ws.ins at hz
          simp only [List.mem_append, List.mem_singleton] at hz
          rcases hz with (hz | hz) | hz
          · exact .inl (List.mem_of_mem_take hz)
          · exact .inr hz
          · exact .inl (List.mem_of_mem_drop hz)
theorem askT_ws {u t : Nat} : ∀ z ∈ (askT m mr u t C tx p md fl).2.2.2, z ∈ (C p).2 ∨ z = reqW tx md fl (C p).1 := by
  intro z hz
  unfold askT at hz
  simp only at hz
  split at hz
  · exact .inl hz
  · split at hz
    · exact .inl hz
    · split at hz
      · exact .inl hz
      · exact ask_ws z hz
theorem st_cases (m : Nat) (mr tx : Int) (p : Pa.Pt) (md fl : Int) (C : CC) : (stT m mr tx p md fl C).2.2 = C ∨ ∃ l, nxL (heldL C tx) p md = (l, true, 0) ∧ (stT m mr tx p md fl C).2.2 = upC C l.1 (askT m mr (usC C) (ttC C) C tx l.1 l.2 fl).2.2 := by
  by_cases he : (nxL (heldL C tx) p md).2.2 = 0
  · cases hi : (nxL (heldL C tx) p md).2.1
    · rw [st_none he hi]; exact .inl rfl
    · have hn : nxL (heldL C tx) p md = ((nxL (heldL C tx) p md).1, true, 0) := Prod.ext rfl (Prod.ext hi he)
      exact .inr ⟨_, hn, by rw [st_ask hn]⟩
  · rw [st_err he]; exact .inl rfl
theorem st_noin (hfl : (fl == 2) = false) (h : Noin C) : Noin (stT m mr tx p md fl C).2.2 := by
  rcases st_cases m mr tx p md fl C with e | ⟨l, -, e⟩
  · rw [e]; exact h
  · rw [e]
    intro q z hz
    by_cases eq : q = l.1
    · subst eq
      rw [upC_same] at hz
      rcases askT_ws z hz with h1 | rfl
      · exact h _ z h1
      · exact hfl
    · rw [upC_ne _ _ eq] at hz
      exact h q z hz
structure Mad (w W : World) (b m : Nat) (mr : Int) (c : Nat) (C : CC) : Prop where
  is : ∃ T B0 u t, Ta W b T m mr c C B0 u t ∧ w.heap.size ≤ B0.n
  bel : Below w.heap.size w W
theorem Mad.below (h : Mad w W b m mr c C) (hb : Below W.heap.size W W') : Mad w W' b m mr c C := by
  obtain ⟨T, B0, u, t, h1, h2⟩ := h.is
  exact ⟨⟨T, B0, u, t, h1.below hb, h2⟩, h.bel.trans (hb.mono h.bel.size)⟩
theorem Mad.ch (hb : Below w.heap.size w W) (h : Ta W b T m mr c C B0 u t) (hn : w.heap.size ≤ B0.n) {B1 : Lo0} (h1 : B1.n = B0.n) {c' : Nat} {C' : CC} (k : Ch W T b m mr B1 c' C' W') : Mad w W' b m mr c' C' := by
  obtain ⟨T', u', t', k1, k2, k3⟩ := k
  exact ⟨⟨T', B1, u', t', k1, by rw [h1]; exact hn⟩, hb.trans (k2.below (fun k hk => Nat.le_trans hn (h.lt hk).1) hb.size)⟩
theorem Mad.take (h : Mad w W b m mr c C) (ht : TabG w) (hm : m ≤ 1000) (hc : c ≤ 236) (tx : Int) (p : Pa.Pt) (md fl : Int) {S : Int × Int × CC} (hS : tkT m mr tx p md fl 3 C = S) :
    Calls Tryz.prog 20 #[tp b, .int .i64 tx, p.v, .int .i64 md, .int .i64 fl] W fun e w' => e = .returned (.tuple #[.int .i64 S.1, .int .i64 S.2.1]) ∧ Mad w w' b m mr (c + 4) S.2.2 := by
  obtain ⟨T, B0, u, t, h1, h2⟩ := h.is
  exact (h1.take (ht.later h.bel) hm hc tx p md fl hS).mono fun e w' ⟨he, hc⟩ => ⟨he, Mad.ch h.bel h1 h2 rfl hc⟩
theorem Mad.free (h : Mad w W b m mr c C) (ht : TabG w) (hm : m ≤ 1000) (hc : c ≤ 239) (tx : Int) {n : Nat} (hn : c ≤ n) :
    Calls Tryz.prog 18 #[tp b, .int .i64 tx] W fun e w' => ∃ ys v, e = .returned v ∧ Lk.Bk (heldL (cnT tx n C).2 tx) ys ∧ Mad w w' b m mr c (frT tx n ys C).2 ∧ Ws.Row w' W.heap.size v (frT tx n ys C).1 ∧ (frT tx n ys C).1.length ≤ 800 := by
  obtain ⟨T, B0, u, t, h1, h2⟩ := h.is
  exact (h1.freeH (ht.later h.bel) hm hc tx hn).mono fun e w' ⟨ys, hb, v, he, hv, hl⟩ => ⟨ys, v, he, hb, Mad.ch (B1 := XR B0 v) h.bel h1 h2 rfl hv.ch, hv.row, hl⟩
theorem Mad.wait (h : Mad w W b m mr c C) (hm : m ≤ 1000) (hc : c ≤ 400) (tx : Int) : Calls Tryz.prog 24 #[tp b, .int .i64 tx] W fun e w' => e = .returned (waitV (waitL C tx)) ∧ Below W.heap.size W w' := by
  obtain ⟨T, B0, u, t, h1, h2⟩ := h.is
  exact h1.waitH hm hc tx
theorem Mad.held (h : Mad w W b m mr c C) (hm : m ≤ 1000) (hc : c ≤ 400) (tx : Int) : Calls Tryz.prog 23 #[tp b, .int .i64 tx] W (Lk.Lists W (heldL C tx)) := by
  obtain ⟨T, B0, u, t, h1, h2⟩ := h.is
  exact h1.heldH hm hc tx
theorem Mad.first (h : Mad w W b m mr c C) (hm : m ≤ 1000) (hc : c ≤ 239) (tx : Int) : Calls Tryz.prog 9 #[tp b, .int .i64 tx] W fun e w' => ∃ ys, Lk.Bk (heldL C tx) ys ∧ e = .returned (bkV ys) ∧ Below W.heap.size W w' := by
  obtain ⟨T, B0, u, t, h1, h2⟩ := h.is
  exact h1.firstH hm hc tx
theorem Mad.facts (h : Mad w W b m mr c C) : Fnt C ∧ wsC C ≤ c ∧ ∀ tx, (heldL C tx).length ≤ c := by
  obtain ⟨T, B0, u, t, h1, h2⟩ := h.is
  obtain ⟨k1, k2, k3⟩ := h1.ord
  have := ws_le C
  have := h1.bounds
  exact ⟨k1, by omega, fun tx => (h1.heldN tx).1⟩
theorem mad_new (hb : Below w.heap.size w W) (h0 : 0 < w.heap.size) (hd rq : Int) : Calls Tryz.prog 7 #[.int .i64 hd, .int .i64 rq] W fun e w' => ∃ b, e = .returned (tp b) ∧ Mad w w' b (clamp hd 256) ((clamp rq 1024 : Nat) : Int) 0 (fun _ => ([], [])) := by
  refine (tnew_any hd rq W (Nat.lt_of_lt_of_le h0 hb.size)).mono ?_
  rintro e w' ⟨b, T, rfl, h1, h2⟩
  exact ⟨b, rfl, ⟨T, _, 0, 0, h1, hb.size⟩, hb.trans (h2.mono hb.size)⟩
end
end Go.Proofs.YtlhhopanegnliaaGreatDoor
