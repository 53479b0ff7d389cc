/- Latches that were made above what there was; deeds that came in; the chapter's example. -/
import Derived.Test.YtmaiogaeibmpnaaA5
import Derived.Test.YtmaiogaeibmpnaaM1
namespace Go.Proofs.Ytmaiogaeibmpnaa
open Go Go.RowKit

structure One (w W : World) (b g N : Nat) (wh : Nat → Int) : Prop where
  lat : Lat W b g N wh
  bel : Below w.heap.size w W
  hb : w.heap.size ≤ b
  hg : w.heap.size ≤ g
section
variable {w W W' : World} {b g N : Nat} {wh wh' : Nat → Int} {x : Int} {e : Ending}
theorem One.did (h : One w W b g N wh) (hd : Did W b g N x wh' e W') : e = .returned (.int .i64 x) ∧ One w W' b g N wh' ∧ OnlyS (· = g) W W' :=
  ⟨hd.1, ⟨hd.2.1, h.bel.trans (hd.2.2.below (fun k hk => by rw [hk]; exact h.hg) h.bel.size), h.hb, h.hg⟩, hd.2.2⟩
theorem One.below (h : One w W b g N wh) (hb : Below W.heap.size W W') : One w W' b g N wh := ⟨h.lat.below hb, h.bel.trans (hb.mono h.bel.size), h.hb, h.hg⟩
theorem one_new (n : Int) (w W : World) (hb : Below w.heap.size w W) : Calls Try.prog 7 #[.int .i64 n] W fun e w' => ∃ b g, e = .returned (wp b) ∧ One w w' b g (cl n) (fun _ => -1) ∧ Below W.heap.size W w' ∧ W.heap.size ≤ b ∧ W.heap.size ≤ g := by
  refine (new_any n W).mono ?_
  rintro e w' ⟨b, g, rfl, h1, h2, h3, h4⟩
  exact ⟨b, g, rfl, ⟨h1, hb.trans (h2.mono hb.size), Nat.le_trans hb.size h3, Nat.le_trans hb.size h4⟩, h2, h3, h4⟩
end
/-- a deed of a list that came in -/
structure DeedAt (w : World) (ad : Addr) (i : Nat) (k r t : Int) : Prop where
  c0 : w.cell? (ad.add (i * 3)) = some (.int .i64 k)
  c1 : w.cell? ⟨(ad.add (i * 3)).block, (ad.add (i * 3)).off + 1, none⟩ = some (.int .i64 r)
  c2 : w.cell? ⟨(ad.add (i * 3)).block, (ad.add (i * 3)).off + 2, none⟩ = some (.int .i64 t)
def InD (w : World) (A : Option Addr) (L : Nat) : Prop := ∀ i, i < L → ∃ ad k r t, A = some ad ∧ ad.block < w.heap.size ∧ DeedAt w ad i k r t
theorem InD.at {w w' : World} {A : Option Addr} {L i : Nat} (h : InD w A L) (hb : Below w.heap.size w w') (hi : i < L) : ∃ ad k r t, A = some ad ∧ DeedAt w' ad i k r t := by
  obtain ⟨ad, k, r, t, h1, h2, h4⟩ := h i hi
  refine ⟨ad, k, r, t, h1, ⟨?_, ?_, ?_⟩⟩
  · rw [hb.cell (p := ad.add (i * 3)) (by rw [block_add']; exact h2)]; exact h4.c0
  · rw [hb.cell (p := ⟨(ad.add (i * 3)).block, (ad.add (i * 3)).off + 1, none⟩) (by show (ad.add (i * 3)).block < _; rw [block_add']; exact h2)]; exact h4.c1
  · rw [hb.cell (p := ⟨(ad.add (i * 3)).block, (ad.add (i * 3)).off + 2, none⟩) (by show (ad.add (i * 3)).block < _; rw [block_add']; exact h2)]; exact h4.c2
/-- a list of numbers that came in -/
def InI (w : World) (A : Option Addr) (L : Nat) : Prop := ∀ i, i < L → ∃ ad z, A = some ad ∧ ad.block < w.heap.size ∧ w.cell? (ad.add i) = some (.int .i64 z)
theorem InI.at {w w' : World} {A : Option Addr} {L i : Nat} (h : InI w A L) (hb : Below w.heap.size w w') (hi : i < L) : ∃ ad z, A = some ad ∧ w'.cell? (ad.add i) = some (.int .i64 z) := by
  obtain ⟨ad, z, h1, h2, h3⟩ := h i hi
  exact ⟨ad, z, h1, by rw [hb.cell (p := ad.add i) (by rw [block_add']; exact h2)]; exact h3⟩
set_option maxHeartbeats 1000000 in
theorem awake_any (w : World) : Calls Try.prog 6 #[] w fun e w' => e = .returned (.bool true) ∧ Below w.heap.size w w' := by
  go_enter Try.func6, Try.ntmps6
  go_wp2_with fail
  refine (one_new 4 w w (Below.refl _ _)).mono ?_
  rintro e w1 ⟨b, g, rfl, hf, -⟩
  rw [show cl 4 = 4 from rfl] at hf
  have H1 := Lib.hid hf
  clear hf
  go_wp2_with fail
  refine (H1.out.lat.take 1 3).mono ?_
  intro e w2 hd
  obtain ⟨rfl, hf, -⟩ := H1.out.did hd
  have H2 := Lib.hid hf
  rw [show takeE 4 (fun _ => -1) 1 3 = 0 by decide]
  rw [show takeW 4 (fun _ => -1) 1 3 = upd (fun _ => -1) 3 1 from take_yes (k := 3) (by decide)] at H2
  clear hf hd H1
  go_wp2_with fail
  refine (H2.out.lat.take 1 2).mono ?_
  intro e w3 hd
  obtain ⟨rfl, hf, -⟩ := H2.out.did hd
  have H3 := Lib.hid hf
  rw [show takeE 4 (upd (fun _ => -1) 3 1) 1 2 = 30 by decide]
  rw [take_not (by decide)] at H3
  clear hf hd H2
  go_wp2_with fail
  refine (H3.out.lat.take 2 3).mono ?_
  intro e w4 hd
  obtain ⟨rfl, hf, -⟩ := H3.out.did hd
  have H4 := Lib.hid hf
  rw [show takeE 4 (upd (fun _ => -1) 3 1) 2 3 = 31 by decide]
  rw [take_not (by decide)] at H4
  clear hf hd H3
  go_wp2_with fail
  refine H4.out.lat.free.mono ?_
  rintro e w5 ⟨rfl, hb⟩
  have H5 := Lib.hid (H4.out.below hb)
  rw [show decide ((fitL (fun k => fit false 0 (upd (fun _ => -1) 3 1 k)) 4).length = 4) = false by decide]
  clear hb H4
  go_wp2_with fail
  go_ret
  exact ⟨rfl, H5.out.bel⟩
end Go.Proofs.Ytmaiogaeibmpnaa
