/- A list that is read; List of links. -/
import Derived.Test.YthgcedhplbhiiaaA6
import Derived.ArgAppend
namespace Go.Proofs.Ythgcedhplbhiiaa
open Go Go.RowKit

/-- the cells of numbers of places -/
def nats (fs : List Nat) : List Value := fs.map fun (i : Nat) => .int .i64 (i : Int)
theorem nats_length (fs : List Nat) : (nats fs).length = fs.length * 1 := by simp [nats]
theorem nats_snoc (fs : List Nat) (i : Nat) : nats (fs ++ [i]) = nats fs ++ [.int .i64 (i : Int)] := by simp [nats]
theorem info3 : (Try.prog.info? 3).map (fun i => (i.zero, i.size, i.bytes)) = some (some (.int .i64 0), 1, 8) := by kernel_rfl
theorem cells_nat (W : World) (k : Nat) : ∀ j u, ([.int .i64 (k : Int)] : List Value)[j]? = some u → (W.alloc (.cells #[.int .i64 (k : Int)] 3)).cell? ((⟨W.heap.size, 0, none⟩ : Addr).add j) = some u := by
  intro j u hj
  rw [add_at]
  match j, hj with
  | 0, hj => simp at hj; subst hj; simp [go_sem]
theorem one_nat (k : Int) : ∀ u ∈ ([.int .i64 k] : List Value), u.oneCell' = true := by
  intro u hu
  simp at hu
  subst hu
  rfl
/-- a slice that reads as a list, in blocks from K on -/
structure Rd (W : World) (K : Nat) (A : Option Addr) (c : Nat) (l : List Nat) : Prop where
  cap : l.length ≤ c
  room : c ≤ maxLen
  nil : A = none → l = [] ∧ c = 0
  at' : ∀ a, A = some a → ∃ g, a = ⟨g, 0, none⟩ ∧ K ≤ g ∧ g < W.heap.size ∧ ∀ i (h : i < l.length), W.cell? ⟨g, i, none⟩ = some (.int .i64 (l[i] : Int))
section
variable {W W' : World} {K c : Nat} {A : Option Addr} {l : List Nat}
theorem Rd.keep (h : Rd W K A c l) (hs : W.heap.size ≤ W'.heap.size) (hk : ∀ k, K ≤ k → k < W.heap.size → W'.heap[k]? = W.heap[k]?) : Rd W' K A c l := by
  refine ⟨h.cap, h.room, h.nil, fun a ha => ?_⟩
  obtain ⟨g, rfl, h1, h2, h3⟩ := h.at' a ha
  exact ⟨g, rfl, h1, Nat.lt_of_lt_of_le h2 hs, fun i hi => (World.cell?_of_block (w := W) (a := ⟨g, i, none⟩) (hk g h1 h2)).trans (h3 i hi)⟩
theorem Rd.below (h : Rd W K A c l) (hb : Below W.heap.size W W') : Rd W' K A c l := h.keep hb.size fun k _ hk => hb.block k hk
theorem Rd.only {T : Nat → Prop} (h : Rd W K A c l) (ho : OnlyS T W W') (hT : ∀ k, T k → k < K) : Rd W' K A c l := h.keep ho.size fun k h1 h2 => ho.block k h2 (fun ht => by have := hT k ht; omega)
theorem Rd.cell (h : Rd W K A c l) {i : Nat} (hi : i < l.length) : ∃ g, A = some ⟨g, 0, none⟩ ∧ W.cell? ⟨g, i, none⟩ = some (.int .i64 (l[i] : Int)) := by
  cases A with
  | none => have := (h.nil rfl).1; subst this; simp at hi
  | some a =>
    obtain ⟨g, rfl, _, _, h4⟩ := h.at' a rfl
    exact ⟨g, rfl, h4 i hi⟩
theorem Rd.nilq (W : World) (K : Nat) : Rd W K none 0 [] := ⟨Nat.le_refl _, Nat.zero_le _, fun _ => ⟨rfl, rfl⟩, fun _ h => by cases h⟩
theorem Rd.weak {K' : Nat} (h : Rd W K A c l) (hk : K' ≤ K) : Rd W K' A c l := by
  refine ⟨h.cap, h.room, h.nil, fun a ha => ?_⟩
  obtain ⟨g, rfl, h1, h2, h3⟩ := h.at' a ha
  exact ⟨g, rfl, by omega, h2, h3⟩
theorem Rd.of_row {v : Value} {n : Nat} (h : W.ownsRow K 3 1 v n (nats l)) (hn : l.length = n) : ∃ A c, v = .slice A n c ∧ Rd W K A c l := by
  subst hn
  rcases h.2 with ⟨rfl, h0⟩ | ⟨g', cap', cur, rfl, hb, hg, h1, h2, h3, h4⟩
  · exact ⟨none, 0, by rw [h0], by omega, Nat.zero_le _, fun _ => ⟨List.length_eq_zero_iff.1 h0, rfl⟩, fun _ h => by cases h⟩
  · refine ⟨_, cap', rfl, by omega, h2, by simp, fun a ha => ?_⟩
    obtain rfl : (⟨g', 0, none⟩ : Addr) = a := by simpa using ha
    refine ⟨g', rfl, hb, (Array.getElem?_eq_some_iff.1 hg).1, fun i hi => ?_⟩
    have e1 : (nats l)[i]? = some (.int .i64 (l[i] : Int)) := by simp [nats, hi]
    have := h.cells (g := g') rfl i _ e1
    rwa [add_at] at this
end
/-- the box of List -/
structure Box (W : World) (b g N B : Nat) (L : Nat → List Nat) (pre : List Nat) (w1 : World) : Prop where
  ln : Ln w1 b g N L
  v : ∃ v, w1.cell? ⟨B, 0, none⟩ = some v ∧ w1.ownsRow (B + 1) 3 1 v pre.length (nats pre)
  fz : w1.frozen? ⟨B, 0, none⟩ = false
  bel : Below W.heap.size W w1
  hb : W.heap.size ≤ B
  hg : b < B ∧ g < B
theorem Box.put {W w1 w5 : World} {b g N B n g' cap k : Nat} {L : Nat → List Nat} {pre : List Nat} {v : Value} {o : Obj} (h : Box W b g N B L pre w1) (hr : w1.ownsRow (B + 1) 3 1 v k (nats pre)) (hk : pre.length = k) (hB : B < w1.heap.size)
    (hown : w5.ownsRow (B + 1) 3 1 (.slice (some ⟨g', 0, none⟩) (k + 1) cap) (k + 1) (nats pre ++ [.int .i64 (n : Int)])) (hgrow : (w1.alloc o).grownBy w5 v.ownBlock) :
    (w5.cell? ⟨B, 0, none⟩ = w1.cell? ⟨B, 0, none⟩ ∧ w5.frozen? ⟨B, 0, none⟩ = false) ∧ Box W b g N B L (pre ++ [n]) (w5.setCell ⟨B, 0, none⟩ (.slice (some ⟨g', 0, none⟩) (k + 1) cap)) := by
  have ho : OnlyS (fun j => B < j) w1 w5 := OnlyS.grown (w1 := w1.alloc o) (OnlyS.of_below (box_below _ _)) hgrow (fun j hj => .inl (by have := (hr.lt j hj).1; omega))
  have hbB := h.hg
  have e1 : w5.heap[B]? = w1.heap[B]? := ho.block B hB (by omega)
  obtain ⟨v0, hv0, -⟩ := h.v
  have c1 := World.cell?_of_block (w := w1) (a := ⟨B, 0, none⟩) e1
  have f1 := World.frozen?_of_block (w := w1) (a := ⟨B, 0, none⟩) e1
  have ho2 : OnlyS (fun j => B ≤ j) w1 (w5.setCell ⟨B, 0, none⟩ (.slice (some ⟨g', 0, none⟩) (k + 1) cap)) := (ho.mono (fun j _ (hj : B < j) => Nat.le_of_lt hj)).setIn B 0 _ (.inl (Nat.le_refl _))
  refine ⟨⟨c1, f1.trans h.fz⟩, h.ln.only ho2 (by omega) (by omega), ⟨_, cell_near (c1.trans hv0), ?_⟩, by rw [World.frozen?_setCell]; exact f1.trans h.fz, h.bel.trans (ho2.below (fun j (hj : B ≤ j) => Nat.le_trans h.hb hj) h.bel.size), h.hb, h.hg⟩
  rw [nats_snoc, List.length_append, hk]
  refine row_keep hown fun j hj => ?_
  have := (hown.lt j hj).1
  exact set_other (by omega)
set_option maxHeartbeats 1000000 in
theorem gather {W w1 : World} {b g N B n : Nat} {L : Nat → List Nat} {pre : List Nat} (h : Box W b g N B L pre w1) (hp : pre.length ≤ 5000) : Calls Try.prog 32 #[.int .i64 (n : Int), wp B] w1 fun e w' => e = .returned (.tuple #[]) ∧ Box W b g N B L (pre ++ [n]) w' := by
  obtain ⟨v, q0, hr⟩ := h.v
  have f0 := h.fz
  have hBlt : B < w1.heap.size := cell_lt q0
  obtain ⟨A, cc, hv, -⟩ := row_slice hr
  have H := Lib.hid h
  have HR := Lib.hid hr
  have HV := Lib.hid hv
  obtain ⟨i0, hi, hz0, hz1, hz2⟩ := info_parts info3
  clear h hr
  rw [hv] at q0
  clear hv
  obtain ⟨k, hk⟩ : ∃ k, pre.length = k := ⟨_, rfl⟩
  have HK := Lib.hid hk
  rw [hk] at q0 hp HR HV
  clear hk
  go_enter Try.func32, Try.ntmps32
  go_wp2_with (at_builtin; refine wpList_append_lies _ rfl _ _ 37 rfl (B + 1) 3 i0 (.int .i64 0) 1 8 Try.underlying37 hi hz0 hz1 hz2 rfl (by decide) (.slice A k cc) k (nats pre) rfl ?a0 ⟨w1.heap.size, 0, none⟩ 1 1 [.int .i64 (n : Int)] rfl rfl (cells_nat w1 n) (one_nat _) (by decide) (by unfold maxLen; omega) (by omega) ?a2 (w1.heap.size + 1) (by simp) ?_)
  case a0 => rw [← HV.out]; exact HR.out.alloc _
  case a2 => simp; omega
  intro g' cap w5 hown hgrow hgo hglt
  obtain ⟨⟨r1, r2⟩, hE⟩ := H.out.put HR.out HK.out hBlt hown (by rw [HV.out]; exact hgrow)
  rw [q0] at r1
  have HE := Lib.hid hE
  clear hown hgrow hgo hE q0
  go_wp2
  go_end0
  exact ⟨rfl, HE.out⟩
/-- what List answers -/
def Lists (W : World) (l : List Nat) (e : Ending) (w' : World) : Prop := ∃ A c, e = .returned (.slice A l.length c) ∧ Rd w' W.heap.size A c l ∧ Below W.heap.size W w'
set_option maxHeartbeats 1000000 in
theorem Ln.list {W : World} {b g N : Nat} {L : Nat → List Nat} (h : Ln W b g N L) (row : Int) : Calls Try.prog 21 #[wp b, .int .i64 row] W (Lists W (listOf N L row)) := by
  have hlt := h.lt
  have hnb := h.nb
  have hlen : (listOf N L row).length ≤ N := by
    obtain ⟨_, _, _, _, _, hr⟩ := h
    exact listOf_len hr.good row
  have h0 : Box W b g N W.heap.size L [] (W.alloc (.cells #[.slice none 0 0] 37)) := ⟨h.below (box_below _ _), ⟨_, by simp [go_sem], World.ownsRow_nil _ _ _ _⟩, by simp [go_sem], box_below _ _, Nat.le_refl _, hlt.1, hlt.2.1⟩
  have HE := Lib.hid (each32 (B := W.heap.size) (P := Box W b g N W.heap.size L) row (fun _ _ h => h.ln) (fun pre n post w1 hl hp => gather hp (by rw [hl] at hlen; simp at hlen; omega)) h0)
  clear h h0 hlen hlt
  generalize listOf N L row = l at *
  go_enter Try.func21, Try.ntmps21
  go_wp2_with fail
  refine HE.out.mono ?_
  rintro e w2 ⟨rfl, hc⟩
  obtain ⟨v, q0, hr⟩ := hc.v
  obtain ⟨A, c, rfl, hd⟩ := Rd.of_row hr rfl
  have HB := Lib.hid hc.bel
  have HD := Lib.hid (hd.weak (Nat.le_succ _))
  clear HE hc hr hd
  obtain ⟨n, hn⟩ : ∃ n, l.length = n := ⟨_, rfl⟩
  rw [hn] at q0
  have HN := Lib.hid hn
  clear hn
  go_wp2
  go_ret
  exact ⟨A, c, by rw [HN.out]; rfl, HD.out, HB.out⟩
end Go.Proofs.Ythgcedhplbhiiaa
