/- How a map's chains are linked anew: one is laid ahead of a bucket's, one is put behind, cut out, or has another number; there is a bucket more, or one less. -/
import Derived.Test.YtbeeekpofbhljaaA2
namespace Go.Proofs.Ytbeeekpofbhljaa
open Go Go.RowKit
variable {W W' : World} {L b g c n : Nat} {O : Nat → Prop} {cs : Nat → List En} {es : List En} {t : Int} {F : Int → Option Int}

theorem nodup_mid {pre post : List En} {e : En} (h : ((pre ++ e :: post).map (·.key)).Nodup) : (∀ f ∈ pre, f.key ≠ e.key) ∧ (∀ f ∈ post, f.key ≠ e.key) := by
  rw [List.map_append, List.nodup_append] at h
  obtain ⟨-, h2, h3⟩ := h
  rw [List.map_cons, List.nodup_cons] at h2
  exact ⟨fun f hf => h3 _ (List.mem_map_of_mem hf) _ (by simp), fun f hf e1 => h2.1 (by rw [← e1]; exact List.mem_map_of_mem hf)⟩
theorem Mp.key1 (h : Mp W L O b g c n cs [] t F) {j : Nat} (hj : j < n) : ((cs j).map (·.key)).Nodup := by simpa using h.keys j hj
/-- two chains have no block in common -/
theorem Mp.apart (h : Mp W L O b g c n cs es t F) {i j : Nat} (hi : i < n) (hj : j < n) (hij : i ≠ j) {e f : En} (he : e ∈ cs i) (hf : f ∈ cs j) : e.blk ≠ f.blk := fun hb => by
  have hk := (h.ch i hi).key_eq (h.ch j hj) he hf hb
  have p1 := h.place i hi e he
  have p2 := h.place j hj f hf
  rw [hk] at p1
  exact hij (p1.symm.trans p2)
theorem Mp.mid (h : Mp W L O b g c n cs [] t F) {j : Nat} (hj : j < n) {pre post : List En} {e : En} (hs : cs j = pre ++ e :: post) : (∀ f ∈ pre, f.blk ≠ e.blk) ∧ (∀ f ∈ post, f.blk ≠ e.blk) := by
  have hk := h.key1 hj
  have hc := h.ch j hj
  rw [hs] at hk hc
  obtain ⟨k1, k2⟩ := nodup_mid hk
  exact ⟨fun f hf e1 => k1 f hf (hc.key_eq hc (by simp [hf]) (by simp) e1), fun f hf e1 => k2 f hf (hc.key_eq hc (by simp [hf]) (by simp) e1)⟩
theorem hd_pre {pre p q : List En} {e : En} : hd (pre ++ [e] ++ p) = hd (pre ++ [e] ++ q) := by cases pre <;> rfl

theorem Mp.turn (h : Mp W L O b g c n cs [] t F) {j : Nat} (hj : j < n) {pre post post' : List En} (hs : cs j = pre ++ post) (F' : Int → Option Int) (hp : Ch W post')
    (m1 : ∀ e ∈ post', O e.blk ∧ e.blk ≠ b ∧ e.blk ≠ g ∧ U e.key ∧ F' e.key = some e.v ∧ bk n e.key = j)
    (m2 : ∀ e, (e ∈ pre ∨ ∃ i, i < n ∧ i ≠ j ∧ e ∈ cs i) → F' e.key = F e.key)
    (m3 : ((pre ++ post').map (·.key)).Nodup)
    (m4 : ∀ k, U k → F' k ≠ none → ∃ e ∈ upd cs j (pre ++ post') (bk n k), e.key = k) :
    Mp (W.setCell (la g j pre) (hd post')) L O b g c n (upd cs j (pre ++ post')) [] t F' := by
  have hmem : ∀ e, (e ∈ ([] : List En) ∨ ∃ i, i < n ∧ e ∈ upd cs j (pre ++ post') i) → O e.blk ∧ e.blk ≠ b ∧ e.blk ≠ g ∧ U e.key ∧ F' e.key = some e.v := by
    rintro e (he | ⟨i, hi, he⟩)
    · simp at he
    · by_cases hij : i = j
      · subst hij
        rw [upd_same] at he
        rcases List.mem_append.1 he with he | he
        · obtain ⟨q1, q2, q3, q4, q5⟩ := h.mem e (.inr ⟨i, hi, by rw [hs]; simp [he]⟩)
          exact ⟨q1, q2, q3, q4, by rw [m2 e (.inl he)]; exact q5⟩
        · obtain ⟨q1, q2, q3, q4, q5, _⟩ := m1 e he
          exact ⟨q1, q2, q3, q4, q5⟩
      · rw [upd_other hij] at he
        obtain ⟨q1, q2, q3, q4, q5⟩ := h.mem e (.inr ⟨i, hi, he⟩)
        exact ⟨q1, q2, q3, q4, by rw [m2 e (.inr ⟨i, hi, hij, he⟩)]; exact q5⟩
  have hplace : ∀ i, i < n → ∀ e ∈ upd cs j (pre ++ post') i, bk n e.key = i := by
    intro i hi e he
    by_cases hij : i = j
    · subst hij
      rw [upd_same] at he
      rcases List.mem_append.1 he with he | he
      · exact h.place i hi e (by rw [hs]; simp [he])
      · exact (m1 e he).2.2.2.2.2
    · rw [upd_other hij] at he
      exact h.place i hi e he
  have hkeys : ∀ i, i < n → ((([] : List En) ++ upd cs j (pre ++ post') i).map (·.key)).Nodup := by
    intro i hi
    by_cases hij : i = j
    · subst hij
      rw [upd_same]
      exact m3
    · rw [upd_other hij]
      exact h.keys i hi
  have hfull : ∀ k, U k → F' k ≠ none → (∃ e ∈ ([] : List En), e.key = k) ∨ ∃ e ∈ upd cs j (pre ++ post') (bk n k), e.key = k := fun k hu hk => .inr (m4 k hu hk)
  obtain ⟨k0, o0, hla, hO⟩ := h.la_own hj hs
  have hsz : ∀ k, O k → L ≤ k ∧ k < (W.setCell (la g j pre) (hd post')).heap.size := fun k hk => ⟨(h.ol k hk).1, by simpa [World.setCell] using (h.ol k hk).2⟩
  rcases List.eq_nil_or_concat pre with rfl | ⟨p0, e, rfl⟩
  · rw [la_nil] at *
    have q : ∀ k, k ≠ g → (W.setCell ⟨g, j, none⟩ (hd post')).heap[k]? = W.heap[k]? := fun k hk => set_other hk
    refine ⟨(World.cell?_of_block (w := W) (a := ⟨b, 0, none⟩) (q b h.ne)).trans h.c0, (World.cell?_of_block (w := W) (a := ⟨b, 1, none⟩) (q b h.ne)).trans h.c1, fun o => (World.frozen?_of_block (w := W) (a := ⟨b, o, none⟩) (q b h.ne)).trans (h.fz o), ?_, ?_, trivial, h.ne, h.o1, h.o2, hsz, hmem, hplace, hkeys, hfull, h.n4, h.nb⟩
    · rw [List.nil_append, ← rowOf_set]
      exact row_store h.row j _
    · intro i hi
      by_cases hij : i = j
      · subst hij
        rw [upd_same]
        exact hp.keep (fun e he => q _ (m1 e he).2.2.1)
      · rw [upd_other hij]
        exact (h.ch i hi).keep (fun e he => q _ (h.mem e (.inr ⟨i, hi, he⟩)).2.2.1)
  · rw [List.concat_eq_append] at *
    rw [la_snoc] at *
    have hs' : cs j = p0 ++ e :: post := by rw [hs, List.append_assoc]; rfl
    have he : e ∈ cs j := by rw [hs']; simp
    obtain ⟨-, eb, eg, -, -⟩ := h.mem e (.inr ⟨j, hj, he⟩)
    have q : ∀ k, k ≠ e.blk → (W.setCell ⟨e.blk, 2, none⟩ (hd post')).heap[k]? = W.heap[k]? := fun k hk => set_other hk
    refine ⟨(World.cell?_of_block (w := W) (a := ⟨b, 0, none⟩) (q b (Ne.symm eb))).trans h.c0, (World.cell?_of_block (w := W) (a := ⟨b, 1, none⟩) (q b (Ne.symm eb))).trans h.c1, fun o => (World.frozen?_of_block (w := W) (a := ⟨b, o, none⟩) (q b (Ne.symm eb))).trans (h.fz o), ?_, ?_, trivial, h.ne, h.o1, h.o2, hsz, hmem, hplace, hkeys, hfull, h.n4, h.nb⟩
    · rw [rowOf_congr (cs' := cs) (fun i hi => by
        by_cases hij : i = j
        · subst hij
          rw [upd_same, hs]
          exact hd_pre
        · rw [upd_other hij])]
      exact row_keep h.row (fun k ek => by
        obtain rfl : g = k := by simpa [Value.ownBlock] using ek
        exact q _ (Ne.symm eg))
    · intro i hi
      by_cases hij : i = j
      · subst hij
        rw [upd_same, List.append_assoc]
        have hc := h.ch i hi
        rw [hs'] at hc
        refine hc.relink hp (h.mid hi hs').1 (fun f hf e1 => ?_)
        have hkk := hp.key_eq hc hf (by simp) e1
        rw [List.append_assoc] at m3
        exact (nodup_mid m3).2 f hf hkk
      · rw [upd_other hij]
        exact (h.ch i hi).keep (fun f hf => q _ (h.apart hi hj hij hf he))
theorem Mp.value (h : Mp W L O b g c n cs [] t F) {j : Nat} (hj : j < n) {pre post : List En} {e : En} (hs : cs j = pre ++ e :: post) (v : Int) :
    Mp (W.setCell ⟨e.blk, 1, none⟩ (.int .i64 v)) L O b g c n (upd cs j (pre ++ ⟨e.key, v, e.blk⟩ :: post)) [] t (fun k => if k = e.key then some v else F k) := by
  have he : e ∈ cs j := by rw [hs]; simp
  obtain ⟨eo, eb, eg, eu, ef⟩ := h.mem e (.inr ⟨j, hj, he⟩)
  obtain ⟨d1, d2⟩ := h.mid hj hs
  have hk := h.key1 hj
  rw [hs] at hk
  obtain ⟨k1, k2⟩ := nodup_mid hk
  have q : ∀ k, k ≠ e.blk → (W.setCell ⟨e.blk, 1, none⟩ (.int .i64 v)).heap[k]? = W.heap[k]? := fun k hk => set_other hk
  refine ⟨(World.cell?_of_block (w := W) (a := ⟨b, 0, none⟩) (q b (Ne.symm eb))).trans h.c0, (World.cell?_of_block (w := W) (a := ⟨b, 1, none⟩) (q b (Ne.symm eb))).trans h.c1, fun o => (World.frozen?_of_block (w := W) (a := ⟨b, o, none⟩) (q b (Ne.symm eb))).trans (h.fz o), ?_, ?_, trivial, h.ne, h.o1, h.o2, fun k hk => ⟨(h.ol k hk).1, by simpa [World.setCell] using (h.ol k hk).2⟩, ?_, ?_, ?_, ?_, h.n4, h.nb⟩
  · rw [rowOf_congr (cs' := cs) (fun i hi => by
      by_cases hij : i = j
      · subst hij
        rw [upd_same, hs]
        cases pre <;> rfl
      · rw [upd_other hij])]
    exact row_keep h.row (fun k ek => by
      obtain rfl : g = k := by simpa [Value.ownBlock] using ek
      exact q _ (Ne.symm eg))
  · intro i hi
    by_cases hij : i = j
    · subst hij
      rw [upd_same]
      have hc := h.ch i hi
      rw [hs] at hc
      exact hc.value v d1 d2
    · rw [upd_other hij]
      exact (h.ch i hi).keep (fun f hf => q _ (h.apart hi hj hij hf he))
  · rintro f (hf | ⟨i, hi, hf⟩)
    · simp at hf
    · by_cases hij : i = j
      · subst hij
        rw [upd_same] at hf
        rcases List.mem_append.1 hf with hf | hf
        · obtain ⟨q1, q2, q3, q4, q5⟩ := h.mem f (.inr ⟨i, hi, by rw [hs]; simp [hf]⟩)
          exact ⟨q1, q2, q3, q4, by simp only [if_neg (k1 f hf)]; exact q5⟩
        · rcases List.mem_cons.1 hf with rfl | hf
          · exact ⟨eo, eb, eg, eu, by simp⟩
          · obtain ⟨q1, q2, q3, q4, q5⟩ := h.mem f (.inr ⟨i, hi, by rw [hs]; simp [hf]⟩)
            exact ⟨q1, q2, q3, q4, by simp only [if_neg (k2 f hf)]; exact q5⟩
      · rw [upd_other hij] at hf
        obtain ⟨q1, q2, q3, q4, q5⟩ := h.mem f (.inr ⟨i, hi, hf⟩)
        refine ⟨q1, q2, q3, q4, ?_⟩
        rw [if_neg (fun e1 => ?_)]
        · exact q5
        · have p1 := h.place i hi f hf
          have p2 := h.place j hj e he
          rw [e1] at p1
          exact hij (p1.symm.trans p2)
  · intro i hi f hf
    by_cases hij : i = j
    · subst hij
      rw [upd_same] at hf
      rcases List.mem_append.1 hf with hf | hf
      · exact h.place i hi f (by rw [hs]; simp [hf])
      · rcases List.mem_cons.1 hf with rfl | hf
        · exact h.place i hi e he
        · exact h.place i hi f (by rw [hs]; simp [hf])
    · rw [upd_other hij] at hf
      exact h.place i hi f hf
  · intro i hi
    by_cases hij : i = j
    · subst hij
      rw [upd_same]
      simpa using hk
    · rw [upd_other hij]
      exact h.keys i hi
  · intro k hu hk
    right
    by_cases hke : k = e.key
    · refine ⟨⟨e.key, v, e.blk⟩, ?_, hke.symm⟩
      rw [hke, h.place j hj e he, upd_same]
      simp
    · simp only [if_neg hke] at hk
      rcases h.full k hu hk with ⟨f, hf, _⟩ | ⟨f, hf, hfk⟩
      · simp at hf
      · refine ⟨f, ?_, hfk⟩
        by_cases hij : bk n k = j
        · rw [hij] at hf ⊢
          rw [upd_same]
          rw [hs] at hf
          rcases List.mem_append.1 hf with hf | hf
          · simp [hf]
          · rcases List.mem_cons.1 hf with rfl | hf
            · exact absurd hfk.symm hke
            · simp [hf]
        · rw [upd_other hij]
          exact hf
/-- one of the chain beside is laid ahead of its bucket's -/
theorem Mp.push {e : En} (h : Mp W L O b g c n cs (e :: es) t F) : Mp ((W.setCell ⟨e.blk, 2, none⟩ (hd (cs (bk n e.key)))).setCell ⟨g, bk n e.key, none⟩ (.pointer (some ⟨e.blk, 0, none⟩))) L O b g c n (upd cs (bk n e.key) (e :: cs (bk n e.key))) es t F := by
  obtain ⟨eo, eb, eg, eu, ef⟩ := h.mem e (.inl (by simp))
  have hn : 0 < n := by have := h.n4; omega
  have hi : bk n e.key < n := bk_lt hn (by have := h.nb; omega) _
  generalize hie : bk n e.key = i at *
  have far : ∀ j, j < n → ∀ f ∈ cs j, f.blk ≠ e.blk := fun j hj f hf e1 => by
    have hk := h.keys j hj
    have hkk := (h.ch j hj).key_eq h.che hf (by simp) e1
    rw [List.cons_append, List.map_cons, List.nodup_cons] at hk
    exact hk.1 (by rw [← hkk]; exact List.mem_map_of_mem (by simp [hf]))
  have fae : ∀ f ∈ es, f.blk ≠ e.blk := fun f hf e1 => by
    have hk := h.keys 0 hn
    have hkk := h.che.key_eq h.che (by simp [hf]) (by simp) e1
    rw [List.cons_append, List.map_cons, List.nodup_cons] at hk
    exact hk.1 (by rw [← hkk]; exact List.mem_map_of_mem (by simp [hf]))
  have q : ∀ k, k ≠ e.blk → k ≠ g → ((W.setCell ⟨e.blk, 2, none⟩ (hd (cs i))).setCell ⟨g, i, none⟩ (.pointer (some ⟨e.blk, 0, none⟩))).heap[k]? = W.heap[k]? := fun k hk hg => (set_other hg).trans (set_other hk)
  refine ⟨(World.cell?_of_block (w := W) (a := ⟨b, 0, none⟩) (q b (Ne.symm eb) h.ne)).trans h.c0, (World.cell?_of_block (w := W) (a := ⟨b, 1, none⟩) (q b (Ne.symm eb) h.ne)).trans h.c1, fun o => (World.frozen?_of_block (w := W) (a := ⟨b, o, none⟩) (q b (Ne.symm eb) h.ne)).trans (h.fz o), ?_, ?_, ?_, h.ne, h.o1, h.o2, fun k hk => ⟨(h.ol k hk).1, by simpa [World.setCell] using (h.ol k hk).2⟩, ?_, ?_, ?_, ?_, h.n4, h.nb⟩
  · rw [← rowOf_set]
    refine row_store (row_keep h.row (fun k ek => ?_)) i _
    obtain rfl : g = k := by simpa [Value.ownBlock] using ek
    exact set_other (Ne.symm eg)
  · intro j hj
    by_cases hij : j = i
    · subst hij
      rw [upd_same]
      exact ⟨(h.che.1.next).keep (set_other eg), (h.ch j hj).keep (fun f hf => q _ (far j hj f hf) (h.mem f (.inr ⟨j, hj, hf⟩)).2.2.1)⟩
    · rw [upd_other hij]
      exact (h.ch j hj).keep (fun f hf => q _ (far j hj f hf) (h.mem f (.inr ⟨j, hj, hf⟩)).2.2.1)
  · exact h.che.2.keep (fun f hf => q _ (fae f hf) (h.mem f (.inl (by simp [hf]))).2.2.1)
  · rintro f (hf | ⟨j, hj, hf⟩)
    · exact h.mem f (.inl (by simp [hf]))
    · by_cases hij : j = i
      · subst hij
        rw [upd_same] at hf
        rcases List.mem_cons.1 hf with rfl | hf
        · exact ⟨eo, eb, eg, eu, ef⟩
        · exact h.mem f (.inr ⟨j, hj, hf⟩)
      · rw [upd_other hij] at hf
        exact h.mem f (.inr ⟨j, hj, hf⟩)
  · intro j hj f hf
    by_cases hij : j = i
    · subst hij
      rw [upd_same] at hf
      rcases List.mem_cons.1 hf with rfl | hf
      · exact hie
      · exact h.place j hj f hf
    · rw [upd_other hij] at hf
      exact h.place j hj f hf
  · intro j hj
    have hk := h.keys j hj
    by_cases hij : j = i
    · subst hij
      rw [upd_same]
      exact ((List.perm_middle.map _).nodup_iff).2 hk
    · rw [upd_other hij]
      rw [List.cons_append, List.map_cons, List.nodup_cons] at hk
      exact hk.2
  · intro k hu hk
    rcases h.full k hu hk with ⟨f, hf, hfk⟩ | ⟨f, hf, hfk⟩
    · rcases List.mem_cons.1 hf with rfl | hf
      · right
        refine ⟨f, ?_, hfk⟩
        rw [← hfk, hie, upd_same]
        simp
      · exact .inl ⟨f, hf, hfk⟩
    · right
      refine ⟨f, ?_, hfk⟩
      by_cases hij : bk n k = i
      · rw [hij] at hf ⊢
        rw [upd_same]
        simp [hf]
      · rw [upd_other hij]
        exact hf
/-- the last bucket's chain is taken away, and there is a bucket less -/
theorem Mp.shrink {m : Nat} (h : Mp W L O b g c (m + 1) cs [] t F) (hm : 4 ≤ m) : Mp ((W.setCell ⟨g, m, none⟩ (.pointer none)).setCell ⟨b, 0, none⟩ (.slice (some ⟨g, 0, none⟩) m c)) L O b g c m cs (cs m) t F := by
  have hlast : m < m + 1 := by omega
  have hb1 : (W.setCell ⟨g, m, none⟩ (.pointer none)).heap[b]? = W.heap[b]? := set_other h.ne
  have q0 : ∀ o, (W.setCell ⟨g, m, none⟩ (.pointer none)).cell? ⟨b, o, none⟩ = W.cell? ⟨b, o, none⟩ := fun o => World.cell?_of_block (w := W) (a := ⟨b, o, none⟩) hb1
  have q : ∀ k, k ≠ b → k ≠ g → ((W.setCell ⟨g, m, none⟩ (.pointer none)).setCell ⟨b, 0, none⟩ (.slice (some ⟨g, 0, none⟩) m c)).heap[k]? = W.heap[k]? := fun k hk hg => (set_other hk).trans (set_other hg)
  have far : ∀ i, i < m → ∀ k, bk (m + 1) k = i → bk m k = i := fun i hi k hk => by
    have := (bk_next (n := m) (by omega) (by have := h.nb; omega) k).1 (by omega)
    omega
  refine ⟨cell_near ((q0 0).trans h.c0), (cell_far (by omega)).trans ((q0 1).trans h.c1), fun o => ?_, ?_, ?_, ?_, h.ne, h.o1, h.o2, fun k hk => ⟨(h.ol k hk).1, by simpa [World.setCell] using (h.ol k hk).2⟩, ?_, ?_, ?_, ?_, hm, by have := h.nb; omega⟩
  · rw [World.frozen?_setCell, World.frozen?_setCell]
    exact h.fz o
  · have r1 := row_store h.row m (.pointer none)
    have r2 := row_cut r1 (i := m) (by omega)
    have e1 : ((rowOf (m + 1) cs).set m (.pointer none)).take (m * 1) = rowOf m cs := by
      rw [show Value.pointer none = hd [] from rfl, rowOf_set, rowOf_succ, Nat.mul_one, List.take_left' (rowOf_length _ _)]
      exact rowOf_congr (fun i hi => by rw [upd_other (by omega)])
    rw [e1] at r2
    refine row_keep r2 (fun k ek => ?_)
    obtain rfl : g = k := by simpa [Value.ownBlock] using ek
    exact set_other (Ne.symm h.ne)
  · intro j hj
    refine (h.ch j (by omega)).keep (fun e he => ?_)
    obtain ⟨-, eb, eg, -, -⟩ := h.mem e (.inr ⟨j, by omega, he⟩)
    exact q _ eb eg
  · refine (h.ch m (by omega)).keep (fun e he => ?_)
    obtain ⟨-, eb, eg, -, -⟩ := h.mem e (.inr ⟨m, by omega, he⟩)
    exact q _ eb eg
  · rintro e (he | ⟨j, hj, he⟩)
    · exact h.mem e (.inr ⟨m, by omega, he⟩)
    · exact h.mem e (.inr ⟨j, by omega, he⟩)
  · intro j hj e he
    exact far j hj _ (h.place j (by omega) e he)
  · intro j hj
    rw [List.map_append, List.nodup_append]
    refine ⟨h.key1 (by omega), h.key1 (by omega), fun x hx y hy => ?_⟩
    obtain ⟨e, he, rfl⟩ := List.mem_map.1 hx
    obtain ⟨f, hf, rfl⟩ := List.mem_map.1 hy
    intro e1
    have p1 := h.place m (by omega) e he
    have p2 := h.place j (by omega) f hf
    rw [e1] at p1
    omega
  · intro k hu hk
    rcases h.full k hu hk with ⟨e, he, _⟩ | ⟨e, he, hek⟩
    · simp at he
    · by_cases hb : bk (m + 1) k = m
      · rw [hb] at he
        exact .inl ⟨e, he, hek⟩
      · right
        have hlt := bk_lt (n := m + 1) (by omega) (by have := h.nb; omega) k
        rw [far _ (by omega) k rfl]
        exact ⟨e, he, hek⟩
/-- one bucket's chain is taken away, and there is a bucket more -/
theorem Mp.grow {X w5 : World} {g' cap : Nat} (h : Mp W L O b g c n cs [] t F) (hn : n < 249) (hX : Below W.heap.size (W.setCell ⟨g, n - pw n, none⟩ (.pointer none)) X)
    (hown : w5.ownsRow L 44 1 (.slice (some ⟨g', 0, none⟩) (n + 1) cap) (n + 1) (rowOf n (upd cs (n - pw n) []) ++ [.pointer none])) (hg : X.grownBy w5 (some g)) (hgo : g = g' ∨ W.heap.size ≤ g') :
    (w5.cell? ⟨b, 0, none⟩ = some (.slice (some ⟨g, 0, none⟩) n c) ∧ w5.frozen? ⟨b, 0, none⟩ = false) ∧
    Mp (w5.setCell ⟨b, 0, none⟩ (.slice (some ⟨g', 0, none⟩) (n + 1) cap)) L (fun k => O k ∨ k = g') b g' cap (n + 1) (upd (upd cs (n - pw n) []) n []) (cs (n - pw n)) t F ∧
    OnlyS O W (w5.setCell ⟨b, 0, none⟩ (.slice (some ⟨g', 0, none⟩) (n + 1) cap)) := by
  have h4 := h.n4
  obtain ⟨-, -, b3, b4, -⟩ := pw_is (n := n) (by omega) (by omega)
  have hpj : n - pw n < n := by omega
  have far : ∀ k, bk n k ≠ n - pw n → bk (n + 1) k = bk n k := fun k => (bk_next (n := n) (by omega) (by omega) k).2
  generalize hj0 : n - pw n = j at *
  have hs1 : (W.setCell ⟨g, j, none⟩ (.pointer none)).heap.size = W.heap.size := by simp [World.setCell]
  have hXs : W.heap.size ≤ X.heap.size := by have := hX.size; omega
  have q5 : ∀ k, k < W.heap.size → k ≠ g → w5.heap[k]? = W.heap[k]? := fun k hk hkg =>
    (hg.block k (by omega) (fun e => hkg (by simpa using e))).trans ((hX.block k hk).trans (set_other hkg))
  have hbl := (h.ol b h.o1).2
  have hb5 := q5 b hbl h.ne
  have q0 : ∀ o, w5.cell? ⟨b, o, none⟩ = W.cell? ⟨b, o, none⟩ := fun o => World.cell?_of_block (w := W) (a := ⟨b, o, none⟩) hb5
  have qf : ∀ o, w5.frozen? ⟨b, o, none⟩ = W.frozen? ⟨b, o, none⟩ := fun o => World.frozen?_of_block (w := W) (a := ⟨b, o, none⟩) hb5
  have hbg' : b ≠ g' := by
    rcases hgo with rfl | hgo
    · exact h.ne
    · omega
  have hg'l := hown.lt g' rfl
  have q : ∀ k, k < W.heap.size → k ≠ b → k ≠ g → (w5.setCell ⟨b, 0, none⟩ (.slice (some ⟨g', 0, none⟩) (n + 1) cap)).heap[k]? = W.heap[k]? := fun k hk hkb hkg => (set_other hkb).trans (q5 k hk hkg)
  have qe : ∀ i, i < n → ∀ e ∈ cs i, (w5.setCell ⟨b, 0, none⟩ (.slice (some ⟨g', 0, none⟩) (n + 1) cap)).heap[e.blk]? = W.heap[e.blk]? := fun i hi e he => by
    obtain ⟨eo, eb, eg, -, -⟩ := h.mem e (.inr ⟨i, hi, he⟩)
    exact q _ (h.ol _ eo).2 eb eg
  have hcs : ∀ i, i < n + 1 → upd (upd cs j []) n [] i = [] ∨ (i < n ∧ i ≠ j ∧ upd (upd cs j []) n [] i = cs i) := fun i hi => by
    by_cases h1 : i = n
    · left; rw [h1, upd_same]
    · rw [upd_other h1]
      by_cases h2 : i = j
      · left; rw [h2, upd_same]
      · right; exact ⟨by omega, h2, upd_other h2⟩
  have hsz5 : W.heap.size ≤ w5.heap.size := Nat.le_trans hXs hg.size
  have hme : ∀ i, i < n → ∀ e ∈ cs i, (O e.blk ∨ e.blk = g') ∧ e.blk ≠ b ∧ e.blk ≠ g' ∧ U e.key ∧ F e.key = some e.v := fun i hi e he => by
    obtain ⟨eo, eb, eg, eu, ef⟩ := h.mem e (.inr ⟨i, hi, he⟩)
    refine ⟨.inl eo, eb, fun e1 => ?_, eu, ef⟩
    rcases hgo with rfl | hgo
    · exact eg e1
    · have := (h.ol _ eo).2; omega
  refine ⟨⟨(q0 0).trans h.c0, (qf 0).trans (h.fz 0)⟩, ⟨cell_near ((q0 0).trans h.c0), (cell_far (by omega)).trans ((q0 1).trans h.c1), fun o => ?_, ?_, ?_, ?_, hbg', .inl h.o1, .inr rfl, ?_, ?_, ?_, ?_, ?_, by omega, by omega⟩, ?_⟩
  · rw [World.frozen?_setCell]; exact (qf o).trans (h.fz o)
  · rw [rowOf_succ, upd_same, rowOf_congr (cs' := upd cs j []) (fun i hi => by rw [upd_other (by omega)])]
    refine row_keep hown (fun k ek => ?_)
    obtain rfl : g' = k := by simpa [Value.ownBlock] using ek
    exact set_other (Ne.symm hbg')
  · intro i hi
    rcases hcs i hi with e1 | ⟨hi', -, e1⟩
    · rw [e1]; trivial
    · rw [e1]; exact (h.ch i hi').keep (qe i hi')
  · exact (h.ch j hpj).keep (qe j hpj)
  · rintro k (hk | rfl)
    · exact ⟨(h.ol k hk).1, by have := (h.ol k hk).2; simp only [World.size_setCell]; omega⟩
    · exact ⟨hg'l.1, by simp only [World.size_setCell]; exact hg'l.2⟩
  · rintro e (he | ⟨i, hi, he⟩)
    · exact hme j hpj e he
    · rcases hcs i hi with e1 | ⟨hi', -, e1⟩
      · rw [e1] at he; simp at he
      · rw [e1] at he; exact hme i hi' e he
  · intro i hi e he
    rcases hcs i hi with e1 | ⟨hi', hij, e1⟩
    · rw [e1] at he; simp at he
    · rw [e1] at he
      have p := h.place i hi' e he
      rw [far _ (by omega)]
      exact p
  · intro i hi
    rcases hcs i hi with e1 | ⟨hi', hij, e1⟩
    · rw [e1, List.append_nil]; exact h.key1 hpj
    · rw [e1, List.map_append, List.nodup_append]
      refine ⟨h.key1 hpj, h.key1 hi', fun x hx y hy => ?_⟩
      obtain ⟨e, he, rfl⟩ := List.mem_map.1 hx
      obtain ⟨f, hf, rfl⟩ := List.mem_map.1 hy
      intro e2
      have p1 := h.place j hpj e he
      have p2 := h.place i hi' f hf
      rw [e2] at p1
      omega
  · intro k hu hk
    rcases h.full k hu hk with ⟨e, he, _⟩ | ⟨e, he, hek⟩
    · simp at he
    · by_cases hb : bk n k = j
      · rw [hb] at he
        exact .inl ⟨e, he, hek⟩
      · right
        have hlt := bk_lt (n := n) (by omega) (by omega) k
        rw [far k hb, upd_other (by omega), upd_other hb]
        exact ⟨e, he, hek⟩
  · refine ⟨hg.os.trans hX.os, hg.tape.trans hX.tape, hg.output.trans hX.output, by simp only [World.size_setCell]; exact hsz5, fun k hk hn' => ?_⟩
    refine q k hk (fun e => hn' (by rw [e]; exact h.o1)) (fun e => hn' (by rw [e]; exact h.o2))
end Go.Proofs.Ytbeeekpofbhljaa
