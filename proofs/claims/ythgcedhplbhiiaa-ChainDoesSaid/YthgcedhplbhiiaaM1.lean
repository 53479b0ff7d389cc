/- Plain facts: rings that are linked both ways, and rows of places. -/
import Derived.Lib.Hide
namespace Go.Proofs.Ythgcedhplbhiiaa

/-- a function with one value that is another -/
def upd {α : Type} (f : Nat → α) (j : Nat) (v : α) : Nat → α := fun k => if k = j then v else f k
theorem upd_same {α : Type} (f : Nat → α) (j : Nat) (v : α) : upd f j v j = v := by simp [upd]
theorem upd_other {α : Type} {f : Nat → α} {j k : Nat} {v : α} (h : k ≠ j) : upd f j v k = f k := by simp [upd, h]

/-- from a over l to z, linked both ways -/
def Lk (nx pv : Nat → Nat) : Nat → List Nat → Nat → Prop
  | a, [], z => nx a = z ∧ pv z = a
  | a, x :: l, z => nx a = x ∧ pv x = a ∧ Lk nx pv x l z
/-- the last one, a ahead of all -/
def en : Nat → List Nat → Nat
  | a, [] => a
  | _, x :: l => en x l
/-- the first one, z behind all -/
def be : List Nat → Nat → Nat
  | [], z => z
  | x :: _, _ => x
section
variable {nx pv nx' pv' : Nat → Nat} {a z z' x : Nat} {l m : List Nat}
theorem en_mem (a : Nat) (l : List Nat) : en a l ∈ a :: l := by
  induction l generalizing a with
  | nil => simp [en]
  | cons x l ih =>
    have := ih x
    simp only [en]
    exact List.mem_cons_of_mem _ this
theorem be_mem (l : List Nat) (z : Nat) : be l z ∈ l ∨ (l = [] ∧ be l z = z) := by
  cases l with
  | nil => exact .inr ⟨rfl, rfl⟩
  | cons x l => exact .inl (by simp [be])
theorem Lk.split : Lk nx pv a (l ++ x :: m) z ↔ Lk nx pv a l x ∧ Lk nx pv x m z := by
  induction l generalizing a with
  | nil => simp [Lk, and_assoc]
  | cons y l ih => simp [Lk, ih, and_assoc]
theorem Lk.last (h : Lk nx pv a l z) : nx (en a l) = z ∧ pv z = en a l := by
  induction l generalizing a with
  | nil => exact h
  | cons y l ih => exact ih h.2.2
theorem Lk.first (h : Lk nx pv a l z) : nx a = be l z := by
  cases l with
  | nil => exact h.1
  | cons y l => exact h.1
theorem Lk.congr (h : Lk nx pv a l z) (h1 : ∀ k ∈ a :: l, nx' k = nx k) (h2 : ∀ k ∈ l, pv' k = pv k) (h3 : pv' z = pv z) : Lk nx' pv' a l z := by
  induction l generalizing a with
  | nil => exact ⟨(h1 a (by simp)).trans h.1, h3.trans h.2⟩
  | cons y l ih =>
    exact ⟨(h1 a (by simp)).trans h.1, (h2 y (by simp)).trans h.2.1, ih h.2.2 (fun k hk => h1 k (List.mem_cons_of_mem _ hk)) (fun k hk => h2 k (List.mem_cons_of_mem _ hk))⟩
/-- the same, but for the end -/
theorem Lk.reend (h : Lk nx pv a l z) (nd : (a :: l).Nodup) (h1 : ∀ k ∈ a :: l, k ≠ en a l → nx' k = nx k) (h2 : nx' (en a l) = z') (h3 : ∀ k ∈ l, pv' k = pv k) (h4 : pv' z' = en a l) : Lk nx' pv' a l z' := by
  induction l generalizing a with
  | nil => exact ⟨h2, h4⟩
  | cons y l ih =>
    have hne : a ≠ en y l := fun e => by
      have := en_mem y l
      rw [← e] at this
      exact (List.nodup_cons.1 nd).1 this
    exact ⟨(h1 a (by simp) hne).trans h.1, (h3 y (by simp)).trans h.2.1, ih h.2.2 (List.nodup_cons.1 nd).2 (fun k hk hk2 => h1 k (List.mem_cons_of_mem _ hk) hk2) h2 (fun k hk => h3 k (List.mem_cons_of_mem _ hk)) h4⟩
end

/-- rows of places: each is a ring through its own head -/
structure Rings (N : Nat) (L : Nat → List Nat) (rw : Nat → Int) (pv nx : Nat → Nat) : Prop where
  lk : ∀ r, r < N → Lk nx pv (N + r) (L r) (N + r)
  mem : ∀ r, r < N → ∀ k ∈ L r, k < N ∧ rw k = r
  hd : ∀ r, r < N → rw (N + r) = r
  out : ∀ k, k < N → (∀ r, r < N → k ∉ L r) → rw k = -1
  nd : ∀ r, r < N → (L r).Nodup
section
variable {N r i : Nat} {L : Nat → List Nat} {rw : Nat → Int} {pv nx : Nat → Nat} {pre post : List Nat}
theorem Rings.one (h : Rings N L rw pv nx) {s : Nat} (hr : r < N) (hs : s < N) {k : Nat} (h1 : k ∈ L r) (h2 : k ∈ L s) : r = s := by
  have e1 := (h.mem r hr k h1).2
  have e2 := (h.mem s hs k h2).2
  omega
theorem Rings.row (h : Rings N L rw pv nx) (hr : r < N) {k : Nat} (hk : k ∈ (N + r) :: L r) : rw k = r ∧ k < 2 * N := by
  rcases List.mem_cons.1 hk with rfl | hk
  · exact ⟨h.hd r hr, by omega⟩
  · have := h.mem r hr k hk
    exact ⟨this.2, by omega⟩
theorem Rings.nodup (h : Rings N L rw pv nx) (hr : r < N) : ((N + r) :: L r).Nodup := by
  refine List.nodup_cons.2 ⟨fun hk => ?_, h.nd r hr⟩
  have := (h.mem r hr _ hk).1
  omega
theorem Rings.put (h : Rings N L rw pv nx) (hr : r < N) (hi : i < N) (hf : ∀ s, s < N → i ∉ L s) (hL : L r = pre ++ post) {t : Nat} (ht : t = be post (N + r)) :
    Rings N (upd L r (pre ++ i :: post)) (upd rw i (rw t)) (upd (upd pv i (pv t)) t i) (upd (upd nx i t) (pv t) i) ∧ rw t = r ∧ t < 2 * N ∧ pv t < 2 * N ∧ i ≠ t ∧ i ≠ pv t := by
  have hnd := h.nodup hr
  rw [hL] at hnd
  have hlk := h.lk r hr
  rw [hL] at hlk
  have hfr := hf r hr
  rw [hL] at hfr
  have hih : ∀ s, s < N → i ≠ N + s := fun s hs => by omega
  -- the way to t, and from t on
  have hw : Lk nx pv (N + r) pre t ∧ ((post = [] ∧ t = N + r) ∨ ∃ p, post = t :: p ∧ Lk nx pv t p (N + r)) := by
    cases post with
    | nil =>
      simp only [be] at ht
      subst ht
      rw [List.append_nil] at hlk
      exact ⟨hlk, .inl ⟨rfl, rfl⟩⟩
    | cons y p =>
      simp only [be] at ht
      subst ht
      obtain ⟨h1, h2⟩ := Lk.split.1 hlk
      exact ⟨h1, .inr ⟨p, rfl, h2⟩⟩
  obtain ⟨hw1, hw2⟩ := hw
  have hpt := hw1.last.2
  have hen := en_mem (N + r) pre
  rw [← hpt] at hen
  have hndp : ((N + r) :: pre).Nodup := hnd.sublist (by simp)
  have htm : t ∈ (N + r) :: L r := by
    rw [hL]
    rcases hw2 with ⟨_, rfl⟩ | ⟨p, rfl, _⟩ <;> simp
  have htp : t ∉ pre := by
    rcases hw2 with ⟨_, rfl⟩ | ⟨p, rfl, _⟩
    · exact (List.nodup_cons.1 hndp).1
    · intro hk
      have := (List.nodup_cons.1 hnd).2
      rw [List.nodup_append] at this
      exact this.2.2 t hk t (by simp) rfl
  have hpm : pv t ∈ (N + r) :: L r := by
    rw [hL]
    rcases List.mem_cons.1 hen with e | hk
    · rw [e]; simp
    · exact List.mem_cons_of_mem _ (List.mem_append_left _ hk)
  have hit : i ≠ t := fun e => by
    rcases List.mem_cons.1 htm with e2 | hk
    · omega
    · exact hf r hr (by rw [e]; exact hk)
  have hip : i ≠ pv t := fun e => by
    rcases List.mem_cons.1 hpm with e2 | hk
    · omega
    · exact hf r hr (by rw [e]; exact hk)
  obtain ⟨t1, t2⟩ := h.row hr htm
  obtain ⟨p1, p2⟩ := h.row hr hpm
  refine ⟨⟨fun s hs => ?_, fun s hs k hk => ?_, fun s hs => ?_, fun k hk hout => ?_, fun s hs => ?_⟩, t1, t2, p2, hit, hip⟩
  · by_cases e : s = r
    · subst e
      rw [upd_same]
      refine Lk.split.2 ⟨?_, ?_⟩
      · refine hw1.reend hndp (fun k hk hne => ?_) ?_ (fun k hk => ?_) ?_
        · rw [← hpt] at hne
          rw [upd_other hne, upd_other]
          rintro rfl
          rcases List.mem_cons.1 hk with e | hk
          · omega
          · exact hfr (List.mem_append_left _ hk)
        · rw [← hpt, upd_same]
        · rw [upd_other (fun e => htp (by rw [← e]; exact hk)), upd_other]
          rintro rfl
          exact hfr (List.mem_append_left _ hk)
        · rw [upd_other hit, upd_same, hpt]
      · have hnt : upd (upd nx i t) (pv t) i i = t := by rw [upd_other hip, upd_same]
        have hpt' : upd (upd pv i (pv t)) t i t = i := upd_same _ _ _
        rcases hw2 with ⟨rfl, e⟩ | ⟨p, rfl, h2⟩
        · rw [e] at hnt hpt' ⊢
          exact ⟨hnt, hpt'⟩
        · refine ⟨hnt, hpt', h2.congr (fun k hk => ?_) (fun k hk => ?_) ?_⟩
          · have hkp : k ∈ pre ++ t :: p := List.mem_append_right _ hk
            have k1 : k ≠ pv t := fun e => by
              subst e
              rcases List.mem_cons.1 hen with e | hk2
              · exact (List.nodup_cons.1 hnd).1 (by rw [← e]; exact hkp)
              · have := (List.nodup_cons.1 hnd).2
                rw [List.nodup_append] at this
                exact this.2.2 _ hk2 _ hk rfl
            rw [upd_other k1, upd_other]
            rintro rfl
            exact hfr hkp
          · have hkt : k ≠ t := by
              rintro rfl
              have := (List.nodup_cons.1 hnd).2
              rw [List.nodup_append] at this
              exact (List.nodup_cons.1 this.2.1).1 hk
            rw [upd_other hkt, upd_other]
            rintro rfl
            exact hfr (List.mem_append_right _ (List.mem_cons_of_mem _ hk))
          · have : N + s ≠ t := fun e => (List.nodup_cons.1 hnd).1 (by rw [e]; simp)
            rw [upd_other this, upd_other (Ne.symm (hih s hs))]
    · rw [upd_other e]
      have far : ∀ k ∈ (N + s) :: L s, k ≠ i ∧ k ≠ t ∧ k ≠ pv t := fun k hk => by
        have k1 := (h.row hs hk).1
        refine ⟨?_, ?_, ?_⟩
        · rintro rfl
          rcases List.mem_cons.1 hk with e | hk
          · omega
          · exact hf s hs hk
        · rintro rfl; omega
        · rintro rfl; omega
      refine (h.lk s hs).congr (fun k hk => ?_) (fun k hk => ?_) ?_
      · obtain ⟨f1, _, f3⟩ := far k hk
        rw [upd_other f3, upd_other f1]
      · obtain ⟨f1, f2, _⟩ := far k (List.mem_cons_of_mem _ hk)
        rw [upd_other f2, upd_other f1]
      · obtain ⟨f1, f2, _⟩ := far (N + s) (by simp)
        rw [upd_other f2, upd_other f1]
  · by_cases e : s = r
    · subst e
      rw [upd_same] at hk
      rcases List.mem_append.1 hk with hk | hk
      · have hk' : k ∈ L s := by rw [hL]; exact List.mem_append_left _ hk
        rw [upd_other (fun e => hf s hs (by rw [← e]; exact hk'))]
        exact h.mem s hs k hk'
      · rcases List.mem_cons.1 hk with rfl | hk
        · rw [upd_same]; exact ⟨hi, t1⟩
        · have hk' : k ∈ L s := by rw [hL]; exact List.mem_append_right _ hk
          rw [upd_other (fun e => hf s hs (by rw [← e]; exact hk'))]
          exact h.mem s hs k hk'
    · rw [upd_other e] at hk
      rw [upd_other (fun e => hf s hs (by rw [← e]; exact hk))]
      exact h.mem s hs k hk
  · rw [upd_other (Ne.symm (hih s hs))]
    exact h.hd s hs
  · have hki : k ≠ i := by
      rintro rfl
      exact hout r hr (by rw [upd_same]; simp)
    rw [upd_other hki]
    refine h.out k hk fun s hs hks => ?_
    refine hout s hs ?_
    by_cases e : s = r
    · subst e
      rw [upd_same]
      rw [hL] at hks
      rcases List.mem_append.1 hks with q | q
      · exact List.mem_append_left _ q
      · exact List.mem_append_right _ (List.mem_cons_of_mem _ q)
    · rw [upd_other e]; exact hks
  · by_cases e : s = r
    · subst e
      rw [upd_same]
      have hn := (List.nodup_cons.1 hnd).2
      rw [List.nodup_append] at hn ⊢
      refine ⟨hn.1, List.nodup_cons.2 ⟨fun q => hfr (List.mem_append_right _ q), hn.2.1⟩, fun x hx y hy => ?_⟩
      rcases List.mem_cons.1 hy with rfl | hy
      · rintro rfl; exact hfr (List.mem_append_left _ hx)
      · exact hn.2.2 x hx y hy
    · rw [upd_other e]; exact h.nd s hs
theorem Rings.beside (h : Rings N L rw pv nx) (hr : r < N) (hL : L r = pre ++ i :: post) : pv i = en (N + r) pre ∧ nx i = be post (N + r) ∧ pv i < 2 * N ∧ nx i < 2 * N ∧ rw i = r ∧ i < N := by
  have hlk := h.lk r hr
  rw [hL] at hlk
  obtain ⟨h1, h2⟩ := Lk.split.1 hlk
  have e1 := h1.last.2
  have e2 := h2.first
  have m1 : pv i ∈ (N + r) :: L r := by
    rw [e1, hL]
    rcases List.mem_cons.1 (en_mem (N + r) pre) with e | hk
    · rw [e]; simp
    · exact List.mem_cons_of_mem _ (List.mem_append_left _ hk)
  have m2 : nx i ∈ (N + r) :: L r := by
    rw [e2, hL]
    rcases be_mem post (N + r) with hk | ⟨_, e⟩
    · exact List.mem_cons_of_mem _ (List.mem_append_right _ (List.mem_cons_of_mem _ hk))
    · rw [e]; simp
  have m3 := h.mem r hr i (by rw [hL]; simp)
  exact ⟨e1, e2, (h.row hr m1).2, (h.row hr m2).2, m3.2, m3.1⟩
theorem Rings.cut (h : Rings N L rw pv nx) (hr : r < N) (hL : L r = pre ++ i :: post) :
    Rings N (upd L r (pre ++ post)) (upd rw i (-1)) (upd (upd pv (nx i) (pv i)) i 0) (upd (upd nx (pv i) (nx i)) i 0) := by
  have hnd := h.nodup hr
  rw [hL] at hnd
  have hlk := h.lk r hr
  rw [hL] at hlk
  obtain ⟨h1, h2⟩ := Lk.split.1 hlk
  obtain ⟨b1, b2, -, -, b5, b6⟩ := h.beside hr hL
  have hn := (List.nodup_cons.1 hnd).2
  rw [List.nodup_append] at hn
  obtain ⟨n1, n2, n3⟩ := hn
  have hiL : i ∈ L r := by rw [hL]; simp
  have hnL : ∀ s, s < N → s ≠ r → i ∉ L s := fun s hs e hk => e (h.one hs hr hk hiL)
  have hih : ∀ s, s < N → i ≠ N + s := fun s hs => by omega
  have hndp : ((N + r) :: pre).Nodup := hnd.sublist (by simp)
  have hip : i ∉ pre := fun hk => n3 i hk i (by simp) rfl
  have hiq : i ∉ post := (List.nodup_cons.1 n2).1
  have hen := en_mem (N + r) pre
  rw [← b1] at hen
  have hpi : pv i ≠ i := fun e => by
    rcases List.mem_cons.1 hen with e2 | hk
    · omega
    · exact hip (by rw [e] at hk; exact hk)
  have hni : nx i ≠ i := fun e => by
    rcases be_mem post (N + r) with hk | ⟨_, e2⟩
    · exact hiq (by rw [← b2, e] at hk; exact hk)
    · omega
  refine ⟨fun s hs => ?_, fun s hs k hk => ?_, fun s hs => ?_, fun k hk hout => ?_, fun s hs => ?_⟩
  · by_cases e : s = r
    · subst e
      rw [upd_same]
      have hre : Lk (upd (upd nx (pv i) (nx i)) i 0) (upd (upd pv (nx i) (pv i)) i 0) (N + s) pre (nx i) := by
        refine h1.reend hndp (fun k hk hne => ?_) ?_ (fun k hk => ?_) ?_
        · rw [← b1] at hne
          rw [upd_other, upd_other hne]
          rintro rfl
          rcases List.mem_cons.1 hk with e | hk
          · omega
          · exact hip hk
        · rw [← b1, upd_other hpi, upd_same]
        · have k1 : k ≠ i := by rintro rfl; exact hip hk
          have k2 : k ≠ nx i := fun e => by
            rw [b2] at e
            rcases be_mem post (N + s) with hk2 | ⟨_, e2⟩
            · exact n3 k hk k (by rw [← e] at hk2; exact List.mem_cons_of_mem _ hk2) rfl
            · rw [e2] at e
              exact (List.nodup_cons.1 hndp).1 (by rw [← e]; exact hk)
          rw [upd_other k1, upd_other k2]
        · rw [upd_other hni, upd_same, b1]
      cases post with
      | nil =>
        rw [List.append_nil]
        rw [b2] at hre
        rw [show be [] (N + s) = N + s from rfl] at hre
        rwa [b2] at *
      | cons y p =>
        have hy : nx i = y := b2
        rw [show Lk (upd (upd nx (pv i) (nx i)) i 0) (upd (upd pv (nx i) (pv i)) i 0) (N + s) pre (nx i) = Lk (upd (upd nx (pv i) (nx i)) i 0) (upd (upd pv (nx i) (pv i)) i 0) (N + s) pre y by rw [hy]] at hre
        refine Lk.split.2 ⟨hre, ?_⟩
        have h3 : Lk nx pv y p (N + s) := h2.2.2
        have hyp : (y :: p).Nodup := (List.nodup_cons.1 n2).2
        refine h3.congr (fun k hk => ?_) (fun k hk => ?_) ?_
        · have k1 : k ≠ i := by rintro rfl; exact hiq hk
          have k2 : k ≠ pv i := fun e => by
            rcases List.mem_cons.1 hen with e2 | hk2
            · exact (List.nodup_cons.1 hnd).1 (by rw [← e2, ← e]; exact List.mem_append_right _ (List.mem_cons_of_mem _ hk))
            · exact n3 _ hk2 k (List.mem_cons_of_mem _ hk) e.symm
          rw [upd_other k1, upd_other k2]
        · have k1 : k ≠ i := by rintro rfl; exact hiq (List.mem_cons_of_mem _ hk)
          have k2 : k ≠ nx i := by rw [hy]; rintro rfl; exact (List.nodup_cons.1 hyp).1 hk
          rw [upd_other k1, upd_other k2]
        · have k2 : N + s ≠ nx i := fun e => (List.nodup_cons.1 hnd).1 (by rw [e, hy]; simp)
          rw [upd_other (Ne.symm (hih s hs)), upd_other k2]
    · rw [upd_other e]
      have far : ∀ k ∈ (N + s) :: L s, k ≠ i ∧ k ≠ pv i ∧ k ≠ nx i := fun k hk => by
        have k1 := (h.row hs hk).1
        have m1 : pv i ∈ (N + r) :: L r := by
          rw [hL]
          rcases List.mem_cons.1 hen with e | hk
          · rw [e]; simp
          · exact List.mem_cons_of_mem _ (List.mem_append_left _ hk)
        have m2 : nx i ∈ (N + r) :: L r := by
          rw [b2, hL]
          rcases be_mem post (N + r) with hk | ⟨_, e⟩
          · exact List.mem_cons_of_mem _ (List.mem_append_right _ (List.mem_cons_of_mem _ hk))
          · rw [e]; simp
        have e1 := (h.row hr m1).1
        have e2 := (h.row hr m2).1
        refine ⟨?_, ?_, ?_⟩
        · rintro rfl; omega
        · intro e; rw [e] at k1; omega
        · intro e; rw [e] at k1; omega
      refine (h.lk s hs).congr (fun k hk => ?_) (fun k hk => ?_) ?_
      · obtain ⟨f1, f2, _⟩ := far k hk
        rw [upd_other f1, upd_other f2]
      · obtain ⟨f1, _, f3⟩ := far k (List.mem_cons_of_mem _ hk)
        rw [upd_other f1, upd_other f3]
      · obtain ⟨f1, _, f3⟩ := far (N + s) (by simp)
        rw [upd_other f1, upd_other f3]
  · have hk' : k ∈ L s ∧ k ≠ i := by
      by_cases e : s = r
      · subst e
        rw [upd_same] at hk
        rw [hL]
        rcases List.mem_append.1 hk with hk | hk
        · exact ⟨List.mem_append_left _ hk, by rintro rfl; exact hip hk⟩
        · exact ⟨List.mem_append_right _ (List.mem_cons_of_mem _ hk), by rintro rfl; exact hiq hk⟩
      · rw [upd_other e] at hk
        exact ⟨hk, by rintro rfl; exact hnL s hs e hk⟩
    rw [upd_other hk'.2]
    exact h.mem s hs k hk'.1
  · rw [upd_other (Ne.symm (hih s hs))]
    exact h.hd s hs
  · by_cases hki : k = i
    · rw [hki, upd_same]
    · rw [upd_other hki]
      refine h.out k hk fun s hs hks => ?_
      refine hout s hs ?_
      by_cases e : s = r
      · subst e
        rw [upd_same]
        rw [hL] at hks
        rcases List.mem_append.1 hks with q | q
        · exact List.mem_append_left _ q
        · rcases List.mem_cons.1 q with q | q
          · exact absurd q hki
          · exact List.mem_append_right _ q
      · rw [upd_other e]; exact hks
  · by_cases e : s = r
    · subst e
      rw [upd_same, List.nodup_append]
      exact ⟨n1, (List.nodup_cons.1 n2).2, fun x hx y hy => n3 x hx y (List.mem_cons_of_mem _ hy)⟩
    · rw [upd_other e]; exact h.nd s hs
theorem Rings.head (h : Rings N L rw pv nx) (hr : r < N) : nx (N + r) = be (L r) (N + r) := (h.lk r hr).first
theorem Rings.start (N : Nat) : Rings N (fun _ => []) (fun k => if k < N then -1 else ((k - N : Nat) : Int)) (fun k => if k < N then 0 else k) (fun k => if k < N then 0 else k) := by
  refine ⟨fun r hr => ?_, fun r _ k hk => by simp at hk, fun r hr => ?_, fun k hk _ => by simp [hk], fun _ _ => List.nodup_nil⟩
  · have : ¬ N + r < N := by omega
    simp [Lk, this]
  · have : ¬ N + r < N := by omega
    simp
end
end Go.Proofs.Ythgcedhplbhiiaa
