/- What reads as a key is a node whose numbers fit; readings of locks, their modes with them. -/
import Derived.Test.YthjlapcccmbhbaaWa
namespace Go.Proofs.Ythjlapcccmbhbaa.Lk
open Go Go.RowKit Go.Shelf Go.Maps Go.ChangeShapes Go.WideShapes Pa
set_option maxRecDepth 100000

theorem int_inv {d : Nat} {cs : List Value} {ls : List Lit} (h : Try.prog.keyLits (d + 1) 3 cs = some ls) : ∃ n, cs = [.int .i64 n] ∧ wf64 n := by
  unfold Program.keyLits at h
  simp only [Try.underlying3] at h
  split at h
  · rename_i heq; cases heq
  · rename_i q q' n heq
    injection heq with heq
    injection heq with heq
    subst heq
    split at h
    · rename_i hw
      obtain ⟨rfl, hw⟩ := hw
      exact ⟨n, rfl, hw⟩
    · cases h
  · rename_i heq; cases heq
  · rename_i heq; cases heq
  · rename_i heq; cases heq
  · cases h
theorem arr_inv {d : Nat} {v0 v1 v2 v3 : Value} {ls : List Lit} (h : Try.prog.keyLits (d + 2) 23 [v0, v1, v2, v3] = some ls) :
    ∃ a b c e, v0 = .int .i64 a ∧ v1 = .int .i64 b ∧ v2 = .int .i64 c ∧ v3 = .int .i64 e ∧ wf64 a ∧ wf64 b ∧ wf64 c ∧ wf64 e := by
  unfold Program.keyLits at h
  simp only [Try.underlying23, cells23, cells3] at h
  rw [if_pos (by rfl), show List.range 4 = [0, 1, 2, 3] from rfl] at h
  simp only [List.mapM_cons, List.mapM_nil, Option.map_eq_some_iff, bind, Option.bind_eq_some_iff, pure] at h
  obtain ⟨_, ⟨x0, h0, _, ⟨x1, h1, _, ⟨x2, h2, _, ⟨x3, h3, -⟩, -⟩, -⟩, -⟩, -⟩ := h
  obtain ⟨a, e0, wa⟩ := int_inv h0
  obtain ⟨b, e1, wb⟩ := int_inv h1
  obtain ⟨c, e2, wc⟩ := int_inv h2
  obtain ⟨e, e3, we⟩ := int_inv h3
  simp at e0 e1 e2 e3
  exact ⟨a, b, c, e, e0, e1, e2, e3, wa, wb, wc, we⟩
theorem path_inv {d : Nat} {v0 v1 v2 v3 v4 : Value} {ls : List Lit} (h : Try.prog.keyLits (d + 3) 25 [v0, v1, v2, v3, v4] = some ls) :
    ∃ p : Pt, [v0, v1, v2, v3, v4] = [.int .i64 p.a, .int .i64 p.b, .int .i64 p.c, .int .i64 p.d, .int .i64 p.e] ∧ FitP p := by
  unfold Program.keyLits at h
  simp only [Try.underlying25, cells25] at h
  rw [if_pos ⟨by rfl, by simp⟩] at h
  simp only [List.mapM_cons, List.mapM_nil, Option.map_eq_some_iff, bind, Option.bind_eq_some_iff, pure, cells23, cells3] at h
  obtain ⟨_, ⟨x0, h0, _, ⟨x1, h1, -⟩, -⟩, -⟩ := h
  obtain ⟨a, b, c, e, e0, e1, e2, e3, wa, wb, wc, we⟩ := arr_inv h0
  obtain ⟨n, e4, wn⟩ := int_inv h1
  simp at e4
  exact ⟨⟨a, b, c, e, n⟩, by simp [e0, e1, e2, e3, e4], wa, wb, wc, we, wn⟩
theorem key_inv {v : Value} {kl : Lit} (h : keyOf Try.prog 25 v = some kl) : ∃ p : Pt, v = p.v ∧ FitP p ∧ kl = klP p := by
  have h' := h
  unfold keyOf at h
  rw [Try.underlying25] at h
  simp only at h
  split at h
  · rename_i hc
    rw [Bool.and_eq_true] at hc
    obtain ⟨d, hd⟩ := types_size
    rw [hd] at h
    cases v with
    | agg cs =>
      have hsz : cs.size = 5 := by
        have := hc.2
        simp [Value.formed, Try.underlying25, cells25] at this
        exact this
      obtain ⟨l⟩ := cs
      match l, hsz with
      | [v0, v1, v2, v3, v4], _ =>
        obtain ⟨ls, hls, -⟩ := Option.map_eq_some_iff.1 h
        obtain ⟨p, hp, hf⟩ := path_inv hls
        have e : (Value.agg ⟨[v0, v1, v2, v3, v4]⟩) = p.v := by rw [hp]
        rw [e] at h'
        rw [key_of hf] at h'
        exact ⟨p, e, hf, by injection h' with e; exact e.symm⟩
    | _ => simp [Value.formed, Try.underlying25] at hc
  · cases h
end Go.Proofs.Ythjlapcccmbhbaa.Lk
