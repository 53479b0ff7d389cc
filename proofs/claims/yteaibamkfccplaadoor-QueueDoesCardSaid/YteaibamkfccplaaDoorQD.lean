/- A queue: what an Ask comes to: the walk that changes nothing. -/
import Derived.Test.YteaibamkfccplaaDoorQC
namespace Go.Proofs.YteaibamkfccplaaDoor
open Go Go.RowKit Go.Shelf
set_option maxRecDepth 100000

def okH (X : Ans) : List Hs.Hd := if X.2.1 = 0 then X.2.2.1 else []
def okL (X : Ans) : List Ws.Wt := if X.2.1 = 0 then X.2.2.2 else []
/-- what an Ask comes to, handed back -/
def Askd (W : World) (X : Ans) (e : Ending) (w' : World) : Prop :=
  ∃ B1 d1 B2 d2, e = .returned (.tuple #[qv B1 (okH X).length d1 B2 (okL X).length d2, .int .i64 X.1, .int .i64 X.2.1]) ∧ Hs.Ls w' B1 d1 (okH X) ∧ Ws.Ls w' B2 d2 (okL X) ∧ Below W.heap.size W w'
section
variable {W W' : World} {b n1 n2 : Nat} {A1 A2 B1 B2 : Option Addr} {c1 c2 d1 d2 : Nat} {H H' : List Hs.Hd} {L L' : List Ws.Wt}
theorem results_asked {fn : Func} {p q r : Tmp} (h : fn.results = #[.cell p 28, .tmp q, .tmp r]) {tmps : Array Value} {w : World} {b : Nat} {x y : Int} (hp : tmps.getD p undef = .pointer (some ⟨b, 0, none⟩)) (hq : tmps.getD q undef = .int .i64 x) (hr : tmps.getD r undef = .int .i64 y)
    (h0 : w.cell? ⟨b, 0, none⟩ = some (.slice A1 n1 c1)) (h1 : w.cell? ⟨b, 1, none⟩ = some (.slice A2 n2 c2)) :
    (results fn tmps).run Tryd.prog w = .ok (.tuple #[qv A1 n1 c1 A2 n2 c2, .int .i64 x, .int .i64 y]) w := by
  have hp' : tmps[p]?.getD undef = .pointer (some ⟨b, 0, none⟩) := by simpa using hp
  have hq' : tmps[q]?.getD undef = .int .i64 x := by simpa using hq
  have hr' : tmps[r]?.getD undef = .int .i64 y := by simpa using hr
  simp [results, h, hp', hq', hr', go_sem, h0, h1]
theorem QAt.nils (W : World) : QAt (W.alloc (.cells #[.slice none 0 0, .slice none 0 0] 28)) W.heap.size none 0 none 0 [] [] := QAt.new W (Hs.Ls.nils _) (Ws.Ls.nils _)
/-- a queue stays where another one is changed -/
theorem QAt.far {b0 : Nat} (h : QAt W b0 A1 c1 A2 c2 H L) (hk : QAt W b B1 d1 B2 d2 H' L') (hne : b0 ≠ b) (ho : OnlyS (· = b) W W') : QAt W' b0 A1 c1 A2 c2 H L :=
  ⟨(ho.block b0 h.lt hne).trans h.blk, h.h.off (b := b) (fun k x _ => hk.noint k x.1) ho, h.l.off (b := b) (fun k x _ => hk.noint k x.1) ho⟩
set_option maxHeartbeats 1000000 in
theorem asked_none (tx m fl : Int) (W : World) : Calls Tryd.prog 31 #[.pointer none, .int .i64 tx, .int .i64 m, .int .i64 fl] W fun e w' => e = .returned (.tuple #[qv none 0 0 none 0 0, .int .i64 0, .int .i64 70]) ∧ Below W.heap.size W w' := by
  have hr := QAt.nils W
  have r0 := hr.e0
  have r1 := hr.e1
  have f0 := hr.fz 0
  have f1 := hr.fz 1
  simp only [List.length_nil] at r0 r1
  have HB := Lib.hid (box_below W (.cells #[.slice none 0 0, .slice none 0 0] 28))
  clear hr
  go_enter Tryd.func31, Tryd.ntmps31
  go_wp2_with fail
  refine (refuses_none tx m fl _).mono ?_
  rintro e w1 ⟨rfl, rfl⟩
  go_wp2_with fail
  exact bodyPost_ret (results_asked rfl rfl rfl rfl (by simp [go_sem]) (by simp [go_sem])) rfl ⟨rfl, HB.out⟩
set_option maxHeartbeats 1000000 in
theorem asked_err (h : QAt W b A1 c1 A2 c2 H L) (hl : L.length ≤ 400) (tx m fl : Int) {x : Int} (he : errR tx m fl L = x) (hx : x ≠ 0) :
    Calls Tryd.prog 31 #[qp b, .int .i64 tx, .int .i64 m, .int .i64 fl] W fun e w' => e = .returned (.tuple #[qv none 0 0 none 0 0, .int .i64 0, .int .i64 x]) ∧ Below W.heap.size W w' := by
  have hr := QAt.nils W
  have HR := Lib.hid hr
  have HB := Lib.hid (box_below W (.cells #[.slice none 0 0, .slice none 0 0] 28))
  have HF := Lib.hid (refuses_any (h.below HB.out).its hl tx m fl)
  rw [he] at HF
  have hx' : (x != 0) = true := by simpa using hx
  clear hr h he hx
  go_enter Tryd.func31, Tryd.ntmps31
  go_wp2_with fail
  refine HF.out.mono ?_
  rintro e w1 ⟨rfl, hb1⟩
  have hr1 := HR.out.below hb1
  have r0 := hr1.e0
  have r1 := hr1.e1
  have f0 := hr1.fz 0
  have f1 := hr1.fz 1
  have HR1 := Lib.hid ((hr1.set0 (Hs.Ls.nils w1)).set1 (Ws.Ls.nils _))
  simp only [List.length_nil] at r0 r1
  have HB1 := Lib.hid (HB.out.trans (hb1.mono HB.out.size))
  clear hb1 hr1 HB HR HF
  go_wp2_with fail
  exact bodyPost_ret (results_asked rfl rfl rfl rfl HR1.out.e0 HR1.out.e1) rfl ⟨rfl, (HB1.out.setCell (p := ⟨W.heap.size, 0, none⟩) (Nat.le_refl _) _).setCell (p := ⟨W.heap.size, 1, none⟩) (Nat.le_refl _) _⟩
end
end Go.Proofs.YteaibamkfccplaaDoor
