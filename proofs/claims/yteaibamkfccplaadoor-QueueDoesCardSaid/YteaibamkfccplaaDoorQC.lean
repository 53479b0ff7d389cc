/- A queue: what an Ask comes to, as plain functions; whether it may be. -/
import Derived.Test.YteaibamkfccplaaDoorQB
namespace Go.Proofs.YteaibamkfccplaaDoor
open Go Go.RowKit Go.Shelf
set_option maxRecDepth 100000

def tgtV (had asked : Int) : Value := .tuple #[.int .i64 (supN (kn had) (kn asked) : Nat), .bool (!covB (kn had) (kn asked))]
theorem target_any (had asked : Int) (w0 w : World) (hb : Below w0.heap.size w0 w) : Calls Tryd.prog 66 #[.int .i64 had, .int .i64 asked] w fun e w' => e = .returned (tgtV had asked) ∧ Below w0.heap.size w0 w' := by
  have H1 := Lib.hid (fun (w1 : World) (h : Below w0.heap.size w0 w1) => sup_any had asked w0 w1 h)
  have H2 := Lib.hid (fun (w1 : World) (h : Below w0.heap.size w0 w1) => covers_any had asked w0 w1 h)
  have HV := Lib.hid (show tgtV had asked = .tuple #[.int .i64 (supN (kn had) (kn asked) : Nat), .bool (!covB (kn had) (kn asked))] from rfl)
  generalize supN (kn had) (kn asked) = s at *
  generalize covB (kn had) (kn asked) = q at *
  have H1' := Lib.hid (H1.out _ hb)
  go_enter Tryd.func66, Tryd.ntmps66
  go_wp2_with fail
  refine H1'.out.mono ?_
  rintro e w1 ⟨rfl, hb1⟩
  have H2' := Lib.hid (H2.out _ hb1)
  go_wp2_with fail
  refine H2'.out.mono ?_
  rintro e w2 ⟨rfl, hb2⟩
  go_wp2_with fail
  go_ret2
  exact ⟨by rw [HV.out]; rfl, hb2⟩

/-- the error of a request, whatever others have -/
def errR (tx m fl : Int) (L : List Ws.Wt) : Int := if Ws.okB3 tx m fl then (if 0 ≤ Ws.fndI tx L then 3 else 0) else 1
theorem errR_cases (tx m fl : Int) (L : List Ws.Wt) : (Ws.okB3 tx m fl = false ∧ errR tx m fl L = 1) ∨ (Ws.okB3 tx m fl = true ∧ 0 ≤ Ws.fndI tx L ∧ errR tx m fl L = 3) ∨ (Ws.okB3 tx m fl = true ∧ Ws.fndI tx L < 0 ∧ errR tx m fl L = 0) := by
  unfold errR
  cases h : Ws.okB3 tx m fl
  · exact .inl ⟨rfl, rfl⟩
  · by_cases h1 : 0 ≤ Ws.fndI tx L
    · exact .inr (.inl ⟨rfl, h1, by rw [if_pos h1]; rfl⟩)
    · exact .inr (.inr ⟨rfl, by omega, by rw [if_neg h1]; rfl⟩)
section
variable {W W' : World} {b n1 n2 : Nat} {A1 A2 B1 B2 : Option Addr} {c1 c2 d1 d2 : Nat} {H H' : List Hs.Hd} {L L' : List Ws.Wt}
theorem refuses_none (tx m fl : Int) (W : World) : Calls Tryd.prog 65 #[.pointer none, .int .i64 tx, .int .i64 m, .int .i64 fl] W fun e w' => e = .returned (.int .i64 70) ∧ W = w' := by
  go_enter Tryd.func65, Tryd.ntmps65
  go_wp2
  go_ret
  exact ⟨rfl, rfl⟩
theorem refuses_any (h : Its W (qp b) A1 c1 A2 c2 H L) (hl : L.length ≤ 400) (tx m fl : Int) : Calls Tryd.prog 65 #[qp b, .int .i64 tx, .int .i64 m, .int .i64 fl] W fun e w' => e = .returned (.int .i64 (errR tx m fl L)) ∧ Below W.heap.size W w' := by
  have HC := fun w => Lib.hid (Ws.check_any tx m fl w)
  have HA := Lib.hid (awaits_any h (by omega) tx)
  have HB0 := Lib.hid (Below.refl W.heap.size W)
  rcases errR_cases tx m fl L with ⟨h1, h2⟩ | ⟨h1, h3, h2⟩ | ⟨h1, h3, h2⟩
  · rw [h1] at HC
    rw [h2]
    clear h h1 h2
    rw [show Ws.errV false = 1 from rfl] at HC
    go_enter Tryd.func65, Tryd.ntmps65
    go_wp2_with fail
    refine (HC _).out.mono ?_
    rintro e w1 ⟨rfl, rfl⟩
    go_wp2_with fail
    go_ret
    exact ⟨rfl, HB0.out⟩
  · rw [h1] at HC
    rw [h2]
    have e1 : decide (0 ≤ Ws.fndI tx L) = true := by simpa using h3
    rw [e1] at HA
    clear h h1 h2 h3 e1
    rw [show Ws.errV true = 0 from rfl] at HC
    go_enter Tryd.func65, Tryd.ntmps65
    go_wp2_with fail
    refine (HC _).out.mono ?_
    rintro e w1 ⟨rfl, rfl⟩
    go_wp2_with fail
    refine HA.out.mono ?_
    rintro e w2 ⟨rfl, hb2⟩
    go_wp2_with fail
    go_ret
    exact ⟨rfl, hb2⟩
  · rw [h1] at HC
    rw [h2]
    have e1 : decide (0 ≤ Ws.fndI tx L) = false := by simpa using h3
    rw [e1] at HA
    clear h h1 h2 h3 e1
    rw [show Ws.errV true = 0 from rfl] at HC
    go_enter Tryd.func65, Tryd.ntmps65
    go_wp2_with fail
    refine (HC _).out.mono ?_
    rintro e w1 ⟨rfl, rfl⟩
    go_wp2_with fail
    refine HA.out.mono ?_
    rintro e w2 ⟨rfl, hb2⟩
    go_wp2_with fail
    go_ret
    exact ⟨rfl, hb2⟩
end
/-- an answer, an error, the holds and the waits behind it -/
abbrev Ans := Int × Int × List Hs.Hd × List Ws.Wt
def tgt (tx m : Int) (H : List Hs.Hd) : Int := ((supN (kn (Hs.fst tx H)) (kn m) : Nat) : Int)
/-- what is asked for, as a request -/
def reqW (tx m fl : Int) (H : List Hs.Hd) : Ws.Wt := (tx, tgt tx m H, Hs.fst tx H != 0, fl == 2)
/-- whether it can be had at once -/
def atOnce (tx m : Int) (H : List Hs.Hd) (L : List Ws.Wt) : Bool := turnB (Hs.fst tx H != 0) L && Hs.goesB tx (tgt tx m H) H
def has (tx m : Int) (H : List Hs.Hd) : Bool := (Hs.fst tx H != 0) && covB (kn (Hs.fst tx H)) (kn m)
def ask (tx m fl : Int) (H : List Hs.Hd) (L : List Ws.Wt) : Ans :=
  if errR tx m fl L ≠ 0 then (0, errR tx m fl L, H, L)
  else if has tx m H then (1, 0, H, L)
  else if atOnce tx m H L then (1, 0, grantH (reqW tx m fl H) H, L)
  else if fl = 1 then (0, 40, H, L)
  else (2, 0, H, Ws.ins (reqW tx m fl H) L)
section
variable {tx m fl : Int} {H : List Hs.Hd} {L : List Ws.Wt}
theorem ask_err {x : Int} (h : errR tx m fl L = x) (h0 : x ≠ 0) : ask tx m fl H L = (0, x, H, L) := by
  subst h
  unfold ask
  rw [if_pos h0]
theorem ask_has (h : errR tx m fl L = 0) (h1 : has tx m H = true) : ask tx m fl H L = (1, 0, H, L) := by
  unfold ask
  rw [if_neg (by omega), if_pos h1]
theorem ask_now (h : errR tx m fl L = 0) (h1 : has tx m H = false) (h2 : atOnce tx m H L = true) : ask tx m fl H L = (1, 0, grantH (reqW tx m fl H) H, L) := by
  unfold ask
  rw [if_neg (by omega), if_neg (by simp [h1]), if_pos h2]
theorem ask_not (h : errR tx m fl L = 0) (h1 : has tx m H = false) (h2 : atOnce tx m H L = false) (h3 : fl = 1) : ask tx m fl H L = (0, 40, H, L) := by
  unfold ask
  rw [if_neg (by omega), if_neg (by simp [h1]), if_neg (by simp [h2]), if_pos h3]
theorem ask_wait (h : errR tx m fl L = 0) (h1 : has tx m H = false) (h2 : atOnce tx m H L = false) (h3 : fl ≠ 1) : ask tx m fl H L = (2, 0, H, Ws.ins (reqW tx m fl H) L) := by
  unfold ask
  rw [if_neg (by omega), if_neg (by simp [h1]), if_neg (by simp [h2]), if_neg h3]
theorem ask_cases (tx m fl : Int) (H : List Hs.Hd) (L : List Ws.Wt) :
    (∃ x, errR tx m fl L = x ∧ x ≠ 0 ∧ ask tx m fl H L = (0, x, H, L)) ∨
    (errR tx m fl L = 0 ∧ has tx m H = true ∧ ask tx m fl H L = (1, 0, H, L)) ∨
    (errR tx m fl L = 0 ∧ has tx m H = false ∧ atOnce tx m H L = true ∧ ask tx m fl H L = (1, 0, grantH (reqW tx m fl H) H, L)) ∨
    (errR tx m fl L = 0 ∧ has tx m H = false ∧ atOnce tx m H L = false ∧ fl = 1 ∧ ask tx m fl H L = (0, 40, H, L)) ∨
    (errR tx m fl L = 0 ∧ has tx m H = false ∧ atOnce tx m H L = false ∧ fl ≠ 1 ∧ ask tx m fl H L = (2, 0, H, Ws.ins (reqW tx m fl H) L)) := by
  by_cases h0 : errR tx m fl L = 0
  · cases h1 : has tx m H
    · cases h2 : atOnce tx m H L
      · by_cases h3 : fl = 1
        · exact .inr (.inr (.inr (.inl ⟨h0, rfl, rfl, h3, ask_not h0 h1 h2 h3⟩)))
        · exact .inr (.inr (.inr (.inr ⟨h0, rfl, rfl, h3, ask_wait h0 h1 h2 h3⟩)))
      · exact .inr (.inr (.inl ⟨h0, rfl, rfl, ask_now h0 h1 h2⟩))
    · exact .inr (.inl ⟨h0, rfl, ask_has h0 h1⟩)
  · exact .inl ⟨_, rfl, h0, ask_err rfl h0⟩
end
end Go.Proofs.YteaibamkfccplaaDoor
