/- The contracts of the document's answer on a number's digits. -/
import Derived.Test.YtmlljgijbffepaaDoorM1
import Derived.Laws.BytesString
import Derived.Laws.Concat
namespace Go.Proofs.YtmlljgijbffepaaDoor
open Go Go.RowKit

def lastD (n : Int) : List UInt8 := [UInt8.ofNat (48 + n % 10).toNat]
theorem conv_one (w : World) (z : Int) :
    (convert 44 9 (.slice (some ⟨w.heap.size, 0, none⟩) 1 1)).run Tryd.prog (w.alloc (.cells #[.int .u8 z] 5)) = .ok (.string ⟨[UInt8.ofNat z.toNat].toArray⟩) (w.alloc (.cells #[.int .u8 z] 5)) := by
  rw [run_convert_bytes_string _ 44 9 5 _ _ _ Tryd.underlying44 Tryd.underlying5 Tryd.underlying9, run_bytesToString _ _ 1 1 [z] (run_loadCells_list _ _ [.int .u8 z] (fun j v hj => by
    cases j with
    | zero => simp at hj; subst hj; simp [Addr.add, go_sem]
    | succ j => simp at hj))]
  rfl
theorem itoa_lt {n : Int} (h0 : 0 ≤ n) (h9 : n < 10) : Lib.itoa n = lastD n := by
  rw [itoa_digits h0, digits1 (by omega)]
  unfold lastD
  rw [show 48 + n.toNat = (48 + n % 10).toNat by omega]
theorem itoa_ge {n : Int} (h0 : 10 ≤ n) : Lib.itoa n = Lib.itoa (n / 10) ++ lastD n := by
  rw [itoa_digits (by omega), digits2 (by omega), itoa_digits (by omega)]
  unfold lastD
  rw [show n.toNat / 10 = (n / 10).toNat by omega, show 48 + n.toNat % 10 = (48 + n % 10).toNat by omega]

set_option maxHeartbeats 1000000 in
theorem dec_1 (n : Int) (w : World) (h0 : 0 ≤ n) (h9 : n < 10) :
    Calls Tryd.prog 21 #[.int .i64 n] w fun e w' => e = .returned (.string ⟨(Lib.itoa n).toArray⟩) ∧ Below w.heap.size w w' := by
  have HV := Lib.hid (itoa_lt h0 h9)
  have hcv := conv_one w (48 + n % 10)
  go_enter Tryd.func21, Tryd.ntmps21
  go_wp2
  go_ret
  exact ⟨ret_str HV.out.symm, box_below _ _⟩
set_option maxHeartbeats 1000000 in
theorem dec_more (n : Int) (w : World) (h0 : 10 ≤ n) (h9 : n ≤ 999) (hrec : ∀ w : World, Calls Tryd.prog 21 #[.int .i64 (n / 10)] w fun e w' => e = .returned (.string ⟨(Lib.itoa (n / 10)).toArray⟩) ∧ Below w.heap.size w w') :
    Calls Tryd.prog 21 #[.int .i64 n] w fun e w' => e = .returned (.string ⟨(Lib.itoa n).toArray⟩) ∧ Below w.heap.size w w' := by
  have HV := Lib.hid (itoa_ge h0)
  have HR := Lib.hid hrec
  have hl := itoa_len (n / 10) (by omega) (by omega)
  have hcv := conv_one w (48 + n % 10)
  have hn : ¬ n < 10 := by omega
  have hcat : ∀ w : World, (Op.stringOp .add ⟨(Lib.itoa (n / 10)).toArray⟩ ⟨[UInt8.ofNat (48 + n % 10).toNat].toArray⟩).run Tryd.prog w = .ok (.string ⟨(Lib.itoa (n / 10) ++ [UInt8.ofNat (48 + n % 10).toNat]).toArray⟩) w := fun w =>
    run_string_add_lists w _ _ (by omega) (by simp)
  clear hrec
  go_enter Tryd.func21, Tryd.ntmps21
  go_wp2_with fail
  refine (HR.out _).mono ?_
  rintro e1 w1 ⟨rfl, hb1⟩
  go_wp2_with fail
  go_ret
  exact ⟨ret_str HV.out.symm, below_box hb1⟩
theorem dec_any (n : Int) (w : World) (h0 : 0 ≤ n) (h9 : n ≤ 999) :
    Calls Tryd.prog 21 #[.int .i64 n] w fun e w' => e = .returned (.string ⟨(Lib.itoa n).toArray⟩) ∧ Below w.heap.size w w' := by
  by_cases h1 : n < 10
  · exact dec_1 n w h0 h1
  · refine dec_more n w (by omega) h9 fun w => ?_
    by_cases h2 : n / 10 < 10
    · exact dec_1 _ w (by omega) h2
    · exact dec_more _ w (by omega) (by omega) fun w => dec_1 _ w (by omega) (by omega)
end Go.Proofs.YtmlljgijbffepaaDoor
