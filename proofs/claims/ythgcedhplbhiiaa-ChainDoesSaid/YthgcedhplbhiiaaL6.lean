/- Blocks of the law's text, by their numbers. -/
import Derived.Test.YthgcedhplbhiiaaL0
namespace Go.Proofs.Ythgcedhplbhiiaa
open Go Go.RowKit

def blockOf (n : Nat) : Code → Option Code
  | .block k c => if k = n then some (.block k c) else blockOf n c
  | .seq a b => match blockOf n a with
    | some c => some c
    | none => blockOf n b
  | .cond _ a b => match blockOf n a with
    | some c => some c
    | none => blockOf n b
  | .loop c => blockOf n c
  | .scope c => blockOf n c
  | _ => none
noncomputable def codeB2 : Code := ((Try.f3.body.bind (blockOf 2)).getD .skip)
noncomputable def code23 : Code := ((Try.f3.body.bind (regionOf 23)).getD .skip)
noncomputable def code24 : Code := ((Try.f3.body.bind (regionOf 24)).getD .skip)
end Go.Proofs.Ythgcedhplbhiiaa
