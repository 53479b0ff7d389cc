/- A region of the law's text, by its number. -/
import Derived.Test.YthgcedhplbhiiaaK2
namespace Go.Proofs.Ythgcedhplbhiiaa
open Go Go.RowKit

def regionOf (n : Nat) : Code → Option Code
  | .region k ops d => if k = n then some (.region k ops d) else none
  | .seq a b => match regionOf n a with
    | some c => some c
    | none => regionOf n b
  | .cond _ a b => match regionOf n a with
    | some c => some c
    | none => regionOf n b
  | .block _ c => regionOf n c
  | .loop c => regionOf n c
  | .scope c => regionOf n c
  | _ => none
noncomputable def code21 : Code := ((Try.f3.body.bind (regionOf 21)).getD .skip)
end Go.Proofs.Ythgcedhplbhiiaa
