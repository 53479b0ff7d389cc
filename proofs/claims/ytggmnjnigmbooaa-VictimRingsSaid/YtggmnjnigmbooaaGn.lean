/- To whom edges of one go, and all numbers that stand in edges: the document's answers; two lists of numbers held against each other. -/
import Derived.Test.YtggmnjnigmbooaaGm
namespace Go.Proofs.Ytggmnjnigmbooaa
open Go Go.RowKit Go.Shelf
set_option maxRecDepth 100000

section
variable {W : World} {A : Option Addr} {c : Nat} {l : List Es.Ed}
end
section
variable {W W' : World} {A1 A2 : Option Addr} {c1 c2 : Nat} {xs : List Int}
end
end Go.Proofs.Ytggmnjnigmbooaa
