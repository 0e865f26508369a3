/- The program's reading of a path: a ring of corners. -/
import Derived.Test.YtiadnbdefcimiaaRing
namespace Go.Proofs.Ytiadnbdefcimiaa
open Go.RowKit Go.Sort Go.Lib

/-- The step that a row is. -/
abbrev rowPt (r : List Int) : Pt := (r.getD 0 0, r.getD 1 0)
def stepRow (r : List Int) : Bool := decide (r.length = 2) && (decide (-9 ≤ r.getD 0 0) && decide (r.getD 0 0 ≤ 9)) && (decide (-9 ≤ r.getD 1 0) && decide (r.getD 1 0 ≤ 9)) && !(decide (r.getD 0 0 = 0) && decide (r.getD 1 0 = 0))
/-- Whether rows are a path. -/
def pathB (L : List (List Int)) : Bool := L.all stepRow && (decide (3 ≤ L.length) && decide (L.length ≤ 8)) && decide (tot (L.map rowPt) = (0, 0))

end Go.Proofs.Ytiadnbdefcimiaa
