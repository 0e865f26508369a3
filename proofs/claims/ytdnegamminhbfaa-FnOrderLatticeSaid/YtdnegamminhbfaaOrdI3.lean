/- The program's stars, pairs of steps. -/
import Derived.Test.YtdnegamminhbfaaOrdI1
import Derived.Test.YtdnegamminhbfaaOrdS2
namespace Go.Proofs.Ytdnegamminhbfaa
open Go.RowKit Go.Sort Go.Lib

theorem prI_succ (f : Pt → Pt → Int) (l : List Pt) (i : Nat) : prI f l (i + 1) = prI f l i + sumF (fun j => f (atP l i) (atP l (i + 1 + j))) (l.length - (i + 1)) := rfl

end Go.Proofs.Ytdnegamminhbfaa
