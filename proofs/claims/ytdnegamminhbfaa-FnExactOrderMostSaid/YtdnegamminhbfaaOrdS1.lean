/- The model's runs: l7Run, l7Places, OrderRun, OrderGain. -/
import Derived.Test.YtdnegamminhbfaaOrdI2
import Derived.Test.YtdnegamminhbfaaPathS5
namespace Go.Proofs.Ytdnegamminhbfaa
open Go.RowKit Go.Sort Go.Lib

theorem plB_st {L : List (List Int)} {f t : Int} (h : plB L f t = true) : ∀ i, i < L.length → stepRow (rowL L i) = true := (pathB_true (plB_true h).1).2

end Go.Proofs.Ytdnegamminhbfaa
