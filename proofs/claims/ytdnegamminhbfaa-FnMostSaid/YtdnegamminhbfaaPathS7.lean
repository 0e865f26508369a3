/- The model's paths that begin elsewhere. -/
import Derived.Test.YtdnegamminhbfaaPathS5
import Derived.Test.YtdnegamminhbfaaPathI4
namespace Go.Proofs.Ytdnegamminhbfaa
open Go.RowKit Go.Sort Go.Lib

end Go.Proofs.Ytdnegamminhbfaa
