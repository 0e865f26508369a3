/- The model's sorted paths. -/
import Derived.Test.YtdnegamminhbfaaOrdS3
import Derived.Test.YtdnegamminhbfaaOrdI6
namespace Go.Proofs.Ytdnegamminhbfaa
open Go.RowKit Go.Sort Go.Lib

end Go.Proofs.Ytdnegamminhbfaa
