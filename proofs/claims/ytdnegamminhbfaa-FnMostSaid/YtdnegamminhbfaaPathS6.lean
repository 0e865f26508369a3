/- The model's paths gone backwards. -/
import Derived.Test.YtdnegamminhbfaaPathS5
namespace Go.Proofs.Ytdnegamminhbfaa
open Go.RowKit Go.Sort Go.Lib

end Go.Proofs.Ytdnegamminhbfaa
