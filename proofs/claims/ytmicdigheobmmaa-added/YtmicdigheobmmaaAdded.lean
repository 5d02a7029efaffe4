import Derived.Test.YtmicdigheobmmaaAddedI
import Derived.Test.YtmicdigheobmmaaHubU
namespace Go.Proofs.Ytmicdigheobmmaa
open Go.ChangeShapes Go.WideShapes Go.ChangeAt Go.RowKit

theorem added_walk := @added_of hubTabI

end Go.Proofs.Ytmicdigheobmmaa
