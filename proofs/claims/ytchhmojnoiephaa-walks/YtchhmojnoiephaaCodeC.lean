import Derived.Test.YtchhmojnoiephaaWalkW
import Derived.Test.YtchhmojnoiephaaCodesI
namespace Go.Proofs.Ytchhmojnoiephaa
open Go.ChangeShapes Go.WideShapes Go.ChangeAt Go.RowKit
set_option linter.unusedVariables false

theorem hubCodeI : HubCodeI :=
  ⟨fun s w hs => hubCode_any s w hs, fun c t w hc ht => (hubWalk_any c t w hc ht).mono fun e w' h => by
    obtain ⟨v, he, ho, hb⟩ := h
    exact ⟨v, he, IntsAt.of_own ho, hb⟩⟩

end Go.Proofs.Ytchhmojnoiephaa
