import Derived.Test.YtchhmojnoiephaaGreatDoorLawB
namespace Go.Proofs.YtchhmojnoiephaaGreatDoor
open Go.ChangeShapes Go.WideShapes Go.ChangeAt Go.RowKit
set_option linter.unusedVariables false

theorem hubNewI : HubNewI := ⟨fun w => by
  go_enter Tryz.func12, Tryz.ntmps12
  go_wp2_with fail
  go_ret
  exact ⟨_, rfl, (Below.refl _ w).alloc (Nat.le_refl _) _⟩⟩

end Go.Proofs.YtchhmojnoiephaaGreatDoor
