import Derived.Test.YtchhmojnoiephaaGreatDoorTablesI
import Derived.Test.YtchhmojnoiephaaGreatDoorHubU
import Derived.Test.YtchhmojnoiephaaGreatDoorHubN
import Derived.LaidMore
namespace Go.Proofs.YtchhmojnoiephaaGreatDoor
open Go.ChangeShapes Go.WideShapes Go.ChangeAt Go.RowKit
set_option linter.unusedVariables false

theorem tables_walk (w : World) (hL : laidMetH Tryz.prog Rows.tablesRow.laid w) (v : Value) (ops : List OpV) (h : OpsAt w v ops) (hl : ops.length * 56 ≤ 140737488351232) (t : ByteArray) (ht : t.size ≤ 140737488351232) :
    Calls Tryz.prog 3 #[v, .string t] w fun e w' => e = .returned (.bool true) ∧ Below w.heap.size w w' :=
  tables_of hubTabI hubNewI w v ops h hl t ht

end Go.Proofs.YtchhmojnoiephaaGreatDoor
