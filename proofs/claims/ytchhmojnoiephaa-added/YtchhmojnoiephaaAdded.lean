import Derived.Test.YtchhmojnoiephaaAddedI
import Derived.Test.YtchhmojnoiephaaHubU
namespace Go.Proofs.Ytchhmojnoiephaa
open Go.ChangeShapes Go.WideShapes Go.ChangeAt Go.RowKit

theorem added_walk (w : World) (v0 : Value) (ops : List OpV) (h0 : OpsAt w v0 ops) (l0 : ops.length * 56 ≤ 140737488351232)
    (f : ByteArray) (wf : f.size ≤ 140737488351232) (who : Int) (ww : (Lit.int .i64 who).wf = true) (t : ByteArray) (wt : t.size ≤ 140737488351232) :
    Calls Try.prog 8 #[v0, .string f, .int .i64 who, .string t] w fun e w' => e = .returned (.bool true) ∧ Below w.heap.size w w' :=
  added_of hubTabI w v0 ops h0 l0 f (Nat.le_trans wf (by unfold maxLen; omega)) who ww t (Nat.le_trans wt (by unfold maxLen; omega))

end Go.Proofs.Ytchhmojnoiephaa
