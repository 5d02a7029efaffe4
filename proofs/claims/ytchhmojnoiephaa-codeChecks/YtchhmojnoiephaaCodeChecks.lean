import Derived.Test.YtchhmojnoiephaaCodeC
namespace Go.Proofs.Ytchhmojnoiephaa
open Go.ChangeShapes Go.WideShapes Go.ChangeAt Go.RowKit

theorem codeChecks_walk (a0 : ByteArray) (w0 : a0.size ≤ maxLen) (w : World) :
    Calls Try.prog 9 #[.string a0] w fun e w' => e = .returned (.bool true) ∧ Below w.heap.size w w' := codeChecks_of hubCodeI a0 w0 w

end Go.Proofs.Ytchhmojnoiephaa
