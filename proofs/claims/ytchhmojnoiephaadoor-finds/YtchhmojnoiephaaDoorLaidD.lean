import Derived.Test.YtchhmojnoiephaaDoorRows
import Derived.Test.YtchhmojnoiephaaDoorMacF
import Derived.LaidMore
import Derived.Stop.LaidErr
namespace Go.Proofs.YtchhmojnoiephaaDoor
open Go.ChangeShapes Go.WideShapes Go.ChangeAt Go.RowKit

theorem pow_data : (Rows.laid_internal_strconv_uint64pow10 : DataW Unit) = Lib.tabData .u64 Lib.pow10Tab := by kernel_rfl

/-- the row's condition gives the library's table -/
theorem pow_of {W : World} (hL : laidMetH Tryd.prog Rows.codesRow.laid W) : powOK W := by
  rw [MakeChecks.laidMetH_plain _ _ _ (by kernel_rfl)] at hL
  have h := hL.tail.tail
  have h2 : laidMet Tryd.prog [("internal/strconv.uint64pow10", Lib.tabData .u64 Lib.pow10Tab)] W := by rw [← pow_data]; exact h
  exact Lib.tabIs_of_head (g := 0) (t := 134) (e := 126) (n := 20) (by kernel_rfl) (by kernel_rfl) (by kernel_rfl) (by kernel_rfl) (by kernel_rfl) (by kernel_rfl) h2

end Go.Proofs.YtchhmojnoiephaaDoor
