import Derived.Test.YtchhmojnoiephabWalkE
import Derived.Test.YtchhmojnoiephabFilR
/- hublaw's topic, filter and match (as in WalkI, for the laws of a table: never imported beside it). -/
namespace Go.Proofs.Ytchhmojnoiephab
open Go.ChangeShapes Go.WideShapes Go.ChangeAt Go.RowKit
set_option linter.unusedVariables false

def filB (s : ByteArray) : Bool := (filterR s.data.toList).1 == 0
def topB (s : ByteArray) : Bool := (topicR s.data.toList).1 == 0
def yesB (f t : ByteArray) : Bool := (matchR f.data.toList t.data.toList).1
def okB (f t : ByteArray) : Bool := (matchR f.data.toList t.data.toList).2.1 == 0

set_option maxHeartbeats 400000 in
theorem filter_any (s : ByteArray) (w : World) (hs : s.size ≤ maxLen) :
    Calls Try.prog 12 #[.string s] w fun e w' => e = .returned (.bool (filB s)) ∧ w' = w := by
  go_enter Try.func12, Try.ntmps12
  go_wp2_with (go_at_call 27; refine (refFilter_any _ _ hs).mono ?_; rintro e w' ⟨rfl, rfl⟩)
  go_ret
  exact ⟨ret_bool rfl, rfl⟩

set_option maxHeartbeats 400000 in
theorem topic_any (s : ByteArray) (w : World) (hs : s.size ≤ maxLen) :
    Calls Try.prog 8 #[.string s] w fun e w' => e = .returned (.bool (topB s)) ∧ w' = w := by
  go_enter Try.func8, Try.ntmps8
  go_wp2_with (go_at_call 24; refine (refTopic_any _ _ hs).mono ?_; rintro e w' ⟨rfl, rfl⟩)
  go_ret
  exact ⟨ret_bool rfl, rfl⟩

set_option maxHeartbeats 400000 in
theorem met_any (f t : ByteArray) (w : World) (hf : f.size ≤ maxLen) (ht : t.size ≤ maxLen) :
    Calls Try.prog 16 #[.string f, .string t] w fun e w' => e = .returned (.agg #[.bool (yesB f t), .bool (okB f t)]) ∧ w' = w.alloc (.cells #[.bool (yesB f t), .bool (okB f t)] 41) := by
  go_enter Try.func16, Try.ntmps16
  go_wp2_with (first | (go_at_call 32; refine (hubMatch_any _ _ _ hf ht).mono ?_; rintro e w' ⟨rfl, rfl⟩) | (go_at_call 9; refine (num_any _ _).mono ?_; rintro e w' ⟨rfl, rfl⟩))
  exact bodyPost_ret (v := .agg #[.bool (yesB f t), .bool (okB f t)]) (by simp [results, Try.results16, go_sem, yesB, okB]) rfl ⟨rfl, rfl⟩

end Go.Proofs.Ytchhmojnoiephab
