import Derived.Test.YtchhmojnoiephaaMatR
import Derived.Test.YtchhmojnoiephaaWalkE
import Derived.Test.YtchhmojnoiephaaFilters
namespace Go.Proofs.Ytchhmojnoiephaa
open Go.ChangeShapes Go.WideShapes Go.ChangeAt Go.RowKit
set_option linter.unusedVariables false

set_option maxHeartbeats 1000000 in
theorem refMatch_any (f t : ByteArray) (w : World) (hf : f.size ≤ maxLen) (ht : t.size ≤ maxLen) :
    Calls Try.prog 17 #[.string f, .string t] w fun e w' => e = .returned (.tuple #[.bool (matchR f.data.toList t.data.toList).1, .int .i64 (matchR f.data.toList t.data.toList).2.1, .int .i64 (matchR f.data.toList t.data.toList).2.2]) ∧ Below w.heap.size w w' := by
  have hf' := hf
  have ht' := ht
  unfold maxLen at hf ht
  by_cases h1 : 24 < (f.size : Int)
  · go_enter Try.func17, Try.ntmps17
    go_wp2
    go_ret3
    exact ⟨ret_match (matchR_long f t (Or.inl h1)), Below.refl _ _⟩
  by_cases h2 : 24 < (t.size : Int)
  · go_enter Try.func17, Try.ntmps17
    go_wp2
    go_ret3
    exact ⟨ret_match (matchR_long f t (Or.inr h2)), Below.refl _ _⟩
  by_cases h3 : (filterR f.data.toList).1 = 0
  · have H3 := hide h3
    have b3 : ((filterR f.data.toList).1 != 0) = false := by simp [h3]
    clear h3
    by_cases h4 : (topicR t.data.toList).1 = 0
    · have H4 := hide h4
      have b4 : ((topicR t.data.toList).1 != 0) = false := by simp [h4]
      clear h4
      go_enter Try.func17, Try.ntmps17
      go_wp2_with (first | (go_at_call 15; refine (refFilter_any _ _ hf').mono ?_; rintro e w' ⟨rfl, rfl⟩) | (go_at_call 12; refine (refTopic_any _ _ ht').mono ?_; rintro e w' ⟨rfl, rfl⟩) | (go_at_call 39; refine (refMatches_any _ _ _ (by omega) (by omega) (filterR_pos _ (unhide H3)) (topicR_pos _ (unhide H4))).mono ?_; rintro e w' ⟨rfl, hb⟩))
      go_ret3
      exact ⟨ret_match (matchR_good f t (by omega) (by omega) (unhide H3) (unhide H4)), by assumption⟩
    · have H4 := hide h4
      have b4 : ((topicR t.data.toList).1 != 0) = true := by simp [h4]
      clear h4
      go_enter Try.func17, Try.ntmps17
      go_wp2_with (first | (go_at_call 15; refine (refFilter_any _ _ hf').mono ?_; rintro e w' ⟨rfl, rfl⟩) | (go_at_call 12; refine (refTopic_any _ _ ht').mono ?_; rintro e w' ⟨rfl, rfl⟩))
      go_ret3
      exact ⟨ret_match (matchR_topic f t (by omega) (by omega) (unhide H3) (unhide H4)), Below.refl _ _⟩
  · have H3 := hide h3
    have b3 : ((filterR f.data.toList).1 != 0) = true := by simp [h3]
    clear h3
    go_enter Try.func17, Try.ntmps17
    go_wp2_with (go_at_call 15; refine (refFilter_any _ _ hf').mono ?_; rintro e w' ⟨rfl, rfl⟩)
    go_ret3
    exact ⟨ret_match (matchR_filter f t (by omega) (by omega) (unhide H3)), Below.refl _ _⟩

end Go.Proofs.Ytchhmojnoiephaa
