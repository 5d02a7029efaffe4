import Derived.Test.YtchhmojnoiephabWalkD
namespace Go.Proofs.Ytchhmojnoiephab
open Go.ChangeShapes Go.WideShapes Go.ChangeAt Go.RowKit
set_option linter.unusedVariables false

theorem ret_match {a : Bool} {b c : Int} {r : Bool × Int × Int} (h : r = (a, b, c)) : Ending.returned (.tuple #[.bool a, .int .i64 b, .int .i64 c]) = .returned (.tuple #[.bool r.1, .int .i64 r.2.1, .int .i64 r.2.2]) := by rw [h]

theorem matchR_long (f t : ByteArray) (h : 24 < (f.size : Int) ∨ 24 < (t.size : Int)) : matchR f.data.toList t.data.toList = (false, 1, 0) := by
  unfold matchR; rw [if_pos (by rw [len_list, len_list]; omega)]
theorem matchR_filter (f t : ByteArray) (h : f.size ≤ 24) (h' : t.size ≤ 24) (hf : ¬ (filterR f.data.toList).1 = 0) : matchR f.data.toList t.data.toList = (false, (filterR f.data.toList).1, (filterR f.data.toList).2) := by
  unfold matchR; rw [if_neg (by rw [len_list, len_list]; omega), if_pos hf]
theorem matchR_topic (f t : ByteArray) (h : f.size ≤ 24) (h' : t.size ≤ 24) (hf : (filterR f.data.toList).1 = 0) (ht : ¬ (topicR t.data.toList).1 = 0) : matchR f.data.toList t.data.toList = (false, (topicR t.data.toList).1, (topicR t.data.toList).2) := by
  unfold matchR; rw [if_neg (by rw [len_list, len_list]; omega), if_neg (by simp [hf]), if_pos ht]
theorem matchR_good (f t : ByteArray) (h : f.size ≤ 24) (h' : t.size ≤ 24) (hf : (filterR f.data.toList).1 = 0) (ht : (topicR t.data.toList).1 = 0) : matchR f.data.toList t.data.toList = (matchB f.data.toList t.data.toList, 0, 0) := by
  unfold matchR; rw [if_neg (by rw [len_list, len_list]; omega), if_neg (by simp [hf]), if_neg (by simp [ht])]

set_option maxHeartbeats 1000000 in
theorem hubMatch_any (f t : ByteArray) (w : World) (hf : f.size ≤ maxLen) (ht : t.size ≤ maxLen) :
    Calls Try.prog 32 #[.string f, .string t] w fun e w' => e = .returned (.tuple #[.bool (matchR f.data.toList t.data.toList).1, .int .i64 (matchR f.data.toList t.data.toList).2.1, .int .i64 (matchR f.data.toList t.data.toList).2.2]) ∧ w' = w := by
  have hf' := hf
  have ht' := ht
  unfold maxLen at hf ht
  by_cases h1 : 24 < (f.size : Int)
  · go_enter Try.func32, Try.ntmps32
    go_wp2
    go_ret3
    exact ⟨ret_match (matchR_long f t (Or.inl h1)), rfl⟩
  by_cases h2 : 24 < (t.size : Int)
  · go_enter Try.func32, Try.ntmps32
    go_wp2
    go_ret3
    exact ⟨ret_match (matchR_long f t (Or.inr h2)), rfl⟩
  by_cases h3 : (filterR f.data.toList).1 = 0
  · have H3 := hide h3
    have b3 : ((filterR f.data.toList).1 != 0) = false := by simp [h3]
    clear h3
    by_cases h4 : (topicR t.data.toList).1 = 0
    · have H4 := hide h4
      have b4 : ((topicR t.data.toList).1 != 0) = false := by simp [h4]
      clear h4
      go_enter Try.func32, Try.ntmps32
      go_wp2_with (first | (go_at_call 39; refine (hubFilter_any _ _ hf').mono ?_; rintro e w' ⟨rfl, rfl⟩) | (go_at_call 20; refine (hubTopic_any _ _ ht').mono ?_; rintro e w' ⟨rfl, rfl⟩) | (go_at_call 40; refine (matches_any _ _ _ (by omega) (by omega)).mono ?_; rintro e w' ⟨rfl, rfl⟩))
      go_ret3
      exact ⟨ret_match (matchR_good f t (by omega) (by omega) (unhide H3) (unhide H4)), rfl⟩
    · have H4 := hide h4
      have b4 : ((topicR t.data.toList).1 != 0) = true := by simp [h4]
      clear h4
      go_enter Try.func32, Try.ntmps32
      go_wp2_with (first | (go_at_call 39; refine (hubFilter_any _ _ hf').mono ?_; rintro e w' ⟨rfl, rfl⟩) | (go_at_call 20; refine (hubTopic_any _ _ ht').mono ?_; rintro e w' ⟨rfl, rfl⟩) | (go_at_call 40; refine (matches_any _ _ _ (by omega) (by omega)).mono ?_; rintro e w' ⟨rfl, rfl⟩))
      go_ret3
      exact ⟨ret_match (matchR_topic f t (by omega) (by omega) (unhide H3) (unhide H4)), rfl⟩
  · have H3 := hide h3
    have b3 : ((filterR f.data.toList).1 != 0) = true := by simp [h3]
    clear h3
    go_enter Try.func32, Try.ntmps32
    go_wp2_with (go_at_call 39; refine (hubFilter_any _ _ hf').mono ?_; rintro e w' ⟨rfl, rfl⟩)
    go_ret3
    exact ⟨ret_match (matchR_filter f t (by omega) (by omega) (unhide H3)), rfl⟩

end Go.Proofs.Ytchhmojnoiephab
