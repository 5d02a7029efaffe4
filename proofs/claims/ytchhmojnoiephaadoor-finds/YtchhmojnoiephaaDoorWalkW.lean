import Derived.Test.YtchhmojnoiephaaDoorWalkV
namespace Go.Proofs.YtchhmojnoiephaaDoor
open Go.ChangeShapes Go.WideShapes Go.ChangeAt Go.RowKit
set_option linter.unusedVariables false

set_option maxHeartbeats 1000000 in
theorem hubWalk_any (c t : ByteArray) (w : World) (hc : c.size ≤ maxLen) (ht : t.size ≤ maxLen) :
    Calls Tryd.prog 13 #[.string c, .string t] w (IntsPost w (walkR c.data.toList t.data.toList)) := by
  have hc' := hc
  have ht' := ht
  unfold maxLen at hc ht
  by_cases h1 : 40000 < (c.size : Int)
  · go_enter Tryd.func13, Tryd.ntmps13
    go_wp2_with fail
    go_ret3
    exact IntsPost.none (walkR_long c t (Or.inl h1)) (Below.refl _ _)
  by_cases h2 : 24 < (t.size : Int)
  · go_enter Tryd.func13, Tryd.ntmps13
    go_wp2_with fail
    go_ret3
    exact IntsPost.none (walkR_long c t (Or.inr h2)) (Below.refl _ _)
  by_cases h3 : (codeR c.data.toList).1 = 0
  · by_cases h4 : (topicR t.data.toList).1 = 0
    · exact hubWalk_good c t w hc' ht' (by omega) (by omega) h3 h4
    · have b3 : ((codeR c.data.toList).1 != 0) = false := by simp [h3]
      have b4 : ((topicR t.data.toList).1 != 0) = true := by simp [h4]
      have HR := hide (walkR_topic c t (by omega) (by omega) h3 h4)
      clear h3 h4
      go_enter Tryd.func13, Tryd.ntmps13
      go_wp2_with fail
      refine (hubCode_any c _ hc').mono ?_
      rintro e w1 ⟨rfl, hb1⟩
      go_wp2_with fail
      refine (hubTopic_any t _ ht').mono ?_
      rintro e w1' ⟨rfl, rfl⟩
      go_wp2_with fail
      go_ret3
      exact IntsPost.none (unhide HR) hb1
  · have b3 : ((codeR c.data.toList).1 != 0) = true := by simp [h3]
    have HR := hide (walkR_code c t (by omega) (by omega) h3)
    clear h3
    go_enter Tryd.func13, Tryd.ntmps13
    go_wp2_with fail
    refine (hubCode_any c _ hc').mono ?_
    rintro e w1 ⟨rfl, hb1⟩
    go_wp2_with fail
    go_ret3
    exact IntsPost.none (unhide HR) hb1

end Go.Proofs.YtchhmojnoiephaaDoor
