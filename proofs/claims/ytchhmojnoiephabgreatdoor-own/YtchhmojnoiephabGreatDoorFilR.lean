import Derived.Test.YtchhmojnoiephabGreatDoorWalkC
namespace Go.Proofs.YtchhmojnoiephabGreatDoor
open Go.ChangeShapes Go.WideShapes Go.ChangeAt Go.RowKit
set_option linter.unusedVariables false

theorem wrongI_cases (l : List UInt8) : (badF 47 0 0 l = none ∧ wrongI l = -1) ∨ ∃ i : Nat, badF 47 0 0 l = some i ∧ wrongI l = (i : Int) := by
  unfold wrongI
  cases h : badF 47 0 0 l with
  | none => exact Or.inl ⟨rfl, rfl⟩
  | some i => exact Or.inr ⟨i, rfl, rfl⟩

set_option maxHeartbeats 1000000 in
theorem refFilter_any (s : ByteArray) (w : World) (hs : s.size ≤ maxLen) :
    Calls Tryz.prog 93 #[.string s] w fun e w' => e = .returned (.tuple #[.int .i64 (filterR s.data.toList).1, .int .i64 (filterR s.data.toList).2]) ∧ w' = w := by
  have hs' := hs
  unfold maxLen at hs
  by_cases h24 : 24 < (s.size : Int)
  · go_enter Tryz.func93, Tryz.ntmps93
    go_wp2
    go_ret2
    exact ⟨ret_ints (filterR_long s h24), rfl⟩
  by_cases h0 : s.size = 0
  · have hb : s.toList.isEmpty = true := by rw [empty_iff]; simp [h0]
    go_enter Tryz.func93, Tryz.ntmps93
    go_wp2
    go_ret2
    exact ⟨ret_ints (filterR_empty s h0), rfl⟩
  have hb : s.toList.isEmpty = false := by rw [empty_iff]; simp [h0]
  have H0 := hide h0
  clear h0
  rcases wrongI_cases s.data.toList with ⟨hn, hw⟩ | ⟨i, hn, hw⟩
  · have HN := hide hn
    have HW := hide hw
    clear hn hw
    go_enter Tryz.func93, Tryz.ntmps93
    go_wp2_with (go_at_call 117; refine (wrong_any _ _ hs').mono ?_; rw [unhide HW]; rintro e w' ⟨rfl, rfl⟩)
    go_ret2
    exact ⟨ret_ints (filterR_none s (by omega) (unhide H0) (unhide HN)), rfl⟩
  · have HN := hide hn
    have HW := hide hw
    clear hn hw
    go_enter Tryz.func93, Tryz.ntmps93
    go_wp2_with (go_at_call 117; refine (wrong_any _ _ hs').mono ?_; rw [unhide HW]; rintro e w' ⟨rfl, rfl⟩)
    go_ret2
    exact ⟨ret_ints (filterR_some s i (by omega) (unhide H0) (unhide HN)), rfl⟩

end Go.Proofs.YtchhmojnoiephabGreatDoor
