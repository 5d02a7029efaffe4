import Derived.Test.YtmicdigheobmmaaGreatDoorWalkC
namespace Go.Proofs.YtmicdigheobmmaaGreatDoor
open Go.ChangeShapes Go.WideShapes Go.ChangeAt Go.RowKit
set_option linter.unusedVariables false

theorem wrongI_cases (l : List UInt8) : (badF 47 0 0 l = none ∧ wrongI l = -1) ∨ ∃ i : Nat, badF 47 0 0 l = some i ∧ wrongI l = (i : Int) := by
  unfold wrongI
  cases h : badF 47 0 0 l with
  | none => exact Or.inl ⟨rfl, rfl⟩
  | some i => exact Or.inr ⟨i, rfl, rfl⟩

set_option maxHeartbeats 1000000 in
theorem refFilter_any (s : ByteArray) (w : World) (hs : s.size ≤ maxLen) :
    Calls Tryz.prog 62 #[.string s] w fun e w' => e = .returned (.tuple #[.int .i64 (filterR s.data.toList).1, .int .i64 (filterR s.data.toList).2]) ∧ w' = w := by
  have hs' := hs
  unfold maxLen at hs
  by_cases h24 : 24 < (s.size : Int)
  · go_enter Tryz.func62, Tryz.ntmps62
    go_wp2
    go_ret2
    exact ⟨ret_ints (filterR_long s h24), rfl⟩
  by_cases h0 : s.size = 0
  · have hb : s.toList.isEmpty = true := by rw [empty_iff]; simp [h0]
    go_enter Tryz.func62, Tryz.ntmps62
    go_wp2
    go_ret2
    exact ⟨ret_ints (filterR_empty s h0), rfl⟩
  have hb : s.toList.isEmpty = false := by rw [empty_iff]; simp [h0]
  have H0 := hide h0
  clear h0
  rcases wrongI_cases s.data.toList with ⟨hn, hw⟩ | ⟨i, hn, hw⟩
  · have HN := hide hn
    have HW := hide hw
    clear hn hw
    go_enter Tryz.func62, Tryz.ntmps62
    go_wp2_with (go_at_call 84; refine (wrong_any _ _ hs').mono ?_; rw [unhide HW]; rintro e w' ⟨rfl, rfl⟩)
    go_ret2
    exact ⟨ret_ints (filterR_none s (by omega) (unhide H0) (unhide HN)), rfl⟩
  · have HN := hide hn
    have HW := hide hw
    clear hn hw
    go_enter Tryz.func62, Tryz.ntmps62
    go_wp2_with (go_at_call 84; refine (wrong_any _ _ hs').mono ?_; rw [unhide HW]; rintro e w' ⟨rfl, rfl⟩)
    go_ret2
    exact ⟨ret_ints (filterR_some s i (by omega) (unhide H0) (unhide HN)), rfl⟩

set_option maxHeartbeats 400000 in
theorem filters_walk (a0 : ByteArray) (w0 : a0.size ≤ maxLen) (w : World) :
    Calls Tryz.prog 31 #[.string a0] w fun e w' => e = .returned (.bool true) ∧ Grown w w' := by
  go_enter Tryz.func31, Tryz.ntmps31
  go_wp2_with (first | (go_at_call 61; refine (hubFilter_any _ _ w0).mono ?_; rintro e w' ⟨rfl, rfl⟩) | (go_at_call 62; refine (refFilter_any _ _ w0).mono ?_; rintro e w' ⟨rfl, rfl⟩) | (go_at_call 16; refine (num_any _ _).mono ?_; rintro e w' ⟨rfl, rfl⟩))
  go_ret
  exact ⟨by simp, Grown.refl _⟩
end Go.Proofs.YtmicdigheobmmaaGreatDoor
