import Derived.Test.YtchhmojnoiephaaFrA
namespace Go.Proofs.Ytchhmojnoiephaa
open Go.ChangeShapes Go.WideShapes Go.ChangeAt Go.RowKit
set_option linter.unusedVariables false

/-- what the laws ask of the program's CheckCode and Walk -/
structure HubCodeI where
  check : ∀ (s : ByteArray) w, s.size ≤ maxLen → Calls Try.prog 30 #[.string s] w fun e w' => e = .returned (.tuple #[.int .i64 (codeR s.data.toList).1, .int .i64 (codeR s.data.toList).2]) ∧ Below w.heap.size w w'
  walk : ∀ (c t : ByteArray) w, c.size ≤ maxLen → t.size ≤ maxLen → Calls Try.prog 32 #[.string c, .string t] w fun e w' =>
    ∃ v, e = .returned (.tuple #[v, .int .i64 (walkR c.data.toList t.data.toList).2.1, .int .i64 (walkR c.data.toList t.data.toList).2.2]) ∧ IntsAt w' v (walkR c.data.toList t.data.toList).1 ∧ Below w.heap.size w w'

set_option maxHeartbeats 400000 in
theorem codeChecks_of (I : HubCodeI) (a0 : ByteArray) (w0 : a0.size ≤ maxLen) (w : World) :
    Calls Try.prog 9 #[.string a0] w fun e w' => e = .returned (.bool true) ∧ Below w.heap.size w w' := by
  go_enter Try.func9, Try.ntmps9
  go_wp2_with fail
  refine (I.check a0 _ w0).mono ?_
  rintro e w1 ⟨rfl, hb1⟩
  go_wp2_with fail
  refine (refCode_any a0 _ w0).mono ?_
  rintro e w2 ⟨rfl, hb2⟩
  have hb := hb1.trans (hb2.mono hb1.size)
  clear hb1 hb2
  generalize codeR a0.data.toList = r at *
  go_wp2_with (go_at_call 13; refine (num_any _ _).mono ?_; rintro e w' ⟨rfl, rfl⟩)
  go_ret
  exact ⟨by simp, hb⟩

set_option maxHeartbeats 400000 in
theorem walks_of (I : HubCodeI) (a0 : ByteArray) (a1 : ByteArray) (w0 : a0.size ≤ maxLen) (w1 : a1.size ≤ maxLen) (w : World) :
    Calls Try.prog 10 #[.string a0, .string a1] w fun e w' => e = .returned (.bool true) ∧ Below w.heap.size w w' := by
  go_enter Try.func10, Try.ntmps10
  go_wp2_with fail
  refine (I.walk a0 a1 _ w0 w1).mono ?_
  rintro e w2 ⟨v, rfl, hi, hb1⟩
  go_wp2_with fail
  refine (refWalk_any a0 a1 _ w0 w1).mono ?_
  rintro e w3 ⟨v3, rfl, hown3, hb2⟩
  have HI := hide (hi.below hb2)
  have HO := hide (IntsAt.of_own hown3)
  have HB := hide (hb1.trans (hb2.mono hb1.size))
  clear hb1 hb2 hi hown3
  generalize walkR a0.data.toList a1.data.toList = r at *
  go_wp2_with fail
  refine (same_any v v3 r.1 r.1 _ (unhide HI) (unhide HO)).mono ?_
  rw [show sameL r.1 r.1 = true from by simp [sameL]]
  rintro e w4 ⟨rfl, n, rfl⟩
  go_wp2_with (go_at_call 13; refine (num_any _ _).mono ?_; rintro e w' ⟨rfl, rfl⟩)
  go_ret
  exact ⟨by simp, (unhide HB).trans ⟨rfl, rfl, rfl, Nat.le_refl _, fun _ _ => rfl⟩⟩

end Go.Proofs.Ytchhmojnoiephaa
