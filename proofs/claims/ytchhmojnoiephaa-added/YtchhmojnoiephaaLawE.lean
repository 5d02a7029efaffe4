import Derived.Test.YtchhmojnoiephaaFedA
namespace Go.Proofs.Ytchhmojnoiephaa
open Go.ChangeShapes Go.WideShapes Go.ChangeAt Go.RowKit
set_option linter.unusedVariables false

/-- what hublaw.has answers -/
def hasL (xs : List Int) (q : Int) : Bool := xs.contains q

set_option maxHeartbeats 1000000 in
theorem has_any (v : Value) (xs : List Int) (q : Int) (w : World) (h : IntsAt w v xs) :
    Calls Try.prog 28 #[v, .int .i64 q] w fun e w' => e = .returned (.bool (hasL xs q)) ∧ w' = w := by
  obtain ⟨a1, c1, rfl, hl1⟩ := h.form
  unfold maxLen at hl1
  have HX := hide h
  clear h
  go_enter Try.func28, Try.ntmps28
  go_wp2_with fail
  go_loop [5] (fun i => ∃ k : Nat, k ≤ xs.length ∧ i = .int .i64 k ∧ Hid (hasL xs q = (xs.drop k).contains q)) (fun i => xs.length - (intOf i).toNat)
  case atStart => exact ⟨0, by omega, rfl, hide (by unfold hasL; rw [List.drop_zero])⟩
  case round =>
    obtain ⟨k, hk, rfl, HS⟩ := hrel
    by_cases hlt : k < xs.length
    · rcases unhide HX with ⟨_, hx0⟩ | ⟨b1, o1, p1, he1, hc1, hm1, hx⟩
      · subst hx0; simp at hlt
      simp only [Value.slice.injEq] at he1
      obtain ⟨rfl, _, rfl⟩ := he1
      have hcx := hx k hlt
      unfold maxLen at hm1
      have HD := hide (List.drop_eq_getElem_cons hlt)
      clear hx
      cases hq : (xs[k] == q)
      · have HZ : Hid (hasL xs q = (xs.drop (k + 1)).contains q) := by
          unfold Hid
          rw [unhide HS, unhide HD, List.contains_cons]
          have : (q == xs[k]) = false := by rw [Bool.eq_false_iff] at hq ⊢; intro h; exact hq (by simpa using (beq_iff_eq.1 h).symm)
          rw [this]; rfl
        generalize xs[k] = xk at *
        go_wp2_with fail
        go_round
        case rel => exact ⟨k + 1, by omega, by go_num, HZ⟩
        case measure => simp [intOf]; omega
      · have HZ : Hid (hasL xs q = true) := by
          unfold Hid
          rw [unhide HS, unhide HD, List.contains_cons, beq_iff_eq.1 hq]; simp
        generalize xs[k] = xk at *
        go_wp2_with fail
        go_ret
        exact ⟨ret_bool (unhide HZ).symm, rfl⟩
    · have HZ : Hid (hasL xs q = false) := by
        unfold Hid; rw [unhide HS, List.drop_eq_nil_of_le (by omega)]; rfl
      go_wp2_with fail
      go_ret
      exact ⟨ret_bool (unhide HZ).symm, rfl⟩

end Go.Proofs.Ytchhmojnoiephaa
