import Derived.Test.YtchhmojnoiephaaWalkE
import Derived.Test.YtchhmojnoiephaaFilters
import Derived.Test.YtchhmojnoiephaaPureC
namespace Go.Proofs.Ytchhmojnoiephaa
open Go.ChangeShapes Go.WideShapes Go.ChangeAt Go.RowKit
set_option linter.unusedVariables false

def filB (s : ByteArray) : Bool := (filterR s.data.toList).1 == 0
def topB (s : ByteArray) : Bool := (topicR s.data.toList).1 == 0
def yesB (f t : ByteArray) : Bool := (matchR f.data.toList t.data.toList).1
def okB (f t : ByteArray) : Bool := (matchR f.data.toList t.data.toList).2.1 == 0
def sglB (s : ByteArray) : Bool := sglL s.data.toList

set_option maxHeartbeats 400000 in
theorem filter_any (s : ByteArray) (w : World) (hs : s.size ≤ maxLen) :
    Calls Try.prog 18 #[.string s] w fun e w' => e = .returned (.bool (filB s)) ∧ w' = w := by
  go_enter Try.func18, Try.ntmps18
  go_wp2_with (go_at_call 15; refine (refFilter_any _ _ hs).mono ?_; rintro e w' ⟨rfl, rfl⟩)
  go_ret
  exact ⟨ret_bool rfl, rfl⟩

set_option maxHeartbeats 400000 in
theorem topic_any (s : ByteArray) (w : World) (hs : s.size ≤ maxLen) :
    Calls Try.prog 19 #[.string s] w fun e w' => e = .returned (.bool (topB s)) ∧ w' = w := by
  go_enter Try.func19, Try.ntmps19
  go_wp2_with (go_at_call 12; refine (refTopic_any _ _ hs).mono ?_; rintro e w' ⟨rfl, rfl⟩)
  go_ret
  exact ⟨ret_bool rfl, rfl⟩

theorem sgl_step (s : ByteArray) (k : Nat) (h : k < s.size) : sglL (s.data.toList.drop k) = (plainC (s[k].toNat : Int) && sglL (s.data.toList.drop (k + 1))) := by
  rw [List.drop_eq_getElem_cons (by rw [len_list]; exact h)]; rfl
theorem sgl_end (s : ByteArray) (k : Nat) (h : ¬ k < s.size) : sglL (s.data.toList.drop k) = true := by
  rw [List.drop_eq_nil_of_le (by rw [len_list]; omega)]; rfl

set_option maxHeartbeats 400000 in
theorem single_any (s : ByteArray) (w : World) (hs : s.size ≤ maxLen) :
    Calls Try.prog 20 #[.string s] w fun e w' => e = .returned (.bool (sglB s)) ∧ w' = w := by
  unfold maxLen at hs
  go_enter Try.func20, Try.ntmps20
  go_wp2
  go_loop [3] (fun i => ∃ k : Nat, k ≤ s.size ∧ i = .int .i64 k ∧ Hid (sglB s = sglL (s.data.toList.drop k))) (fun i => s.size - (intOf i).toNat)
  case atStart => exact ⟨0, Nat.zero_le _, rfl, hide (by simp [sglB])⟩
  case round =>
    obtain ⟨k, hk, rfl, HB⟩ := hrel
    by_cases hlt : k < s.size
    · have HS := hide (sgl_step s k hlt)
      cases h47 : ((s[k].toNat : Int) == 47) <;> cases h43 : ((s[k].toNat : Int) == 43) <;> cases h35 : ((s[k].toNat : Int) == 35)
      case false.false.false =>
        have HP : Hid (sglB s = sglL (s.data.toList.drop (k + 1))) := by unfold Hid; rw [unhide HB, unhide HS]; simp [plainC, h47, h43, h35]
        go_wp2
        go_round
        case rel => exact ⟨k + 1, by omega, by go_num, HP⟩
        case measure => simp [intOf]; omega
      all_goals
        have HP : Hid (sglB s = false) := by unfold Hid; rw [unhide HB, unhide HS]; simp [plainC, h47, h43, h35]
        go_wp2
        go_ret
        exact ⟨ret_bool (unhide HP).symm, rfl⟩
    · have HS := hide (sgl_end s k hlt)
      go_wp2
      go_ret
      exact ⟨ret_bool ((unhide HB).trans (unhide HS)).symm, rfl⟩

theorem ret_met {a b c d : Bool} (h1 : a = c) (h2 : b = d) : Ending.returned (.agg #[.bool a, .bool b]) = .returned (.agg #[.bool c, .bool d]) := by rw [h1, h2]

set_option maxHeartbeats 400000 in
theorem met_any (f t : ByteArray) (w : World) (hf : f.size ≤ maxLen) (ht : t.size ≤ maxLen) :
    Calls Try.prog 21 #[.string f, .string t] w fun e w' => e = .returned (.agg #[.bool (yesB f t), .bool (okB f t)]) ∧ w' = w.alloc (.cells #[.bool (yesB f t), .bool (okB f t)] 35) := by
  go_enter Try.func21, Try.ntmps21
  go_wp2_with (first | (go_at_call 16; refine (hubMatch_any _ _ _ hf ht).mono ?_; rintro e w' ⟨rfl, rfl⟩) | (go_at_call 13; refine (num_any _ _).mono ?_; rintro e w' ⟨rfl, rfl⟩))
  exact bodyPost_ret (v := .agg #[.bool (yesB f t), .bool (okB f t)]) (by simp [results, Try.results21, go_sem, yesB, okB]) rfl ⟨rfl, rfl⟩

end Go.Proofs.Ytchhmojnoiephaa
