import Derived.Test.YtchhmojnoiephabGreatDoorRows
import Derived.Test.YtchhmojnoiephabGreatDoorPureA
import Derived.WalkKit
import Derived.ProofKit
import Derived.OpenShut
import Derived.ShutString
import Derived.Lib.Strings
namespace Go.Proofs.YtchhmojnoiephabGreatDoor
open Go.ChangeShapes Go.WideShapes Go.ChangeAt Go.RowKit
open Go.ChangeMaps (open_string shut_string)
set_option linter.unusedVariables false

theorem hide {p : Prop} (h : p) : Hid p := h
theorem unhide {p : Prop} (h : Hid p) : p := h

theorem sign_cases (n : Int) : n < 36 ∨ n = 36 ∨ (36 < n ∧ n < 48) ∨ (48 ≤ n ∧ n ≤ 57) ∨ (57 < n ∧ n < 97) ∨ (97 ≤ n ∧ n ≤ 122) ∨ 122 < n := by omega

theorem ret_bool {a b : Bool} (h : a = b) : Ending.returned (.bool a) = .returned (.bool b) := by rw [h]
theorem ret_int {k : IntKind} {a b : Int} (h : a = b) : Ending.returned (.int k a) = .returned (.int k b) := by rw [h]
theorem ret_ints {k1 k2 : IntKind} {a b : Int} {r : Int × Int} (h : r = (a, b)) : Ending.returned (.tuple #[.int k1 a, .int k2 b]) = .returned (.tuple #[.int k1 r.1, .int k2 r.2]) := by rw [h]

theorem signB_of {n : Int} {b : Bool} (h : b = true ↔ ((97 ≤ n ∧ n ≤ 122) ∨ (48 ≤ n ∧ n ≤ 57) ∨ n = 36)) : b = signB n := by
  rw [Bool.eq_iff_iff, h]; unfold signB; simp [or_assoc]

set_option maxHeartbeats 400000 in
theorem hubSign_any (n : Int) (w : World) :
    Calls Tryz.prog 57 #[.int .u8 n] w fun e w' => e = .returned (.bool (signB n)) ∧ w' = w := by
  rcases sign_cases n with h | h | h | h | h | h | h
  all_goals
    go_enter Tryz.func57, Tryz.ntmps57
    go_wp2
    go_ret
    exact ⟨ret_bool (signB_of (by simp; try omega)), rfl⟩

set_option maxHeartbeats 400000 in
theorem refSign_any (n : Int) (w : World) :
    Calls Tryz.prog 61 #[.int .u8 n] w fun e w' => e = .returned (.bool (signB n)) ∧ w' = w := by
  rcases sign_cases n with h | h | h | h | h | h | h
  all_goals
    go_enter Tryz.func61, Tryz.ntmps61
    go_wp2
    go_ret
    exact ⟨ret_bool (signB_of (by simp; try omega)), rfl⟩

set_option maxHeartbeats 400000 in
theorem num_any (n : Int) (w : World) :
    Calls Tryz.prog 34 #[.int .i64 n] w fun e w' => e = .returned (.int .i64 n) ∧ w' = w := by
  go_enter Tryz.func34, Tryz.ntmps34
  go_wp2
  go_ret
  exact ⟨rfl, rfl⟩

theorem len_list (s : ByteArray) : s.data.toList.length = s.size := by simp
theorem topicR_long (s : ByteArray) (h : 24 < (s.size : Int)) : topicR s.data.toList = (1, 0) := by
  unfold topicR; rw [if_pos (by rw [len_list]; omega)]
theorem topicR_empty (s : ByteArray) (h : s.size = 0) : topicR s.data.toList = (2, 0) := by
  unfold topicR; rw [if_neg (by rw [len_list]; omega), if_pos (by rw [len_list]; omega)]
theorem topicR_some (s : ByteArray) (i : Nat) (h : ¬ 24 < (s.size : Int)) (h0 : ¬ s.size = 0) (hb : badT 0 s.data.toList = some i) : topicR s.data.toList = (2, (i : Int)) := by
  unfold topicR; rw [if_neg (by rw [len_list]; omega), if_neg (by rw [len_list]; omega), hb]
theorem topicR_none (s : ByteArray) (h : ¬ 24 < (s.size : Int)) (h0 : ¬ s.size = 0) (hb : badT 0 s.data.toList = none) : topicR s.data.toList = (0, 0) := by
  unfold topicR; rw [if_neg (by rw [len_list]; omega), if_neg (by rw [len_list]; omega), hb]

theorem get_list (s : ByteArray) (k : Nat) (h : k < s.size) : s.data.toList[k]'(by simpa using h) = s[k] := rfl
theorem tok_slash (s : ByteArray) (k : Nat) (h : k < s.size) (hs : (s[k].toNat : Int) = 47) : badT k (s.data.toList.drop k) = badT (k + 1) (s.data.toList.drop (k + 1)) := by
  refine badT_drop_ok k k _ (by simpa using h) ?_
  rw [get_list s k h]; simp [tokB, hs]
theorem tok_sign (s : ByteArray) (k : Nat) (h : k < s.size) (hs : signB (s[k].toNat : Int) = true) : badT k (s.data.toList.drop k) = badT (k + 1) (s.data.toList.drop (k + 1)) := by
  refine badT_drop_ok k k _ (by simpa using h) ?_
  rw [get_list s k h]; simp [tokB, hs]
theorem tok_bad (s : ByteArray) (k : Nat) (h : k < s.size) (h1 : ¬ (s[k].toNat : Int) = 47) (hs : signB (s[k].toNat : Int) = false) : badT k (s.data.toList.drop k) = some k := by
  refine badT_drop_bad k k _ (by simpa using h) ?_
  rw [get_list s k h]; simp [tokB, hs, h1]
theorem tok_end (s : ByteArray) (k : Nat) (h : ¬ k < s.size) : badT k (s.data.toList.drop k) = none := by
  rw [List.drop_eq_nil_of_le (by rw [len_list]; omega)]; rfl

set_option maxHeartbeats 400000 in
theorem hubTopic_any (s : ByteArray) (w : World) (hs : s.size ≤ maxLen) :
    Calls Tryz.prog 23 #[.string s] w fun e w' => e = .returned (.tuple #[.int .i64 (topicR s.data.toList).1, .int .i64 (topicR s.data.toList).2]) ∧ w' = w := by
  unfold maxLen at hs
  by_cases h24 : 24 < (s.size : Int)
  · go_enter Tryz.func23, Tryz.ntmps23
    go_wp2
    go_ret2
    exact ⟨ret_ints (topicR_long s h24), rfl⟩
  by_cases h0 : s.size = 0
  · have hb : ((s.size : Int) == 0) = true := by simp [h0]
    go_enter Tryz.func23, Tryz.ntmps23
    go_wp2
    go_ret2
    exact ⟨ret_ints (topicR_empty s h0), rfl⟩
  have hb : ((s.size : Int) == 0) = false := by simp [h0]
  have H0 := hide h0
  clear h0
  go_enter Tryz.func23, Tryz.ntmps23
  go_wp2
  go_loop [4] (fun i => ∃ k : Nat, k ≤ s.size ∧ i = .int .i64 k ∧ Hid (badT 0 s.data.toList = badT k (s.data.toList.drop k))) (fun i => s.size - (intOf i).toNat)
  case atStart => exact ⟨0, Nat.zero_le _, rfl, hide (by simp)⟩
  case round =>
    obtain ⟨k, hk, rfl, HB⟩ := hrel
    by_cases hlt : k < s.size
    · by_cases hsl : (s[k].toNat : Int) = 47
      · have HS := hide hsl
        have hsb : ((s[k].toNat : Int) != 47) = false := by simp [hsl]
        clear hsl
        go_wp2
        go_round
        case rel => exact ⟨k + 1, by omega, by go_num, hide ((unhide HB).trans (tok_slash s k hlt (unhide HS)))⟩
        case measure => simp [intOf]; omega
      · have hsb : ((s[k].toNat : Int) != 47) = true := by simp [hsl]
        have HS := hide hsl
        clear hsl
        cases hsg : signB (s[k].toNat : Int)
        · go_wp2_with (go_at_call 57; refine (hubSign_any _ _).mono ?_; rintro e w' ⟨rfl, rfl⟩)
          go_ret2
          exact ⟨ret_ints (topicR_some s k (by omega) (unhide H0) ((unhide HB).trans (tok_bad s k hlt (unhide HS) hsg))), rfl⟩
        · go_wp2_with (go_at_call 57; refine (hubSign_any _ _).mono ?_; rintro e w' ⟨rfl, rfl⟩)
          go_round
          case rel => exact ⟨k + 1, by omega, by go_num, hide ((unhide HB).trans (tok_sign s k hlt hsg))⟩
          case measure => simp [intOf]; omega
    · go_wp2
      go_ret2
      exact ⟨ret_ints (topicR_none s (by omega) (unhide H0) ((unhide HB).trans (tok_end s k hlt))), rfl⟩

theorem empty_iff (s : ByteArray) : s.toList.isEmpty = decide (s.size = 0) := by
  rw [Lib.toList_data, Lib.size_eq, Bool.eq_iff_iff, List.isEmpty_iff, decide_eq_true_eq, List.length_eq_zero_iff]
set_option maxHeartbeats 400000 in
theorem refTopic_any (s : ByteArray) (w : World) (hs : s.size ≤ maxLen) :
    Calls Tryz.prog 27 #[.string s] w fun e w' => e = .returned (.tuple #[.int .i64 (topicR s.data.toList).1, .int .i64 (topicR s.data.toList).2]) ∧ w' = w := by
  unfold maxLen at hs
  by_cases h24 : 24 < (s.size : Int)
  · go_enter Tryz.func27, Tryz.ntmps27
    go_wp2
    go_ret2
    exact ⟨ret_ints (topicR_long s h24), rfl⟩
  by_cases h0 : s.size = 0
  · have hb : s.toList.isEmpty = true := by rw [empty_iff]; simp [h0]
    go_enter Tryz.func27, Tryz.ntmps27
    go_wp2
    go_ret2
    exact ⟨ret_ints (topicR_empty s h0), rfl⟩
  have hb : s.toList.isEmpty = false := by rw [empty_iff]; simp [h0]
  have H0 := hide h0
  clear h0
  go_enter Tryz.func27, Tryz.ntmps27
  go_wp2
  go_loop [4, 5] (fun i ok => ∃ k : Nat, k ≤ s.size ∧ i = .int .i64 k ∧ Hid (badT 0 s.data.toList = badT k (s.data.toList.drop k))) (fun i ok => s.size - (intOf i).toNat)
  case atStart => exact ⟨0, Nat.zero_le _, rfl, hide (by simp)⟩
  case round =>
    obtain ⟨k, hk, rfl, HB⟩ := hrel
    by_cases hlt : k < s.size
    · cases hsg : signB (s[k].toNat : Int)
      · by_cases hsl : (s[k].toNat : Int) = 47
        · have hsb : ((s[k].toNat : Int) != 47) = false := by simp [hsl]
          have HS := hide hsl
          clear hsl
          go_wp2_with (go_at_call 61; refine (refSign_any _ _).mono ?_; rintro e w' ⟨rfl, rfl⟩)
          go_round
          case rel => exact ⟨k + 1, by omega, by go_num, hide ((unhide HB).trans (tok_slash s k hlt (unhide HS)))⟩
          case measure => simp [intOf]; omega
        · have hsb : ((s[k].toNat : Int) != 47) = true := by simp [hsl]
          have HS := hide hsl
          clear hsl
          go_wp2_with (go_at_call 61; refine (refSign_any _ _).mono ?_; rintro e w' ⟨rfl, rfl⟩)
          go_ret2
          exact ⟨ret_ints (topicR_some s k (by omega) (unhide H0) ((unhide HB).trans (tok_bad s k hlt (unhide HS) hsg))), rfl⟩
      · go_wp2_with (go_at_call 61; refine (refSign_any _ _).mono ?_; rintro e w' ⟨rfl, rfl⟩)
        go_round
        case rel => exact ⟨k + 1, by omega, by go_num, hide ((unhide HB).trans (tok_sign s k hlt hsg))⟩
        case measure => simp [intOf]; omega
    · go_wp2
      go_ret2
      exact ⟨ret_ints (topicR_none s (by omega) (unhide H0) ((unhide HB).trans (tok_end s k hlt))), rfl⟩
end Go.Proofs.YtchhmojnoiephabGreatDoor
