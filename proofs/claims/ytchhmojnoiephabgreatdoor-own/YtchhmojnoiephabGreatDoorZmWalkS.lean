import Derived.Test.YtchhmojnoiephabGreatDoorWalkD
import Derived.Test.YtchhmojnoiephabGreatDoorFilR
import Derived.Test.YtchhmojnoiephabGreatDoorMatR
import Derived.Test.YtchhmojnoiephabGreatDoorWalkK
import Derived.Test.YtchhmojnoiephabGreatDoorWalkB
import Derived.Test.YtchhmojnoiephabGreatDoorZmPureI
import Derived.Test.YtchhmojnoiephabGreatDoorWalkL
import Derived.Test.YtchhmojnoiephabGreatDoorFrA
namespace Go.Proofs.YtchhmojnoiephabGreatDoor
open Go.ChangeShapes Go.WideShapes Go.ChangeAt Go.RowKit
set_option linter.unusedVariables false

theorem ret_match {a : Bool} {b c : Int} {r : Bool × Int × Int} (h : r = (a, b, c)) : Ending.returned (.tuple #[.bool a, .int .i64 b, .int .i64 c]) = .returned (.tuple #[.bool r.1, .int .i64 r.2.1, .int .i64 r.2.2]) := by rw [h]

theorem matchR_long (f t : ByteArray) (h : 24 < (f.size : Int) ∨ 24 < (t.size : Int)) : matchR f.data.toList t.data.toList = (false, 1, 0) := by
  unfold matchR; rw [if_pos (by rw [len_list, len_list]; omega)]
theorem matchR_filter (f t : ByteArray) (h : f.size ≤ 24) (h' : t.size ≤ 24) (hf : ¬ (filterR f.data.toList).1 = 0) : matchR f.data.toList t.data.toList = (false, (filterR f.data.toList).1, (filterR f.data.toList).2) := by
  unfold matchR; rw [if_neg (by rw [len_list, len_list]; omega), if_pos hf]
theorem matchR_topic (f t : ByteArray) (h : f.size ≤ 24) (h' : t.size ≤ 24) (hf : (filterR f.data.toList).1 = 0) (ht : ¬ (topicR t.data.toList).1 = 0) : matchR f.data.toList t.data.toList = (false, (topicR t.data.toList).1, (topicR t.data.toList).2) := by
  unfold matchR; rw [if_neg (by rw [len_list, len_list]; omega), if_neg (by simp [hf]), if_pos ht]
theorem matchR_good (f t : ByteArray) (h : f.size ≤ 24) (h' : t.size ≤ 24) (hf : (filterR f.data.toList).1 = 0) (ht : (topicR t.data.toList).1 = 0) : matchR f.data.toList t.data.toList = (matchB f.data.toList t.data.toList, 0, 0) := by
  unfold matchR; rw [if_neg (by rw [len_list, len_list]; omega), if_neg (by simp [hf]), if_neg (by simp [ht])]

set_option maxHeartbeats 1000000 in
theorem hubMatch_any (f t : ByteArray) (w : World) (hf : f.size ≤ maxLen) (ht : t.size ≤ maxLen) :
    Calls Tryz.prog 94 #[.string f, .string t] w fun e w' => e = .returned (.tuple #[.bool (matchR f.data.toList t.data.toList).1, .int .i64 (matchR f.data.toList t.data.toList).2.1, .int .i64 (matchR f.data.toList t.data.toList).2.2]) ∧ w' = w := by
  have hf' := hf
  have ht' := ht
  unfold maxLen at hf ht
  by_cases h1 : 24 < (f.size : Int)
  · go_enter Tryz.func94, Tryz.ntmps94
    go_wp2
    go_ret3
    exact ⟨ret_match (matchR_long f t (Or.inl h1)), rfl⟩
  by_cases h2 : 24 < (t.size : Int)
  · go_enter Tryz.func94, Tryz.ntmps94
    go_wp2
    go_ret3
    exact ⟨ret_match (matchR_long f t (Or.inr h2)), rfl⟩
  by_cases h3 : (filterR f.data.toList).1 = 0
  · have H3 := hide h3
    have b3 : ((filterR f.data.toList).1 != 0) = false := by simp [h3]
    clear h3
    by_cases h4 : (topicR t.data.toList).1 = 0
    · have H4 := hide h4
      have b4 : ((topicR t.data.toList).1 != 0) = false := by simp [h4]
      clear h4
      go_enter Tryz.func94, Tryz.ntmps94
      go_wp2_with (first | (go_at_call 92; refine (hubFilter_any _ _ hf').mono ?_; rintro e w' ⟨rfl, rfl⟩) | (go_at_call 23; refine (hubTopic_any _ _ ht').mono ?_; rintro e w' ⟨rfl, rfl⟩) | (go_at_call 88; refine (matches_any _ _ _ (by omega) (by omega)).mono ?_; rintro e w' ⟨rfl, rfl⟩))
      go_ret3
      exact ⟨ret_match (matchR_good f t (by omega) (by omega) (unhide H3) (unhide H4)), rfl⟩
    · have H4 := hide h4
      have b4 : ((topicR t.data.toList).1 != 0) = true := by simp [h4]
      clear h4
      go_enter Tryz.func94, Tryz.ntmps94
      go_wp2_with (first | (go_at_call 92; refine (hubFilter_any _ _ hf').mono ?_; rintro e w' ⟨rfl, rfl⟩) | (go_at_call 23; refine (hubTopic_any _ _ ht').mono ?_; rintro e w' ⟨rfl, rfl⟩) | (go_at_call 88; refine (matches_any _ _ _ (by omega) (by omega)).mono ?_; rintro e w' ⟨rfl, rfl⟩))
      go_ret3
      exact ⟨ret_match (matchR_topic f t (by omega) (by omega) (unhide H3) (unhide H4)), rfl⟩
  · have H3 := hide h3
    have b3 : ((filterR f.data.toList).1 != 0) = true := by simp [h3]
    clear h3
    go_enter Tryz.func94, Tryz.ntmps94
    go_wp2_with (go_at_call 92; refine (hubFilter_any _ _ hf').mono ?_; rintro e w' ⟨rfl, rfl⟩)
    go_ret3
    exact ⟨ret_match (matchR_filter f t (by omega) (by omega) (unhide H3)), rfl⟩

end Go.Proofs.YtchhmojnoiephabGreatDoor

namespace Go.Proofs.YtchhmojnoiephabGreatDoor
open Go.ChangeShapes Go.WideShapes Go.ChangeAt Go.RowKit
set_option linter.unusedVariables false

set_option maxHeartbeats 400000 in
theorem filters_walk (a0 : ByteArray) (w0 : a0.size ≤ maxLen) (w : World) :
    Calls Tryz.prog 53 #[.string a0] w fun e w' => e = .returned (.bool true) ∧ Grown w w' := by
  go_enter Tryz.func53, Tryz.ntmps53
  go_wp2_with (first | (go_at_call 92; refine (hubFilter_any _ _ w0).mono ?_; rintro e w' ⟨rfl, rfl⟩) | (go_at_call 93; refine (refFilter_any _ _ w0).mono ?_; rintro e w' ⟨rfl, rfl⟩) | (go_at_call 34; refine (num_any _ _).mono ?_; rintro e w' ⟨rfl, rfl⟩))
  go_ret
  exact ⟨by simp, Grown.refl _⟩
end Go.Proofs.YtchhmojnoiephabGreatDoor

namespace Go.Proofs.YtchhmojnoiephabGreatDoor
open Go.ChangeShapes Go.WideShapes Go.ChangeAt Go.RowKit
set_option linter.unusedVariables false

set_option maxHeartbeats 1000000 in
theorem refMatch_any (f t : ByteArray) (w : World) (hf : f.size ≤ maxLen) (ht : t.size ≤ maxLen) :
    Calls Tryz.prog 95 #[.string f, .string t] w fun e w' => e = .returned (.tuple #[.bool (matchR f.data.toList t.data.toList).1, .int .i64 (matchR f.data.toList t.data.toList).2.1, .int .i64 (matchR f.data.toList t.data.toList).2.2]) ∧ Below w.heap.size w w' := by
  have hf' := hf
  have ht' := ht
  unfold maxLen at hf ht
  by_cases h1 : 24 < (f.size : Int)
  · go_enter Tryz.func95, Tryz.ntmps95
    go_wp2
    go_ret3
    exact ⟨ret_match (matchR_long f t (Or.inl h1)), Below.refl _ _⟩
  by_cases h2 : 24 < (t.size : Int)
  · go_enter Tryz.func95, Tryz.ntmps95
    go_wp2
    go_ret3
    exact ⟨ret_match (matchR_long f t (Or.inr h2)), Below.refl _ _⟩
  by_cases h3 : (filterR f.data.toList).1 = 0
  · have H3 := hide h3
    have b3 : ((filterR f.data.toList).1 != 0) = false := by simp [h3]
    clear h3
    by_cases h4 : (topicR t.data.toList).1 = 0
    · have H4 := hide h4
      have b4 : ((topicR t.data.toList).1 != 0) = false := by simp [h4]
      clear h4
      go_enter Tryz.func95, Tryz.ntmps95
      go_wp2_with (first | (go_at_call 93; refine (refFilter_any _ _ hf').mono ?_; rintro e w' ⟨rfl, rfl⟩) | (go_at_call 27; refine (refTopic_any _ _ ht').mono ?_; rintro e w' ⟨rfl, rfl⟩) | (go_at_call 64; refine (refMatches_any _ _ _ (by omega) (by omega) (filterR_pos _ (unhide H3)) (topicR_pos _ (unhide H4))).mono ?_; rintro e w' ⟨rfl, hb⟩))
      go_ret3
      exact ⟨ret_match (matchR_good f t (by omega) (by omega) (unhide H3) (unhide H4)), by assumption⟩
    · have H4 := hide h4
      have b4 : ((topicR t.data.toList).1 != 0) = true := by simp [h4]
      clear h4
      go_enter Tryz.func95, Tryz.ntmps95
      go_wp2_with (first | (go_at_call 93; refine (refFilter_any _ _ hf').mono ?_; rintro e w' ⟨rfl, rfl⟩) | (go_at_call 27; refine (refTopic_any _ _ ht').mono ?_; rintro e w' ⟨rfl, rfl⟩))
      go_ret3
      exact ⟨ret_match (matchR_topic f t (by omega) (by omega) (unhide H3) (unhide H4)), Below.refl _ _⟩
  · have H3 := hide h3
    have b3 : ((filterR f.data.toList).1 != 0) = true := by simp [h3]
    clear h3
    go_enter Tryz.func95, Tryz.ntmps95
    go_wp2_with (go_at_call 93; refine (refFilter_any _ _ hf').mono ?_; rintro e w' ⟨rfl, rfl⟩)
    go_ret3
    exact ⟨ret_match (matchR_filter f t (by omega) (by omega) (unhide H3)), Below.refl _ _⟩

end Go.Proofs.YtchhmojnoiephabGreatDoor

namespace Go.Proofs.YtchhmojnoiephabGreatDoor
open Go.ChangeShapes Go.WideShapes Go.ChangeAt Go.RowKit

set_option maxHeartbeats 400000 in
theorem matching_walk (a0 : ByteArray) (a1 : ByteArray) (w0 : a0.size ≤ maxLen) (w1 : a1.size ≤ maxLen) (w : World) :
    Calls Tryz.prog 54 #[.string a0, .string a1] w fun e w' => e = .returned (.bool true) ∧ Below w.heap.size w w' := by
  go_enter Tryz.func54, Tryz.ntmps54
  go_wp2_with (first | (go_at_call 94; refine (hubMatch_any _ _ _ w0 w1).mono ?_; rintro e w' ⟨rfl, rfl⟩) | (go_at_call 95; refine (refMatch_any _ _ _ w0 w1).mono ?_; rintro e w' ⟨rfl, hb⟩) | (go_at_call 34; refine (num_any _ _).mono ?_; rintro e w' ⟨rfl, rfl⟩))
  go_ret
  exact ⟨by simp, by assumption⟩
end Go.Proofs.YtchhmojnoiephabGreatDoor

/- The program's own reading of code: the pieces, the letters, the signs, a number, whether levels rise. -/
namespace Go.Proofs.YtchhmojnoiephabGreatDoor
open Go.ChangeShapes Go.WideShapes Go.ChangeAt Go.RowKit
set_option linter.unusedVariables false

set_option maxHeartbeats 1000000 in
theorem split_any (q : Nat) (hq : q < 256) (s : ByteArray) (w : World) (hs : s.size ≤ 1000000) :
    Calls Tryz.prog 48 #[.string s, .int .u8 (q : Int)] w fun e w' => ∃ v, e = .returned v ∧ w'.ownsRow w.heap.size 9 1 v (splitB (q : Int) s.data.toList).length ((splitB (q : Int) s.data.toList).map strV) ∧ Below w.heap.size w w' := by
  obtain ⟨i0, hi, hz0, hz1, hz2⟩ := info_parts info_string
  go_enter Tryz.func48, Tryz.ntmps48
  go_wp2
  go_loopw [5, 6, 7] (fun v fr i wr => ∃ (k a : Nat) (G : List (List UInt8)), k ≤ s.size ∧ a ≤ k ∧ i = .int .i64 k ∧ fr = .int .i64 a ∧ G.length ≤ k ∧ wr.ownsRow w.heap.size 9 1 v G.length (G.map strV) ∧ Hid (splitB (q : Int) s.data.toList = G ++ splitB (q : Int) (s.data.toList.drop a)) ∧ Hid (a + runB (q : Int) (s.data.toList.drop a) = k + runB (q : Int) (s.data.toList.drop k)) ∧ Below w.heap.size w wr)
    (fun _ _ i _ => s.size - (intOf i).toNat)
  case atStart => exact ⟨0, 0, [], Nat.zero_le _, Nat.le_refl _, rfl, rfl, Nat.le_refl _, World.ownsRow_nil _ _ _ _, hide (by simp), hide rfl, Below.refl _ _⟩
  case round =>
    obtain ⟨k, a, G, hk, ha, rfl, rfl, hG, hown, HL, HR, hb⟩ := hrel
    have hB := hb.size
    by_cases hlt : k < s.size
    · by_cases hsl : (s[k].toNat : Int) = (q : Int)
      · have hsb : ((s[k].toNat : Int) == (q : Int)) = true := by rw [hsl]; simp
        have HC : Hid (splitB (q : Int) (s.data.toList.drop a) = (s.data.toList.drop a).take (k - a) :: splitB (q : Int) (s.data.toList.drop (k + 1))) :=
          splitB_cut (q : Int) s.data.toList a k ha (by rw [len_list]; exact hlt) (unhide HR) (by rw [get_list s k hlt]; exact hsl)
        clear hsl
        go_wp2_with (at_builtin; refine wpList_append_own _ rfl _ _ 107 rfl w.heap.size 9 i0 (.string ByteArray.empty) 1 16 Tryz.underlying107 hi hz0 hz1 hz2 rfl (by decide) _ _ _ rfl (hown.alloc _) ⟨wr.heap.size, 0, none⟩ 1 1 [.string (s.extract a k)] rfl rfl ?c1 ?c2 ?c3 ?c4 ?c5 ?_)
        case c1 =>
          intro j u hj
          match j, hj with
          | 0, hj => simp at hj; subst hj; simp [Addr.add]
        case c2 => intro u hu; simp at hu; subst hu; rfl
        case c3 => unfold maxLen; omega
        case c4 => omega
        case c5 => simp; omega
        intro v' w1 hown' hgrow _
        have hb1 := below_push hb hB hown hgrow
        have hown1 := own_push (strV_cut s a k) hown'
        have hB1 := hb1.size
        clear hown' hgrow hown hb
        go_wp2
        go_roundw
        case rel => exact ⟨k + 1, k + 1, G ++ [(s.data.toList.drop a).take (k - a)], by omega, by omega, by go_num, by go_num, by simp; omega, hown1, hide (by rw [unhide HL, unhide HC]; simp), hide rfl, hb1⟩
        case measure => simp [intOf]; omega
      · have hsb : ((s[k].toNat : Int) == (q : Int)) = false := by rw [beq_eq_false_iff_ne]; exact hsl
        have HC := hide (runB_other (q : Int) s.data.toList k (by rw [len_list]; exact hlt) (by rw [get_list s k hlt]; exact hsl))
        clear hsl
        go_wp2
        go_roundw
        case rel => exact ⟨k + 1, a, G, by omega, by omega, by go_num, rfl, by omega, hown, HL, hide (by rw [unhide HR, unhide HC]; omega), hb⟩
        case measure => simp [intOf]; omega
    · have HC : Hid (splitB (q : Int) s.data.toList = G ++ [(s.data.toList.drop a).take (s.size - a)]) := by
        have := splitB_last (q : Int) s.data.toList a k ha (by rw [len_list]; omega) (unhide HR)
        rw [unhide HL, this]
        have : k = s.size := by omega
        rw [this]; rfl
      go_wp2_with (at_builtin; refine wpList_append_own _ rfl _ _ 107 rfl w.heap.size 9 i0 (.string ByteArray.empty) 1 16 Tryz.underlying107 hi hz0 hz1 hz2 rfl (by decide) _ _ _ rfl (hown.alloc _) ⟨wr.heap.size, 0, none⟩ 1 1 [.string (s.extract a s.size)] rfl rfl ?d1 ?d2 ?d3 ?d4 ?d5 ?_)
      case d1 =>
        intro j u hj
        match j, hj with
        | 0, hj => simp at hj; subst hj; simp [Addr.add]
      case d2 => intro u hu; simp at hu; subst hu; rfl
      case d3 => unfold maxLen; omega
      case d4 => omega
      case d5 => simp; omega
      intro v' w1 hown' hgrow _
      have hb1 := below_push hb hB hown hgrow
      have hown1 := own_push (strV_cut s a s.size) hown'
      clear hown' hgrow hown hb
      go_wp2
      go_ret
      exact ⟨v', rfl, by rw [unhide HC]; exact hown1, hb1⟩

theorem anE_on (s : ByteArray) (p : Int) (k : Nat) (h : k < s.size) (hc : p < (s[k].toNat : Int) ∧ (s[k].toNat : Int) ≤ 80) : ansE p (s.data.toList.drop k) = ansE (s[k].toNat : Int) (s.data.toList.drop (k + 1)) + 1 := by
  have := ansE_on p k s.data.toList (by rw [len_list]; exact h) (by rw [get_list s k h]; exact hc)
  rw [get_list s k h] at this; exact this
theorem anE_off (s : ByteArray) (p : Int) (k : Nat) (h : k < s.size) (hc : ¬ (p < (s[k].toNat : Int) ∧ (s[k].toNat : Int) ≤ 80)) : ansE p (s.data.toList.drop k) = 0 :=
  ansE_off p k _ (by rw [len_list]; exact h) (by rw [get_list s k h]; exact hc)
theorem anE_end (s : ByteArray) (p : Int) (k : Nat) (h : ¬ k < s.size) : ansE p (s.data.toList.drop k) = 0 := ansE_end p k _ (by rw [len_list]; exact h)

set_option maxHeartbeats 1000000 in
theorem answerEnd_any (s : ByteArray) (w : World) (hs : s.size ≤ 1000000) :
    Calls Tryz.prog 112 #[.string s] w fun e w' => e = .returned (.int .i64 ((ansE 64 s.data.toList : Nat) : Int)) ∧ w' = w := by
  go_enter Tryz.func112, Tryz.ntmps112
  go_wp2
  go_loop [3, 4] (fun en bf => ∃ (k p : Nat), k ≤ s.size ∧ en = .int .i64 k ∧ bf = .int .u8 (p : Int) ∧ p < 256 ∧ Hid (ansE 64 s.data.toList = k + ansE (p : Int) (s.data.toList.drop k))) (fun en _ => s.size - (intOf en).toNat)
  case atStart => exact ⟨0, 64, by omega, rfl, rfl, by omega, hide (by simp)⟩
  case round =>
    obtain ⟨k, p, hk, rfl, rfl, hp, HE⟩ := hrel
    by_cases hlt : k < s.size
    · by_cases h1 : (p : Int) < (s[k].toNat : Int)
      · by_cases h2 : (s[k].toNat : Int) ≤ 80
        · have HZ := hide (anE_on s (p : Int) k hlt ⟨h1, h2⟩)
          have h256 : s[k].toNat < 256 := by omega
          go_wp2
          go_round
          case rel => exact ⟨k + 1, s[k].toNat, by omega, by go_num, rfl, h256, hide (by rw [unhide HE, unhide HZ]; omega)⟩
          case measure => simp [intOf]; omega
        · have HZ := hide (anE_off s (p : Int) k hlt (by omega))
          have h3 : 80 < (s[k].toNat : Int) := by omega
          go_wp2
          go_ret
          exact ⟨ret_int (by rw [unhide HE, unhide HZ]; rfl), rfl⟩
      · have HZ := hide (anE_off s (p : Int) k hlt (by omega))
        have h3 : (s[k].toNat : Int) ≤ (p : Int) := by omega
        go_wp2
        go_ret
        exact ⟨ret_int (by rw [unhide HE, unhide HZ]; rfl), rfl⟩
    · have HZ := hide (anE_end s (p : Int) k hlt)
      go_wp2
      go_ret
      exact ⟨ret_int (by rw [unhide HE, unhide HZ]; rfl), rfl⟩

set_option maxHeartbeats 1000000 in
theorem signsEnd_any (s : ByteArray) (st : Nat) (w : World) (hs : s.size ≤ 1000000) (hst : st ≤ s.size) :
    Calls Tryz.prog 113 #[.string s, .int .i64 (st : Int)] w fun e w' => e = .returned (.int .i64 ((st + signLen (s.data.toList.drop st) : Nat) : Int)) ∧ w' = w := by
  go_enter Tryz.func113, Tryz.ntmps113
  go_wp2
  go_loop [5] (fun en => ∃ k : Nat, k ≤ s.size ∧ en = .int .i64 k ∧ Hid (st + signLen (s.data.toList.drop st) = k + signLen (s.data.toList.drop k))) (fun en => s.size - (intOf en).toNat)
  case atStart => exact ⟨st, hst, rfl, hide rfl⟩
  case round =>
    obtain ⟨k, hk, rfl, HE⟩ := hrel
    by_cases hlt : k < s.size
    · cases hsg : signB (s[k].toNat : Int)
      · have HZ := hide (sgn_no s k hlt hsg)
        go_wp2_with (go_at_call 57; refine (hubSign_any _ _).mono ?_; rintro e w' ⟨rfl, rfl⟩)
        go_ret
        exact ⟨ret_int (by have h1 := unhide HE; have h2 := unhide HZ; omega), rfl⟩
      · have HZ := hide (sgn_on s k hlt hsg)
        go_wp2_with (go_at_call 57; refine (hubSign_any _ _).mono ?_; rintro e w' ⟨rfl, rfl⟩)
        go_round
        case rel => exact ⟨k + 1, by omega, by go_num, hide (by rw [unhide HE, unhide HZ]; omega)⟩
        case measure => simp [intOf]; omega
    · have HZ := hide (sgn_end s k hlt)
      go_wp2
      go_ret
      exact ⟨ret_int (by have h1 := unhide HE; have h2 := unhide HZ; omega), rfl⟩

theorem numB_at (s : ByteArray) (k : Nat) (m : Int) (h : k < s.size) (hm : (s[k].toNat : Int) = m) : numB (s.data.toList.drop k) m = dig3 (s.data.toList.drop (k + 1)) := by
  unfold numB; rw [if_pos (by rw [head_at s k h]; exact hm), List.tail_drop]
theorem numB_no (s : ByteArray) (k : Nat) (m : Int) (h : k < s.size) (hm : ¬ (s[k].toNat : Int) = m) : numB (s.data.toList.drop k) m = -1 := by
  unfold numB; rw [if_neg (by rw [head_at s k h]; exact hm)]
theorem numB_short (s : ByteArray) (k : Nat) (m : Int) (h : s.size < k + 4) : numB (s.data.toList.drop k) m = -1 := by
  unfold numB
  split
  · rw [List.tail_drop]
    refine Classical.byContradiction fun hn => ?_
    have h0 : 0 ≤ dig3 (s.data.toList.drop (k + 1)) := by
      refine Classical.byContradiction fun h0 => hn ?_
      unfold dig3 at h0 ⊢
      generalize s.data.toList.drop (k + 1) = l at h0 ⊢
      match l with
      | [] => rfl
      | [a] => simp only [digFrom] at h0 ⊢; split <;> rfl
      | [a, b] => simp only [digFrom] at h0 ⊢; split <;> (try split) <;> rfl
      | a :: b :: c :: r =>
        simp only [digFrom] at h0 ⊢
        split
        · rename_i h1; rw [if_pos h1] at h0
          split
          · rename_i h2; rw [if_pos h2] at h0
            split
            · rename_i h3; rw [if_pos h3] at h0; omega
            · rfl
          · rfl
        · rfl
    have := (dig3_len _ h0).1
    rw [List.length_drop, len_list] at this
    omega
  · rfl

set_option maxHeartbeats 2000000 in
theorem numberBehind_any (s : ByteArray) (p m : Nat) (w : World) (hs : s.size ≤ 1000000) (hp : p ≤ 2000000) (hm : m < 256) :
    Calls Tryz.prog 114 #[.string s, .int .i64 (p : Int), .int .u8 (m : Int)] w fun e w' => e = .returned (.int .i64 (numB (s.data.toList.drop p) (m : Int))) ∧ w' = w := by
  by_cases h4 : (s.size : Int) - (p : Int) < 4
  · have HZ := hide (numB_short s p (m : Int) (by omega))
    go_enter Tryz.func114, Tryz.ntmps114
    go_wp2
    go_ret
    exact ⟨ret_int (unhide HZ).symm, rfl⟩
  · have hlt : p < s.size := by omega
    by_cases hmk : (s[p].toNat : Int) = (m : Int)
    · have hmb : ((s[p].toNat : Int) != (m : Int)) = false := by rw [hmk]; simp
      have HM := hide (numB_at s p (m : Int) hlt hmk)
      clear hmk
      go_enter Tryz.func114, Tryz.ntmps114
      go_wp2
      go_loop [7, 8] (fun v k => ∃ (j : Nat) (x : Int), j ≤ 3 ∧ k = .int .i64 ((p : Int) + 1 + j) ∧ v = .int .i64 x ∧ 0 ≤ x ∧ (j = 0 → x = 0) ∧ (j ≤ 1 → x ≤ 9) ∧ (j ≤ 2 → x ≤ 99) ∧ x ≤ 999 ∧ Hid (dig3 (s.data.toList.drop (p + 1)) = digFrom x (3 - j) (s.data.toList.drop (p + 1 + j)))) (fun _ k => p + 4 - (intOf k).toNat)
      case atStart => exact ⟨0, 0, by omega, by go_num, rfl, by omega, by omega, by omega, by omega, by omega, hide rfl⟩
      case round =>
        obtain ⟨j, x, hj, rfl, rfl, h0, h1, h2, h3, h9, HB⟩ := hrel
        by_cases hj3 : j < 3
        · obtain ⟨mm, hmm⟩ : ∃ mm, 3 - j = mm + 1 := ⟨2 - j, by omega⟩
          rw [hmm] at HB
          have HMM := hide hmm
          clear hmm
          have hl2 : p + 1 + j < s.size := by omega
          by_cases hd : 48 ≤ (s[p + 1 + j].toNat : Int) ∧ (s[p + 1 + j].toNat : Int) ≤ 57
          · have HG := hide (dig_good s x mm (p + 1 + j) hl2 hd)
            obtain ⟨d1, d2⟩ := hd
            go_wp2
            go_round
            case rel => exact ⟨j + 1, 10 * x + ((s[p + 1 + j].toNat : Int) - 48), by omega, by go_num, by go_num, by omega, by omega, by omega, by omega, by omega, hide (by rw [unhide HB, unhide HG]; have := unhide HMM; rw [show 3 - (j + 1) = mm from by omega]; rfl)⟩
            case measure => simp [intOf]; omega
          · have HG := hide (dig_bad s x mm (p + 1 + j) hl2 hd)
            have hd' : (s[p + 1 + j].toNat : Int) < 48 ∨ (57 < (s[p + 1 + j].toNat : Int) ∧ 48 ≤ (s[p + 1 + j].toNat : Int)) := by omega
            clear hd
            rcases hd' with d1 | ⟨d1, d2⟩
            all_goals
              go_wp2
              go_ret
              exact ⟨ret_int (((unhide HM).trans (unhide HB)).trans (unhide HG)).symm, rfl⟩
        · have hm0 : 3 - j = 0 := by omega
          rw [hm0] at HB
          clear hm0
          go_wp2
          go_ret
          exact ⟨ret_int ((unhide HM).trans (unhide HB)).symm, rfl⟩
    · have hmb : ((s[p].toNat : Int) != (m : Int)) = true := by rw [bne_iff_ne]; exact hmk
      have HZ := hide (numB_no s p (m : Int) hlt hmk)
      clear hmk
      go_enter Tryz.func114, Tryz.ntmps114
      go_wp2
      go_ret
      exact ⟨ret_int (unhide HZ).symm, rfl⟩

end Go.Proofs.YtchhmojnoiephabGreatDoor

/- The program's own reading of a state. -/
namespace Go.Proofs.YtchhmojnoiephabGreatDoor
open Go.ChangeShapes Go.WideShapes Go.ChangeAt Go.RowKit
set_option linter.unusedVariables false

/-- the two variables of 'readState' in memory: the result, not yet written, and s -/
structure StH (w wr : World) (a : ByteArray) (v : Value) (st : Int) : Prop where
  res : wr.heap[w.heap.size]? = some (.cells #[.string ⟨#[]⟩, .slice none 0 0, .int .i64 0] 111 (0, 0))
  x : wr.heap[w.heap.size + 1]? = some (.cells #[.string a, v, .int .i64 st] 111 (0, 0))
  size : w.heap.size + 2 ≤ wr.heap.size
  below : Below w.heap.size w wr

theorem StH.start (w : World) : StH w ((w.alloc (.cells #[.string ⟨#[]⟩, .slice none 0 0, .int .i64 0] 111)).alloc (.cells #[.string ⟨#[]⟩, .slice none 0 0, .int .i64 (-1)] 111)) ⟨#[]⟩ (.slice none 0 0) (-1) := by
  refine ⟨?_, ?_, by simp, ((Below.refl _ w).alloc (Nat.le_refl _) _).alloc (by simp) _⟩
  · rw [Below.heap_alloc _ _ _ (by simp)]; exact (MapKept.heap_alloc w _).1
  · have := (MapKept.heap_alloc (w.alloc (.cells #[.string ⟨#[]⟩, .slice none 0 0, .int .i64 0] 111)) (.cells #[.string ⟨#[]⟩, .slice none 0 0, .int .i64 (-1)] 111)).1
    simpa using this

theorem StH.set {w wr : World} {a a' : ByteArray} {v v' : Value} {st st' : Int} (h : StH w wr a v st) (i : Nat) (u : Value) (he : (#[.string a, v, .int .i64 st] : Array Value).setIfInBounds i u = #[.string a', v', .int .i64 st']) :
    StH w (wr.setCell ⟨w.heap.size + 1, i, none⟩ u) a' v' st' := by
  refine ⟨?_, ?_, by simpa using h.size, h.below.setCell (by simp) u⟩
  · rw [Below.heap_setCell _ _ _ _ (by simp)]; exact h.res
  · rw [heap_setCell_same wr _ i _ _ u h.x, he]

theorem StH.on {w wr w1 : World} {a : ByteArray} {v : Value} {st : Int} (h : StH w wr a v st) (hb : Below wr.heap.size wr w1) : StH w w1 a v st := by
  have hsz := h.size
  exact ⟨by rw [hb.block _ (by omega)]; exact h.res, by rw [hb.block _ (by omega)]; exact h.x, Nat.le_trans hsz hb.size, h.below.trans (hb.mono (by omega))⟩

theorem StH.append {w wr w1 : World} {a : ByteArray} {v : Value} {st : Int} {e sz n : Nat} {xs : List Value} {o : Obj} (h : StH w wr a v st) (hown : wr.ownsRow (w.heap.size + 2) e sz v n xs) (hg : (wr.alloc o).grownBy w1 v.ownBlock) : StH w w1 a v st := by
  have hsz := h.size
  refine ⟨?_, ?_, ?_, (h.below.alloc (by omega) o).grown hg (by simp; omega) (fun k hk => by have := (hown.lt k hk).1; omega)⟩
  · rw [hg.block _ (by simp; omega) (own_ne hown _ (by omega)), Below.heap_alloc _ _ _ (by omega)]; exact h.res
  · rw [hg.block _ (by simp; omega) (own_ne hown _ (by omega)), Below.heap_alloc _ _ _ (by omega)]; exact h.x
  · have := hg.size; simp at this; omega

/-- what 'readState' answers: a state and true; or whatever, and false -/
def RdPost (w : World) (L : List UInt8) (e : Ending) (w' : World) : Prop :=
  ∃ (a : ByteArray) (av : Option Addr) (lv cv : Nat) (st : Int) (ok : Bool), e = .returned (.tuple #[.agg #[.string a, .slice av lv cv, .int .i64 st], .bool ok]) ∧ Below w.heap.size w w' ∧
    ((ok = false ∧ stateP 1000 L = none) ∨ (ok = true ∧ ∃ x, stateP 1000 L = some x ∧ a.data.toList = x.ans ∧ st = x.star ∧ w'.ownsRow w.heap.size 152 2 (.slice av lv cv) x.edges.length (edgeCells x.edges)))

theorem RdPost.no {w w' : World} {L : List UInt8} {a : ByteArray} {av : Option Addr} {lv cv : Nat} {st : Int} (hb : Below w.heap.size w w') (h : stateP 1000 L = none) :
    RdPost w L (.returned (.tuple #[.agg #[.string a, .slice av lv cv, .int .i64 st], .bool false])) w' := ⟨a, av, lv, cv, st, false, rfl, hb, Or.inl ⟨rfl, h⟩⟩

theorem StH.stored {w wr : World} {a : ByteArray} {v : Value} {st : Int} (h : StH w wr a v st) :
    (putSt w wr a v st).heap[w.heap.size]? = some (.cells #[.string a, v, .int .i64 st] 111 (0, 0)) ∧ Below w.heap.size w (putSt w wr a v st) ∧ ∀ k, k ≠ w.heap.size → (putSt w wr a v st).heap[k]? = wr.heap[k]? := by
  unfold putSt
  refine ⟨?_, ((h.below.setCell (Nat.le_refl _) _).setCell (Nat.le_refl _) _).setCell (Nat.le_refl _) _, fun k hk => ?_⟩
  · rw [heap_setCell_same _ _ 2 _ _ _ (heap_setCell_same _ _ 1 _ _ _ (heap_setCell_same _ _ 0 _ _ _ h.res))]; rfl
  · rw [Below.heap_setCell _ _ _ _ hk, Below.heap_setCell _ _ _ _ hk, Below.heap_setCell _ _ _ _ hk]

theorem own_putH {w wr : World} {e sz n : Nat} {v v0 : Value} {xs : List Value} {a : ByteArray} {st : Int} (hw : StH w wr a v0 st) (h : wr.ownsRow (w.heap.size + 2) e sz v n xs) : (putSt w wr a v0 st).ownsRow w.heap.size e sz v n xs := by
  obtain ⟨h1, ⟨rfl, h2⟩ | ⟨g, cap, cur, rfl, h2, h3, h4⟩⟩ := h
  · exact ⟨h1, Or.inl ⟨rfl, h2⟩⟩
  · exact ⟨h1, Or.inr ⟨g, cap, cur, rfl, by omega, by rw [hw.stored.2.2 g (by omega)]; exact h3, h4⟩⟩

theorem info_hedge : (Tryz.prog.info? 152).map (fun i => (i.zero, i.size, i.bytes)) = some (some (.agg #[.string ByteArray.empty, .int .i64 0]), 2, 24) := by kernel_rfl

theorem lev_less (a b : ByteArray) (x y : List UInt8) (ha : a.data.toList = x) (hb : b.data.toList = y) : Go.Op.bytesLess a.toList b.toList = Go.Op.bytesLess x y := by
  rw [Lib.toList_data, Lib.toList_data, ha, hb]

set_option maxHeartbeats 1000000 in
theorem isAbove_any (l : ByteArray) (v : Value) (G : List (List UInt8 × Int)) (B : Nat) (w : World) (hG : G.length ≤ 1000000) (hown : w.ownsRow B 152 2 v G.length (edgeCells G)) :
    Calls Tryz.prog 115 #[.string l, v] w fun e w' => e = .returned (.bool (risesB G l.data.toList)) ∧ Below w.heap.size w w' := by
  rcases List.eq_nil_or_concat G with rfl | ⟨G', e, rfl⟩
  · obtain ⟨av, lv, cv, rfl⟩ := own_slice hown
    have hlv : lv = 0 := by
      obtain ⟨_, ⟨h0, _⟩ | ⟨g', cap', cur, he, _⟩⟩ := hown
      · simp only [Value.slice.injEq] at h0; exact h0.2.1
      · simp only [Value.slice.injEq] at he; simpa using he.2.1
    subst hlv
    clear hown
    go_enter Tryz.func115, Tryz.ntmps115
    go_wp2_with fail
    go_ret
    exact ⟨rfl, Below.refl _ _⟩
  · rw [List.concat_eq_append] at *
    obtain ⟨g, cap, rfl, hcap, hcap2, le, hlast, hle⟩ := last_level hown
    have hrs := risesB_snoc G' e l.data.toList
    have hbl := lev_less le l e.1 l.data.toList hle rfl
    unfold maxLen at hcap2
    simp only [List.length_append, List.length_singleton] at hG
    have hwl := wrap_small (G'.length : Int) (by omega) (by omega)
    rw [← hbl] at hrs
    have HR := hide hrs
    clear hown hrs hle hbl
    go_enter Tryz.func115, Tryz.ntmps115
    go_wp2_with fail
    go_ret
    exact ⟨ret_bool (by rw [unhide HR]; first | rfl | simp), Below.refl _ _⟩


/-- the world behind 'e := edge{level: ..}' and 'e.to = ..' -/
theorem below_edge (wr : World) (c : Array Value) (t : TypeId) (u : Value) : Below wr.heap.size wr ((wr.alloc (.cells c t)).setCell ⟨wr.heap.size, 1, none⟩ u) :=
  ((Below.refl _ wr).alloc (Nat.le_refl _) _).setCell (by simp) u

theorem rd_ans (s : ByteArray) (h : ansN 0 s.data.toList = none ∧ 65 ≤ headI (s.data.toList.drop (ansE 64 s.data.toList)) ∧ headI (s.data.toList.drop (ansE 64 s.data.toList)) ≤ 80) :
    ∃ hk : ansE 64 s.data.toList < s.size, 65 ≤ (s[ansE 64 s.data.toList].toNat : Int) ∧ (s[ansE 64 s.data.toList].toNat : Int) ≤ 80 := by
  have hk : ansE 64 s.data.toList < s.size := by
    refine Nat.lt_of_not_le fun hn => ?_
    have := head_end s (ansE 64 s.data.toList) (by omega)
    omega
  refine ⟨hk, ?_⟩
  rw [head_at s _ hk] at h
  exact h.2

set_option maxHeartbeats 4000000 in
set_option maxRecDepth 1000000 in
/-- letters that do not rise -/
theorem readState_no (s : ByteArray) (w : World) (hs : s.size ≤ 1000000) (hn : ansN 0 s.data.toList = none ∧ 65 ≤ headI (s.data.toList.drop (ansE 64 s.data.toList)) ∧ headI (s.data.toList.drop (ansE 64 s.data.toList)) ≤ 80) :
    Calls Tryz.prog 90 #[.string s] w (RdPost w s.data.toList) := by
  obtain ⟨hk, hc1, hc2⟩ := rd_ans s hn
  have HN := hide (stP_ans 1000 _ hn.1)
  have HAE := hide (answerEnd_any s)
  have HNB := hide (numB_no s _ 42 hk (by omega))
  generalize ansE 64 s.data.toList = k at *
  have b44 : ((s[k].toNat : Int) == 44) = false := by simp; omega
  have hpe : ((k : Int) == (s.size : Int)) = false := by simp; omega
  have hst := StH.start w
  clear hn hc1 hc2
  go_enter Tryz.func90, Tryz.ntmps90
  go_wp2_with fail
  refine (unhide HAE _ hs).mono ?_
  rintro e w1 ⟨rfl, rfl⟩
  generalize hW : ((w.alloc (.cells #[.string ⟨#[]⟩, .slice none 0 0, .int .i64 0] 111)).alloc (.cells #[.string ⟨#[]⟩, .slice none 0 0, .int .i64 (-1)] 111)) = wr at *
  have f0 := free_block (i := 0) hst.x
  have c0 := cell_block (i := 0) hst.x rfl
  have HST := hide hst
  clear hst hW
  go_wp2_with fail
  go_loopg [5, 6, 7] 0 (fun g a _ _ wl => a = .int .i64 k ∧ StH w wl (s.extract 0 k) (.slice none 0 0) (-1))
  case atStart => exact ⟨rfl, (unhide HST).set 0 _ rfl⟩
  case round =>
    obtain ⟨rfl, hw⟩ := hrel
    clear f0 c0 HST
    have f0 := free_block (i := 0) hw.x
    have f1 := free_block (i := 1) hw.x
    have f2 := free_block (i := 2) hw.x
    have c0 := cell_block (i := 0) hw.x rfl
    have c1 := cell_block (i := 1) hw.x rfl
    have c2 := cell_block (i := 2) hw.x rfl
    have r0 := free_block (i := 0) hw.res
    have r1 := free_block (i := 1) hw.res
    have r2 := free_block (i := 2) hw.res
    have q0 := cell_block (i := 0) hw.res rfl
    have q1 := cell_block (i := 1) hw.res rfl
    have q2 := cell_block (i := 2) hw.res rfl
    have HW := hide hw
    clear hw
    go_wp2_with fail
    refine (numberBehind_any s k 42 _ hs (by omega) (by omega)).mono ?_
    rintro e w2 ⟨rfl, rfl⟩
    rw [show ((42 : Nat) : Int) = 42 from rfl, unhide HNB]
    go_wp2_with fail
    have hst := ((unhide HW).set 2 (.int .i64 (-1)) rfl).stored
    refine bodyPost_ret (v := .tuple #[.agg #[.string (s.extract 0 k), .slice none 0 0, .int .i64 (-1)], .bool false]) ?_ rfl (RdPost.no hst.2.1 (unhide HN))
    have g0 := cell_block (i := 0) hst.1 rfl
    have g1 := cell_block (i := 1) hst.1 rfl
    have g2 := cell_block (i := 2) hst.1 rfl
    unfold putSt at g0 g1 g2
    simp [results, Tryz.results90, go_sem, g0, g1, g2]


theorem numB_off (s : ByteArray) (k : Nat) (m : Int) (hm : 0 ≤ m) (h : ∀ hk : k < s.size, ¬ (s[k].toNat : Int) = m) : numB (s.data.toList.drop k) m = -1 := by
  by_cases hk : k < s.size
  · exact numB_no s k m hk (h hk)
  · unfold numB; rw [if_neg (by rw [head_end s k hk]; omega)]
theorem numB_low (l : List UInt8) (m : Int) : -1 ≤ numB l m ∧ numB l m ≤ 999 := by
  unfold numB
  split
  · by_cases h : 0 ≤ dig3 l.tail
    · have := dig3_len _ h; omega
    · refine ⟨?_, by omega⟩
      unfold dig3 at h ⊢
      generalize l.tail = r at h ⊢
      match r with
      | [] => simp [digFrom]
      | [a] => simp only [digFrom]; split <;> simp
      | [a, b] => simp only [digFrom]; split <;> (try split) <;> simp
      | a :: b :: c :: r =>
        simp only [digFrom] at h ⊢
        split
        · split
          · split
            · omega
            · omega
          · omega
        · omega
  · omega

/-- one edge, in the program's words -/
theorem edges_step (f : Nat) (G : List (List UInt8 × Int)) (s : ByteArray) (p m : Nat) (hp : p < s.size) (h44 : (s[p].toNat : Int) = 44) (hf : s.size ≤ p + f) (hm : signLen (s.data.toList.drop (p + 1)) = m) :
    ∃ f', f = f' + 1 ∧ edgesP 1000 f G (s.data.toList.drop p) = if numB (s.data.toList.drop (p + 1 + m)) 62 = -1 then none else if risesB G ((s.data.toList.drop (p + 1)).take m) = true then edgesP 1000 f' (G ++ [((s.data.toList.drop (p + 1)).take m, numB (s.data.toList.drop (p + 1 + m)) 62)]) (s.data.toList.drop (p + m + 5)) else none := by
  obtain ⟨f', hf', he⟩ := edgesP_step 1000 f G s.data.toList p m (by rw [head_at s p hp]; exact h44) (by rw [len_list]; exact hf) hm
  refine ⟨f', hf', he.trans ?_⟩
  have hlow := numB_low (s.data.toList.drop (p + 1 + m)) 62
  unfold numB at hlow ⊢
  rw [List.tail_drop] at hlow ⊢
  by_cases h62 : headI (s.data.toList.drop (p + 1 + m)) = 62
  · rw [if_pos h62] at hlow
    simp only [if_pos h62]
    generalize dig3 (s.data.toList.drop (p + 1 + m + 1)) = d at *
    by_cases hd : d = -1
    · rw [if_pos hd, if_neg (by omega)]
    · rw [if_neg hd]
      by_cases hr : risesB G ((s.data.toList.drop (p + 1)).take m) = true
      · rw [if_pos ⟨by omega, by omega, hr⟩, if_pos hr]
      · rw [if_neg (fun h => hr h.2.2), if_neg hr]
  · simp only [if_neg h62]; rfl

/-- behind the edges, in the program's words -/
theorem star_read (s : ByteArray) (p : Nat) (hp : p ≤ s.size) : starP 1000 (s.data.toList.drop p) =
    if (if numB (s.data.toList.drop p) 42 = -1 then p else p + 4) = s.size then some (numB (s.data.toList.drop p) 42) else none := by
  have hlow := numB_low (s.data.toList.drop p) 42
  unfold starP
  unfold numB at hlow ⊢
  rw [List.length_drop, len_list]
  by_cases h42 : headI (s.data.toList.drop p) = 42
  · rw [if_pos h42] at hlow
    simp only [if_pos h42]
    have hpl : p < s.size := by
      refine Nat.lt_of_not_le fun hn => ?_
      rw [head_end s p (by omega)] at h42; omega
    generalize dig3 (s.data.toList.drop p).tail = d at *
    by_cases hd : d = -1
    · rw [if_neg (by omega), if_pos hd, if_neg (by omega)]
    · by_cases h4 : s.size - p = 4
      · rw [if_pos ⟨by omega, by omega, h4⟩, if_neg hd, if_pos (by omega)]
      · rw [if_neg (fun h => h4 h.2.2), if_neg hd, if_neg (by omega)]
  · simp only [if_neg h42]
    simp only [if_true]
    by_cases h0 : s.size - p = 0
    · rw [if_pos h0, if_pos (by omega)]
    · rw [if_neg h0, if_neg (by omega)]

set_option maxHeartbeats 8000000 in
set_option maxRecDepth 1000000 in
/-- letters that rise -/
theorem readState_yes (s : ByteArray) (w : World) (hs : s.size ≤ 1000000) (hn : ansN 0 s.data.toList = some (ansE 64 s.data.toList)) :
    Calls Tryz.prog 90 #[.string s] w (RdPost w s.data.toList) := by
  obtain ⟨i0, hi, hz0, hz1, hz2⟩ := info_parts info_hedge
  have HAN := hide hn
  have HAE := hide (answerEnd_any s)
  have hk := ansE_le 64 s.data.toList
  rw [len_list] at hk
  clear hn
  generalize ansE 64 s.data.toList = k at *
  have hst := StH.start w
  go_enter Tryz.func90, Tryz.ntmps90
  go_wp2_with fail
  refine (unhide HAE _ hs).mono ?_
  rintro e w1 ⟨rfl, rfl⟩
  generalize hW : ((w.alloc (.cells #[.string ⟨#[]⟩, .slice none 0 0, .int .i64 0] 111)).alloc (.cells #[.string ⟨#[]⟩, .slice none 0 0, .int .i64 (-1)] 111)) = wr at *
  have f0 := free_block (i := 0) hst.x
  have c0 := cell_block (i := 0) hst.x rfl
  have HST := hide hst
  clear hst hW HAE
  go_wp2_with fail
  go_loopg [5, 6, 7] (s.size - k) (fun g i _ _ wl => ∃ (p f : Nat) (G : List (List UInt8 × Int)) (v : Value), p ≤ s.size ∧ g = s.size - p ∧ i = .int .i64 p ∧ StH w wl (s.extract 0 k) v (-1) ∧ wl.ownsRow (w.heap.size + 2) 152 2 v G.length (edgeCells G) ∧ s.size ≤ p + f ∧ G.length ≤ p ∧ Hid (edgesP 1000 s.size [] (s.data.toList.drop k) = edgesP 1000 f G (s.data.toList.drop p)))
  case atStart => exact ⟨k, s.size, [], .slice none 0 0, hk, rfl, rfl, (unhide HST).set 0 _ rfl, own_set (World.ownsRow_nil _ _ _ _), by omega, by simp, hide rfl⟩
  case round =>
    obtain ⟨p, f, G, v, hp, rfl, rfl, hw, hown, hf, hG, HE⟩ := hrel
    clear f0 c0 HST
    obtain ⟨av, lv, cv, rfl⟩ := own_slice hown
    have f0 := free_block (i := 0) hw.x
    have f1 := free_block (i := 1) hw.x
    have f2 := free_block (i := 2) hw.x
    have c0 := cell_block (i := 0) hw.x rfl
    have c1 := cell_block (i := 1) hw.x rfl
    have c2 := cell_block (i := 2) hw.x rfl
    have r0 := free_block (i := 0) hw.res
    have r1 := free_block (i := 1) hw.res
    have r2 := free_block (i := 2) hw.res
    have q0 := cell_block (i := 0) hw.res rfl
    have q1 := cell_block (i := 1) hw.res rfl
    have q2 := cell_block (i := 2) hw.res rfl
    have hwsz := hw.size
    have HW := hide hw
    have HO := hide hown
    clear hw hown
    by_cases h44 : ∃ hlt : p < s.size, (s[p].toNat : Int) = 44
    · obtain ⟨hlt, h44⟩ := h44
      have b44 : ((s[p].toNat : Int) == 44) = true := by simp [h44]
      obtain ⟨f', hf', hstep⟩ := edges_step f G s p _ hlt h44 hf rfl
      have HF' : Hid (s.size ≤ p + 1 + f') := by unfold Hid; omega
      have hml := sgn_le s (p + 1) (by omega)
      have HSE := hide (signsEnd_any s (p + 1))
      generalize signLen (s.data.toList.drop (p + 1)) = m at *
      have HS := hide hstep
      have hnl := numB_low (s.data.toList.drop (p + 1 + m)) 62
      have HSH := hide (numB_short s (p + 1 + m) 62)
      have HNB := hide (numberBehind_any s (p + 1 + m) 62)
      rw [show ((62 : Nat) : Int) = 62 from rfl] at HNB
      generalize numB (s.data.toList.drop (p + 1 + m)) 62 = d at *
      have HLV := hide (lev_strV s p m)
      clear hstep h44 hf' hf
      go_wp2_with fail
      refine (unhide HSE _ hs (by omega)).mono ?_
      rintro e w2 ⟨rfl, rfl⟩
      go_wp2_with fail
      refine (unhide HNB _ hs (by omega) (by omega)).mono ?_
      rintro e w3 ⟨rfl, rfl⟩
      have HBE := hide ((Below.refl w2.heap.size w2).alloc (Nat.le_refl _) (.cells #[.string (s.extract (p + 1) (p + 1 + m)), .int .i64 d] 152))
      have n1 : ¬ w2.heap.size = w.heap.size + 1 := by omega
      have n2 : ¬ w.heap.size + 1 = w2.heap.size := by omega
      have n3 : ¬ w2.heap.size = w.heap.size := by omega
      have n4 : ¬ w.heap.size = w2.heap.size := by omega
      have n5 : w.heap.size + 1 < w2.heap.size := by omega
      have n6 : w.heap.size < w2.heap.size := by omega
      by_cases hd : d = -1
      · have HF : Hid (edgesP 1000 s.size [] (s.data.toList.drop k) = none) := (unhide HE).trans ((unhide HS).trans (by rw [if_pos hd]))
        subst hd
        go_wp2_with fail
        have hst := (unhide HW).stored
        refine bodyPost_ret (v := .tuple #[.agg #[.string (s.extract 0 k), .slice av lv cv, .int .i64 (-1)], .bool false]) ?_ rfl (RdPost.no (hst.2.1.alloc hst.2.1.size _) (stP_edge 1000 _ s.size k (by rw [len_list]) (unhide HAN) (unhide HF)))
        have g0 := cell_block (i := 0) hst.1 rfl
        have g1 := cell_block (i := 1) hst.1 rfl
        have g2 := cell_block (i := 2) hst.1 rfl
        unfold putSt at g0 g1 g2
        simp [results, Tryz.results90, go_sem, g0, g1, g2, n6]
      · have bd : (d == -1) = false := by simpa using hd
        replace HS := hide ((unhide HS).trans (by rw [if_neg hd]))
        have hd0 : 0 ≤ d := by omega
        have hsz5 : p + 1 + m + 4 ≤ s.size := by
          refine Nat.le_of_not_lt fun hn => hd (unhide HSH (by omega))
        clear hd
        go_wp2_with fail
        refine (isAbove_any _ _ G (w.heap.size + 2) _ (by omega) (own_below (unhide HO) (by exact unhide HBE))).mono ?_
        rintro e w4 ⟨rfl, hb4⟩
        rw [lev_eq']
        have e0 : w4.cell? ⟨w2.heap.size, 0, none⟩ = some (.string (s.extract (p + 1) (p + 1 + m))) := (hb4.cell (p := ⟨w2.heap.size, 0, none⟩) (by simp)).trans (by simp)
        have e1 : w4.cell? ⟨w2.heap.size, 1, none⟩ = some (.int .i64 d) := (hb4.cell (p := ⟨w2.heap.size, 1, none⟩) (by simp)).trans (by simp)
        have hb4s := hb4.size
        have hw24 : w2.heap.size < w4.heap.size := by simp at hb4s; omega
        replace HW := hide ((unhide HW).on ((unhide HBE).trans (hb4.mono (by simp))))
        replace HO := hide (own_below (unhide HO) ((unhide HBE).trans (hb4.mono (by simp))))
        have hw4 := unhide HW
        clear hb4 hb4s HBE n1 n2 n3 n4 n5 n6 f0 f1 f2 c0 c1 c2 r0 r1 r2 q0 q1 q2
        have f0 := free_block (i := 0) hw4.x
        have f1 := free_block (i := 1) hw4.x
        have f2 := free_block (i := 2) hw4.x
        have c0 := cell_block (i := 0) hw4.x rfl
        have c1 := cell_block (i := 1) hw4.x rfl
        have c2 := cell_block (i := 2) hw4.x rfl
        have r0 := free_block (i := 0) hw4.res
        have r1 := free_block (i := 1) hw4.res
        have r2 := free_block (i := 2) hw4.res
        have q0 := cell_block (i := 0) hw4.res rfl
        have q1 := cell_block (i := 1) hw4.res rfl
        have q2 := cell_block (i := 2) hw4.res rfl
        clear hw4
        cases hrs : risesB G ((s.data.toList.drop (p + 1)).take m)
        · have HF : Hid (edgesP 1000 s.size [] (s.data.toList.drop k) = none) := (unhide HE).trans ((unhide HS).trans (by rw [if_neg (by rw [hrs]; simp)]))
          go_wp2_with fail
          have hst := (unhide HW).stored
          refine bodyPost_ret (v := .tuple #[.agg #[.string (s.extract 0 k), .slice av lv cv, .int .i64 (-1)], .bool false]) ?_ rfl (RdPost.no hst.2.1 (stP_edge 1000 _ s.size k (by rw [len_list]) (unhide HAN) (unhide HF)))
          have g0 := cell_block (i := 0) hst.1 rfl
          have g1 := cell_block (i := 1) hst.1 rfl
          have g2 := cell_block (i := 2) hst.1 rfl
          unfold putSt at g0 g1 g2
          simp [results, Tryz.results90, go_sem, g0, g1, g2]
        · replace HS := hide ((unhide HS).trans (by rw [if_pos hrs]))
          go_wp2_with (at_builtin; refine wpList_append_own _ rfl _ _ 109 rfl (w.heap.size + 2) 152 i0 (.agg #[.string ByteArray.empty, .int .i64 0]) 2 24 Tryz.underlying109 hi hz0 hz1 hz2 rfl (by decide) _ _ _ rfl ((unhide HO).alloc _) ⟨w4.heap.size, 0, none⟩ 1 1 [.string (s.extract (p + 1) (p + 1 + m)), .int .i64 d] rfl rfl ?c1 ?c2 ?c3 ?c4 ?c5 ?_)
          case c1 =>
            intro j u hj
            match j, hj with
            | 0, hj => simp at hj; subst hj; simp [Addr.add]
            | 1, hj => simp at hj; subst hj; simp [Addr.add]
          case c2 => intro u hu; simp at hu; rcases hu with rfl | rfl <;> rfl
          case c3 => unfold maxLen; omega
          case c4 => omega
          case c5 => have := (unhide HW).size; simp; omega
          intro v' w5 hown' hgrow _
          have hw5 := (unhide HW).append (unhide HO) hgrow
          have hown5 : w5.ownsRow (w.heap.size + 2) 152 2 v' (G ++ [((s.data.toList.drop (p + 1)).take m, d)]).length (edgeCells (G ++ [((s.data.toList.drop (p + 1)).take m, d)])) := by
            rw [edgeCells_snoc, ← unhide HLV, List.length_append]; exact hown'
          clear hown' hgrow HO f0 f1 f2 c0 c1 c2 r0 r1 r2 q0 q1 q2 e0 e1
          have f1 := free_block (i := 1) hw5.x
          have c1 := cell_block (i := 1) hw5.x rfl
          generalize hN1 : (G ++ [((s.data.toList.drop (p + 1)).take m, d)]).length = N1 at hown5
          have HN1 := hide hN1
          clear hN1
          obtain ⟨g1, cap1, rfl⟩ := own_form hown5 (by have := unhide HN1; rw [List.length_append, List.length_singleton] at this; omega)
          have HW5 := hide hw5
          have HO5 := hide hown5
          clear hw5 hown5 HW
          go_wp2_with fail
          go_roundg (s.size - (p + m + 5))
          case measure => omega
          case rel => exact ⟨p + m + 5, f', G ++ [((s.data.toList.drop (p + 1)).take m, d)], _, by omega, rfl, by go_num, (unhide HW5).set 1 _ rfl, own_set (by rw [unhide HN1]; exact unhide HO5), by have := unhide HF'; omega, by rw [List.length_append, List.length_singleton]; omega, hide ((unhide HE).trans (unhide HS))⟩
    · have HEN : Hid (edgesP 1000 s.size [] (s.data.toList.drop k) = some (G, s.data.toList.drop p)) := (unhide HE).trans (edgesP_stop 1000 f G s.data.toList p (fun hh => h44 (by
        have hlt : p < s.size := Nat.lt_of_not_le fun hn => by rw [head_end s p (by omega)] at hh; omega
        rw [head_at s p hlt] at hh; exact ⟨hlt, hh⟩)) (by rw [len_list]; exact hf))
      have hsr := star_read s p hp
      have hnl := numB_low (s.data.toList.drop p) 42
      have HNB := hide (numberBehind_any s p 42)
      rw [show ((42 : Nat) : Int) = 42 from rfl] at HNB
      generalize numB (s.data.toList.drop p) 42 = d at *
      have HSR := hide hsr
      have hwd := wrap_small ((p : Int) + 4) (by omega) (by omega)
      clear hsr hf
      by_cases hlt : p < s.size
      · have b44 : ((s[p].toNat : Int) == 44) = false := by simp; exact fun h => h44 ⟨hlt, by omega⟩
        clear h44
        by_cases hd : d = -1
        · have hpe : ((p : Int) == (s.size : Int)) = false := by simp; omega
          have HF : Hid (stateP 1000 s.data.toList = none) := stP_star 1000 _ s.size k G _ (by rw [len_list]) (unhide HAN) (unhide HEN) ((unhide HSR).trans (by rw [if_pos hd, if_neg (by omega)]))
          subst hd
          go_wp2_with fail
          refine (unhide HNB _ hs (by omega) (by omega)).mono ?_
          rintro e w3 ⟨rfl, rfl⟩
          go_wp2_with fail
          have hst := ((unhide HW).set 2 (.int .i64 (-1)) rfl).stored
          refine bodyPost_ret (v := .tuple #[.agg #[.string (s.extract 0 k), .slice av lv cv, .int .i64 (-1)], .bool false]) ?_ rfl (RdPost.no hst.2.1 (unhide HF))
          have g0 := cell_block (i := 0) hst.1 rfl
          have g1 := cell_block (i := 1) hst.1 rfl
          have g2 := cell_block (i := 2) hst.1 rfl
          unfold putSt at g0 g1 g2
          simp [results, Tryz.results90, go_sem, g0, g1, g2]
        · have bd : (d != -1) = true := by simpa using hd
          by_cases he : p + 4 = s.size
          · have hpe : ((p : Int) + 4 == (s.size : Int)) = true := by simp; omega
            have HF : Hid (stateP 1000 s.data.toList = some ⟨s.data.toList.take k, G, d⟩) := stP_yes 1000 _ s.size k G _ d (by rw [len_list]) (unhide HAN) (unhide HEN) ((unhide HSR).trans (by rw [if_neg hd, if_pos he]))
            clear hd
            go_wp2_with fail
            refine (unhide HNB _ hs (by omega) (by omega)).mono ?_
            rintro e w3 ⟨rfl, rfl⟩
            go_wp2_with fail
            have hst := ((unhide HW).set 2 (.int .i64 d) rfl).stored
            refine bodyPost_ret (v := .tuple #[.agg #[.string (s.extract 0 k), .slice av lv cv, .int .i64 (d)], .bool true]) ?_ rfl (⟨_, _, _, _, _, _, rfl, hst.2.1, Or.inr ⟨rfl, _, unhide HF, cut_zero s k, rfl, own_putH ((unhide HW).set 2 (.int .i64 d) rfl) (own_set (unhide HO))⟩⟩)
            have g0 := cell_block (i := 0) hst.1 rfl
            have g1 := cell_block (i := 1) hst.1 rfl
            have g2 := cell_block (i := 2) hst.1 rfl
            unfold putSt at g0 g1 g2
            simp [results, Tryz.results90, go_sem, g0, g1, g2]
          · have hpe : ((p : Int) + 4 == (s.size : Int)) = false := by simp; omega
            have HF : Hid (stateP 1000 s.data.toList = none) := stP_star 1000 _ s.size k G _ (by rw [len_list]) (unhide HAN) (unhide HEN) ((unhide HSR).trans (by rw [if_neg hd, if_neg he]))
            clear hd
            go_wp2_with fail
            refine (unhide HNB _ hs (by omega) (by omega)).mono ?_
            rintro e w3 ⟨rfl, rfl⟩
            go_wp2_with fail
            have hst := ((unhide HW).set 2 (.int .i64 d) rfl).stored
            refine bodyPost_ret (v := .tuple #[.agg #[.string (s.extract 0 k), .slice av lv cv, .int .i64 (d)], .bool false]) ?_ rfl (RdPost.no hst.2.1 (unhide HF))
            have g0 := cell_block (i := 0) hst.1 rfl
            have g1 := cell_block (i := 1) hst.1 rfl
            have g2 := cell_block (i := 2) hst.1 rfl
            unfold putSt at g0 g1 g2
            simp [results, Tryz.results90, go_sem, g0, g1, g2]
      · have hpe : p = s.size := by omega
        clear h44
        have hd : d = -1 := by
          refine Classical.byContradiction fun hd => ?_
          have h := unhide HSR
          rw [if_neg hd, if_neg (by omega), List.drop_eq_nil_of_le (by rw [len_list]; omega)] at h
          simp [starP, headI] at h
        have HF : Hid (stateP 1000 s.data.toList = some ⟨s.data.toList.take k, G, -1⟩) := stP_yes 1000 _ s.size k G _ (-1) (by rw [len_list]) (unhide HAN) (unhide HEN) ((unhide HSR).trans (by rw [if_pos hd, if_pos (by omega), hd]))
        subst hd
        subst hpe
        go_wp2_with fail
        refine (unhide HNB _ hs (by omega) (by omega)).mono ?_
        rintro e w3 ⟨rfl, rfl⟩
        go_wp2_with fail
        have hst := ((unhide HW).set 2 (.int .i64 (-1)) rfl).stored
        refine bodyPost_ret (v := .tuple #[.agg #[.string (s.extract 0 k), .slice av lv cv, .int .i64 (-1)], .bool true]) ?_ rfl (⟨_, _, _, _, _, _, rfl, hst.2.1, Or.inr ⟨rfl, _, unhide HF, cut_zero s k, rfl, own_putH ((unhide HW).set 2 (.int .i64 (-1)) rfl) (own_set (unhide HO))⟩⟩)
        have g0 := cell_block (i := 0) hst.1 rfl
        have g1 := cell_block (i := 1) hst.1 rfl
        have g2 := cell_block (i := 2) hst.1 rfl
        unfold putSt at g0 g1 g2
        simp [results, Tryz.results90, go_sem, g0, g1, g2]

theorem readState_any (s : ByteArray) (w : World) (hs : s.size ≤ 1000000) : Calls Tryz.prog 90 #[.string s] w (RdPost w s.data.toList) := by
  rcases ans_read s.data.toList with h | h
  · exact readState_yes s w hs h
  · exact readState_no s w hs h

end Go.Proofs.YtchhmojnoiephabGreatDoor

/- The program's own CheckCode and Walk. -/
namespace Go.Proofs.YtchhmojnoiephabGreatDoor
open Go.ChangeShapes Go.WideShapes Go.ChangeAt Go.RowKit
set_option linter.unusedVariables false

theorem belowE_hit (n : Int) (E : List (List UInt8 × Int)) (k : Nat) (h : k < E.length) (he : n ≤ E[k].2) : belowE n (E.drop k) = false := by
  rw [List.drop_eq_getElem_cons h]; simp only [belowE, List.all_cons]; simp; intro h2; omega
theorem belowE_on (n : Int) (E : List (List UInt8 × Int)) (k : Nat) (h : k < E.length) (he : E[k].2 < n) : belowE n (E.drop k) = belowE n (E.drop (k + 1)) := by
  rw [List.drop_eq_getElem_cons h]; simp only [belowE, List.all_cons]; simp [he]
theorem belowE_end (n : Int) (E : List (List UInt8 × Int)) (k : Nat) (h : ¬ k < E.length) : belowE n (E.drop k) = true := by
  rw [List.drop_eq_nil_of_le (by omega)]; rfl

theorem own_zero {w : World} {B e sz l c : Nat} {a : Option Addr} {xs : List Value} (h : w.ownsRow B e sz (.slice a l c) 0 xs) : l = 0 := own_len h

set_option maxHeartbeats 1000000 in
theorem staysBelow_any (a : ByteArray) (ev : Value) (st n : Int) (E : List (List UInt8 × Int)) (B : Nat) (w : World) (hown : w.ownsRow B 152 2 ev E.length (edgeCells E)) :
    Calls Tryz.prog 91 #[.agg #[.string a, ev, .int .i64 st], .int .i64 n] w fun e w' => e = .returned (.bool (belowE n E && decide (st < n))) ∧ Below w.heap.size w w' := by
  have hbx : Below w.heap.size w (w.alloc (.cells #[.string a, ev, .int .i64 st] 111)) := (Below.refl _ w).alloc (Nat.le_refl _) _
  by_cases hz : E = []
  · subst hz
    obtain ⟨av, lv, cv, rfl⟩ := own_slice hown
    have hlv : lv = 0 := own_zero hown
    subst hlv
    have HBX := hide hbx
    clear hown hbx
    go_enter Tryz.func91, Tryz.ntmps91
    go_wp2_with fail
    go_loop [6, 10] (fun _ i => i = .int .i64 0) (fun _ i => 0)
    case atStart => rfl
    case round =>
      subst hrel
      go_wp2_with fail
      go_ret
      exact ⟨ret_bool (by simp [belowE]), unhide HBX⟩
  · have hpos : 0 < E.length := List.length_pos_iff.2 hz
    obtain ⟨g, cap, rfl⟩ := own_form hown hpos
    have hcc := own_cap hown
    unfold maxLen at hcc
    obtain ⟨hcap, hcap2⟩ := hcc
    have hgs := own_block hown
    have HO := hide hown
    have HBX := hide hbx
    clear hown hz hbx
    go_enter Tryz.func91, Tryz.ntmps91
    go_wp2_with fail
    go_loopg [6, 10] E.length (fun gk _ i wr => ∃ k : Nat, k ≤ E.length ∧ gk = E.length - k ∧ i = .int .i64 k ∧ Below (w.heap.size + 1) (w.alloc (.cells #[.string a, .slice (some ⟨g, 0, none⟩) E.length cap, .int .i64 st] 111)) wr ∧ Hid (belowE n E = belowE n (E.drop k)))
    case atStart => exact ⟨0, by omega, by omega, rfl, Below.refl _ _, hide rfl⟩
    case round =>
      obtain ⟨k, hk, rfl, rfl, hb, HF⟩ := hrel
      have hbs := hb.size
      simp at hbs
      have c0 : wr.cell? ⟨w.heap.size, 2, none⟩ = some (.int .i64 st) := (hb.cell (p := ⟨w.heap.size, 2, none⟩) (by simp)).trans (by simp)
      have hfull : Below w.heap.size w wr := (unhide HBX).trans (hb.mono (by omega))
      have HFU := hide hfull
      by_cases hlt : k < E.length
      · obtain ⟨he1, he2⟩ := own_edge (own_below (unhide HO) hfull) hlt
        have HB := hide hb
        clear hb hfull
        by_cases hq : E[k].2 < n
        · have HZ := hide ((unhide HF).trans (belowE_on n E k hlt hq))
          generalize (⟨E[k].1.toArray⟩ : ByteArray) = es at *
          generalize E[k].2 = eto at *
          have hd : ¬ n ≤ eto := by omega
          go_wp2_with fail
          go_roundg (E.length - (k + 1))
          case measure => omega
          case rel => exact ⟨k + 1, by omega, rfl, by go_num, (unhide HB).alloc (by omega) _, HZ⟩
        · have HZ := hide ((unhide HF).trans (belowE_hit n E k hlt (by omega)))
          generalize (⟨E[k].1.toArray⟩ : ByteArray) = es at *
          generalize E[k].2 = eto at *
          have hd : n ≤ eto := by omega
          clear hq
          go_wp2_with fail
          go_ret
          exact ⟨ret_bool (by rw [unhide HZ]; rfl), (unhide HFU).alloc (by omega) _⟩
      · have HZ := hide ((unhide HF).trans (belowE_end n E k hlt))
        clear hb hfull
        go_wp2_with fail
        go_ret
        exact ⟨ret_bool (by rw [unhide HZ]; simp), unhide HFU⟩

set_option maxHeartbeats 1000000 in
theorem hubFollow_any (a : ByteArray) (ev : Value) (st : Int) (lev : ByteArray) (E : List (List UInt8 × Int)) (B : Nat) (w : World) (hown : w.ownsRow B 152 2 ev E.length (edgeCells E)) :
    Calls Tryz.prog 50 #[.agg #[.string a, ev, .int .i64 st], .string lev] w fun e w' => e = .returned (.int .i64 (followE E st lev.data.toList)) ∧ Below w.heap.size w w' := by
  have hbx : Below w.heap.size w (w.alloc (.cells #[.string a, ev, .int .i64 st] 111)) := (Below.refl _ w).alloc (Nat.le_refl _) _
  by_cases hz : E = []
  · subst hz
    obtain ⟨av, lv, cv, rfl⟩ := own_slice hown
    have hlv : lv = 0 := own_zero hown
    subst hlv
    have HBX := hide hbx
    clear hown hbx
    go_enter Tryz.func50, Tryz.ntmps50
    go_wp2_with fail
    go_loop [6, 10] (fun _ i => i = .int .i64 0) (fun _ i => 0)
    case atStart => rfl
    case round =>
      subst hrel
      go_wp2_with fail
      go_ret
      exact ⟨rfl, unhide HBX⟩
  · have hpos : 0 < E.length := List.length_pos_iff.2 hz
    obtain ⟨g, cap, rfl⟩ := own_form hown hpos
    have hcc := own_cap hown
    unfold maxLen at hcc
    obtain ⟨hcap, hcap2⟩ := hcc
    have hgs := own_block hown
    have HO := hide hown
    have HBX := hide hbx
    clear hown hz hbx
    go_enter Tryz.func50, Tryz.ntmps50
    go_wp2_with fail
    go_loopg [6, 10] E.length (fun gk _ i wr => ∃ k : Nat, k ≤ E.length ∧ gk = E.length - k ∧ i = .int .i64 k ∧ Below (w.heap.size + 1) (w.alloc (.cells #[.string a, .slice (some ⟨g, 0, none⟩) E.length cap, .int .i64 st] 111)) wr ∧ Hid (followE E st lev.data.toList = followE (E.drop k) st lev.data.toList))
    case atStart => exact ⟨0, by omega, by omega, rfl, Below.refl _ _, hide rfl⟩
    case round =>
      obtain ⟨k, hk, rfl, rfl, hb, HF⟩ := hrel
      have hbs := hb.size
      simp at hbs
      have c0 : wr.cell? ⟨w.heap.size, 2, none⟩ = some (.int .i64 st) := (hb.cell (p := ⟨w.heap.size, 2, none⟩) (by simp)).trans (by simp)
      have hfull : Below w.heap.size w wr := (unhide HBX).trans (hb.mono (by omega))
      have HFU := hide hfull
      by_cases hlt : k < E.length
      · obtain ⟨he1, he2⟩ := own_edge (own_below (unhide HO) hfull) hlt
        have HB := hide hb
        clear hb hfull
        by_cases hq : E[k].1 = lev.data.toList
        · have HZ := hide ((unhide HF).trans (followE_hit E st _ k hlt hq))
          have hbb : ((⟨E[k].1.toArray⟩ : ByteArray).toList == lev.toList) = true := by rw [Lib.toList_data, Lib.toList_data, ← hq]; simp
          clear hq
          generalize (⟨E[k].1.toArray⟩ : ByteArray) = es at *
          generalize E[k].2 = eto at *
          go_wp2_with fail
          go_ret
          exact ⟨ret_int (unhide HZ).symm, (unhide HFU).alloc (by omega) _⟩
        · have HZ := hide ((unhide HF).trans (followE_miss E st _ k hlt hq))
          have hbb : ((⟨E[k].1.toArray⟩ : ByteArray).toList == lev.toList) = false := by rw [Lib.toList_data, Lib.toList_data]; simpa using hq
          clear hq
          generalize (⟨E[k].1.toArray⟩ : ByteArray) = es at *
          generalize E[k].2 = eto at *
          go_wp2_with fail
          go_roundg (E.length - (k + 1))
          case measure => omega
          case rel => exact ⟨k + 1, by omega, rfl, by go_num, (unhide HB).alloc (by omega) _, HZ⟩
      · have HZ := hide ((unhide HF).trans (followE_end E st _ k hlt))
        clear hb hfull
        go_wp2_with fail
        go_ret
        exact ⟨ret_int (unhide HZ).symm, unhide HFU⟩

set_option maxHeartbeats 1000000 in
theorem whoOf_any (s : ByteArray) (w : World) (hs : s.size ≤ 1000) :
    Calls Tryz.prog 51 #[.string s] w fun e w' => ∃ v, e = .returned v ∧ w'.ownsRow w.heap.size 3 1 v s.size ((intsOf s.data.toList).map (Value.int .i64)) ∧ Below w.heap.size w w' := by
  obtain ⟨i0, hi, hz0, hz1, hz2⟩ := info_parts info_int
  go_enter Tryz.func51, Tryz.ntmps51
  go_wp2_with fail
  go_loopg [3, 4] s.size (fun gk v i wr => ∃ n : Nat, n ≤ s.size ∧ gk = s.size - n ∧ i = .int .i64 n ∧ wr.ownsRow w.heap.size 3 1 v n ((intsOf (s.data.toList.take n)).map (Value.int .i64)) ∧ Below w.heap.size w wr)
  case atStart => exact ⟨0, by omega, by omega, rfl, World.ownsRow_nil _ _ _ _, Below.refl _ _⟩
  case round =>
    obtain ⟨n, hn, rfl, rfl, hown, hb⟩ := hrel
    have hbs := hb.size
    by_cases hlt : n < s.size
    · have h256 : s[n].toNat < 256 := UInt8.toNat_lt _
      have hws := wrap_small ((s[n].toNat : Int) - 65) (by omega) (by omega)
      go_wp2_with (at_builtin; refine wpList_append_own _ rfl _ _ 26 rfl w.heap.size 3 i0 (.int .i64 0) 1 8 Tryz.underlying26 hi hz0 hz1 hz2 rfl (by decide) _ _ _ rfl (hown.alloc _) ⟨wr.heap.size, 0, none⟩ 1 1 [.int .i64 ((s[n].toNat : Int) - 65)] rfl rfl ?c1 ?c2 ?c3 ?c4 ?c5 ?_)
      case c1 =>
        intro j u hj
        match j, hj with
        | 0, hj => simp at hj; subst hj; simp [Addr.add]
      case c2 => intro u hu; simp at hu; subst hu; rfl
      case c3 => unfold maxLen; omega
      case c4 => omega
      case c5 => simp; omega
      intro v' w4 hown' hgrow _
      have HB4 := hide (below_push' hb hbs hown hgrow)
      have HO4 : Hid (w4.ownsRow w.heap.size 3 1 v' (n + 1) ((intsOf (s.data.toList.take (n + 1))).map (Value.int .i64))) := by
        unfold Hid; rw [intsOf_snoc s n hlt]; exact hown'
      clear hown' hgrow hown hb
      go_wp2_with fail
      go_roundg (s.size - (n + 1))
      case measure => omega
      case rel => exact ⟨n + 1, by omega, rfl, by go_num, unhide HO4, unhide HB4⟩
    · have hne : n = s.size := by omega
      have HOW := hide hown
      have HB := hide hb
      clear hown hb
      go_wp2_with fail
      go_ret
      subst hne
      have h := unhide HOW
      rw [List.take_of_length_le (by rw [len_list]; exact Nat.le_refl _)] at h
      exact ⟨_, rfl, h, unhide HB⟩


set_option maxHeartbeats 4000000 in
set_option maxRecDepth 1000000 in
theorem hubCode_any (s : ByteArray) (w : World) (hs : s.size ≤ maxLen) :
    Calls Tryz.prog 47 #[.string s] w fun e w' => e = .returned (.tuple #[.int .i64 (codeR s.data.toList).1, .int .i64 (codeR s.data.toList).2]) ∧ Below w.heap.size w w' := by
  unfold maxLen at hs
  by_cases h40 : 40000 < (s.size : Int)
  · have HZ := hide (codeR_long s h40)
    go_enter Tryz.func47, Tryz.ntmps47
    go_wp2_with fail
    go_ret2
    exact ⟨ret_ints (unhide HZ), Below.refl _ _⟩
  have hs4 : s.size ≤ 40000 := by omega
  have hpl := pcs_len s.data.toList
  rw [len_list] at hpl
  have hne := pcs_ne s.data.toList
  have HSP := hide (split_any 59 (by omega) s)
  rw [show ((59 : Nat) : Int) = 59 from rfl, ← pcs_split] at HSP
  have HFEW := hide (codeP_few s.data.toList)
  have HELSE := hide (codeP_else s.data.toList)
  have HBAD := hide (fun k => codeR_bad s k (by omega))
  have HGOOD := hide (fun xs => codeR_good s xs (by omega))
  generalize hP : pcs s.data.toList = P at *
  clear hP
  go_enter Tryz.func47, Tryz.ntmps47
  go_wp2_with fail
  refine (unhide HSP _ (by omega)).mono ?_
  rintro e w1 ⟨lv, rfl, hown1, hb1⟩
  have hPl : 0 < P.length := List.length_pos_iff.2 hne
  obtain ⟨g, cap, rfl⟩ := own_form hown1 hPl
  have hcc := own_cap hown1
  unfold maxLen at hcc
  obtain ⟨hcap, hcap2⟩ := hcc
  have hp2 : P.length ≤ 40001 := by have := hpl.2; omega
  have HPL := hide hpl.1
  have HO1 := hide hown1
  have HB1 := hide hb1
  clear hown1 hpl hne HSP hb1
  by_cases h2 : P.length < 2
  · have HZ := hide (unhide HBAD 0 (unhide HFEW h2))
    clear HFEW HELSE HBAD HGOOD
    go_wp2_with fail
    go_ret2
    exact ⟨ret_ints (by rw [unhide HZ]; rfl), unhide HB1⟩
  have HC := hide (unhide HELSE h2)
  clear HFEW HELSE
  go_wp2_with fail
  go_loopg [5, 6, 7] P.length (fun gk i _ _ wr => ∃ (k : Nat) (done : List St), k ≤ P.length ∧ k ≤ 1000 ∧ gk = P.length - k ∧ i = .int .i64 k ∧ Below w1.heap.size w1 wr ∧ Hid (codeP s.data.toList = statesOn done (statesR (P.length : Int) k (P.drop k))))
  case atStart => exact ⟨0, [], by omega, by omega, by omega, rfl, Below.refl _ _, hide (by rw [statesOn_nil]; exact unhide HC)⟩
  case round =>
    obtain ⟨k, done, hk, hk1, rfl, rfl, hb, HE⟩ := hrel
    have hbs := hb.size
    have HB := hide ((unhide HB1).trans (hb.mono (unhide HB1).size))
    by_cases hlt : k < P.length
    · by_cases hth : k < 1000
      · have hcell := own_str_at (own_below (unhide HO1) hb) hlt
        have hsz : (⟨P[k].toArray⟩ : ByteArray).size ≤ 1000000 := by
          have := unhide HPL P[k] (List.getElem_mem hlt)
          rw [Lib.size_eq]; simp; omega
        have HBL := hide hb
        clear hb
        go_wp2_with fail
        refine (readState_any _ _ hsz).mono ?_
        rintro e w2 ⟨a, av, lv, cv, st, ok, rfl, hb2, hcase⟩
        rw [show (⟨P[k].toArray⟩ : ByteArray).data.toList = P[k] from by simp] at hcase
        have hbs2 := hb2.size
        have HB2 := hide (((unhide HBL).trans (hb2.mono hbs)).alloc (by omega) (.cells #[.string a, .slice av lv cv, .int .i64 st] 111))
        clear hb2
        rcases hcase with ⟨rfl, hst⟩ | ⟨rfl, x, hst, ha, hsx, hoe⟩
        · have HZ := hide (unhide HBAD k ((unhide HE).trans (by rw [statesR_bad _ _ _ hlt (by omega) (stateP_none _ (by omega) _ hst)]; rfl)))
          clear hst
          go_wp2_with fail
          go_ret2
          exact ⟨ret_ints (unhide HZ), (unhide HB1).trans ((unhide HB2).mono (unhide HB1).size)⟩
        · have HOE := hide hoe
          have HX := hide (show belowS (P.length : Int) x = (belowE (P.length : Int) x.edges && decide (st < (P.length : Int))) from by unfold belowS; rw [hsx])
          have HOFF := hide (stateP_off (P.length : Int) (by omega) _ x hst)
          have HYES := hide (stateP_yes (P.length : Int) (by omega) _ x hst)
          clear hst ha hsx hoe
          go_wp2_with fail
          refine (staysBelow_any a (.slice av lv cv) st (P.length : Int) x.edges w.heap.size _ (own_below (own_mono (unhide HOE) (Nat.le_trans (unhide HB1).size hbs)) ((Below.refl _ w2).alloc (Nat.le_refl _) _))).mono ?_
          rintro e w3 ⟨rfl, hb3⟩
          have HB3 := hide ((unhide HB2).trans (hb3.mono (by simp; omega)))
          clear hb3
          cases hbs : (belowE (P.length : Int) x.edges && decide (st < (P.length : Int)))
          · rw [hbs] at HX
            have HZ := hide (unhide HBAD k ((unhide HE).trans (by rw [statesR_bad _ _ _ hlt (by omega) (unhide HOFF (unhide HX))]; rfl)))
            go_wp2_with fail
            go_ret2
            exact ⟨ret_ints (unhide HZ), (unhide HB1).trans ((unhide HB3).mono (unhide HB1).size)⟩
          · rw [hbs] at HX
            have HZ := hide ((unhide HE).trans (statesR_on _ _ _ done x hlt (by omega) (unhide HYES (unhide HX))))
            go_wp2_with fail
            go_roundg (P.length - (k + 1))
            case measure => omega
            case rel => exact ⟨k + 1, done ++ [x], by omega, by omega, rfl, by go_num, unhide HB3, HZ⟩
      · have hke : k = 1000 := by omega
        have HZ : Hid (codeR s.data.toList = (8, 1000)) := unhide HBAD 1000 (by
          have h := unhide HE
          rw [hke, statesR_many _ _ (by omega)] at h; exact h)
        have hd1 : 1000 < (P.length : Int) := by omega
        clear hb
        go_wp2_with fail
        go_ret2
        exact ⟨ret_ints (unhide HZ), unhide HB⟩
    · have HZ := hide (unhide HGOOD done (by
        have h := unhide HE
        rw [statesR_end _ _ _ hlt] at h
        simp [statesOn] at h
        exact h))
      have hd1 : ¬ 1000 < (P.length : Int) := by omega
      clear hb
      go_wp2_with fail
      go_ret2
      exact ⟨ret_ints (unhide HZ), unhide HB⟩

end Go.Proofs.YtchhmojnoiephabGreatDoor

/- The program's own walk through code. -/
namespace Go.Proofs.YtchhmojnoiephabGreatDoor
open Go.ChangeShapes Go.WideShapes Go.ChangeAt Go.RowKit
set_option linter.unusedVariables false

/-- the state of that number, as the program reads it -/
def stRd (P : List (List UInt8)) (k : Int) : St := if k < 0 then deadS else match P[k.toNat]? with
  | none => deadS
  | some p => (stateP 1000 p).getD deadS

theorem stRd_out (P : List (List UInt8)) (k : Int) (h : k < 0 ∨ (P.length : Int) ≤ k) : stRd P k = deadS := by
  unfold stRd
  split
  · rfl
  · rw [List.getElem?_eq_none (by omega)]
theorem stRd_in (P : List (List UInt8)) (k : Nat) (h : k < P.length) : stRd P (k : Int) = (stateP 1000 P[k]).getD deadS := by
  unfold stRd; rw [if_neg (by omega), Int.toNat_natCast, List.getElem?_eq_getElem h]

theorem statesR_at (n : Int) (P : List (List UInt8)) : ∀ (i : Nat) (xs : List St), statesR n i P = .ok xs → ∀ (j : Nat) (h : j < P.length), ∃ h' : j < xs.length, stateP n P[j] = some xs[j] := by
  induction P with
  | nil => intro i xs h j hj; simp at hj
  | cons p r ih =>
    intro i xs h j hj
    simp only [statesR] at h
    split at h
    · cases h
    · cases hs : stateP n p with
      | none => rw [hs] at h; cases h
      | some x =>
        rw [hs] at h; simp only [] at h
        cases hr : statesR n (i + 1) r with
        | error k => rw [hr] at h; cases h
        | ok ys =>
          rw [hr] at h; simp only [Except.ok.injEq] at h
          subst h
          cases j with
          | zero => exact ⟨by simp, by simpa using hs⟩
          | succ j =>
            obtain ⟨h1, h2⟩ := ih _ _ hr j (by simpa using hj)
            exact ⟨by simpa using h1, by simpa using h2⟩

/-- the program's states are the code's -/
theorem stRd_xs (L : List UInt8) (xs : List St) (h : codeP L = .ok xs) (k : Int) : stRd (pcs L) k = stAt xs k := by
  have hl : xs.length = (pcs L).length := by
    unfold codeP at h
    split at h
    · cases h
    · exact (statesR_good _ (by omega) _ _ _ h).1
  by_cases hk : k < 0 ∨ ((pcs L).length : Int) ≤ k
  · rw [stRd_out _ _ hk]
    unfold stAt
    split
    · rfl
    · rw [List.getElem?_eq_none (by omega)]; rfl
  · obtain ⟨n, rfl⟩ := Int.eq_ofNat_of_zero_le (by omega : 0 ≤ k)
    have hn : n < (pcs L).length := by omega
    rw [stRd_in _ n hn]
    unfold codeP at h
    split at h
    · cases h
    · obtain ⟨h1, h2⟩ := statesR_at _ _ _ _ h n hn
      rw [stateP_up _ (by omega) _ _ h2]
      unfold stAt
      rw [if_neg (by omega)]
      simp [List.getElem?_eq_getElem h1]

/-- what 'stateAt' answers -/
def SaPost (w : World) (x : St) (e : Ending) (w' : World) : Prop :=
  ∃ (a : ByteArray) (av : Option Addr) (lv cv : Nat) (st : Int), e = .returned (.agg #[.string a, .slice av lv cv, .int .i64 st]) ∧ a.data.toList = x.ans ∧ st = x.star ∧ w'.ownsRow w.heap.size 152 2 (.slice av lv cv) x.edges.length (edgeCells x.edges) ∧ Below w.heap.size w w'

theorem SaPost.dead {w w' : World} {x : St} (h : x = deadS) (hb : Below w.heap.size w w') : SaPost w x (.returned (.agg #[.string ⟨#[]⟩, .slice none 0 0, .int .i64 (-1)])) w' := by
  subst h; exact ⟨_, _, _, _, _, rfl, rfl, rfl, World.ownsRow_nil _ _ _ _, hb⟩

theorem put_stored {w w1 : World} {c0 c1 c2 : Value} {ty : TypeId} (hr : w1.heap[w.heap.size]? = some (.cells #[c0, c1, c2] ty (0, 0))) (hb : Below w.heap.size w w1) (a : ByteArray) (v : Value) (st : Int) :
    (putSt w w1 a v st).heap[w.heap.size]? = some (.cells #[.string a, v, .int .i64 st] ty (0, 0)) ∧ Below w.heap.size w (putSt w w1 a v st) ∧ ∀ k, k ≠ w.heap.size → (putSt w w1 a v st).heap[k]? = w1.heap[k]? := by
  unfold putSt
  refine ⟨?_, ((hb.setCell (Nat.le_refl _) _).setCell (Nat.le_refl _) _).setCell (Nat.le_refl _) _, fun k hk => ?_⟩
  · rw [heap_setCell_same _ _ 2 _ _ _ (heap_setCell_same _ _ 1 _ _ _ (heap_setCell_same _ _ 0 _ _ _ hr))]; rfl
  · rw [Below.heap_setCell _ _ _ _ hk, Below.heap_setCell _ _ _ _ hk, Below.heap_setCell _ _ _ _ hk]

set_option maxHeartbeats 4000000 in
set_option maxRecDepth 1000000 in
theorem stateAt_any (P : List (List UInt8)) (v : Value) (k : Int) (B : Nat) (w : World) (hrow : w.ownsRow B 9 1 v P.length (P.map strV)) (hP : ∀ p ∈ P, p.length ≤ 1000000) :
    Calls Tryz.prog 49 #[v, .int .i64 k] w (SaPost w (stRd P k)) := by
  obtain ⟨av, lv, cv, rfl⟩ := own_slice hrow
  have hlv : lv = P.length := own_len hrow
  subst hlv
  have hb0 : Below w.heap.size w (w.alloc (.cells #[.string ⟨#[]⟩, .slice none 0 0, .int .i64 0] 111)) := (Below.refl _ w).alloc (Nat.le_refl _) _
  have hbd : Below w.heap.size w (w.alloc (.cells #[.string ⟨#[]⟩, .slice none 0 0, .int .i64 (-1)] 111)) := (Below.refl _ w).alloc (Nat.le_refl _) _
  by_cases hk0 : k < 0
  · have HZ := hide (stRd_out P k (Or.inl hk0))
    have HBD := hide hbd
    clear hrow hP hb0 hbd
    go_enter Tryz.func49, Tryz.ntmps49
    go_wp2_with fail
    refine bodyPost_ret (v := .agg #[.string ⟨#[]⟩, .slice none 0 0, .int .i64 (-1)]) ?_ rfl (SaPost.dead (unhide HZ) (unhide HBD))
    simp [results, Tryz.results49, go_sem]
  · by_cases hkl : (P.length : Int) ≤ k
    · have HZ := hide (stRd_out P k (Or.inr hkl))
      have HBD := hide hbd
      clear hrow hP hb0 hbd
      go_enter Tryz.func49, Tryz.ntmps49
      go_wp2_with fail
      refine bodyPost_ret (v := .agg #[.string ⟨#[]⟩, .slice none 0 0, .int .i64 (-1)]) ?_ rfl (SaPost.dead (unhide HZ) (unhide HBD))
      simp [results, Tryz.results49, go_sem]
    · obtain ⟨n, rfl⟩ := Int.eq_ofNat_of_zero_le (by omega : 0 ≤ k)
      have hn : n < P.length := by omega
      obtain ⟨g, cap, hv⟩ := own_form hrow (by omega)
      simp only [Value.slice.injEq] at hv
      obtain ⟨rfl, _, rfl⟩ := hv
      have hcc := own_cap hrow
      unfold maxLen at hcc
      obtain ⟨hcap, hcap2⟩ := hcc
      have hcell := own_str_at hrow hn
      have hg := own_block hrow
      have hsz : (⟨P[n].toArray⟩ : ByteArray).size ≤ 1000000 := by
        have := hP P[n] (List.getElem_mem hn)
        rw [Lib.size_eq]; simp; omega
      have HZ := hide (stRd_in P n hn)
      have hRD := readState_any (⟨P[n].toArray⟩ : ByteArray)
      rw [show (⟨P[n].toArray⟩ : ByteArray).data.toList = P[n] from by simp] at hRD
      have HRD := hide hRD
      have HB0 := hide hb0
      have hng : ¬ g = w.heap.size := by omega
      generalize (⟨P[n].toArray⟩ : ByteArray) = es at *
      generalize P[n] = pn at *
      clear hrow hP hb0 hbd hRD
      go_enter Tryz.func49, Tryz.ntmps49
      go_wp2_with fail
      refine (unhide HRD _ hsz).mono ?_
      rintro e w1 ⟨a, ao, lo, co, st, ok, rfl, hb1, hcase⟩
      have hr1 : w1.heap[w.heap.size]? = some (.cells #[.string ⟨#[]⟩, .slice none 0 0, .int .i64 0] 111 (0, 0)) := by
        rw [hb1.block _ (by simp)]; exact (MapKept.heap_alloc w _).1
      have hbs := hb1.size
      simp at hbs
      have n6 : w.heap.size < w1.heap.size := by omega
      have n3 : ¬ w1.heap.size = w.heap.size := by omega
      have n4 : ¬ w.heap.size = w1.heap.size := by omega
      have f0 := free_block (i := 0) hr1
      have f1 := free_block (i := 1) hr1
      have f2 := free_block (i := 2) hr1
      have q0 := cell_block (i := 0) hr1 rfl
      have q1 := cell_block (i := 1) hr1 rfl
      have q2 := cell_block (i := 2) hr1 rfl
      have HB1 := hide ((unhide HB0).trans (hb1.mono (by simp)))
      have HR1 := hide hr1
      clear hb1 hr1 hcell HRD
      rcases hcase with ⟨rfl, hst⟩ | ⟨rfl, x, hst, ha, hsx, hoe⟩
      · have HD : Hid (stRd P (n : Int) = deadS) := (unhide HZ).trans (by rw [hst]; rfl)
        clear hst
        go_wp2_with fail
        have hst := put_stored (unhide HR1) (unhide HB1) ⟨#[]⟩ (.slice none 0 0) (-1)
        refine bodyPost_ret (v := .agg #[.string ⟨#[]⟩, .slice none 0 0, .int .i64 (-1)]) ?_ rfl (SaPost.dead (unhide HD) (hst.2.1.alloc hst.2.1.size _))
        have g0 := cell_block (i := 0) hst.1 rfl
        have g1 := cell_block (i := 1) hst.1 rfl
        have g2 := cell_block (i := 2) hst.1 rfl
        unfold putSt at g0 g1 g2
        simp [results, Tryz.results49, go_sem, g0, g1, g2, n6]
      · have HD : Hid (stRd P (n : Int) = x) := (unhide HZ).trans (by rw [hst]; rfl)
        have HOE := hide hoe
        have HA := hide ha
        have HS := hide hsx
        clear hst hoe ha hsx
        go_wp2_with fail
        have hst := put_stored (unhide HR1) (unhide HB1) a (.slice ao lo co) st
        refine bodyPost_ret (v := .agg #[.string a, .slice ao lo co, .int .i64 st]) ?_ rfl ⟨_, _, _, _, _, rfl, by rw [unhide HD]; exact unhide HA, by rw [unhide HD]; exact unhide HS, ?_, hst.2.1.alloc hst.2.1.size _⟩
        · have g0 := cell_block (i := 0) hst.1 rfl
          have g1 := cell_block (i := 1) hst.1 rfl
          have g2 := cell_block (i := 2) hst.1 rfl
          unfold putSt at g0 g1 g2
          simp [results, Tryz.results49, go_sem, g0, g1, g2, n6]
        · rw [unhide HD]
          have ho := unhide HOE
          have ho2 : (putSt w w1 a (.slice ao lo co) st).ownsRow w.heap.size 152 2 (.slice ao lo co) x.edges.length (edgeCells x.edges) :=
            own_mono (own_same ho (fun k hk => hst.2.2 k (by have := (ho.lt k hk).1; simp at this; omega))) (by simp)
          exact own_below ho2 ((Below.refl _ _).alloc (Nat.le_refl _) _)

/-- the state that a walk is in, in memory at block X; the pieces and the levels beside it -/
structure WkW (w wr : World) (X : Nat) (x : St) (a : ByteArray) (av : Option Addr) (lv cv : Nat) (st : Int) : Prop where
  at' : wr.heap[X]? = some (.cells #[.string a, .slice av lv cv, .int .i64 st] 111 (0, 0))
  ans : a.data.toList = x.ans
  star : st = x.star
  own : wr.ownsRow w.heap.size 152 2 (.slice av lv cv) x.edges.length (edgeCells x.edges)
  old : w.heap.size ≤ X
  below : Below w.heap.size w wr

theorem own_not3 {w : World} {B e sz n p t : Nat} {v : Value} {cs : Array Value} {xs : List Value} (h : w.ownsRow B e sz v n xs) (hp : w.heap[p]? = some (.cells cs t (0, 0))) (hne : e ≠ t) : v.ownBlock ≠ some p := by
  intro he
  obtain ⟨_, ⟨rfl, _⟩ | ⟨g, cap, cur, rfl, _, h4, _⟩⟩ := h
  · cases he
  · simp [Value.ownBlock] at he
    subst he
    rw [h4] at hp
    simp only [Option.some.injEq, Obj.cells.injEq] at hp
    exact hne hp.2.1

theorem own_set3 {w : World} {B e sz n p t i : Nat} {v u : Value} {cs : Array Value} {xs : List Value} (h : w.ownsRow B e sz v n xs) (hp : w.heap[p]? = some (.cells cs t (0, 0))) (hne : e ≠ t) : (w.setCell ⟨p, i, none⟩ u).ownsRow B e sz v n xs :=
  own_same h (fun k hk => Below.heap_setCell _ _ _ _ (fun he => own_not3 h hp hne (by rw [hk, he])))

/-- the world behind 's = ..' -/
def putX (X : Nat) (wr : World) (a : ByteArray) (v : Value) (st : Int) : World :=
  ((wr.setCell ⟨X, 0, none⟩ (.string a)).setCell ⟨X, 1, none⟩ v).setCell ⟨X, 2, none⟩ (.int .i64 st)

theorem putX_heap {X : Nat} {wr : World} {c0 c1 c2 : Value} {ty : TypeId} (hr : wr.heap[X]? = some (.cells #[c0, c1, c2] ty (0, 0))) (a : ByteArray) (v : Value) (st : Int) :
    (putX X wr a v st).heap[X]? = some (.cells #[.string a, v, .int .i64 st] ty (0, 0)) ∧ ∀ k, k ≠ X → (putX X wr a v st).heap[k]? = wr.heap[k]? := by
  unfold putX
  refine ⟨?_, fun k hk => ?_⟩
  · rw [heap_setCell_same _ _ 2 _ _ _ (heap_setCell_same _ _ 1 _ _ _ (heap_setCell_same _ _ 0 _ _ _ hr))]; rfl
  · rw [Below.heap_setCell _ _ _ _ hk, Below.heap_setCell _ _ _ _ hk, Below.heap_setCell _ _ _ _ hk]
theorem putX_below {X B : Nat} {w wr : World} (h : Below B w wr) (hX : B ≤ X) (a : ByteArray) (v : Value) (st : Int) : Below B w (putX X wr a v st) := by
  unfold putX; exact ((h.setCell hX _).setCell hX _).setCell hX _
theorem own_putX {X : Nat} {wr : World} {B e sz n : Nat} {c0 c1 c2 v0 : Value} {ty : TypeId} {xs : List Value} (hr : wr.heap[X]? = some (.cells #[c0, c1, c2] ty (0, 0))) (h : wr.ownsRow B e sz v0 n xs) (hne : e ≠ ty) (a : ByteArray) (v : Value) (st : Int) : (putX X wr a v st).ownsRow B e sz v0 n xs :=
  own_same h (fun k hk => (putX_heap hr a v st).2 k (fun he => own_not3 h hr hne (by rw [hk, he])))

/-- the state's place is written anew -/
theorem WkW.put {w wr w1 : World} {X : Nat} {x y : St} {a a' : ByteArray} {av av' : Option Addr} {lv cv lv' cv' : Nat} {st st' : Int} (h : WkW w wr X x a av lv cv st) (hb : Below wr.heap.size wr w1)
    (ha : a'.data.toList = y.ans) (hs : st' = y.star) (ho : w1.ownsRow wr.heap.size 152 2 (.slice av' lv' cv') y.edges.length (edgeCells y.edges)) : WkW w (putX X w1 a' (.slice av' lv' cv') st') X y a' av' lv' cv' st' := by
  have hx : w1.heap[X]? = some (.cells #[.string a, .slice av lv cv, .int .i64 st] 111 (0, 0)) := by rw [hb.block X (heap_lt h.at')]; exact h.at'
  exact ⟨(putX_heap hx _ _ _).1, ha, hs, own_mono (own_putX hx ho (by decide) _ _ _) h.below.size, h.old, putX_below (h.below.trans (hb.mono h.below.size)) h.old _ _ _⟩
theorem WkW.on {w wr w1 : World} {X : Nat} {x : St} {a : ByteArray} {av : Option Addr} {lv cv : Nat} {st : Int} (h : WkW w wr X x a av lv cv st) (hb : Below wr.heap.size wr w1) : WkW w w1 X x a av lv cv st :=
  ⟨by rw [hb.block X (heap_lt h.at')]; exact h.at', h.ans, h.star, own_below h.own hb, h.old, h.below.trans (hb.mono h.below.size)⟩


theorem stAt_len (xs : List St) (k : Int) (h : ∀ x ∈ xs, goodSt (xs.length : Int) x) : (stAt xs k).ans.length ≤ 80 := by
  unfold stAt
  split
  · simp [deadS]
  · cases hx : xs[k.toNat]? with
    | none => simp [deadS]
    | some x => exact (h x (List.mem_of_getElem? hx)).2.2.2.1

theorem walkS_on (xs : List St) (x : St) (T : List (List UInt8)) (n : Nat) (h : n < T.length) : walkS xs x (T.drop n) = walkS xs (stAt xs (followE x.edges x.star T[n])) (T.drop (n + 1)) := by
  rw [List.drop_eq_getElem_cons h]; rfl
theorem walkS_end (xs : List St) (x : St) (T : List (List UInt8)) (n : Nat) (h : ¬ n < T.length) : walkS xs x (T.drop n) = x := by
  rw [List.drop_eq_nil_of_le (by omega)]; rfl

/-- P8 in the program's words -/
theorem walkR_S (c t : ByteArray) (xs : List St) (h : c.size ≤ 40000) (h' : t.size ≤ 24) (hf : (codeR c.data.toList).1 = 0) (ht : (topicR t.data.toList).1 = 0) (hc : codeP c.data.toList = .ok xs) :
    walkR c.data.toList t.data.toList = (intsOf (walkS xs (stAt xs (if headI t.data.toList = 36 then 1 else 0)) (levs t.data.toList)).ans, 0, 0) := by
  rw [walkR_good c t xs h h' hf ht hc]
  obtain ⟨h2, hg⟩ := codeP_good _ _ hc
  rcases walkS_K xs (levs t.data.toList) (if headI t.data.toList = 36 then 1 else 0) (by split <;> omega) with hw | ⟨x, hx, hn⟩
  · rw [hw, stAt_ans]; rfl
  · exact absurd (hg x hx) hn

theorem pcs_le (c : ByteArray) (h : c.size ≤ 40000) : ∀ p ∈ pcs c.data.toList, p.length ≤ 1000000 := by
  intro p hp
  have := (pcs_len c.data.toList).1 p hp
  rw [len_list] at this; omega


set_option maxHeartbeats 8000000 in
set_option maxRecDepth 1000000 in
theorem hubWalk_good (c t : ByteArray) (w : World) (hc : c.size ≤ maxLen) (ht : t.size ≤ maxLen) (h1 : c.size ≤ 40000) (h2 : t.size ≤ 24) (h3 : (codeR c.data.toList).1 = 0) (h4 : (topicR t.data.toList).1 = 0) :
    Calls Tryz.prog 19 #[.string c, .string t] w (IntsPost w (walkR c.data.toList t.data.toList)) := by
  have b3 : ((codeR c.data.toList).1 != 0) = false := by simp [h3]
  have b4 : ((topicR t.data.toList).1 != 0) = false := by simp [h4]
  obtain ⟨_, xs, hxs⟩ := codeR_zero _ h3
  have HR := hide (walkR_S c t xs h1 h2 h3 h4 hxs)
  have HG := hide (codeP_good _ _ hxs).2
  have HRD := hide (stRd_xs _ _ hxs)
  have HPL := hide (pcs_le c h1)
  have HSP := hide (split_any 59 (by omega) c)
  rw [show ((59 : Nat) : Int) = 59 from rfl, ← pcs_split] at HSP
  generalize pcs c.data.toList = P at *
  have hlp := List.length_pos_iff.2 (levs_ne t.data.toList)
  have hlt := levs_count t.data.toList
  rw [len_list] at hlt
  clear h3 h4 hxs
  cases hd : (headI t.data.toList == 36)
  · rw [if_neg (by simpa using hd)] at HR
    go_enter Tryz.func19, Tryz.ntmps19
    go_wp2_with fail
    refine (hubCode_any c _ hc).mono ?_
    rintro e w1 ⟨rfl, hb1⟩
    go_wp2_with fail
    refine (hubTopic_any t _ ht).mono ?_
    rintro e w1' ⟨rfl, rfl⟩
    go_wp2_with fail
    refine (unhide HSP _ (by omega)).mono ?_
    rintro e w2 ⟨pv, rfl, hown2, hb2⟩
    have HB2 := hide (hb1.trans (hb2.mono hb1.size))
    have HP := hide (own_mono hown2 hb1.size)
    obtain ⟨pa, pl, pc, rfl⟩ := own_slice hown2
    clear hb1 hb2 hown2 HSP
    go_wp2_with fail
    refine (stateAt_any P _ 0 w.heap.size _ (unhide HP) (unhide HPL)).mono ?_
    rintro e w3 ⟨a, av, lv, cv, st, rfl, ha, hsx, hoe, hb3⟩
    rw [unhide HRD 0] at ha hsx hoe
    have hbx : Below w2.heap.size w2 (w3.alloc (.cells #[.string a, .slice av lv cv, .int .i64 st] 111)) := hb3.alloc hb3.size _
    have HWK : Hid (WkW w (w3.alloc (.cells #[.string a, .slice av lv cv, .int .i64 st] 111)) w3.heap.size (stAt xs 0) a av lv cv st) :=
      ⟨(MapKept.heap_alloc w3 _).1, ha, hsx, own_mono (own_below hoe ((Below.refl _ w3).alloc (Nat.le_refl _) _)) (unhide HB2).size, Nat.le_trans (unhide HB2).size hb3.size, (unhide HB2).trans (hbx.mono (unhide HB2).size)⟩
    replace HP := hide (own_below (unhide HP) hbx)
    clear ha hsx hoe hb3 hbx HB2
    go_wp2_with fail
    refine (begins_any t 36 _ ht (by omega)).mono ?_
    rintro e w4 ⟨rfl, rfl⟩
    rw [hd]
    generalize w3.alloc (.cells #[.string a, .slice av lv cv, .int .i64 st] 111) = wx at *
    generalize w3.heap.size = X at *
    have HT := hide (split_any 47 (by omega) t)
    rw [show ((47 : Nat) : Int) = 47 from rfl, ← levs_split] at HT
    generalize levs t.data.toList = T at *
    go_wp2_with fail
    refine (unhide HT _ (by omega)).mono ?_
    rintro e w5 ⟨tv, rfl, hown5, hb5⟩
    obtain ⟨gt, capt, rfl⟩ := own_form hown5 hlp
    have hcc := own_cap hown5
    unfold maxLen at hcc
    obtain ⟨hcap, hcap2⟩ := hcc
    have HT5 := hide (own_mono hown5 (unhide HWK).below.size)
    replace HWK := hide ((unhide HWK).on (by exact hb5))
    replace HP := hide (own_below (unhide HP) (by exact hb5))
    clear hown5 hb5 HT
    go_wp2_with fail
    go_loopg [12, 13, 51] T.length (fun gk _ _ i wr => ∃ (n : Nat) (x : St) (a : ByteArray) (av : Option Addr) (lv cv : Nat) (st : Int), n ≤ T.length ∧ gk = T.length - n ∧ i = .int .i64 n ∧ WkW w wr X x a av lv cv st ∧ x.ans.length ≤ 80 ∧ wr.ownsRow w.heap.size 9 1 (.slice pa pl pc) P.length (P.map strV) ∧ wr.ownsRow w.heap.size 9 1 (.slice (some ⟨gt, 0, none⟩) T.length capt) T.length (T.map strV) ∧ Hid (walkS xs (stAt xs 0) T = walkS xs x (T.drop n)))
    case atStart => exact ⟨0, _, _, _, _, _, _, by omega, by omega, rfl, unhide HWK, stAt_len xs _ (unhide HG), unhide HP, unhide HT5, hide rfl⟩
    case round =>
      obtain ⟨n, x, a, av, lv, cv, st, hn, rfl, rfl, hwk, hx80, hP, hT, HS⟩ := hrel
      clear HWK HP HT5
      have hxx := hwk.at'
      have f0 := free_block (i := 0) hxx
      have f1 := free_block (i := 1) hxx
      have f2 := free_block (i := 2) hxx
      have c0 := cell_block (i := 0) hxx rfl
      have c1 := cell_block (i := 1) hxx rfl
      have c2 := cell_block (i := 2) hxx rfl
      by_cases hnt : n < T.length
      · have hcell := own_str_at hT hnt
        have HSN := hide ((unhide HS).trans (walkS_on xs x T n hnt))
        have hes : (⟨T[n].toArray⟩ : ByteArray).data.toList = T[n] := by simp
        have HFO := hide (hubFollow_any a (.slice av lv cv) st ⟨T[n].toArray⟩ x.edges w.heap.size wr hwk.own)
        rw [hes, hwk.star] at HFO
        rw [← hwk.star] at HFO
        have HWK := hide hwk
        have HP := hide hP
        have HT := hide hT
        clear hwk hP hT hxx hes
        generalize (⟨T[n].toArray⟩ : ByteArray) = es at *
        go_wp2_with fail
        refine (unhide HFO).mono ?_
        rintro e w6 ⟨rfl, hb6⟩
        replace HWK := hide ((unhide HWK).on hb6)
        replace HP := hide (own_below (unhide HP) hb6)
        replace HT := hide (own_below (unhide HT) hb6)
        clear hb6 HFO f0 f1 f2 c0 c1 c2 hcell
        go_wp2_with fail
        refine (stateAt_any P _ _ w.heap.size _ (unhide HP) (unhide HPL)).mono ?_
        rintro e w7 ⟨a', av', lv', cv', st', rfl, ha, hsx, hoe, hb7⟩
        rw [unhide HRD _] at ha hsx hoe
        have hx7 := ((unhide HWK).on hb7).at'
        have f0 := free_block (i := 0) hx7
        have f1 := free_block (i := 1) hx7
        have f2 := free_block (i := 2) hx7
        have c0 := cell_block (i := 0) hx7 rfl
        have c1 := cell_block (i := 1) hx7 rfl
        have c2 := cell_block (i := 2) hx7 rfl
        have HWK2 := hide ((unhide HWK).put hb7 ha hsx hoe)
        replace HP := hide (own_putX hx7 (own_below (unhide HP) hb7) (by decide) a' (.slice av' lv' cv') st')
        replace HT := hide (own_putX hx7 (own_below (unhide HT) hb7) (by decide) a' (.slice av' lv' cv') st')
        rw [(unhide HWK).star] at HWK2
        clear ha hsx hoe hb7 hx7
        go_wp2_with fail
        go_roundg (T.length - (n + 1))
        case measure => omega
        case rel => exact ⟨n + 1, _, a', av', lv', cv', st', by omega, rfl, by go_num, unhide HWK2, stAt_len xs _ (unhide HG), unhide HP, unhide HT, HSN⟩
      · have HSN := hide ((unhide HS).trans (walkS_end xs x T n hnt))
        have HWK := hide hwk
        have hsz : a.size ≤ 1000 := by
          have := hwk.ans
          rw [← len_list, this]; omega
        clear hwk hP hT hxx
        go_wp2_with fail
        refine (whoOf_any a _ hsz).mono ?_
        rintro e w8 ⟨v, rfl, hown8, hb8⟩
        have hwb := (unhide HWK).below
        have HI : Hid (IntsPost w (walkR c.data.toList t.data.toList) (.returned (.tuple #[v, .int .i64 0, .int .i64 0])) w8) := by
          unfold Hid
          rw [unhide HR, unhide HSN, ← (unhide HWK).ans]
          exact ⟨v, rfl, own_mono (by simpa [intsOf] using hown8) hwb.size, hwb.trans (hb8.mono hwb.size)⟩
        clear hown8 hb8 hwb
        go_wp2_with fail
        go_ret3
        exact unhide HI
  · rw [if_pos (by simpa using hd)] at HR
    go_enter Tryz.func19, Tryz.ntmps19
    go_wp2_with fail
    refine (hubCode_any c _ hc).mono ?_
    rintro e w1 ⟨rfl, hb1⟩
    go_wp2_with fail
    refine (hubTopic_any t _ ht).mono ?_
    rintro e w1' ⟨rfl, rfl⟩
    go_wp2_with fail
    refine (unhide HSP _ (by omega)).mono ?_
    rintro e w2 ⟨pv, rfl, hown2, hb2⟩
    have HB2 := hide (hb1.trans (hb2.mono hb1.size))
    have HP := hide (own_mono hown2 hb1.size)
    obtain ⟨pa, pl, pc, rfl⟩ := own_slice hown2
    clear hb1 hb2 hown2 HSP
    go_wp2_with fail
    refine (stateAt_any P _ 0 w.heap.size _ (unhide HP) (unhide HPL)).mono ?_
    rintro e w3 ⟨a, av, lv, cv, st, rfl, ha, hsx, hoe, hb3⟩
    rw [unhide HRD 0] at ha hsx hoe
    have hbx : Below w2.heap.size w2 (w3.alloc (.cells #[.string a, .slice av lv cv, .int .i64 st] 111)) := hb3.alloc hb3.size _
    have HWK : Hid (WkW w (w3.alloc (.cells #[.string a, .slice av lv cv, .int .i64 st] 111)) w3.heap.size (stAt xs 0) a av lv cv st) :=
      ⟨(MapKept.heap_alloc w3 _).1, ha, hsx, own_mono (own_below hoe ((Below.refl _ w3).alloc (Nat.le_refl _) _)) (unhide HB2).size, Nat.le_trans (unhide HB2).size hb3.size, (unhide HB2).trans (hbx.mono (unhide HB2).size)⟩
    replace HP := hide (own_below (unhide HP) hbx)
    clear ha hsx hoe hb3 hbx HB2
    go_wp2_with fail
    refine (begins_any t 36 _ ht (by omega)).mono ?_
    rintro e w4 ⟨rfl, rfl⟩
    rw [hd]
    generalize w3.alloc (.cells #[.string a, .slice av lv cv, .int .i64 st] 111) = wx at *
    generalize w3.heap.size = X at *
    go_wp2_with fail
    refine (stateAt_any P _ 1 w.heap.size _ (unhide HP) (unhide HPL)).mono ?_
    rintro e w4 ⟨a', av', lv', cv', st', rfl, ha, hsx, hoe, hb4⟩
    rw [unhide HRD 1] at ha hsx hoe
    have hx4 := ((unhide HWK).on hb4).at'
    have f0 := free_block (i := 0) hx4
    have f1 := free_block (i := 1) hx4
    have f2 := free_block (i := 2) hx4
    have c0 := cell_block (i := 0) hx4 rfl
    have c1 := cell_block (i := 1) hx4 rfl
    have c2 := cell_block (i := 2) hx4 rfl
    have HWK2 := hide ((unhide HWK).put hb4 ha hsx hoe)
    replace HP := hide (own_putX hx4 (own_below (unhide HP) hb4) (by decide) a' (.slice av' lv' cv') st')
    clear ha hsx hoe hb4 HWK hx4
    have HT := hide (split_any 47 (by omega) t)
    rw [show ((47 : Nat) : Int) = 47 from rfl, ← levs_split] at HT
    generalize levs t.data.toList = T at *
    go_wp2_with fail
    refine (unhide HT _ (by omega)).mono ?_
    rintro e w5 ⟨tv, rfl, hown5, hb5⟩
    obtain ⟨gt, capt, rfl⟩ := own_form hown5 hlp
    have hcc := own_cap hown5
    unfold maxLen at hcc
    obtain ⟨hcap, hcap2⟩ := hcc
    have HT5 := hide (own_mono hown5 (unhide HWK2).below.size)
    have HWK := hide ((unhide HWK2).on (by exact hb5))
    replace HP := hide (own_below (unhide HP) (by exact hb5))
    clear hown5 hb5 HT
    go_wp2_with fail
    go_loopg [12, 13, 51] T.length (fun gk _ _ i wr => ∃ (n : Nat) (x : St) (a : ByteArray) (av : Option Addr) (lv cv : Nat) (st : Int), n ≤ T.length ∧ gk = T.length - n ∧ i = .int .i64 n ∧ WkW w wr X x a av lv cv st ∧ x.ans.length ≤ 80 ∧ wr.ownsRow w.heap.size 9 1 (.slice pa pl pc) P.length (P.map strV) ∧ wr.ownsRow w.heap.size 9 1 (.slice (some ⟨gt, 0, none⟩) T.length capt) T.length (T.map strV) ∧ Hid (walkS xs (stAt xs 1) T = walkS xs x (T.drop n)))
    case atStart => exact ⟨0, _, _, _, _, _, _, by omega, by omega, rfl, unhide HWK, stAt_len xs _ (unhide HG), unhide HP, unhide HT5, hide rfl⟩
    case round =>
      obtain ⟨n, x, a, av, lv, cv, st, hn, rfl, rfl, hwk, hx80, hP, hT, HS⟩ := hrel
      clear HWK HP HT5 HWK2 f0 f1 f2 c0 c1 c2
      have hxx := hwk.at'
      have f0 := free_block (i := 0) hxx
      have f1 := free_block (i := 1) hxx
      have f2 := free_block (i := 2) hxx
      have c0 := cell_block (i := 0) hxx rfl
      have c1 := cell_block (i := 1) hxx rfl
      have c2 := cell_block (i := 2) hxx rfl
      by_cases hnt : n < T.length
      · have hcell := own_str_at hT hnt
        have HSN := hide ((unhide HS).trans (walkS_on xs x T n hnt))
        have hes : (⟨T[n].toArray⟩ : ByteArray).data.toList = T[n] := by simp
        have HFO := hide (hubFollow_any a (.slice av lv cv) st ⟨T[n].toArray⟩ x.edges w.heap.size wr hwk.own)
        rw [hes, hwk.star] at HFO
        rw [← hwk.star] at HFO
        have HWK := hide hwk
        have HP := hide hP
        have HT := hide hT
        clear hwk hP hT hxx hes
        generalize (⟨T[n].toArray⟩ : ByteArray) = es at *
        go_wp2_with fail
        refine (unhide HFO).mono ?_
        rintro e w6 ⟨rfl, hb6⟩
        replace HWK := hide ((unhide HWK).on hb6)
        replace HP := hide (own_below (unhide HP) hb6)
        replace HT := hide (own_below (unhide HT) hb6)
        clear hb6 HFO f0 f1 f2 c0 c1 c2 hcell
        go_wp2_with fail
        refine (stateAt_any P _ _ w.heap.size _ (unhide HP) (unhide HPL)).mono ?_
        rintro e w7 ⟨a', av', lv', cv', st', rfl, ha, hsx, hoe, hb7⟩
        rw [unhide HRD _] at ha hsx hoe
        have hx7 := ((unhide HWK).on hb7).at'
        have f0 := free_block (i := 0) hx7
        have f1 := free_block (i := 1) hx7
        have f2 := free_block (i := 2) hx7
        have c0 := cell_block (i := 0) hx7 rfl
        have c1 := cell_block (i := 1) hx7 rfl
        have c2 := cell_block (i := 2) hx7 rfl
        have HWK2 := hide ((unhide HWK).put hb7 ha hsx hoe)
        replace HP := hide (own_putX hx7 (own_below (unhide HP) hb7) (by decide) a' (.slice av' lv' cv') st')
        replace HT := hide (own_putX hx7 (own_below (unhide HT) hb7) (by decide) a' (.slice av' lv' cv') st')
        rw [(unhide HWK).star] at HWK2
        clear ha hsx hoe hb7 hx7
        go_wp2_with fail
        go_roundg (T.length - (n + 1))
        case measure => omega
        case rel => exact ⟨n + 1, _, a', av', lv', cv', st', by omega, rfl, by go_num, unhide HWK2, stAt_len xs _ (unhide HG), unhide HP, unhide HT, HSN⟩
      · have HSN := hide ((unhide HS).trans (walkS_end xs x T n hnt))
        have HWK := hide hwk
        have hsz : a.size ≤ 1000 := by
          have := hwk.ans
          rw [← len_list, this]; omega
        clear hwk hP hT hxx
        go_wp2_with fail
        refine (whoOf_any a _ hsz).mono ?_
        rintro e w8 ⟨v, rfl, hown8, hb8⟩
        have hwb := (unhide HWK).below
        have HI : Hid (IntsPost w (walkR c.data.toList t.data.toList) (.returned (.tuple #[v, .int .i64 0, .int .i64 0])) w8) := by
          unfold Hid
          rw [unhide HR, unhide HSN, ← (unhide HWK).ans]
          exact ⟨v, rfl, own_mono (by simpa [intsOf] using hown8) hwb.size, hwb.trans (hb8.mono hwb.size)⟩
        clear hown8 hb8 hwb
        go_wp2_with fail
        go_ret3
        exact unhide HI

end Go.Proofs.YtchhmojnoiephabGreatDoor

namespace Go.Proofs.YtchhmojnoiephabGreatDoor
open Go.ChangeShapes Go.WideShapes Go.ChangeAt Go.RowKit
set_option linter.unusedVariables false

set_option maxHeartbeats 1000000 in
theorem hubWalk_any (c t : ByteArray) (w : World) (hc : c.size ≤ maxLen) (ht : t.size ≤ maxLen) :
    Calls Tryz.prog 19 #[.string c, .string t] w (IntsPost w (walkR c.data.toList t.data.toList)) := by
  have hc' := hc
  have ht' := ht
  unfold maxLen at hc ht
  by_cases h1 : 40000 < (c.size : Int)
  · go_enter Tryz.func19, Tryz.ntmps19
    go_wp2_with fail
    go_ret3
    exact IntsPost.none (walkR_long c t (Or.inl h1)) (Below.refl _ _)
  by_cases h2 : 24 < (t.size : Int)
  · go_enter Tryz.func19, Tryz.ntmps19
    go_wp2_with fail
    go_ret3
    exact IntsPost.none (walkR_long c t (Or.inr h2)) (Below.refl _ _)
  by_cases h3 : (codeR c.data.toList).1 = 0
  · by_cases h4 : (topicR t.data.toList).1 = 0
    · exact hubWalk_good c t w hc' ht' (by omega) (by omega) h3 h4
    · have b3 : ((codeR c.data.toList).1 != 0) = false := by simp [h3]
      have b4 : ((topicR t.data.toList).1 != 0) = true := by simp [h4]
      have HR := hide (walkR_topic c t (by omega) (by omega) h3 h4)
      clear h3 h4
      go_enter Tryz.func19, Tryz.ntmps19
      go_wp2_with fail
      refine (hubCode_any c _ hc').mono ?_
      rintro e w1 ⟨rfl, hb1⟩
      go_wp2_with fail
      refine (hubTopic_any t _ ht').mono ?_
      rintro e w1' ⟨rfl, rfl⟩
      go_wp2_with fail
      go_ret3
      exact IntsPost.none (unhide HR) hb1
  · have b3 : ((codeR c.data.toList).1 != 0) = true := by simp [h3]
    have HR := hide (walkR_code c t (by omega) (by omega) h3)
    clear h3
    go_enter Tryz.func19, Tryz.ntmps19
    go_wp2_with fail
    refine (hubCode_any c _ hc').mono ?_
    rintro e w1 ⟨rfl, hb1⟩
    go_wp2_with fail
    go_ret3
    exact IntsPost.none (unhide HR) hb1

end Go.Proofs.YtchhmojnoiephabGreatDoor

namespace Go.Proofs.YtchhmojnoiephabGreatDoor
open Go.ChangeShapes Go.WideShapes Go.ChangeAt Go.RowKit
set_option linter.unusedVariables false

/-- what the laws ask of the program's CheckCode and Walk -/
structure HubCodeI where
  check : ∀ (s : ByteArray) w, s.size ≤ maxLen → Calls Tryz.prog 47 #[.string s] w fun e w' => e = .returned (.tuple #[.int .i64 (codeR s.data.toList).1, .int .i64 (codeR s.data.toList).2]) ∧ Below w.heap.size w w'
  walk : ∀ (c t : ByteArray) w, c.size ≤ maxLen → t.size ≤ maxLen → Calls Tryz.prog 19 #[.string c, .string t] w fun e w' =>
    ∃ v, e = .returned (.tuple #[v, .int .i64 (walkR c.data.toList t.data.toList).2.1, .int .i64 (walkR c.data.toList t.data.toList).2.2]) ∧ IntsAt w' v (walkR c.data.toList t.data.toList).1 ∧ Below w.heap.size w w'

set_option maxHeartbeats 400000 in
theorem codeChecks_of (I : HubCodeI) (a0 : ByteArray) (w0 : a0.size ≤ maxLen) (w : World) :
    Calls Tryz.prog 55 #[.string a0] w fun e w' => e = .returned (.bool true) ∧ Below w.heap.size w w' := by
  go_enter Tryz.func55, Tryz.ntmps55
  go_wp2_with fail
  refine (I.check a0 _ w0).mono ?_
  rintro e w1 ⟨rfl, hb1⟩
  go_wp2_with fail
  refine (refCode_any a0 _ w0).mono ?_
  rintro e w2 ⟨rfl, hb2⟩
  have hb := hb1.trans (hb2.mono hb1.size)
  clear hb1 hb2
  generalize codeR a0.data.toList = r at *
  go_wp2_with (go_at_call 34; refine (num_any _ _).mono ?_; rintro e w' ⟨rfl, rfl⟩)
  go_ret
  exact ⟨by simp, hb⟩

set_option maxHeartbeats 400000 in
theorem walks_of (I : HubCodeI) (a0 : ByteArray) (a1 : ByteArray) (w0 : a0.size ≤ maxLen) (w1 : a1.size ≤ maxLen) (w : World) :
    Calls Tryz.prog 56 #[.string a0, .string a1] w fun e w' => e = .returned (.bool true) ∧ Below w.heap.size w w' := by
  go_enter Tryz.func56, Tryz.ntmps56
  go_wp2_with fail
  refine (I.walk a0 a1 _ w0 w1).mono ?_
  rintro e w2 ⟨v, rfl, hi, hb1⟩
  go_wp2_with fail
  refine (refWalk_any a0 a1 _ w0 w1).mono ?_
  rintro e w3 ⟨v3, rfl, hown3, hb2⟩
  have HI := hide (hi.below hb2)
  have HO := hide (IntsAt.of_own hown3)
  have HB := hide (hb1.trans (hb2.mono hb1.size))
  clear hb1 hb2 hi hown3
  generalize walkR a0.data.toList a1.data.toList = r at *
  go_wp2_with fail
  refine (same_any v v3 r.1 r.1 _ (unhide HI) (unhide HO)).mono ?_
  rw [show sameL r.1 r.1 = true from by simp [sameL]]
  rintro e w4 ⟨rfl, n, rfl⟩
  go_wp2_with (go_at_call 34; refine (num_any _ _).mono ?_; rintro e w' ⟨rfl, rfl⟩)
  go_ret
  exact ⟨by simp, (unhide HB).trans ⟨rfl, rfl, rfl, Nat.le_refl _, fun _ _ => rfl⟩⟩

end Go.Proofs.YtchhmojnoiephabGreatDoor

namespace Go.Proofs.YtchhmojnoiephabGreatDoor
open Go.ChangeShapes Go.WideShapes Go.ChangeAt Go.RowKit
set_option linter.unusedVariables false

theorem hubCodeI : HubCodeI :=
  ⟨fun s w hs => hubCode_any s w hs, fun c t w hc ht => (hubWalk_any c t w hc ht).mono fun e w' h => by
    obtain ⟨v, he, ho, hb⟩ := h
    exact ⟨v, he, IntsAt.of_own ho, hb⟩⟩

end Go.Proofs.YtchhmojnoiephabGreatDoor

namespace Go.Proofs.YtchhmojnoiephabGreatDoor
open Go.ChangeShapes Go.WideShapes Go.ChangeAt Go.RowKit

theorem codeChecks_walk (a0 : ByteArray) (w0 : a0.size ≤ maxLen) (w : World) :
    Calls Tryz.prog 55 #[.string a0] w fun e w' => e = .returned (.bool true) ∧ Below w.heap.size w w' := codeChecks_of hubCodeI a0 w0 w

end Go.Proofs.YtchhmojnoiephabGreatDoor

namespace Go.Proofs.YtchhmojnoiephabGreatDoor
open Go.ChangeShapes Go.WideShapes Go.ChangeAt Go.RowKit

theorem walks_walk (a0 : ByteArray) (a1 : ByteArray) (w0 : a0.size ≤ maxLen) (w1 : a1.size ≤ maxLen) (w : World) :
    Calls Tryz.prog 56 #[.string a0, .string a1] w fun e w' => e = .returned (.bool true) ∧ Below w.heap.size w w' := walks_of hubCodeI a0 a1 w0 w1 w

end Go.Proofs.YtchhmojnoiephabGreatDoor
