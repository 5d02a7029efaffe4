import Derived.Test.YtchhmojnoiephaaDoorWalkK
import Derived.Test.YtchhmojnoiephaaDoorWalkB
import Derived.Test.YtchhmojnoiephaaDoorPureI
/- The program's own reading of code: the pieces, the letters, the signs, a number, whether levels rise. -/
namespace Go.Proofs.YtchhmojnoiephaaDoor
open Go.ChangeShapes Go.WideShapes Go.ChangeAt Go.RowKit
set_option linter.unusedVariables false

set_option maxHeartbeats 1000000 in
theorem split_any (q : Nat) (hq : q < 256) (s : ByteArray) (w : World) (hs : s.size ≤ 1000000) :
    Calls Tryd.prog 29 #[.string s, .int .u8 (q : Int)] w fun e w' => ∃ v, e = .returned v ∧ w'.ownsRow w.heap.size 9 1 v (splitB (q : Int) s.data.toList).length ((splitB (q : Int) s.data.toList).map strV) ∧ Below w.heap.size w w' := by
  obtain ⟨i0, hi, hz0, hz1, hz2⟩ := info_parts info_string
  go_enter Tryd.func29, Tryd.ntmps29
  go_wp2
  go_loopw [5, 6, 7] (fun v fr i wr => ∃ (k a : Nat) (G : List (List UInt8)), k ≤ s.size ∧ a ≤ k ∧ i = .int .i64 k ∧ fr = .int .i64 a ∧ G.length ≤ k ∧ wr.ownsRow w.heap.size 9 1 v G.length (G.map strV) ∧ Hid (splitB (q : Int) s.data.toList = G ++ splitB (q : Int) (s.data.toList.drop a)) ∧ Hid (a + runB (q : Int) (s.data.toList.drop a) = k + runB (q : Int) (s.data.toList.drop k)) ∧ Below w.heap.size w wr)
    (fun _ _ i _ => s.size - (intOf i).toNat)
  case atStart => exact ⟨0, 0, [], Nat.zero_le _, Nat.le_refl _, rfl, rfl, Nat.le_refl _, World.ownsRow_nil _ _ _ _, hide (by simp), hide rfl, Below.refl _ _⟩
  case round =>
    obtain ⟨k, a, G, hk, ha, rfl, rfl, hG, hown, HL, HR, hb⟩ := hrel
    have hB := hb.size
    by_cases hlt : k < s.size
    · by_cases hsl : (s[k].toNat : Int) = (q : Int)
      · have hsb : ((s[k].toNat : Int) == (q : Int)) = true := by rw [hsl]; simp
        have HC : Hid (splitB (q : Int) (s.data.toList.drop a) = (s.data.toList.drop a).take (k - a) :: splitB (q : Int) (s.data.toList.drop (k + 1))) :=
          splitB_cut (q : Int) s.data.toList a k ha (by rw [len_list]; exact hlt) (unhide HR) (by rw [get_list s k hlt]; exact hsl)
        clear hsl
        go_wp2_with (at_builtin; refine wpList_append_own _ rfl _ _ 68 rfl w.heap.size 9 i0 (.string ByteArray.empty) 1 16 Tryd.underlying68 hi hz0 hz1 hz2 rfl (by decide) _ _ _ rfl (hown.alloc _) ⟨wr.heap.size, 0, none⟩ 1 1 [.string (s.extract a k)] rfl rfl ?c1 ?c2 ?c3 ?c4 ?c5 ?_)
        case c1 =>
          intro j u hj
          match j, hj with
          | 0, hj => simp at hj; subst hj; simp [Addr.add]
        case c2 => intro u hu; simp at hu; subst hu; rfl
        case c3 => unfold maxLen; omega
        case c4 => omega
        case c5 => simp; omega
        intro v' w1 hown' hgrow _
        have hb1 := below_push hb hB hown hgrow
        have hown1 := own_push (strV_cut s a k) hown'
        have hB1 := hb1.size
        clear hown' hgrow hown hb
        go_wp2
        go_roundw
        case rel => exact ⟨k + 1, k + 1, G ++ [(s.data.toList.drop a).take (k - a)], by omega, by omega, by go_num, by go_num, by simp; omega, hown1, hide (by rw [unhide HL, unhide HC]; simp), hide rfl, hb1⟩
        case measure => simp [intOf]; omega
      · have hsb : ((s[k].toNat : Int) == (q : Int)) = false := by rw [beq_eq_false_iff_ne]; exact hsl
        have HC := hide (runB_other (q : Int) s.data.toList k (by rw [len_list]; exact hlt) (by rw [get_list s k hlt]; exact hsl))
        clear hsl
        go_wp2
        go_roundw
        case rel => exact ⟨k + 1, a, G, by omega, by omega, by go_num, rfl, by omega, hown, HL, hide (by rw [unhide HR, unhide HC]; omega), hb⟩
        case measure => simp [intOf]; omega
    · have HC : Hid (splitB (q : Int) s.data.toList = G ++ [(s.data.toList.drop a).take (s.size - a)]) := by
        have := splitB_last (q : Int) s.data.toList a k ha (by rw [len_list]; omega) (unhide HR)
        rw [unhide HL, this]
        have : k = s.size := by omega
        rw [this]; rfl
      go_wp2_with (at_builtin; refine wpList_append_own _ rfl _ _ 68 rfl w.heap.size 9 i0 (.string ByteArray.empty) 1 16 Tryd.underlying68 hi hz0 hz1 hz2 rfl (by decide) _ _ _ rfl (hown.alloc _) ⟨wr.heap.size, 0, none⟩ 1 1 [.string (s.extract a s.size)] rfl rfl ?d1 ?d2 ?d3 ?d4 ?d5 ?_)
      case d1 =>
        intro j u hj
        match j, hj with
        | 0, hj => simp at hj; subst hj; simp [Addr.add]
      case d2 => intro u hu; simp at hu; subst hu; rfl
      case d3 => unfold maxLen; omega
      case d4 => omega
      case d5 => simp; omega
      intro v' w1 hown' hgrow _
      have hb1 := below_push hb hB hown hgrow
      have hown1 := own_push (strV_cut s a s.size) hown'
      clear hown' hgrow hown hb
      go_wp2
      go_ret
      exact ⟨v', rfl, by rw [unhide HC]; exact hown1, hb1⟩

theorem anE_on (s : ByteArray) (p : Int) (k : Nat) (h : k < s.size) (hc : p < (s[k].toNat : Int) ∧ (s[k].toNat : Int) ≤ 80) : ansE p (s.data.toList.drop k) = ansE (s[k].toNat : Int) (s.data.toList.drop (k + 1)) + 1 := by
  have := ansE_on p k s.data.toList (by rw [len_list]; exact h) (by rw [get_list s k h]; exact hc)
  rw [get_list s k h] at this; exact this
theorem anE_off (s : ByteArray) (p : Int) (k : Nat) (h : k < s.size) (hc : ¬ (p < (s[k].toNat : Int) ∧ (s[k].toNat : Int) ≤ 80)) : ansE p (s.data.toList.drop k) = 0 :=
  ansE_off p k _ (by rw [len_list]; exact h) (by rw [get_list s k h]; exact hc)
theorem anE_end (s : ByteArray) (p : Int) (k : Nat) (h : ¬ k < s.size) : ansE p (s.data.toList.drop k) = 0 := ansE_end p k _ (by rw [len_list]; exact h)

set_option maxHeartbeats 1000000 in
theorem answerEnd_any (s : ByteArray) (w : World) (hs : s.size ≤ 1000000) :
    Calls Tryd.prog 49 #[.string s] w fun e w' => e = .returned (.int .i64 ((ansE 64 s.data.toList : Nat) : Int)) ∧ w' = w := by
  go_enter Tryd.func49, Tryd.ntmps49
  go_wp2
  go_loop [3, 4] (fun en bf => ∃ (k p : Nat), k ≤ s.size ∧ en = .int .i64 k ∧ bf = .int .u8 (p : Int) ∧ p < 256 ∧ Hid (ansE 64 s.data.toList = k + ansE (p : Int) (s.data.toList.drop k))) (fun en _ => s.size - (intOf en).toNat)
  case atStart => exact ⟨0, 64, by omega, rfl, rfl, by omega, hide (by simp)⟩
  case round =>
    obtain ⟨k, p, hk, rfl, rfl, hp, HE⟩ := hrel
    by_cases hlt : k < s.size
    · by_cases h1 : (p : Int) < (s[k].toNat : Int)
      · by_cases h2 : (s[k].toNat : Int) ≤ 80
        · have HZ := hide (anE_on s (p : Int) k hlt ⟨h1, h2⟩)
          have h256 : s[k].toNat < 256 := by omega
          go_wp2
          go_round
          case rel => exact ⟨k + 1, s[k].toNat, by omega, by go_num, rfl, h256, hide (by rw [unhide HE, unhide HZ]; omega)⟩
          case measure => simp [intOf]; omega
        · have HZ := hide (anE_off s (p : Int) k hlt (by omega))
          have h3 : 80 < (s[k].toNat : Int) := by omega
          go_wp2
          go_ret
          exact ⟨ret_int (by rw [unhide HE, unhide HZ]; rfl), rfl⟩
      · have HZ := hide (anE_off s (p : Int) k hlt (by omega))
        have h3 : (s[k].toNat : Int) ≤ (p : Int) := by omega
        go_wp2
        go_ret
        exact ⟨ret_int (by rw [unhide HE, unhide HZ]; rfl), rfl⟩
    · have HZ := hide (anE_end s (p : Int) k hlt)
      go_wp2
      go_ret
      exact ⟨ret_int (by rw [unhide HE, unhide HZ]; rfl), rfl⟩

set_option maxHeartbeats 1000000 in
theorem signsEnd_any (s : ByteArray) (st : Nat) (w : World) (hs : s.size ≤ 1000000) (hst : st ≤ s.size) :
    Calls Tryd.prog 50 #[.string s, .int .i64 (st : Int)] w fun e w' => e = .returned (.int .i64 ((st + signLen (s.data.toList.drop st) : Nat) : Int)) ∧ w' = w := by
  go_enter Tryd.func50, Tryd.ntmps50
  go_wp2
  go_loop [5] (fun en => ∃ k : Nat, k ≤ s.size ∧ en = .int .i64 k ∧ Hid (st + signLen (s.data.toList.drop st) = k + signLen (s.data.toList.drop k))) (fun en => s.size - (intOf en).toNat)
  case atStart => exact ⟨st, hst, rfl, hide rfl⟩
  case round =>
    obtain ⟨k, hk, rfl, HE⟩ := hrel
    by_cases hlt : k < s.size
    · cases hsg : signB (s[k].toNat : Int)
      · have HZ := hide (sgn_no s k hlt hsg)
        go_wp2_with (go_at_call 53; refine (hubSign_any _ _).mono ?_; rintro e w' ⟨rfl, rfl⟩)
        go_ret
        exact ⟨ret_int (by have h1 := unhide HE; have h2 := unhide HZ; omega), rfl⟩
      · have HZ := hide (sgn_on s k hlt hsg)
        go_wp2_with (go_at_call 53; refine (hubSign_any _ _).mono ?_; rintro e w' ⟨rfl, rfl⟩)
        go_round
        case rel => exact ⟨k + 1, by omega, by go_num, hide (by rw [unhide HE, unhide HZ]; omega)⟩
        case measure => simp [intOf]; omega
    · have HZ := hide (sgn_end s k hlt)
      go_wp2
      go_ret
      exact ⟨ret_int (by have h1 := unhide HE; have h2 := unhide HZ; omega), rfl⟩

theorem numB_at (s : ByteArray) (k : Nat) (m : Int) (h : k < s.size) (hm : (s[k].toNat : Int) = m) : numB (s.data.toList.drop k) m = dig3 (s.data.toList.drop (k + 1)) := by
  unfold numB; rw [if_pos (by rw [head_at s k h]; exact hm), List.tail_drop]
theorem numB_no (s : ByteArray) (k : Nat) (m : Int) (h : k < s.size) (hm : ¬ (s[k].toNat : Int) = m) : numB (s.data.toList.drop k) m = -1 := by
  unfold numB; rw [if_neg (by rw [head_at s k h]; exact hm)]
theorem numB_short (s : ByteArray) (k : Nat) (m : Int) (h : s.size < k + 4) : numB (s.data.toList.drop k) m = -1 := by
  unfold numB
  split
  · rw [List.tail_drop]
    refine Classical.byContradiction fun hn => ?_
    have h0 : 0 ≤ dig3 (s.data.toList.drop (k + 1)) := by
      refine Classical.byContradiction fun h0 => hn ?_
      unfold dig3 at h0 ⊢
      generalize s.data.toList.drop (k + 1) = l at h0 ⊢
      match l with
      | [] => rfl
      | [a] => simp only [digFrom] at h0 ⊢; split <;> rfl
      | [a, b] => simp only [digFrom] at h0 ⊢; split <;> (try split) <;> rfl
      | a :: b :: c :: r =>
        simp only [digFrom] at h0 ⊢
        split
        · rename_i h1; rw [if_pos h1] at h0
          split
          · rename_i h2; rw [if_pos h2] at h0
            split
            · rename_i h3; rw [if_pos h3] at h0; omega
            · rfl
          · rfl
        · rfl
    have := (dig3_len _ h0).1
    rw [List.length_drop, len_list] at this
    omega
  · rfl

set_option maxHeartbeats 2000000 in
theorem numberBehind_any (s : ByteArray) (p m : Nat) (w : World) (hs : s.size ≤ 1000000) (hp : p ≤ 2000000) (hm : m < 256) :
    Calls Tryd.prog 51 #[.string s, .int .i64 (p : Int), .int .u8 (m : Int)] w fun e w' => e = .returned (.int .i64 (numB (s.data.toList.drop p) (m : Int))) ∧ w' = w := by
  by_cases h4 : (s.size : Int) - (p : Int) < 4
  · have HZ := hide (numB_short s p (m : Int) (by omega))
    go_enter Tryd.func51, Tryd.ntmps51
    go_wp2
    go_ret
    exact ⟨ret_int (unhide HZ).symm, rfl⟩
  · have hlt : p < s.size := by omega
    by_cases hmk : (s[p].toNat : Int) = (m : Int)
    · have hmb : ((s[p].toNat : Int) != (m : Int)) = false := by rw [hmk]; simp
      have HM := hide (numB_at s p (m : Int) hlt hmk)
      clear hmk
      go_enter Tryd.func51, Tryd.ntmps51
      go_wp2
      go_loop [7, 8] (fun v k => ∃ (j : Nat) (x : Int), j ≤ 3 ∧ k = .int .i64 ((p : Int) + 1 + j) ∧ v = .int .i64 x ∧ 0 ≤ x ∧ (j = 0 → x = 0) ∧ (j ≤ 1 → x ≤ 9) ∧ (j ≤ 2 → x ≤ 99) ∧ x ≤ 999 ∧ Hid (dig3 (s.data.toList.drop (p + 1)) = digFrom x (3 - j) (s.data.toList.drop (p + 1 + j)))) (fun _ k => p + 4 - (intOf k).toNat)
      case atStart => exact ⟨0, 0, by omega, by go_num, rfl, by omega, by omega, by omega, by omega, by omega, hide rfl⟩
      case round =>
        obtain ⟨j, x, hj, rfl, rfl, h0, h1, h2, h3, h9, HB⟩ := hrel
        by_cases hj3 : j < 3
        · obtain ⟨mm, hmm⟩ : ∃ mm, 3 - j = mm + 1 := ⟨2 - j, by omega⟩
          rw [hmm] at HB
          have HMM := hide hmm
          clear hmm
          have hl2 : p + 1 + j < s.size := by omega
          by_cases hd : 48 ≤ (s[p + 1 + j].toNat : Int) ∧ (s[p + 1 + j].toNat : Int) ≤ 57
          · have HG := hide (dig_good s x mm (p + 1 + j) hl2 hd)
            obtain ⟨d1, d2⟩ := hd
            go_wp2
            go_round
            case rel => exact ⟨j + 1, 10 * x + ((s[p + 1 + j].toNat : Int) - 48), by omega, by go_num, by go_num, by omega, by omega, by omega, by omega, by omega, hide (by rw [unhide HB, unhide HG]; have := unhide HMM; rw [show 3 - (j + 1) = mm from by omega]; rfl)⟩
            case measure => simp [intOf]; omega
          · have HG := hide (dig_bad s x mm (p + 1 + j) hl2 hd)
            have hd' : (s[p + 1 + j].toNat : Int) < 48 ∨ (57 < (s[p + 1 + j].toNat : Int) ∧ 48 ≤ (s[p + 1 + j].toNat : Int)) := by omega
            clear hd
            rcases hd' with d1 | ⟨d1, d2⟩
            all_goals
              go_wp2
              go_ret
              exact ⟨ret_int (((unhide HM).trans (unhide HB)).trans (unhide HG)).symm, rfl⟩
        · have hm0 : 3 - j = 0 := by omega
          rw [hm0] at HB
          clear hm0
          go_wp2
          go_ret
          exact ⟨ret_int ((unhide HM).trans (unhide HB)).symm, rfl⟩
    · have hmb : ((s[p].toNat : Int) != (m : Int)) = true := by rw [bne_iff_ne]; exact hmk
      have HZ := hide (numB_no s p (m : Int) hlt hmk)
      clear hmk
      go_enter Tryd.func51, Tryd.ntmps51
      go_wp2
      go_ret
      exact ⟨ret_int (unhide HZ).symm, rfl⟩

end Go.Proofs.YtchhmojnoiephaaDoor
