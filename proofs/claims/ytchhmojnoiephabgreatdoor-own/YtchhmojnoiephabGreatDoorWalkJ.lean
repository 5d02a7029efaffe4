import Derived.Test.YtchhmojnoiephabGreatDoorWalkA
import Derived.Test.YtchhmojnoiephabGreatDoorPureD
import Derived.WalkSpells
namespace Go.Proofs.YtchhmojnoiephabGreatDoor
open Go.ChangeShapes Go.WideShapes Go.ChangeAt Go.RowKit
set_option linter.unusedVariables false

theorem dig_end (s : ByteArray) (v : Int) (m k : Nat) (h : ¬ k < s.size) : digFrom v (m + 1) (s.data.toList.drop k) = -1 :=
  digFrom_end v m k _ (by rw [len_list]; exact h)
theorem dig_bad (s : ByteArray) (v : Int) (m k : Nat) (h : k < s.size) (hd : ¬ (48 ≤ (s[k].toNat : Int) ∧ (s[k].toNat : Int) ≤ 57)) : digFrom v (m + 1) (s.data.toList.drop k) = -1 :=
  digFrom_bad v m k _ (by rw [len_list]; exact h) (by rw [get_list s k h]; exact hd)
theorem dig_good (s : ByteArray) (v : Int) (m k : Nat) (h : k < s.size) (hd : 48 ≤ (s[k].toNat : Int) ∧ (s[k].toNat : Int) ≤ 57) :
    digFrom v (m + 1) (s.data.toList.drop k) = digFrom (10 * v + ((s[k].toNat : Int) - 48)) m (s.data.toList.drop (k + 1)) := by
  have := digFrom_good v m k s.data.toList (by rw [len_list]; exact h) (by rw [get_list s k h]; exact hd)
  rw [get_list s k h] at this; exact this

set_option maxHeartbeats 1000000 in
theorem number_any (s : ByteArray) (i : Nat) (w : World) (hs : s.size ≤ 1000000) (hi : i ≤ 2000000) :
    Calls Tryz.prog 130 #[.string s, .int .i64 (i : Int)] w fun e w' => e = .returned (.int .i64 (dig3 (s.data.toList.drop i))) ∧ w' = w := by
  go_enter Tryz.func130, Tryz.ntmps130
  go_wp2
  go_loop [5, 6] (fun v k => ∃ (j : Nat) (x : Int), j ≤ 3 ∧ k = .int .i64 ((i : Int) + j) ∧ v = .int .i64 x ∧ 0 ≤ x ∧ (j = 0 → x = 0) ∧ (j ≤ 1 → x ≤ 9) ∧ (j ≤ 2 → x ≤ 99) ∧ x ≤ 999 ∧ Hid (dig3 (s.data.toList.drop i) = digFrom x (3 - j) (s.data.toList.drop (i + j)))) (fun _ k => i + 3 - (intOf k).toNat)
  case atStart => exact ⟨0, 0, by omega, by go_num, rfl, by omega, by omega, by omega, by omega, by omega, hide rfl⟩
  case round =>
    obtain ⟨j, x, hj, rfl, rfl, h0, h1, h2, h3, h4, HB⟩ := hrel
    by_cases hj3 : j < 3
    · obtain ⟨m, hm⟩ : ∃ m, 3 - j = m + 1 := ⟨2 - j, by omega⟩
      rw [hm] at HB
      have HM := hide hm
      clear hm
      by_cases hlt : i + j < s.size
      · by_cases hd : 48 ≤ (s[i + j].toNat : Int) ∧ (s[i + j].toNat : Int) ≤ 57
        · have HG := hide (dig_good s x m (i + j) hlt hd)
          obtain ⟨d1, d2⟩ := hd
          go_wp2
          go_round
          case rel => exact ⟨j + 1, 10 * x + ((s[i + j].toNat : Int) - 48), by omega, by go_num, rfl, by omega, by omega, by omega, by omega, by omega, hide (by rw [unhide HB, unhide HG]; have := unhide HM; rw [show 3 - (j + 1) = m from by omega]; rfl)⟩
          case measure => simp [intOf]; omega
        · have HG := hide (dig_bad s x m (i + j) hlt hd)
          have hd' : (s[i + j].toNat : Int) < 48 ∨ (57 < (s[i + j].toNat : Int) ∧ 48 ≤ (s[i + j].toNat : Int)) := by omega
          clear hd
          rcases hd' with d1 | ⟨d1, d2⟩
          all_goals
            go_wp2
            go_ret
            exact ⟨ret_int ((unhide HB).trans (unhide HG)).symm, rfl⟩
      · have HG := hide (dig_end s x m (i + j) hlt)
        go_wp2
        go_ret
        exact ⟨ret_int ((unhide HB).trans (unhide HG)).symm, rfl⟩
    · have hm : 3 - j = 0 := by omega
      rw [hm] at HB
      clear hm
      go_wp2
      go_ret
      exact ⟨ret_int (unhide HB).symm, rfl⟩

end Go.Proofs.YtchhmojnoiephabGreatDoor
