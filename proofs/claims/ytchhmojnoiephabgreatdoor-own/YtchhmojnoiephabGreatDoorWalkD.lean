import Derived.Test.YtchhmojnoiephabGreatDoorWalkB
import Derived.Test.YtchhmojnoiephabGreatDoorPureB
import Derived.WalkSpells
namespace Go.Proofs.YtchhmojnoiephabGreatDoor
open Go.ChangeShapes Go.WideShapes Go.ChangeAt Go.RowKit
set_option linter.unusedVariables false

theorem headI_zero (s : ByteArray) (h : s.size = 0) : headI s.data.toList = -1 := by
  have : s.data.toList = [] := List.length_eq_zero_iff.1 (by rw [len_list]; exact h)
  rw [this]; rfl
theorem headI_pos (s : ByteArray) (h : 0 < s.size) : headI s.data.toList = (s[0].toNat : Int) := by
  obtain ⟨⟨l⟩⟩ := s
  cases l with
  | nil => exact absurd h (Nat.lt_irrefl 0)
  | cons c r => rfl

set_option maxHeartbeats 400000 in
theorem begins_any (s : ByteArray) (c : Int) (w : World) (hs : s.size ≤ maxLen) (hc : 0 ≤ c) :
    Calls Tryz.prog 45 #[.string s, .int .u8 c] w fun e w' => e = .returned (.bool (headI s.data.toList == c)) ∧ w' = w := by
  unfold maxLen at hs
  by_cases h0 : 0 < s.size
  · have HD := hide (headI_pos s h0)
    go_enter Tryz.func45, Tryz.ntmps45
    go_wp2
    all_goals
      go_ret
      exact ⟨ret_bool (by rw [unhide HD]), rfl⟩
  · have HD := hide (headI_zero s (by omega))
    go_enter Tryz.func45, Tryz.ntmps45
    go_wp2
    go_ret
    exact ⟨ret_bool (by rw [unhide HD]; symm; simp; omega), rfl⟩

theorem runLen_slash' (s : ByteArray) (k : Nat) (h : k < s.size) (hs : (s[k].toNat : Int) = 47) : runLen (s.data.toList.drop k) = 0 :=
  runLen_slash s.data.toList k (by simpa using h) (by rw [get_list s k h]; exact hs)
theorem runLen_other' (s : ByteArray) (k : Nat) (h : k < s.size) (hs : ¬ (s[k].toNat : Int) = 47) : runLen (s.data.toList.drop k) = runLen (s.data.toList.drop (k + 1)) + 1 :=
  runLen_other s.data.toList k (by simpa using h) (by rw [get_list s k h]; exact hs)
theorem runLen_end' (s : ByteArray) (k : Nat) (h : ¬ k < s.size) : runLen (s.data.toList.drop k) = 0 :=
  runLen_end s.data.toList k (by rw [len_list]; exact h)
theorem runLen_le' (s : ByteArray) (k : Nat) (h : k ≤ s.size) : k + runLen (s.data.toList.drop k) ≤ s.size := by
  have := runLen_le (s.data.toList.drop k)
  rw [List.length_drop, len_list] at this; omega

set_option maxHeartbeats 400000 in
theorem levelEnd_any (s : ByteArray) (st : Nat) (w : World) (hs : s.size ≤ maxLen) (h : st ≤ s.size) :
    Calls Tryz.prog 107 #[.string s, .int .i64 (st : Int)] w fun e w' => e = .returned (.int .i64 ((st + runLen (s.data.toList.drop st) : Nat) : Int)) ∧ w' = w := by
  unfold maxLen at hs
  go_enter Tryz.func107, Tryz.ntmps107
  go_wp2
  go_loop [5] (fun i => ∃ k : Nat, k ≤ s.size ∧ i = .int .i64 k ∧ Hid (st + runLen (s.data.toList.drop st) = k + runLen (s.data.toList.drop k))) (fun i => s.size - (intOf i).toNat)
  case atStart => exact ⟨st, h, rfl, hide rfl⟩
  case round =>
    obtain ⟨k, hk, rfl, HB⟩ := hrel
    by_cases hlt : k < s.size
    · by_cases hsl : (s[k].toNat : Int) = 47
      · have hsb : ((s[k].toNat : Int) != 47) = false := by simp [hsl]
        have HS := hide hsl
        clear hsl
        go_wp2
        go_ret
        exact ⟨ret_int (by have h1 := unhide HB; have h2 := runLen_slash' s k hlt (unhide HS); omega), rfl⟩
      · have hsb : ((s[k].toNat : Int) != 47) = true := by simp [hsl]
        have HS := hide hsl
        clear hsl
        go_wp2
        go_round
        case rel => exact ⟨k + 1, by omega, by go_num, hide (by rw [unhide HB, runLen_other' s k hlt (unhide HS)]; omega)⟩
        case measure => simp [intOf]; omega
    · go_wp2
      go_ret
      exact ⟨ret_int (by have h1 := unhide HB; have h2 := runLen_end' s k hlt; omega), rfl⟩


theorem lev_eq (s : ByteArray) (a n : Nat) : (s.extract a (a + n)).data.toList = (s.data.toList.drop a).take n := by
  rw [Lib.extract_data]; congr 1; omega


set_option maxHeartbeats 1000000 in
theorem matches_any (f t : ByteArray) (w : World) (hf : f.size ≤ 24) (ht : t.size ≤ 24) :
    Calls Tryz.prog 88 #[.string f, .string t] w fun e w' => e = .returned (.bool (matchB f.data.toList t.data.toList)) ∧ w' = w := by
  have hf' : f.size ≤ maxLen := by unfold maxLen; omega
  have ht' : t.size ≤ maxLen := by unfold maxLen; omega
  have HM : Hid (∀ b, (headI t.data.toList == 36 && (headI f.data.toList == 43 || headI f.data.toList == 35)) = false → fitsL (levs f.data.toList) (levs t.data.toList) = b → b = matchB f.data.toList t.data.toList) := by
    intro b h hb
    unfold matchB
    rw [if_neg (by intro h'; simp [h'.1] at h; omega), hb]
  have HM2 : Hid ((headI t.data.toList == 36 && (headI f.data.toList == 43 || headI f.data.toList == 35)) = true → false = matchB f.data.toList t.data.toList) := by
    intro h
    unfold matchB
    rw [if_pos (by simpa using h)]
  cases h43 : (headI f.data.toList == 43) <;> cases h35 : (headI f.data.toList == 35) <;> cases h36 : (headI t.data.toList == 36)
  case true.true.true => simp at h43 h35; omega
  case true.true.false => simp at h43 h35; omega
  case true.false.true | false.true.true =>
    go_enter Tryz.func88, Tryz.ntmps88
    go_wp2_with (go_at_call 45; refine (begins_any _ _ _ (by assumption) (by decide)).mono ?_; rintro e w' ⟨rfl, rfl⟩)
    go_ret
    exact ⟨ret_bool (unhide HM2 (by rw [h43, h35, h36]; rfl)), rfl⟩
  all_goals
    replace HM : Hid (∀ b, fitsL (levsFrom f.data.toList 0) (levsFrom t.data.toList 0) = b → b = matchB f.data.toList t.data.toList) := by
      intro b hb
      rw [levsFrom_zero, levsFrom_zero] at hb
      exact (unhide HM) b (by rw [h43, h35, h36]; rfl) hb
    clear HM2
    go_enter Tryz.func88, Tryz.ntmps88
    go_wp2_with (go_at_call 45; refine (begins_any _ _ _ (by assumption) (by decide)).mono ?_; rintro e w' ⟨rfl, rfl⟩)
    go_loop [6, 7, 8, 9, 10] (fun fs ts _ _ _ => ∃ a b : Nat, a ≤ f.size + 1 ∧ b ≤ t.size + 1 ∧ fs = .int .i64 a ∧ ts = .int .i64 b ∧ Hid (fitsL (levsFrom f.data.toList 0) (levsFrom t.data.toList 0) = fitsL (levsFrom f.data.toList a) (levsFrom t.data.toList b))) (fun fs _ _ _ _ => f.size + 1 - (intOf fs).toNat)
    case atStart => exact ⟨0, 0, by omega, by omega, rfl, rfl, hide rfl⟩
    case round =>
      obtain ⟨a, b, ha, hb, rfl, rfl, HB⟩ := hrel
      by_cases h1 : a ≤ f.size
      · have hle := runLen_le' f a h1
        have hlev := lev_eq f a (runLen (f.data.toList.drop a))
        generalize hn : runLen (f.data.toList.drop a) = n at *
        have HN := hide hn
        by_cases q35 : (f.data.toList.drop a).take n = [35]
        · have b35 : ((f.extract a (a + n)).toList == [35]) = true := by rw [Lib.toList_data, hlev, q35]; rfl
          have HF : Hid (fitsL (levsFrom f.data.toList a) (levsFrom t.data.toList b) = true) := fits_hash _ _ _ (by rw [len_list]; exact h1) (by rw [hn]; exact q35)
          clear hn hlev q35
          go_wp2_with fail
          refine (levelEnd_any f a _ hf' h1).mono ?_
          rw [unhide HN]
          rintro e w' ⟨rfl, rfl⟩
          go_wp2
          go_ret
          exact ⟨ret_bool (unhide HM _ ((unhide HB).trans (unhide HF))), rfl⟩
        have b35 : ((f.extract a (a + n)).toList == [35]) = false := by rw [Lib.toList_data, hlev]; simpa using q35
        by_cases h2 : b ≤ t.size
        · have hle2 := runLen_le' t b h2
          have hlev2 := lev_eq t b (runLen (t.data.toList.drop b))
          generalize hm : runLen (t.data.toList.drop b) = m at *
          have HN2 := hide hm
          have HF1 : Hid (((f.data.toList.drop a).take n = [43] ∨ (f.data.toList.drop a).take n = (t.data.toList.drop b).take m) → fitsL (levsFrom f.data.toList a) (levsFrom t.data.toList b) = fitsL (levsFrom f.data.toList (a + n + 1)) (levsFrom t.data.toList (b + m + 1))) := by
            intro h
            have := fits_on f.data.toList t.data.toList a b (by rw [len_list]; exact h1) (by rw [hn]; exact q35) (by rw [len_list]; exact h2) (by rw [hn, hm]; exact h)
            rw [hn, hm] at this; exact this
          have HF2 : Hid (¬ (f.data.toList.drop a).take n = [43] → ¬ (f.data.toList.drop a).take n = (t.data.toList.drop b).take m → fitsL (levsFrom f.data.toList a) (levsFrom t.data.toList b) = false) := by
            intro h h'
            exact fits_off f.data.toList t.data.toList a b (by rw [len_list]; exact h1) (by rw [hn]; exact q35) (by rw [len_list]; exact h2) (by rw [hn]; exact h) (by rw [hn, hm]; exact h')
          have HL := hide hlev
          have HL2 := hide hlev2
          clear hn hm hlev hlev2 q35
          by_cases q43 : (f.data.toList.drop a).take n = [43]
          · have b43 : ((f.extract a (a + n)).toList == [43]) = true := by rw [Lib.toList_data, unhide HL, q43]; rfl
            have HG := hide (unhide HF1 (Or.inl q43))
            clear q43
            go_wp2_with fail
            refine (levelEnd_any f a _ hf' h1).mono ?_
            rw [unhide HN]
            rintro e w' ⟨rfl, rfl⟩
            go_wp2_with fail
            refine (levelEnd_any t b _ ht' h2).mono ?_
            rw [unhide HN2]
            rintro e w'' ⟨rfl, rfl⟩
            go_wp2
            go_round
            case rel => exact ⟨a + n + 1, b + m + 1, by omega, by omega, by go_num, by go_num, hide ((unhide HB).trans (unhide HG))⟩
            case measure => simp [intOf]; omega
          · have b43 : ((f.extract a (a + n)).toList == [43]) = false := by rw [Lib.toList_data, unhide HL]; simpa using q43
            by_cases qt : (f.data.toList.drop a).take n = (t.data.toList.drop b).take m
            · have bt : ((f.extract a (a + n)).toList == (t.extract b (b + m)).toList) = true := by rw [Lib.toList_data, Lib.toList_data, unhide HL, unhide HL2, qt]; simp
              have HG := hide (unhide HF1 (Or.inr qt))
              clear q43 qt
              go_wp2_with fail
              refine (levelEnd_any f a _ hf' h1).mono ?_
              rw [unhide HN]
              rintro e w' ⟨rfl, rfl⟩
              go_wp2_with fail
              refine (levelEnd_any t b _ ht' h2).mono ?_
              rw [unhide HN2]
              rintro e w'' ⟨rfl, rfl⟩
              go_wp2
              go_round
              case rel => exact ⟨a + n + 1, b + m + 1, by omega, by omega, by go_num, by go_num, hide ((unhide HB).trans (unhide HG))⟩
              case measure => simp [intOf]; omega
            · have bt : ((f.extract a (a + n)).toList == (t.extract b (b + m)).toList) = false := by rw [Lib.toList_data, Lib.toList_data, unhide HL, unhide HL2]; simpa using qt
              have HG := hide (unhide HF2 q43 qt)
              clear q43 qt
              go_wp2_with fail
              refine (levelEnd_any f a _ hf' h1).mono ?_
              rw [unhide HN]
              rintro e w' ⟨rfl, rfl⟩
              go_wp2_with fail
              refine (levelEnd_any t b _ ht' h2).mono ?_
              rw [unhide HN2]
              rintro e w'' ⟨rfl, rfl⟩
              go_wp2
              go_ret
              exact ⟨ret_bool (unhide HM _ ((unhide HB).trans (unhide HG))), rfl⟩
        · have HF : Hid (fitsL (levsFrom f.data.toList a) (levsFrom t.data.toList b) = false) := fits_none _ _ _ _ (by rw [len_list]; exact h1) (by rw [hn]; exact q35) (by rw [len_list]; exact h2)
          clear hn hlev q35
          go_wp2_with fail
          refine (levelEnd_any f a _ hf' h1).mono ?_
          rw [unhide HN]
          rintro e w' ⟨rfl, rfl⟩
          go_wp2
          go_ret
          exact ⟨ret_bool (unhide HM _ ((unhide HB).trans (unhide HF))), rfl⟩
      · go_wp2
        go_ret
        exact ⟨ret_bool (unhide HM _ ((unhide HB).trans (by rw [fits_end _ _ _ _ (by rw [len_list]; exact h1), len_list]))), rfl⟩
end Go.Proofs.YtchhmojnoiephabGreatDoor
