import Derived.Test.YtchhmojnoiephabGreatDoorWalkA
namespace Go.Proofs.YtchhmojnoiephabGreatDoor
open Go.ChangeShapes Go.WideShapes Go.ChangeAt Go.RowKit
set_option linter.unusedVariables false

theorem fol_cases (p : Int) : p = 35 ∨ p = 43 ∨ p = 47 ∨ ((p == 35) = false ∧ (p == 43) = false ∧ (p == 47) = false) := by
  simp; omega

set_option maxHeartbeats 1000000 in
theorem mayFollow_any (p c : Int) (w : World) :
    Calls Tryz.prog 116 #[.int .u8 p, .int .u8 c] w fun e w' => e = .returned (.bool (folB p c)) ∧ w' = w := by
  rcases fol_cases p with rfl | rfl | rfl | ⟨p1, p2, p3⟩
  · go_enter Tryz.func116, Tryz.ntmps116
    go_wp2_with (go_at_call 57; refine (hubSign_any _ _).mono ?_; rintro e w' ⟨rfl, rfl⟩)
    go_ret
    exact ⟨ret_bool (by simp [folB]), rfl⟩
  all_goals
    rcases fol_cases c with rfl | rfl | rfl | ⟨c1, c2, c3⟩
    all_goals
      go_enter Tryz.func116, Tryz.ntmps116
      go_wp2_with (go_at_call 57; refine (hubSign_any _ _).mono ?_; rintro e w' ⟨rfl, rfl⟩)
      go_ret
      exact ⟨ret_bool (by simp [folB, *]), rfl⟩

theorem filterR_long (s : ByteArray) (h : 24 < (s.size : Int)) : filterR s.data.toList = (1, 0) := by
  unfold filterR; rw [if_pos (by rw [len_list]; omega)]
theorem filterR_empty (s : ByteArray) (h : s.size = 0) : filterR s.data.toList = (3, 0) := by
  unfold filterR; rw [if_neg (by rw [len_list]; omega), if_pos (by rw [len_list]; omega)]
theorem filterR_some (s : ByteArray) (i : Nat) (h : (s.size : Int) ≤ 24) (h0 : ¬ s.size = 0) (hb : badF 47 0 0 s.data.toList = some i) : filterR s.data.toList = (3, (i : Int)) := by
  unfold filterR; rw [if_neg (by rw [len_list]; omega), if_neg (by rw [len_list]; omega), hb]
theorem filterR_none (s : ByteArray) (h : (s.size : Int) ≤ 24) (h0 : ¬ s.size = 0) (hb : badF 47 0 0 s.data.toList = none) : filterR s.data.toList = (0, 0) := by
  unfold filterR; rw [if_neg (by rw [len_list]; omega), if_neg (by rw [len_list]; omega), hb]

theorem fil_slash (s : ByteArray) (p : Int) (sl k : Nat) (h : k < s.size) (hf : folB p (s[k].toNat : Int) = true) (hs : (s[k].toNat : Int) = 47) (h5 : sl + 1 < 5) :
    badF p sl k (s.data.toList.drop k) = badF (s[k].toNat : Int) (sl + 1) (k + 1) (s.data.toList.drop (k + 1)) := by
  have := badF_drop_ok p sl k k s.data.toList (by simpa using h) (by rw [get_list s k h]; simp [okF, hf]; omega)
  rw [get_list s k h, if_pos hs] at this; exact this
theorem fil_other (s : ByteArray) (p : Int) (sl k : Nat) (h : k < s.size) (hf : folB p (s[k].toNat : Int) = true) (hs : ¬ (s[k].toNat : Int) = 47) :
    badF p sl k (s.data.toList.drop k) = badF (s[k].toNat : Int) sl (k + 1) (s.data.toList.drop (k + 1)) := by
  have := badF_drop_ok p sl k k s.data.toList (by simpa using h) (by rw [get_list s k h]; simp [okF, hf, hs])
  rw [get_list s k h, if_neg hs] at this; exact this
theorem fil_bad (s : ByteArray) (p : Int) (sl k : Nat) (h : k < s.size) (hf : folB p (s[k].toNat : Int) = false) :
    badF p sl k (s.data.toList.drop k) = some k :=
  badF_drop_bad p sl k k s.data.toList (by simpa using h) (by rw [get_list s k h]; simp [okF, hf])
theorem fil_many (s : ByteArray) (p : Int) (sl k : Nat) (h : k < s.size) (hs : (s[k].toNat : Int) = 47) (h5 : ¬ sl + 1 < 5) :
    badF p sl k (s.data.toList.drop k) = some k :=
  badF_drop_bad p sl k k s.data.toList (by simpa using h) (by rw [get_list s k h]; simp [okF, hs]; omega)
theorem fil_end (s : ByteArray) (p : Int) (sl k : Nat) (h : ¬ k < s.size) : badF p sl k (s.data.toList.drop k) = none := by
  rw [List.drop_eq_nil_of_le (by rw [len_list]; omega)]; rfl

set_option maxHeartbeats 1000000 in
theorem hubFilter_any (s : ByteArray) (w : World) (hs : s.size ≤ maxLen) :
    Calls Tryz.prog 92 #[.string s] w fun e w' => e = .returned (.tuple #[.int .i64 (filterR s.data.toList).1, .int .i64 (filterR s.data.toList).2]) ∧ w' = w := by
  unfold maxLen at hs
  by_cases h24 : 24 < (s.size : Int)
  · go_enter Tryz.func92, Tryz.ntmps92
    go_wp2
    go_ret2
    exact ⟨ret_ints (filterR_long s h24), rfl⟩
  by_cases h0 : s.size = 0
  · have hb : ((s.size : Int) == 0) = true := by simp [h0]
    go_enter Tryz.func92, Tryz.ntmps92
    go_wp2
    go_ret2
    exact ⟨ret_ints (filterR_empty s h0), rfl⟩
  have hb : ((s.size : Int) == 0) = false := by simp [h0]
  have H0 := hide h0
  clear h0
  go_enter Tryz.func92, Tryz.ntmps92
  go_wp2
  go_loop [4, 5, 6] (fun b lv i => ∃ (k sl : Nat) (p : Int), k ≤ s.size ∧ sl ≤ 4 ∧ b = .int .u8 p ∧ lv = .int .i64 ((sl : Int) + 1) ∧ i = .int .i64 k ∧ Hid (badF 47 0 0 s.data.toList = badF p sl k (s.data.toList.drop k))) (fun _ _ i => s.size - (intOf i).toNat)
  case atStart => exact ⟨0, 0, 47, Nat.zero_le _, by omega, rfl, by go_num, rfl, hide (by simp)⟩
  case round =>
    obtain ⟨k, sl, p, hk, hsl4, rfl, rfl, rfl, HB⟩ := hrel
    by_cases hlt : k < s.size
    · cases hf : folB p (s[k].toNat : Int)
      · go_wp2_with (go_at_call 116; refine (mayFollow_any _ _ _).mono ?_; rintro e w' ⟨rfl, rfl⟩)
        go_ret2
        exact ⟨ret_ints (filterR_some s k (by omega) (unhide H0) ((unhide HB).trans (fil_bad s p sl k hlt hf))), rfl⟩
      · by_cases hsl : (s[k].toNat : Int) = 47
        · have hsb : ((s[k].toNat : Int) == 47) = true := by simp [hsl]
          have HS := hide hsl
          clear hsl
          by_cases h5 : sl + 1 < 5
          · go_wp2_with (go_at_call 116; refine (mayFollow_any _ _ _).mono ?_; rintro e w' ⟨rfl, rfl⟩)
            go_round
            case rel => exact ⟨k + 1, sl + 1, _, by omega, by omega, rfl, by go_num, by go_num, hide ((unhide HB).trans (fil_slash s p sl k hlt hf (unhide HS) h5))⟩
            case measure => simp [intOf]; omega
          · go_wp2_with (go_at_call 116; refine (mayFollow_any _ _ _).mono ?_; rintro e w' ⟨rfl, rfl⟩)
            go_ret2
            exact ⟨ret_ints (filterR_some s k (by omega) (unhide H0) ((unhide HB).trans (fil_many s p sl k hlt (unhide HS) (by omega)))), rfl⟩
        · have hsb : ((s[k].toNat : Int) == 47) = false := by simp [hsl]
          have HS := hide hsl
          clear hsl
          go_wp2_with (go_at_call 116; refine (mayFollow_any _ _ _).mono ?_; rintro e w' ⟨rfl, rfl⟩)
          go_round
          case rel => exact ⟨k + 1, sl, _, by omega, by omega, rfl, by go_num, by go_num, hide ((unhide HB).trans (fil_other s p sl k hlt hf (unhide HS)))⟩
          case measure => simp [intOf]; omega
    · go_wp2
      go_ret2
      exact ⟨ret_ints (filterR_none s (by omega) (unhide H0) ((unhide HB).trans (fil_end s p sl k hlt))), rfl⟩

/-- what stands ahead of place k, a slash at the beginning -/
def prevI (s : ByteArray) (k : Nat) : Int := if h : 0 < k ∧ k ≤ s.size then (s[k - 1].toNat : Int) else 47
theorem prevI_zero (s : ByteArray) : prevI s 0 = 47 := by simp [prevI]
theorem prevI_succ (s : ByteArray) (k : Nat) (h : k < s.size) : prevI s (k + 1) = (s[k].toNat : Int) := by
  unfold prevI; rw [dif_pos ⟨by omega, by omega⟩]; simp

theorem okF_hash (sl : Nat) (c : Int) : okF 35 sl c = false := by simp [okF, folB]
theorem okF_plus (sl : Nat) (c : Int) : okF 43 sl c = (c == 47 && decide ((sl : Int) + 1 < 5)) := by
  rw [Bool.eq_iff_iff]; simp [okF, folB]; omega
theorem okF_slash (p : Int) (sl : Nat) (c : Int) (h1 : (p == 35) = false) (h2 : (p == 43) = false) (hc : c = 47) : okF p sl c = decide ((sl : Int) + 1 < 5) := by
  rw [Bool.eq_iff_iff]; simp at h1 h2; simp [okF, folB, h1, h2, hc]
  omega
theorem okF_wild (p : Int) (sl : Nat) (c : Int) (h1 : (p == 35) = false) (h2 : (p == 43) = false) (hc : c = 43 ∨ c = 35) : okF p sl c = (p == 47) := by
  rw [Bool.eq_iff_iff]; simp at h1 h2; rcases hc with rfl | rfl <;> simp [okF, folB, h1, h2, signB]
theorem okF_sign (p : Int) (sl : Nat) (c : Int) (h1 : (p == 35) = false) (h2 : (p == 43) = false) (hc : (c == 35) = false ∧ (c == 43) = false ∧ (c == 47) = false) : okF p sl c = signB c := by
  simp at h1 h2; simp [okF, folB, h1, h2, hc]

end Go.Proofs.YtchhmojnoiephabGreatDoor
