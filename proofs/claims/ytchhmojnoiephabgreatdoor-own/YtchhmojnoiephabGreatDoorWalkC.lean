import Derived.Test.YtchhmojnoiephabGreatDoorWalkB
namespace Go.Proofs.YtchhmojnoiephabGreatDoor
open Go.ChangeShapes Go.WideShapes Go.ChangeAt Go.RowKit
set_option linter.unusedVariables false

theorem c_cases (c : Int) : (c == 47) = true ∨ (c == 43) = true ∨ (c == 35) = true ∨ ((c == 35) = false ∧ (c == 43) = false ∧ (c == 47) = false) := by
  simp; omega
theorem okF_slash' (p : Int) (sl : Nat) (c : Int) (h1 : (p == 35) = false) (h2 : (p == 43) = false) (hc : (c == 47) = true) (b : Bool) (hb : b = decide ((sl : Int) + 1 < 5)) : b = okF p sl c := by
  rw [hb, okF_slash p sl c h1 h2 (by simpa using hc)]
theorem okF_wild' (p : Int) (sl : Nat) (c : Int) (h1 : (p == 35) = false) (h2 : (p == 43) = false) (hc : (c == 43) = true ∨ (c == 35) = true) (b : Bool) (hb : b = (p == 47)) : b = okF p sl c := by
  rw [hb, okF_wild p sl c h1 h2 (by simpa using hc)]
theorem okF_plus' (p : Int) (sl : Nat) (c : Int) (h1 : (p == 43) = true) (b : Bool) (hb : b = (c == 47 && decide ((sl : Int) + 1 < 5))) : b = okF p sl c := by
  have : p = 43 := by simpa using h1
  subst this; rw [hb, okF_plus]
theorem okF_hash' (p : Int) (sl : Nat) (c : Int) (h1 : (p == 35) = true) : false = okF p sl c := by
  have : p = 35 := by simpa using h1
  subst this; rw [okF_hash]

set_option maxHeartbeats 1000000 in
theorem goes_zero (s : ByteArray) (sl : Nat) (w : World) (hs : s.size ≤ maxLen) (h : 0 < s.size) (h4 : sl ≤ 4) :
    Calls Tryz.prog 129 #[.string s, .int .i64 0, .int .i64 (sl : Int)] w fun e w' => e = .returned (.bool (okF 47 sl (s[0].toNat : Int))) ∧ w' = w := by
  unfold maxLen at hs
  have hk : 0 < s.size := h
  by_cases h5 : sl + 1 < 5
  all_goals
    rcases c_cases (s[0].toNat : Int) with c1 | c1 | c1 | ⟨c1, c2, c3⟩
    · have c2 : ((s[0].toNat : Int) == 43) = false := by simp at c1 ⊢; omega
      have c3 : ((s[0].toNat : Int) == 35) = false := by simp at c1 ⊢; omega
      go_enter Tryz.func129, Tryz.ntmps129
      go_wp2_with (go_at_call 61; refine (refSign_any _ _).mono ?_; rintro e w' ⟨rfl, rfl⟩)
      go_ret
      exact ⟨ret_bool (okF_slash' _ _ _ (by decide) (by decide) c1 _ (by simp; try omega)), rfl⟩
    · have c2 : ((s[0].toNat : Int) == 47) = false := by simp at c1 ⊢; omega
      go_enter Tryz.func129, Tryz.ntmps129
      go_wp2_with (go_at_call 61; refine (refSign_any _ _).mono ?_; rintro e w' ⟨rfl, rfl⟩)
      go_ret
      exact ⟨ret_bool (okF_wild' _ _ _ (by decide) (by decide) (Or.inl c1) _ (by decide)), rfl⟩
    · have c2 : ((s[0].toNat : Int) == 47) = false := by simp at c1 ⊢; omega
      have c3 : ((s[0].toNat : Int) == 43) = false := by simp at c1 ⊢; omega
      go_enter Tryz.func129, Tryz.ntmps129
      go_wp2_with (go_at_call 61; refine (refSign_any _ _).mono ?_; rintro e w' ⟨rfl, rfl⟩)
      go_ret
      exact ⟨ret_bool (okF_wild' _ _ _ (by decide) (by decide) (Or.inr c1) _ (by decide)), rfl⟩
    · go_enter Tryz.func129, Tryz.ntmps129
      go_wp2_with (go_at_call 61; refine (refSign_any _ _).mono ?_; rintro e w' ⟨rfl, rfl⟩)
      go_ret
      exact ⟨ret_bool (okF_sign _ _ _ (by decide) (by decide) ⟨c1, c2, c3⟩).symm, rfl⟩

set_option maxHeartbeats 1000000 in
theorem goes_succ (s : ByteArray) (sl k : Nat) (w : World) (hs : s.size ≤ maxLen) (h : k + 1 < s.size) (h4 : sl ≤ 4) :
    Calls Tryz.prog 129 #[.string s, .int .i64 ((k : Int) + 1), .int .i64 (sl : Int)] w fun e w' => e = .returned (.bool (okF (s[k].toNat : Int) sl (s[k + 1].toNat : Int))) ∧ w' = w := by
  unfold maxLen at hs
  by_cases h5 : sl + 1 < 5
  all_goals
    rcases c_cases (s[k].toNat : Int) with p1 | p1 | p1 | ⟨p1, p2, p3⟩
    · have p2 : ((s[k].toNat : Int) == 43) = false := by simp at p1 ⊢; omega
      have p3 : ((s[k].toNat : Int) == 35) = false := by simp at p1 ⊢; omega
      rcases c_cases (s[k + 1].toNat : Int) with c1 | c1 | c1 | ⟨c1, c2, c3⟩
      · have c2 : ((s[k + 1].toNat : Int) == 43) = false := by simp at c1 ⊢; omega
        have c3 : ((s[k + 1].toNat : Int) == 35) = false := by simp at c1 ⊢; omega
        go_enter Tryz.func129, Tryz.ntmps129
        go_wp2_with (go_at_call 61; refine (refSign_any _ _).mono ?_; rintro e w' ⟨rfl, rfl⟩)
        go_ret
        exact ⟨ret_bool (okF_slash' _ _ _ p3 p2 c1 _ (by simp; try omega)), rfl⟩
      · have c2 : ((s[k + 1].toNat : Int) == 47) = false := by simp at c1 ⊢; omega
        go_enter Tryz.func129, Tryz.ntmps129
        go_wp2_with (go_at_call 61; refine (refSign_any _ _).mono ?_; rintro e w' ⟨rfl, rfl⟩)
        go_ret
        exact ⟨ret_bool (okF_wild' _ _ _ p3 p2 (Or.inl c1) _ p1.symm), rfl⟩
      · have c2 : ((s[k + 1].toNat : Int) == 47) = false := by simp at c1 ⊢; omega
        have c3 : ((s[k + 1].toNat : Int) == 43) = false := by simp at c1 ⊢; omega
        go_enter Tryz.func129, Tryz.ntmps129
        go_wp2_with (go_at_call 61; refine (refSign_any _ _).mono ?_; rintro e w' ⟨rfl, rfl⟩)
        go_ret
        exact ⟨ret_bool (okF_wild' _ _ _ p3 p2 (Or.inr c1) _ p1.symm), rfl⟩
      · go_enter Tryz.func129, Tryz.ntmps129
        go_wp2_with (go_at_call 61; refine (refSign_any _ _).mono ?_; rintro e w' ⟨rfl, rfl⟩)
        go_ret
        exact ⟨ret_bool (okF_sign _ _ _ p3 p2 ⟨c1, c2, c3⟩).symm, rfl⟩
    · have p2 : ((s[k].toNat : Int) == 47) = false := by simp at p1 ⊢; omega
      have p3 : ((s[k].toNat : Int) == 35) = false := by simp at p1 ⊢; omega
      cases c1 : ((s[k + 1].toNat : Int) == 47)
      all_goals
        go_enter Tryz.func129, Tryz.ntmps129
        go_wp2_with (go_at_call 61; refine (refSign_any _ _).mono ?_; rintro e w' ⟨rfl, rfl⟩)
        go_ret
        exact ⟨ret_bool (okF_plus' _ _ _ p1 _ (by rw [c1]; simp; try omega)), rfl⟩
    · go_enter Tryz.func129, Tryz.ntmps129
      go_wp2_with (go_at_call 61; refine (refSign_any _ _).mono ?_; rintro e w' ⟨rfl, rfl⟩)
      go_ret
      exact ⟨ret_bool (okF_hash' _ _ _ p1), rfl⟩
    · rcases c_cases (s[k + 1].toNat : Int) with c1 | c1 | c1 | ⟨c1, c2, c3⟩
      · have c2 : ((s[k + 1].toNat : Int) == 43) = false := by simp at c1 ⊢; omega
        have c3 : ((s[k + 1].toNat : Int) == 35) = false := by simp at c1 ⊢; omega
        go_enter Tryz.func129, Tryz.ntmps129
        go_wp2_with (go_at_call 61; refine (refSign_any _ _).mono ?_; rintro e w' ⟨rfl, rfl⟩)
        go_ret
        exact ⟨ret_bool (okF_slash' _ _ _ p1 p2 c1 _ (by simp; try omega)), rfl⟩
      · have c2 : ((s[k + 1].toNat : Int) == 47) = false := by simp at c1 ⊢; omega
        go_enter Tryz.func129, Tryz.ntmps129
        go_wp2_with (go_at_call 61; refine (refSign_any _ _).mono ?_; rintro e w' ⟨rfl, rfl⟩)
        go_ret
        exact ⟨ret_bool (okF_wild' _ _ _ p1 p2 (Or.inl c1) _ p3.symm), rfl⟩
      · have c2 : ((s[k + 1].toNat : Int) == 47) = false := by simp at c1 ⊢; omega
        have c3 : ((s[k + 1].toNat : Int) == 43) = false := by simp at c1 ⊢; omega
        go_enter Tryz.func129, Tryz.ntmps129
        go_wp2_with (go_at_call 61; refine (refSign_any _ _).mono ?_; rintro e w' ⟨rfl, rfl⟩)
        go_ret
        exact ⟨ret_bool (okF_wild' _ _ _ p1 p2 (Or.inr c1) _ p3.symm), rfl⟩
      · go_enter Tryz.func129, Tryz.ntmps129
        go_wp2_with (go_at_call 61; refine (refSign_any _ _).mono ?_; rintro e w' ⟨rfl, rfl⟩)
        go_ret
        exact ⟨ret_bool (okF_sign _ _ _ p1 p2 ⟨c1, c2, c3⟩).symm, rfl⟩

theorem goes_any (s : ByteArray) (i : Int) (sl k : Nat) (w : World) (hs : s.size ≤ maxLen) (hi : i = (k : Int)) (h : k < s.size) (h4 : sl ≤ 4) :
    Calls Tryz.prog 129 #[.string s, .int .i64 i, .int .i64 (sl : Int)] w fun e w' => e = .returned (.bool (okF (prevI s k) sl (s[k].toNat : Int))) ∧ w' = w := by
  subst hi
  cases k with
  | zero => rw [prevI_zero]; exact goes_zero s sl w hs h h4
  | succ k => rw [prevI_succ s k (by omega)]; exact goes_succ s sl k w hs h h4

def wrongI (l : List UInt8) : Int := match badF 47 0 0 l with
  | some i => (i : Int)
  | none => -1
theorem wrongI_some {l : List UInt8} {i : Nat} (h : badF 47 0 0 l = some i) : (i : Int) = wrongI l := by unfold wrongI; rw [h]
theorem wrongI_none {l : List UInt8} (h : badF 47 0 0 l = none) : -1 = wrongI l := by unfold wrongI; rw [h]
theorem okF_false (s : ByteArray) (p : Int) (sl k : Nat) (h : k < s.size) (hf : okF p sl (s[k].toNat : Int) = false) :
    badF p sl k (s.data.toList.drop k) = some k :=
  badF_drop_bad p sl k k s.data.toList (by simpa using h) (by rw [get_list s k h]; exact hf)
theorem okF_fol {p : Int} {sl : Nat} {c : Int} (h : okF p sl c = true) : folB p c = true := by
  unfold okF at h; simp at h; exact h.1
theorem okF_five {p : Int} {sl : Nat} {c : Int} (h : okF p sl c = true) (hc : c = 47) : sl + 1 < 5 := by
  unfold okF at h; simp [hc] at h; omega

set_option maxHeartbeats 1000000 in
theorem wrong_any (s : ByteArray) (w : World) (hs : s.size ≤ maxLen) :
    Calls Tryz.prog 117 #[.string s] w fun e w' => e = .returned (.int .i64 (wrongI s.data.toList)) ∧ w' = w := by
  have hs' := hs
  unfold maxLen at hs
  go_enter Tryz.func117, Tryz.ntmps117
  go_wp2
  go_loop [3, 4, 5] (fun sls i ok => ∃ (k sl : Nat), k ≤ s.size ∧ sl ≤ 4 ∧ sls = .int .i64 (sl : Int) ∧ i = .int .i64 k ∧ Hid (badF 47 0 0 s.data.toList = badF (prevI s k) sl k (s.data.toList.drop k))) (fun _ i _ => s.size - (intOf i).toNat)
  case atStart => exact ⟨0, 0, Nat.zero_le _, by omega, rfl, rfl, hide (by rw [prevI_zero]; simp)⟩
  case round =>
    obtain ⟨k, sl, hk, hsl4, rfl, rfl, HB⟩ := hrel
    by_cases hlt : k < s.size
    · have HP := hide (prevI_succ s k hlt)
      generalize hp : prevI s k = p at *
      have HP0 := hide hp
      clear hp
      cases hf : okF p sl (s[k].toNat : Int)
      · go_wp2_with (go_at_call 129; refine (goes_any s _ sl k _ hs' rfl hlt hsl4).mono ?_; rw [unhide HP0]; rintro e w' ⟨rfl, rfl⟩)
        go_ret
        exact ⟨ret_int (wrongI_some ((unhide HB).trans (okF_false s p sl k hlt hf))), rfl⟩
      · by_cases hsl : (s[k].toNat : Int) = 47
        · have hsb : ((s[k].toNat : Int) == 47) = true := by simp [hsl]
          have h5 := okF_five hf hsl
          have HS := hide hsl
          clear hsl
          go_wp2_with (go_at_call 129; refine (goes_any s _ sl k _ hs' rfl hlt hsl4).mono ?_; rw [unhide HP0]; rintro e w' ⟨rfl, rfl⟩)
          go_round
          case rel => exact ⟨k + 1, sl + 1, by omega, by omega, by go_num, by go_num, hide ((unhide HB).trans (by rw [unhide HP]; exact fil_slash s p sl k hlt (okF_fol hf) (unhide HS) h5))⟩
          case measure => simp [intOf]; omega
        · have hsb : ((s[k].toNat : Int) == 47) = false := by simp [hsl]
          have HS := hide hsl
          clear hsl
          go_wp2_with (go_at_call 129; refine (goes_any s _ sl k _ hs' rfl hlt hsl4).mono ?_; rw [unhide HP0]; rintro e w' ⟨rfl, rfl⟩)
          go_round
          case rel => exact ⟨k + 1, sl, by omega, by omega, by go_num, by go_num, hide ((unhide HB).trans (by rw [unhide HP]; exact fil_other s p sl k hlt (okF_fol hf) (unhide HS)))⟩
          case measure => simp [intOf]; omega
    · go_wp2
      go_ret
      exact ⟨ret_int (wrongI_none ((unhide HB).trans (fil_end s _ sl k hlt))), rfl⟩

end Go.Proofs.YtchhmojnoiephabGreatDoor
