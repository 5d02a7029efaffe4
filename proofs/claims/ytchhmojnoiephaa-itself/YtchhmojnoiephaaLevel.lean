import Derived.Test.YtchhmojnoiephaaWalkI
namespace Go.Proofs.Ytchhmojnoiephaa
open Go.ChangeShapes Go.WideShapes Go.ChangeAt Go.RowKit
set_option linter.unusedVariables false

theorem data_slash (f g : ByteArray) : (f ++ ⟨#[47]⟩ ++ g).data.toList = f.data.toList ++ 47 :: g.data.toList := by
  simp [ByteArray.data_append]
theorem size_slash (f g : ByteArray) : (f ++ ⟨#[47]⟩ ++ g).size = f.size + 1 + g.size := by
  rw [Lib.size_eq, data_slash, Lib.size_eq f, Lib.size_eq g]; simp; omega

/-- does the first level fit? -/
def fitB (f t : ByteArray) (d : Bool) : Bool := (f.toList == t.toList) || ((f.toList == [43]) && !d)

theorem level_pure (f g t u : ByteArray) (ha : filB (f ++ ⟨#[47]⟩ ++ g) = true) (hg : filB g = true) (hb : topB (t ++ ⟨#[47]⟩ ++ u) = true) (hu : topB u = true)
    (hf : (sglB f || (f.toList == [43])) = true) (ht : sglB t = true) (hu0 : ¬ headI u.data.toList = 36) :
    okB (f ++ ⟨#[47]⟩ ++ g) (t ++ ⟨#[47]⟩ ++ u) = true ∧ okB g u = true ∧ okB ⟨#[35]⟩ u = true ∧ yesB ⟨#[35]⟩ u = true ∧
      yesB (f ++ ⟨#[47]⟩ ++ g) (t ++ ⟨#[47]⟩ ++ u) = (fitB f t ((f.toList == [43]) && (headI t.data.toList == 36)) && yesB g u) := by
  unfold filB at ha hg
  unfold topB at hb hu
  rw [beq_iff_eq] at ha hg hb hu
  have hh : (filterR [35]).1 = 0 := by decide
  have m1 := matchR_ok _ _ ha hb
  have m2 := matchR_ok _ _ hg hu
  have m3 := matchR_ok [35] _ hh hu
  have hs : (⟨#[35]⟩ : ByteArray).data.toList = [35] := rfl
  unfold okB yesB
  rw [m1, m2, hs, m3]
  refine ⟨rfl, rfl, rfl, ?_, ?_⟩
  · show matchB [35] u.data.toList = true
    unfold matchB; rw [if_neg (by omega)]
    have := levs_ne u.data.toList
    cases levs u.data.toList <;> simp [levs, fitsL]
  · show matchB _ _ = (_ && matchB _ _)
    rw [data_slash, data_slash, level_lists _ _ _ _ (by simpa [sglB, Lib.toList_data] using hf) ht hu0]
    congr 1
    unfold fitB
    rw [Lib.toList_data, Lib.toList_data, Bool.eq_iff_iff]
    simp
    by_cases h1 : f.data.toList = [43] <;> simp [h1]

theorem sgl_not43 (f : ByteArray) (h : sglB f = true) : (f.toList == [43]) = false := by
  rw [Lib.toList_data]
  simp
  intro h'
  unfold sglB at h
  rw [h'] at h
  exact absurd h (by decide)

set_option maxHeartbeats 2000000 in
theorem level_bad (a0 : ByteArray) (a1 : ByteArray) (a2 : ByteArray) (a3 : ByteArray) (w0 : a0.size ≤ 140737488351232) (w1 : a1.size ≤ 140737488351232) (w2 : a2.size ≤ 140737488351232) (w3 : a3.size ≤ 140737488351232) (w : World)
    (N : Hid (¬ (filB (a0 ++ ⟨#[47]⟩ ++ a1) = true ∧ filB a1 = true ∧ topB (a2 ++ ⟨#[47]⟩ ++ a3) = true ∧ topB a3 = true ∧ (sglB a0 || (a0.toList == [43])) = true ∧ sglB a2 = true ∧ ¬ headI a3.data.toList = 36))) :
    Calls Try.prog 6 #[.string a0, .string a1, .string a2, .string a3] w fun e w' => e = .returned (.bool true) ∧ Grown w w' := by
  have l0 : a0.size ≤ maxLen := by unfold maxLen; omega
  have l1 : a1.size ≤ maxLen := by unfold maxLen; omega
  have l2 : a2.size ≤ maxLen := by unfold maxLen; omega
  have l3 : a3.size ≤ maxLen := by unfold maxLen; omega
  have l01 : (a0 ++ ⟨#[47]⟩ ++ a1).size ≤ maxLen := by rw [size_slash]; unfold maxLen; omega
  have l23 : (a2 ++ ⟨#[47]⟩ ++ a3).size ≤ maxLen := by rw [size_slash]; unfold maxLen; omega
  have hpos : Hid (topB a3 = true → 0 < a3.size) := by
    intro h; refine Nat.pos_of_ne_zero fun h0 => ?_
    unfold topB at h; rw [topicR_empty a3 h0] at h; exact absurd h (by decide)
  go_enter Try.func6, Try.ntmps6
  go_wp2_with (first | (go_at_call 18; refine (filter_any _ _ (by assumption)).mono ?_; rintro e w' ⟨rfl, rfl⟩) | (go_at_call 19; refine (topic_any _ _ (by assumption)).mono ?_; rintro e w' ⟨rfl, rfl⟩) | (go_at_call 20; refine (single_any _ _ (by assumption)).mono ?_; rintro e w' ⟨rfl, rfl⟩))
  all_goals first
    | (go_ret; exact ⟨rfl, Grown.refl _⟩)
    | (exfalso; have h3 : topB a3 = true := ‹_›; have hp := unhide hpos h3; first | omega | exact unhide N ⟨‹_›, ‹_›, ‹_›, h3, by simp [*], ‹_›, by rw [headI_pos a3 hp]; simpa using (‹((a3[0].toNat : Int) == 36) = false›)⟩)

set_option maxHeartbeats 2000000 in
theorem level_good (a0 : ByteArray) (a1 : ByteArray) (a2 : ByteArray) (a3 : ByteArray) (w0 : a0.size ≤ 140737488351232) (w1 : a1.size ≤ 140737488351232) (w2 : a2.size ≤ 140737488351232) (w3 : a3.size ≤ 140737488351232) (w : World)
    (ha : filB (a0 ++ ⟨#[47]⟩ ++ a1) = true) (hg : filB a1 = true) (hb : topB (a2 ++ ⟨#[47]⟩ ++ a3) = true) (hu : topB a3 = true) (hf : (sglB a0 || (a0.toList == [43])) = true) (ht : sglB a2 = true) (hu0 : ¬ headI a3.data.toList = 36) :
    Calls Try.prog 6 #[.string a0, .string a1, .string a2, .string a3] w fun e w' => e = .returned (.bool true) ∧ Grown w w' := by
  have l0 : a0.size ≤ maxLen := by unfold maxLen; omega
  have l1 : a1.size ≤ maxLen := by unfold maxLen; omega
  have l2 : a2.size ≤ maxLen := by unfold maxLen; omega
  have l3 : a3.size ≤ maxLen := by unfold maxLen; omega
  have l01 : (a0 ++ ⟨#[47]⟩ ++ a1).size ≤ maxLen := by rw [size_slash]; unfold maxLen; omega
  have l23 : (a2 ++ ⟨#[47]⟩ ++ a3).size ≤ maxLen := by rw [size_slash]; unfold maxLen; omega
  have l35 : (⟨#[35]⟩ : ByteArray).size ≤ maxLen := by decide
  obtain ⟨k1, k2, k3, k4, k5⟩ := level_pure a0 a1 a2 a3 ha hg hb hu hf ht hu0
  have hp : 0 < a3.size := by
    refine Nat.pos_of_ne_zero fun h0 => ?_
    unfold topB at hu; rw [topicR_empty a3 h0] at hu; exact absurd hu (by decide)
  have q0 : ((a3[0].toNat : Int) == 36) = false := by rw [headI_pos a3 hp] at hu0; simpa using hu0
  clear hu0
  cases hs : sglB a0
  · have b43 : (a0.toList == [43]) = true := by rw [hs] at hf; exact hf
    have bt : (a0.toList == a2.toList) = false := by
      have h2 := sgl_not43 a2 ht
      have h1 : a0.toList = [43] := by simpa using b43
      rw [h1]
      simp at h2 ⊢
      exact fun h => h2 h.symm
    clear hf
    by_cases hz : 0 < a2.size
    · cases hd : ((a2[0].toNat : Int) == 36)
      · have k6 : yesB (a0 ++ ⟨#[47]⟩ ++ a1) (a2 ++ ⟨#[47]⟩ ++ a3) = yesB a1 a3 := by
          rw [k5]; unfold fitB; rw [headI_pos a2 hz, bt, b43, hd]; rfl
        clear k5
        go_enter Try.func6, Try.ntmps6
        go_wp2_with (first | (go_at_call 18; refine (filter_any _ _ (by assumption)).mono ?_; rintro e w' ⟨rfl, rfl⟩) | (go_at_call 19; refine (topic_any _ _ (by assumption)).mono ?_; rintro e w' ⟨rfl, rfl⟩) | (go_at_call 20; refine (single_any _ _ (by assumption)).mono ?_; rintro e w' ⟨rfl, rfl⟩) | (go_at_call 21; refine (met_any _ _ _ (by assumption) (by assumption)).mono ?_; rintro e w' ⟨rfl, rfl⟩))
        go_ret
        exact ⟨rfl, by repeat (first | exact Grown.refl _ | apply Grown.drew | apply Grown.alloc)⟩
      · have k6 : yesB (a0 ++ ⟨#[47]⟩ ++ a1) (a2 ++ ⟨#[47]⟩ ++ a3) = false := by
          rw [k5]; unfold fitB; rw [headI_pos a2 hz, bt, b43, hd]; rfl
        clear k5
        go_enter Try.func6, Try.ntmps6
        go_wp2_with (first | (go_at_call 18; refine (filter_any _ _ (by assumption)).mono ?_; rintro e w' ⟨rfl, rfl⟩) | (go_at_call 19; refine (topic_any _ _ (by assumption)).mono ?_; rintro e w' ⟨rfl, rfl⟩) | (go_at_call 20; refine (single_any _ _ (by assumption)).mono ?_; rintro e w' ⟨rfl, rfl⟩) | (go_at_call 21; refine (met_any _ _ _ (by assumption) (by assumption)).mono ?_; rintro e w' ⟨rfl, rfl⟩))
        go_ret
        exact ⟨rfl, by repeat (first | exact Grown.refl _ | apply Grown.drew | apply Grown.alloc)⟩
    · have k6 : yesB (a0 ++ ⟨#[47]⟩ ++ a1) (a2 ++ ⟨#[47]⟩ ++ a3) = yesB a1 a3 := by
        rw [k5]; unfold fitB; rw [headI_zero a2 (by omega), bt, b43]; rfl
      clear k5
      go_enter Try.func6, Try.ntmps6
      go_wp2_with (first | (go_at_call 18; refine (filter_any _ _ (by assumption)).mono ?_; rintro e w' ⟨rfl, rfl⟩) | (go_at_call 19; refine (topic_any _ _ (by assumption)).mono ?_; rintro e w' ⟨rfl, rfl⟩) | (go_at_call 20; refine (single_any _ _ (by assumption)).mono ?_; rintro e w' ⟨rfl, rfl⟩) | (go_at_call 21; refine (met_any _ _ _ (by assumption) (by assumption)).mono ?_; rintro e w' ⟨rfl, rfl⟩))
      go_ret
      exact ⟨rfl, by repeat (first | exact Grown.refl _ | apply Grown.drew | apply Grown.alloc)⟩
  · have b43 := sgl_not43 a0 hs
    clear hf
    cases bt : (a0.toList == a2.toList)
    · have k6 : yesB (a0 ++ ⟨#[47]⟩ ++ a1) (a2 ++ ⟨#[47]⟩ ++ a3) = false := by
        rw [k5]; unfold fitB; rw [bt, b43]; rfl
      clear k5
      go_enter Try.func6, Try.ntmps6
      go_wp2_with (first | (go_at_call 18; refine (filter_any _ _ (by assumption)).mono ?_; rintro e w' ⟨rfl, rfl⟩) | (go_at_call 19; refine (topic_any _ _ (by assumption)).mono ?_; rintro e w' ⟨rfl, rfl⟩) | (go_at_call 20; refine (single_any _ _ (by assumption)).mono ?_; rintro e w' ⟨rfl, rfl⟩) | (go_at_call 21; refine (met_any _ _ _ (by assumption) (by assumption)).mono ?_; rintro e w' ⟨rfl, rfl⟩))
      go_ret
      exact ⟨rfl, by repeat (first | exact Grown.refl _ | apply Grown.drew | apply Grown.alloc)⟩
    · have k6 : yesB (a0 ++ ⟨#[47]⟩ ++ a1) (a2 ++ ⟨#[47]⟩ ++ a3) = yesB a1 a3 := by
        rw [k5]; unfold fitB; rw [bt, b43]; rfl
      clear k5
      go_enter Try.func6, Try.ntmps6
      go_wp2_with (first | (go_at_call 18; refine (filter_any _ _ (by assumption)).mono ?_; rintro e w' ⟨rfl, rfl⟩) | (go_at_call 19; refine (topic_any _ _ (by assumption)).mono ?_; rintro e w' ⟨rfl, rfl⟩) | (go_at_call 20; refine (single_any _ _ (by assumption)).mono ?_; rintro e w' ⟨rfl, rfl⟩) | (go_at_call 21; refine (met_any _ _ _ (by assumption) (by assumption)).mono ?_; rintro e w' ⟨rfl, rfl⟩))
      go_ret
      exact ⟨rfl, by repeat (first | exact Grown.refl _ | apply Grown.drew | apply Grown.alloc)⟩

theorem level_walk (a0 : ByteArray) (a1 : ByteArray) (a2 : ByteArray) (a3 : ByteArray) (w0 : a0.size ≤ 140737488351232) (w1 : a1.size ≤ 140737488351232) (w2 : a2.size ≤ 140737488351232) (w3 : a3.size ≤ 140737488351232) (w : World) :
    Calls Try.prog 6 #[.string a0, .string a1, .string a2, .string a3] w fun e w' => e = .returned (.bool true) ∧ Grown w w' := by
  by_cases N : filB (a0 ++ ⟨#[47]⟩ ++ a1) = true ∧ filB a1 = true ∧ topB (a2 ++ ⟨#[47]⟩ ++ a3) = true ∧ topB a3 = true ∧ (sglB a0 || (a0.toList == [43])) = true ∧ sglB a2 = true ∧ ¬ headI a3.data.toList = 36
  · obtain ⟨ha, hg, hb, hu, hf, ht, hu0⟩ := N
    exact level_good a0 a1 a2 a3 w0 w1 w2 w3 w ha hg hb hu hf ht hu0
  · exact level_bad a0 a1 a2 a3 w0 w1 w2 w3 w N
end Go.Proofs.Ytchhmojnoiephaa
