import Derived.Test.YtchhmojnoiephaaLevel
import Derived.Deep.QuietTactic
import Derived.BigQuiet
namespace Go.Proofs.Ytchhmojnoiephaa
open Go.ChangeShapes Go.WideShapes Go.ChangeAt Go.RowKit
set_option linter.unusedVariables false

theorem data_hash (t : ByteArray) : (t ++ ⟨#[47, 35]⟩).data.toList = t.data.toList ++ 47 :: [35] := by
  simp [ByteArray.data_append]
theorem data_plus (t : ByteArray) : (t ++ ⟨#[47, 43]⟩).data.toList = t.data.toList ++ 47 :: [43] := by
  simp [ByteArray.data_append]
theorem size_hash (t : ByteArray) : (t ++ ⟨#[47, 35]⟩).size = t.size + 2 := by
  rw [Lib.size_eq, data_hash, Lib.size_eq t]; simp
theorem size_plus (t : ByteArray) : (t ++ ⟨#[47, 43]⟩).size = t.size + 2 := by
  rw [Lib.size_eq, data_plus, Lib.size_eq t]; simp

theorem head_topic (T : List UInt8) (h : (topicR T).1 = 0) : headI T ≠ 43 ∧ headI T ≠ 35 := by
  obtain ⟨c, hc, he⟩ := headI_mem T (topicR_len T h).2.1
  rw [he]; exact topic_chars T h c hc
theorem head_join (T X : List UInt8) (h : T ≠ []) : headI (T ++ 47 :: X) = headI T := by rw [headI_join, if_neg h]
theorem levs_no35 (T : List UInt8) (h : (topicR T).1 = 0) : ∀ x ∈ levs T, x ≠ [35] := by
  intro x hx he
  have := levs_mem T x hx 35 (by rw [he]; simp)
  exact (topic_chars T h 35 this).2 rfl

theorem self_lists (T : List UInt8) (h : (topicR T).1 = 0) : matchB T T = true := by
  have := head_topic T h
  unfold matchB; rw [if_neg (by omega)]; exact fits_self _
theorem hash_lists (T : List UInt8) (h : (topicR T).1 = 0) : matchB (T ++ 47 :: [35]) T = true := by
  have h1 := head_topic T h
  unfold matchB; rw [head_join T _ (topicR_len T h).2.1, if_neg (by omega), levs_join]
  have := fits_join (levs T) []
  rw [List.append_nil] at this; exact this
theorem plus_lists (T : List UInt8) (h : (topicR T).1 = 0) : matchB (T ++ 47 :: [43]) T = false := by
  have h1 := head_topic T h
  unfold matchB; rw [head_join T _ (topicR_len T h).2.1, if_neg (by omega), levs_join]
  have := fits_plus (levs T) [] (levs_no35 T h)
  rw [List.append_nil] at this; exact this
theorem hash_on (T U : List UInt8) (h : (topicR T).1 = 0) : matchB (T ++ 47 :: [35]) (T ++ 47 :: U) = true := by
  have h1 := head_topic T h
  unfold matchB; rw [head_join T U (topicR_len T h).2.1, head_join T [35] (topicR_len T h).2.1, if_neg (by omega), levs_join, levs_join]
  exact fits_join _ _
theorem plus_on (T U : List UInt8) (h : (topicR T).1 = 0) (hu : (topicR (T ++ 47 :: U)).1 = 0) : matchB (T ++ 47 :: [43]) (T ++ 47 :: U) = sglL U := by
  have h1 := head_topic T h
  unfold matchB; rw [head_join T U (topicR_len T h).2.1, head_join T [43] (topicR_len T h).2.1, if_neg (by omega), levs_join, levs_join]
  have := fits_plus (levs T) (levs U) (levs_no35 T h)
  refine this.trans ?_
  by_cases hs : ∀ c ∈ U, ¬ (c.toNat : Int) = 47
  · rw [levs_one U hs, sglL_of U (fun c hc => ⟨hs c hc, topic_chars _ hu c (by simp [hc])⟩)]; rfl
  · have : ∃ c ∈ U, (c.toNat : Int) = 47 := by
      refine Classical.byContradiction fun hn => hs fun c hc h47 => hn ⟨c, hc, h47⟩
    obtain ⟨c, hc, h47⟩ := this
    have h2 := levs_many U c hc h47
    cases hsg : sglL U with
    | false => simp; omega
    | true => exact absurd h47 (sglL_all U hsg c hc).1
theorem all_on (T U : List UInt8) (h : (topicR T).1 = 0) : matchB [35] (T ++ 47 :: U) = !(headI T == 36) := by
  unfold matchB; rw [head_join T _ (topicR_len T h).2.1]
  by_cases h4 : headI T = 36
  · rw [if_pos ⟨h4, by right; rfl⟩, h4]; rfl
  · rw [if_neg (fun h => h4 h.1)]
    have := levs_ne (T ++ 47 :: U)
    have h5 : (headI T == 36) = false := by simpa using h4
    rw [h5]
    cases levs (T ++ 47 :: U) <;> simp [levs, fitsL]
theorem one_on (T U : List UInt8) : matchB [43] (T ++ 47 :: U) = false := by
  unfold matchB
  split
  · rfl
  · rw [levs_join]
    cases ht : levs T with
    | nil => exact absurd ht (levs_ne T)
    | cons a b =>
      cases hu : levs U with
      | nil => exact absurd hu (levs_ne U)
      | cons c d => simp [levs, fitsL]

theorem itself_not (t : ByteArray) (h : topB t = false) : yesB t t = false ∧ okB t t = false := by
  unfold topB at h
  have := matchR_not t.data.toList (by simpa using h)
  unfold yesB okB
  exact ⟨this.1, by simpa using this.2⟩
theorem itself_self (t : ByteArray) (h : topB t = true) (hf : filB t = true) : yesB t t = true ∧ okB t t = true := by
  unfold topB at h; unfold filB at hf; rw [beq_iff_eq] at h hf
  unfold yesB okB; rw [matchR_ok _ _ hf h]; exact ⟨self_lists _ h, rfl⟩
theorem itself_wild (t : ByteArray) (h : topB t = true) (h1 : filB (t ++ ⟨#[47, 35]⟩) = true) (h2 : filB (t ++ ⟨#[47, 43]⟩) = true) :
    okB (t ++ ⟨#[47, 35]⟩) t = true ∧ yesB (t ++ ⟨#[47, 35]⟩) t = true ∧ okB (t ++ ⟨#[47, 43]⟩) t = true ∧ yesB (t ++ ⟨#[47, 43]⟩) t = false := by
  unfold topB at h; unfold filB at h1 h2; rw [beq_iff_eq] at h h1 h2
  unfold yesB okB; rw [matchR_ok _ _ h1 h, matchR_ok _ _ h2 h, data_hash, data_plus]
  exact ⟨rfl, hash_lists _ h, rfl, plus_lists _ h⟩
theorem itself_on (t u : ByteArray) (h : topB t = true) (h1 : filB (t ++ ⟨#[47, 35]⟩) = true) (h2 : filB (t ++ ⟨#[47, 43]⟩) = true) (h3 : topB (t ++ ⟨#[47]⟩ ++ u) = true) :
    okB (t ++ ⟨#[47, 35]⟩) (t ++ ⟨#[47]⟩ ++ u) = true ∧ yesB (t ++ ⟨#[47, 35]⟩) (t ++ ⟨#[47]⟩ ++ u) = true ∧ okB (t ++ ⟨#[47, 43]⟩) (t ++ ⟨#[47]⟩ ++ u) = true ∧ yesB (t ++ ⟨#[47, 43]⟩) (t ++ ⟨#[47]⟩ ++ u) = sglB u ∧
    okB ⟨#[35]⟩ (t ++ ⟨#[47]⟩ ++ u) = true ∧ yesB ⟨#[35]⟩ (t ++ ⟨#[47]⟩ ++ u) = (!(headI t.data.toList == 36)) ∧ okB ⟨#[43]⟩ (t ++ ⟨#[47]⟩ ++ u) = true ∧ yesB ⟨#[43]⟩ (t ++ ⟨#[47]⟩ ++ u) = false := by
  unfold topB at h h3; unfold filB at h1 h2; rw [beq_iff_eq] at h h1 h2 h3
  have e1 : (⟨#[35]⟩ : ByteArray).data.toList = [35] := rfl
  have e2 : (⟨#[43]⟩ : ByteArray).data.toList = [43] := rfl
  have e3 : (filterR [35]).1 = 0 := by decide
  have e4 : (filterR [43]).1 = 0 := by decide
  unfold yesB okB
  rw [matchR_ok _ _ h1 h3, matchR_ok _ _ h2 h3, e1, e2, matchR_ok _ _ e3 h3, matchR_ok _ _ e4 h3, data_hash, data_plus, data_slash]
  rw [data_slash] at h3
  exact ⟨rfl, hash_on _ _ h, rfl, plus_on _ _ h h3, rfl, all_on _ _ h, rfl, one_on _ _⟩

theorem grown_drewN {a w : World} {n : Nat} (h : Grown a w) : Grown a (w.drewN n) := h

set_option maxHeartbeats 4000000 in
theorem itself_walk (a0 : ByteArray) (a1 : ByteArray) (w0 : a0.size ≤ 140737488351232) (w1 : a1.size ≤ 140737488351232) (w : World) :
    Calls Try.prog 7 #[.string a0, .string a1] w fun e w' => e = .returned (.bool true) ∧ Grown w w' := by
  have l0 : a0.size ≤ maxLen := by unfold maxLen; omega
  have l1 : a1.size ≤ maxLen := by unfold maxLen; omega
  have l2 : (a0 ++ ⟨#[47, 35]⟩).size ≤ maxLen := by rw [size_hash]; unfold maxLen; omega
  have l3 : (a0 ++ ⟨#[47, 43]⟩).size ≤ maxLen := by rw [size_plus]; unfold maxLen; omega
  have l01 : (a0 ++ ⟨#[47]⟩ ++ a1).size ≤ maxLen := by rw [size_slash]; unfold maxLen; omega
  have l35 : (⟨#[35]⟩ : ByteArray).size ≤ maxLen := by decide
  have l43 : (⟨#[43]⟩ : ByteArray).size ≤ maxLen := by decide
  cases ht : topB a0
  · obtain ⟨k1, k2⟩ := itself_not a0 ht
    go_enter Try.func7, Try.ntmps7
    go_wp2_with (first | (go_at_call 18; refine (filter_any _ _ (by assumption)).mono ?_; rintro e w' ⟨rfl, rfl⟩) | (go_at_call 19; refine (topic_any _ _ (by assumption)).mono ?_; rintro e w' ⟨rfl, rfl⟩) | (go_at_call 21; refine (met_any _ _ _ (by assumption) (by assumption)).mono ?_; rintro e w' ⟨rfl, rfl⟩))
    go_ret
    exact ⟨rfl, by repeat (first | exact Grown.refl _ | apply Grown.drew | apply Grown.alloc)⟩
  have hp : 0 < a0.size := by
    refine Nat.pos_of_ne_zero fun h0 => ?_
    unfold topB at ht; rw [topicR_empty a0 h0] at ht; exact absurd ht (by decide)
  have HK1 := hide (fun hf => itself_self a0 ht hf)
  have HK2 := hide (fun h1 h2 => itself_wild a0 ht h1 h2)
  have HK3 := hide (fun h1 h2 h3 => itself_on a0 a1 ht h1 h2 h3)
  cases hf : filB a0
  · clear HK1
    cases h1 : filB (a0 ++ ⟨#[47, 35]⟩)
    · clear HK2 HK3
      go_enter Try.func7, Try.ntmps7
      go_wp2_with (first | (go_at_call 18; refine (filter_any _ _ (by assumption)).mono ?_; rintro e w' ⟨rfl, rfl⟩) | (go_at_call 19; refine (topic_any _ _ (by assumption)).mono ?_; rintro e w' ⟨rfl, rfl⟩) | (go_at_call 21; refine (met_any _ _ _ (by assumption) (by assumption)).mono ?_; rintro e w' ⟨rfl, rfl⟩))
      go_ret
      exact ⟨rfl, by repeat (first | exact Grown.refl _ | apply Grown.drew | apply Grown.alloc)⟩
    · cases h2 : filB (a0 ++ ⟨#[47, 43]⟩)
      · clear HK2 HK3
        go_enter Try.func7, Try.ntmps7
        go_wp2_with (first | (go_at_call 18; refine (filter_any _ _ (by assumption)).mono ?_; rintro e w' ⟨rfl, rfl⟩) | (go_at_call 19; refine (topic_any _ _ (by assumption)).mono ?_; rintro e w' ⟨rfl, rfl⟩) | (go_at_call 21; refine (met_any _ _ _ (by assumption) (by assumption)).mono ?_; rintro e w' ⟨rfl, rfl⟩))
        go_ret
        exact ⟨rfl, by repeat (first | exact Grown.refl _ | apply Grown.drew | apply Grown.alloc)⟩
      · obtain ⟨j1, j2, j3, j4⟩ := unhide HK2 h1 h2
        clear HK2
        cases h3 : topB (a0 ++ ⟨#[47]⟩ ++ a1)
        · clear HK3
          go_enter Try.func7, Try.ntmps7
          go_wp2_with (first | (go_at_call 18; refine (filter_any _ _ (by assumption)).mono ?_; rintro e w' ⟨rfl, rfl⟩) | (go_at_call 19; refine (topic_any _ _ (by assumption)).mono ?_; rintro e w' ⟨rfl, rfl⟩) | (go_at_call 21; refine (met_any _ _ _ (by assumption) (by assumption)).mono ?_; rintro e w' ⟨rfl, rfl⟩))
          go_ret
          exact ⟨rfl, by repeat (first | exact Grown.refl _ | apply Grown.drew | apply Grown.alloc)⟩
        · obtain ⟨i1, i2, i3, i4, i5, i6, i7, i8⟩ := unhide HK3 h1 h2 h3
          clear HK3
          rw [headI_pos a0 hp] at i6
          cases hd : ((a0[0].toNat : Int) == 36)
          · have i9 : yesB ⟨#[35]⟩ (a0 ++ ⟨#[47]⟩ ++ a1) = true := by rw [i6, hd]; rfl
            clear i6
            have hd2 : ((a0[0].toNat : Int) != 36) = true := by simpa using hd
            go_enter Try.func7, Try.ntmps7
            go_wp2_with (first | (go_at_call 18; refine (filter_any _ _ (by assumption)).mono ?_; rintro e w' ⟨rfl, rfl⟩) | (go_at_call 19; refine (topic_any _ _ (by assumption)).mono ?_; rintro e w' ⟨rfl, rfl⟩) | (go_at_call 21; refine (met_any _ _ _ (by assumption) (by assumption)).mono ?_; rintro e w' ⟨rfl, rfl⟩))
            go_quiet ((go_at_call 20; exact Calls.quiet_of_same (single_any _ _ l1)))
            go_wp2
            go_ret
            exact ⟨rfl, grown_drewN (by repeat (first | exact Grown.refl _ | apply Grown.drew | apply Grown.alloc))⟩
          · have i9 : yesB ⟨#[35]⟩ (a0 ++ ⟨#[47]⟩ ++ a1) = false := by rw [i6, hd]; rfl
            clear i6
            have hd2 : ((a0[0].toNat : Int) != 36) = false := by simpa using hd
            go_enter Try.func7, Try.ntmps7
            go_wp2_with (first | (go_at_call 18; refine (filter_any _ _ (by assumption)).mono ?_; rintro e w' ⟨rfl, rfl⟩) | (go_at_call 19; refine (topic_any _ _ (by assumption)).mono ?_; rintro e w' ⟨rfl, rfl⟩) | (go_at_call 21; refine (met_any _ _ _ (by assumption) (by assumption)).mono ?_; rintro e w' ⟨rfl, rfl⟩))
            go_quiet ((go_at_call 20; exact Calls.quiet_of_same (single_any _ _ l1)))
            go_wp2
            go_ret
            exact ⟨rfl, grown_drewN (by repeat (first | exact Grown.refl _ | apply Grown.drew | apply Grown.alloc))⟩
  · obtain ⟨k1, k2⟩ := unhide HK1 hf
    clear HK1
    cases h1 : filB (a0 ++ ⟨#[47, 35]⟩)
    · clear HK2 HK3
      go_enter Try.func7, Try.ntmps7
      go_wp2_with (first | (go_at_call 18; refine (filter_any _ _ (by assumption)).mono ?_; rintro e w' ⟨rfl, rfl⟩) | (go_at_call 19; refine (topic_any _ _ (by assumption)).mono ?_; rintro e w' ⟨rfl, rfl⟩) | (go_at_call 21; refine (met_any _ _ _ (by assumption) (by assumption)).mono ?_; rintro e w' ⟨rfl, rfl⟩))
      go_ret
      exact ⟨rfl, by repeat (first | exact Grown.refl _ | apply Grown.drew | apply Grown.alloc)⟩
    · cases h2 : filB (a0 ++ ⟨#[47, 43]⟩)
      · clear HK2 HK3
        go_enter Try.func7, Try.ntmps7
        go_wp2_with (first | (go_at_call 18; refine (filter_any _ _ (by assumption)).mono ?_; rintro e w' ⟨rfl, rfl⟩) | (go_at_call 19; refine (topic_any _ _ (by assumption)).mono ?_; rintro e w' ⟨rfl, rfl⟩) | (go_at_call 21; refine (met_any _ _ _ (by assumption) (by assumption)).mono ?_; rintro e w' ⟨rfl, rfl⟩))
        go_ret
        exact ⟨rfl, by repeat (first | exact Grown.refl _ | apply Grown.drew | apply Grown.alloc)⟩
      · obtain ⟨j1, j2, j3, j4⟩ := unhide HK2 h1 h2
        clear HK2
        cases h3 : topB (a0 ++ ⟨#[47]⟩ ++ a1)
        · clear HK3
          go_enter Try.func7, Try.ntmps7
          go_wp2_with (first | (go_at_call 18; refine (filter_any _ _ (by assumption)).mono ?_; rintro e w' ⟨rfl, rfl⟩) | (go_at_call 19; refine (topic_any _ _ (by assumption)).mono ?_; rintro e w' ⟨rfl, rfl⟩) | (go_at_call 21; refine (met_any _ _ _ (by assumption) (by assumption)).mono ?_; rintro e w' ⟨rfl, rfl⟩))
          go_ret
          exact ⟨rfl, by repeat (first | exact Grown.refl _ | apply Grown.drew | apply Grown.alloc)⟩
        · obtain ⟨i1, i2, i3, i4, i5, i6, i7, i8⟩ := unhide HK3 h1 h2 h3
          clear HK3
          rw [headI_pos a0 hp] at i6
          cases hd : ((a0[0].toNat : Int) == 36)
          · have i9 : yesB ⟨#[35]⟩ (a0 ++ ⟨#[47]⟩ ++ a1) = true := by rw [i6, hd]; rfl
            clear i6
            have hd2 : ((a0[0].toNat : Int) != 36) = true := by simpa using hd
            go_enter Try.func7, Try.ntmps7
            go_wp2_with (first | (go_at_call 18; refine (filter_any _ _ (by assumption)).mono ?_; rintro e w' ⟨rfl, rfl⟩) | (go_at_call 19; refine (topic_any _ _ (by assumption)).mono ?_; rintro e w' ⟨rfl, rfl⟩) | (go_at_call 21; refine (met_any _ _ _ (by assumption) (by assumption)).mono ?_; rintro e w' ⟨rfl, rfl⟩))
            go_quiet ((go_at_call 20; exact Calls.quiet_of_same (single_any _ _ l1)))
            go_wp2
            go_ret
            exact ⟨rfl, grown_drewN (by repeat (first | exact Grown.refl _ | apply Grown.drew | apply Grown.alloc))⟩
          · have i9 : yesB ⟨#[35]⟩ (a0 ++ ⟨#[47]⟩ ++ a1) = false := by rw [i6, hd]; rfl
            clear i6
            have hd2 : ((a0[0].toNat : Int) != 36) = false := by simpa using hd
            go_enter Try.func7, Try.ntmps7
            go_wp2_with (first | (go_at_call 18; refine (filter_any _ _ (by assumption)).mono ?_; rintro e w' ⟨rfl, rfl⟩) | (go_at_call 19; refine (topic_any _ _ (by assumption)).mono ?_; rintro e w' ⟨rfl, rfl⟩) | (go_at_call 21; refine (met_any _ _ _ (by assumption) (by assumption)).mono ?_; rintro e w' ⟨rfl, rfl⟩))
            go_quiet ((go_at_call 20; exact Calls.quiet_of_same (single_any _ _ l1)))
            go_wp2
            go_ret
            exact ⟨rfl, grown_drewN (by repeat (first | exact Grown.refl _ | apply Grown.drew | apply Grown.alloc))⟩
end Go.Proofs.Ytchhmojnoiephaa
