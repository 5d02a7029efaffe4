import Derived.Test.YtchhmojnoiephabGreatDoorPureB
/- Plain mathematics: what Level and Itself ask. -/
namespace Go.Proofs.YtchhmojnoiephabGreatDoor

/-- a byte of one level without wildcards -/
def plainC (n : Int) : Bool := !(n == 47) && !(n == 43) && !(n == 35)
def sglL : List UInt8 → Bool
  | [] => true
  | c :: r => plainC (c.toNat : Int) && sglL r

theorem toNat_inj (c : UInt8) (n : Nat) (h : n < 256) (hc : (c.toNat : Int) = (n : Int)) : c = UInt8.ofNat n := by
  apply UInt8.toNat_inj.1
  rw [UInt8.toNat_ofNat']
  omega

theorem filterR_len (F : List UInt8) (h : (filterR F).1 = 0) : F.length ≤ 24 ∧ F ≠ [] ∧ badF 47 0 0 F = none := by
  unfold filterR at h
  split at h
  · simp at h
  · split at h
    · simp at h
    · cases hb : badF 47 0 0 F with
      | some i => rw [hb] at h; simp at h
      | none => exact ⟨by omega, by intro h'; simp_all, rfl⟩
theorem topicR_len (F : List UInt8) (h : (topicR F).1 = 0) : F.length ≤ 24 ∧ F ≠ [] ∧ badT 0 F = none := by
  unfold topicR at h
  split at h
  · simp at h
  · split at h
    · simp at h
    · cases hb : badT 0 F with
      | some i => rw [hb] at h; simp at h
      | none => exact ⟨by omega, by intro h'; simp_all, rfl⟩

theorem badT_none (F : List UInt8) : ∀ i, badT i F = none → ∀ c ∈ F, tokB (c.toNat : Int) = true := by
  induction F with
  | nil => intro i _ c hc; simp at hc
  | cons a r ih =>
    intro i h c hc
    unfold badT at h
    by_cases ha : tokB (a.toNat : Int) = true
    · rw [if_pos ha] at h
      rcases List.mem_cons.1 hc with rfl | hc
      · exact ha
      · exact ih _ h c hc
    · rw [if_neg ha] at h; simp at h

theorem tok_plain (n : Int) (h : tokB n = true) : n ≠ 43 ∧ n ≠ 35 := by
  unfold tokB signB at h; simp at h; omega

theorem topic_chars (T : List UInt8) (h : (topicR T).1 = 0) : ∀ c ∈ T, (c.toNat : Int) ≠ 43 ∧ (c.toNat : Int) ≠ 35 :=
  fun c hc => tok_plain _ (badT_none T 0 (topicR_len T h).2.2 c hc)

theorem matchR_ok (F T : List UInt8) (hF : (filterR F).1 = 0) (hT : (topicR T).1 = 0) : matchR F T = (matchB F T, 0, 0) := by
  have h1 := (filterR_len F hF).1
  have h2 := (topicR_len T hT).1
  unfold matchR
  rw [if_neg (by omega), if_neg (by simp [hF]), if_neg (by simp [hT])]

theorem matchR_not (T : List UInt8) (hT : ¬ (topicR T).1 = 0) : (matchR T T).1 = false ∧ ¬ (matchR T T).2.1 = 0 := by
  unfold matchR
  split
  · simp
  · split
    · rename_i h; exact ⟨rfl, h⟩
    · exact ⟨rfl, hT⟩

theorem levs_join (F G : List UInt8) : levs (F ++ 47 :: G) = levs F ++ levs G := by
  induction F with
  | nil => simp [levs]
  | cons c r ih =>
    by_cases h : (c.toNat : Int) = 47
    · simp [levs, h, ih]
    · rw [List.cons_append, levs, if_neg h, ih, levs, if_neg h]
      cases hr : levs r with
      | nil => exact absurd hr (levs_ne r)
      | cons a b => simp

theorem levs_one (F : List UInt8) (h : ∀ c ∈ F, ¬ (c.toNat : Int) = 47) : levs F = [F] := by
  induction F with
  | nil => rfl
  | cons c r ih =>
    rw [levs, if_neg (h c (by simp)), ih (fun d hd => h d (by simp [hd]))]

theorem levs_many (F : List UInt8) (c : UInt8) (hc : c ∈ F) (h : (c.toNat : Int) = 47) : 2 ≤ (levs F).length := by
  induction F with
  | nil => simp at hc
  | cons a r ih =>
    by_cases ha : (a.toNat : Int) = 47
    · rw [levs, if_pos ha]
      have := levs_ne r
      cases hr : levs r with
      | nil => exact absurd hr this
      | cons x y => simp
    · rcases List.mem_cons.1 hc with rfl | hc
      · exact absurd h ha
      · have := ih hc
        rw [levs, if_neg ha]
        cases hr : levs r with
        | nil => exact absurd hr (levs_ne r)
        | cons x y => rw [hr] at this; simpa using this

theorem levs_mem (F : List UInt8) : ∀ x ∈ levs F, ∀ c ∈ x, c ∈ F := by
  induction F with
  | nil => intro x hx c hc; simp [levs] at hx; subst hx; simp at hc
  | cons a r ih =>
    intro x hx c hc
    unfold levs at hx
    by_cases ha : (a.toNat : Int) = 47
    · rw [if_pos ha] at hx
      rcases List.mem_cons.1 hx with rfl | hx
      · simp at hc
      · exact List.mem_cons_of_mem _ (ih x hx c hc)
    · rw [if_neg ha] at hx
      cases hr : levs r with
      | nil => exact absurd hr (levs_ne r)
      | cons p q =>
        rw [hr] at hx
        rcases List.mem_cons.1 hx with rfl | hx
        · rcases List.mem_cons.1 hc with rfl | hc
          · simp
          · exact List.mem_cons_of_mem _ (ih p (by rw [hr]; simp) c hc)
        · exact List.mem_cons_of_mem _ (ih x (by rw [hr]; simp [hx]) c hc)

theorem sglL_all (F : List UInt8) (h : sglL F = true) : ∀ c ∈ F, (c.toNat : Int) ≠ 47 ∧ (c.toNat : Int) ≠ 43 ∧ (c.toNat : Int) ≠ 35 := by
  induction F with
  | nil => intro c hc; simp at hc
  | cons a r ih =>
    unfold sglL plainC at h
    simp at h
    intro c hc
    rcases List.mem_cons.1 hc with rfl | hc
    · exact ⟨h.1.1.1, h.1.1.2, h.1.2⟩
    · exact ih h.2 c hc
theorem sglL_of (F : List UInt8) (h : ∀ c ∈ F, (c.toNat : Int) ≠ 47 ∧ (c.toNat : Int) ≠ 43 ∧ (c.toNat : Int) ≠ 35) : sglL F = true := by
  induction F with
  | nil => rfl
  | cons a r ih =>
    have h1 := h a (by simp)
    have h2 := ih (fun c hc => h c (by simp [hc]))
    simp [sglL, plainC, h1, h2]

theorem headI_join (F G : List UInt8) : headI (F ++ 47 :: G) = if F = [] then 47 else headI F := by
  cases F with
  | nil => rfl
  | cons a r => rfl
theorem headI_mem (F : List UInt8) (h : F ≠ []) : ∃ c ∈ F, headI F = (c.toNat : Int) := by
  cases F with
  | nil => exact absurd rfl h
  | cons a r => exact ⟨a, by simp, rfl⟩

theorem fits_join (A B : List (List UInt8)) : fitsL (A ++ [[35]]) (A ++ B) = true := by
  induction A with
  | nil => cases B <;> simp [fitsL]
  | cons x A ih => simp [fitsL, ih]
theorem fits_self (A : List (List UInt8)) : fitsL A A = true := by
  induction A with
  | nil => rfl
  | cons x A ih => simp [fitsL, ih]
theorem fits_plus (A B : List (List UInt8)) (h : ∀ x ∈ A, x ≠ [35]) : fitsL (A ++ [[43]]) (A ++ B) = decide (B.length = 1) := by
  induction A with
  | nil =>
    cases B with
    | nil => simp [fitsL]
    | cons x B => cases B <;> simp [fitsL]
  | cons x A ih =>
    have h1 := h x (by simp)
    simp [fitsL, h1, ih (fun y hy => h y (by simp [hy]))]

theorem level_lists (F G T U : List UInt8) (hF : sglL F = true ∨ F = [43]) (hT : sglL T = true) (hU : ¬ headI U = 36) :
    matchB (F ++ 47 :: G) (T ++ 47 :: U) = (decide (F = T ∨ (F = [43] ∧ ¬ headI T = 36)) && matchB G U) := by
  have hR : matchB G U = fitsL (levs G) (levs U) := by unfold matchB; rw [if_neg (by omega)]
  have hTl : levs T = [T] := levs_one T (fun c hc => (sglL_all T hT c hc).1)
  have hFl : levs F = [F] := by
    rcases hF with hF | rfl
    · exact levs_one F (fun c hc => (sglL_all F hF c hc).1)
    · rfl
  have hTh : headI (T ++ 47 :: U) = 36 ↔ headI T = 36 := by
    rw [headI_join]
    by_cases h : T = []
    · subst h; simp [headI]
    · rw [if_neg h]
  have hF35 : F ≠ [35] := by
    rcases hF with hF | rfl
    · intro h; subst h; exact absurd hF (by decide)
    · decide
  rw [hR]
  unfold matchB
  rw [levs_join, levs_join, hFl, hTl]
  rcases hF with hF | rfl
  · have h1 : ¬ (headI (F ++ 47 :: G) = 43 ∨ headI (F ++ 47 :: G) = 35) := by
      rw [headI_join]
      by_cases h : F = []
      · rw [if_pos h]; omega
      · rw [if_neg h]
        obtain ⟨c, hc, he⟩ := headI_mem F h
        have := sglL_all F hF c hc
        omega
    have h2 : F ≠ [43] := by intro h; subst h; exact absurd hF (by decide)
    rw [if_neg (fun h => h1 h.2)]
    by_cases h3 : F = T
    · simp [fitsL, h3]
      intro h; exact absurd (h3.trans h) hF35
    · simp [fitsL, hF35, h2, h3]
  · have h1 : ¬ ([43] : List UInt8) = T := by intro h; subst h; exact absurd hT (by decide)
    by_cases h4 : headI T = 36
    · rw [if_pos ⟨hTh.2 h4, by left; rfl⟩]
      simp [h1, h4]
    · rw [if_neg (fun h => h4 (hTh.1 h.1))]
      simp [fitsL, h1, h4]

end Go.Proofs.YtchhmojnoiephabGreatDoor
