import Derived.Test.YtchhmojnoiephaaDoorPureQ
/- Plain mathematics: a table's code hangs on its pairs alone, not on their order (P9). -/
namespace Go.Proofs.YtchhmojnoiephaaDoor

theorem rise_ext1 : ∀ (E F : List (List UInt8)), Rise E → Rise F → (∀ e, e ∈ E ↔ e ∈ F) → E = F
  | [], [], _, _, _ => rfl
  | [], f :: F, _, _, h => by have := (h f).2 (by simp); simp at this
  | e :: E, [], _, _, h => by have := (h e).1 (by simp); simp at this
  | e :: E, f :: F, hE, hF, h => by
    simp only [Rise, List.pairwise_cons] at hE hF
    have hef : e = f := by
      rcases List.mem_cons.1 ((h e).1 (by simp)) with he | he
      · exact he
      · rcases List.mem_cons.1 ((h f).2 (by simp)) with hf | hf
        · exact hf.symm
        · have h1 := hF.1 e he
          have h2 := hE.1 f hf
          have := less_asymm _ _ h1
          rw [h2] at this; cases this
    subst hef
    congr 1
    refine rise_ext1 E F hE.2 hF.2 (fun x => ⟨fun hx => ?_, fun hx => ?_⟩)
    · rcases List.mem_cons.1 ((h x).1 (by simp [hx])) with hh | hh
      · subst hh
        have := hE.1 x hx
        rw [less_irrefl] at this; cases this
      · exact hh
    · rcases List.mem_cons.1 ((h x).2 (by simp [hx])) with hh | hh
      · subst hh
        have := hF.1 x hx
        rw [less_irrefl] at this; cases this
      · exact hh

theorem levsT_perm {T T' : List Thr} (h : T.Perm T') : levsT T = levsT T' :=
  rise_ext1 _ _ (levsT_rise T) (levsT_rise T') (fun x => by
    rw [levsT_mem, levsT_mem]
    exact ⟨fun ⟨r, q, h1, h2⟩ => ⟨r, q, h.mem_iff.1 h1, h2⟩, fun ⟨r, q, h1, h2⟩ => ⟨r, q, h.mem_iff.2 h1, h2⟩⟩)
theorem meetL_perm {T T' : List Thr} (h : T.Perm T') (m : List UInt8) : (meetL m T).Perm (meetL m T') := h.filterMap _
theorem any_perm {α : Type} (f : α → Bool) {T T' : List α} (h : T.Perm T') : T.any f = T'.any f := by
  rw [Bool.eq_iff_iff, List.any_eq_true, List.any_eq_true]
  exact ⟨fun ⟨x, h1, h2⟩ => ⟨x, h.mem_iff.1 h1, h2⟩, fun ⟨x, h1, h2⟩ => ⟨x, h.mem_iff.2 h1, h2⟩⟩
theorem all_perm {α : Type} (f : α → Bool) {T T' : List α} (h : T.Perm T') : T.all f = T'.all f := by
  rw [Bool.eq_iff_iff, List.all_eq_true, List.all_eq_true]
  exact ⟨fun hh x h1 => hh x (h.mem_iff.2 h1), fun hh x h1 => hh x (h.mem_iff.1 h1)⟩
theorem ansT_perm {T T' : List Thr} (h : T.Perm T') : ansT T = ansT T' := by
  unfold ansT ansTo
  congr 1
  exact List.filter_congr (fun n _ => any_perm _ h)

theorem edgF_perm (num : NumF) (hn : ∀ T T' S, T.Perm T' → num T S = num T' S) {T T' : List Thr} (h : T.Perm T') (ls : List (List UInt8)) : ∀ S, edgF num T ls S = edgF num T' ls S := by
  induction ls with
  | nil => intro S; rfl
  | cons l ls ih => intro S; simp only [edgF]; rw [hn _ _ S (meetL_perm h l), ih]
theorem edgS_perm (num : NumF) (hn : ∀ T T' S, T.Perm T' → num T S = num T' S) {T T' : List Thr} (h : T.Perm T') (S : List St) : edgS num T S = edgS num T' S := by
  unfold edgS
  rw [hn _ _ S (meetL_perm h [42]), levsT_perm h, edgF_perm num hn h]
theorem numS_perm (n : Nat) : ∀ (T T' : List Thr) (S : List St), T.Perm T' → numS n T S = numS n T' S := by
  induction n with
  | zero => intro T T' S _; rfl
  | succ n ih =>
    intro T T' S h
    simp only [numS]
    rw [all_perm stayB h, ansT_perm h, edgS_perm (numS n) ih h]
    by_cases h0 : T = []
    · subst h0
      have := h.length_eq
      have h0' : T' = [] := List.length_eq_zero_iff.1 (by simpa using this.symm)
      rw [if_pos rfl, if_pos h0']
    · have h0' : T' ≠ [] := by
        rintro rfl
        exact h0 (List.length_eq_zero_iff.1 (by simpa using h.length_eq))
      rw [if_neg h0, if_neg h0']

/-- P9: what Code answers hangs on the pairs alone -/
theorem codeB_perm {L L' : List PairL} (h : L.Perm L') : codeB L = codeB L' := by
  have h0 : edg0 L = edg0 L' := edgS_perm _ (numS_perm 6) ((h.filter _).map _) st0
  have h1 : edg1 L = edg1 L' := by
    unfold edg1
    rw [h0]
    exact edgS_perm _ (numS_perm 6) ((h.filter _).map _) _
  unfold codeB codeSt
  rw [h0, h1]
theorem codeB_ne (L : List PairL) : codeB L ≠ [] := by
  unfold codeB codeSt
  simp [joinP]

end Go.Proofs.YtchhmojnoiephaaDoor
