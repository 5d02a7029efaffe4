import Derived.Test.YtchhmojnoiephaaDoorPureQ
/- Plain mathematics: a table's code hangs on its pairs alone, not on their order (P9). -/
namespace Go.Proofs.YtchhmojnoiephaaDoor

theorem rise_ext1 : ∀ (E F : List (List UInt8)), Rise E → Rise F → (∀ e, e ∈ E ↔ e ∈ F) → E = F
  | [], [], _, _, _ => rfl
  | [], f :: F, _, _, h => by have := (h f).2 (by simp); simp at this
  | e :: E, [], _, _, h => by have := (h e).1 (by simp); simp at this
  | e :: E, f :: F, hE, hF, h => by
    simp only [Rise, List.pairwise_cons] at hE hF
    have hef : e = f := by
      rcases List.mem_cons.1 ((h e).1 (by simp)) with he | he
      · exact he
      · rcases List.mem_cons.1 ((h f).2 (by simp)) with hf | hf
        · exact hf.symm
        · have h1 := hF.1 e he
          have h2 := hE.1 f hf
          have := less_asymm _ _ h1
          rw [h2] at this; cases this
    subst hef
    congr 1
    refine rise_ext1 E F hE.2 hF.2 (fun x => ⟨fun hx => ?_, fun hx => ?_⟩)
    · rcases List.mem_cons.1 ((h x).1 (by simp [hx])) with hh | hh
      · subst hh
        have := hE.1 x hx
        rw [less_irrefl] at this; cases this
      · exact hh
    · rcases List.mem_cons.1 ((h x).2 (by simp [hx])) with hh | hh
      · subst hh
        have := hF.1 x hx
        rw [less_irrefl] at this; cases this
      · exact hh

theorem levsT_perm {T T' : List Thr} (h : T.Perm T') : levsT T = levsT T' :=
  rise_ext1 _ _ (levsT_rise T) (levsT_rise T') (fun x => by
    rw [levsT_mem, levsT_mem]
    exact ⟨fun ⟨r, q, h1, h2⟩ => ⟨r, q, h.mem_iff.1 h1, h2⟩, fun ⟨r, q, h1, h2⟩ => ⟨r, q, h.mem_iff.2 h1, h2⟩⟩)
theorem meetL_perm {T T' : List Thr} (h : T.Perm T') (m : List UInt8) : (meetL m T).Perm (meetL m T') := h.filterMap _
theorem any_perm {α : Type} (f : α → Bool) {T T' : List α} (h : T.Perm T') : T.any f = T'.any f := by
  rw [Bool.eq_iff_iff, List.any_eq_true, List.any_eq_true]
  exact ⟨fun ⟨x, h1, h2⟩ => ⟨x, h.mem_iff.1 h1, h2⟩, fun ⟨x, h1, h2⟩ => ⟨x, h.mem_iff.2 h1, h2⟩⟩
theorem all_perm {α : Type} (f : α → Bool) {T T' : List α} (h : T.Perm T') : T.all f = T'.all f := by
  rw [Bool.eq_iff_iff, List.all_eq_true, List.all_eq_true]
  exact ⟨fun hh x h1 => hh x (h.mem_iff.2 h1), fun hh x h1 => hh x (h.mem_iff.1 h1)⟩
theorem ansT_perm {T T' : List Thr} (h : T.Perm T') : ansT T = ansT T' := by
  unfold ansT ansTo
  congr 1
  exact List.filter_congr (fun n _ => any_perm _ h)

theorem edgF_perm (num : NumF) (hn : ∀ T T' S, T.Perm T' → num T S = num T' S) {T T' : List Thr} (h : T.Perm T') (ls : List (List UInt8)) : ∀ S, edgF num T ls S = edgF num T' ls S := by
  induction ls with
  | nil => intro S; rfl
  | cons l ls ih => intro S; simp only [edgF]; rw [hn _ _ S (meetL_perm h l), ih]
theorem edgS_perm (num : NumF) (hn : ∀ T T' S, T.Perm T' → num T S = num T' S) {T T' : List Thr} (h : T.Perm T') (S : List St) : edgS num T S = edgS num T' S := by
  unfold edgS
  rw [hn _ _ S (meetL_perm h [42]), levsT_perm h, edgF_perm num hn h]
theorem numS_perm (n : Nat) : ∀ (T T' : List Thr) (S : List St), T.Perm T' → numS n T S = numS n T' S := by
  induction n with
  | zero => intro T T' S _; rfl
  | succ n ih =>
    intro T T' S h
    simp only [numS]
    rw [all_perm stayB h, ansT_perm h, edgS_perm (numS n) ih h]
    by_cases h0 : T = []
    · subst h0
      have := h.length_eq
      have h0' : T' = [] := List.length_eq_zero_iff.1 (by simpa using this.symm)
      rw [if_pos rfl, if_pos h0']
    · have h0' : T' ≠ [] := by
        rintro rfl
        exact h0 (List.length_eq_zero_iff.1 (by simpa using h.length_eq))
      rw [if_neg h0, if_neg h0']

/-- P9: what Code answers hangs on the pairs alone -/
theorem codeB_perm {L L' : List PairL} (h : L.Perm L') : codeB L = codeB L' := by
  have h0 : edg0 L = edg0 L' := edgS_perm _ (numS_perm 6) ((h.filter _).map _) st0
  have h1 : edg1 L = edg1 L' := by
    unfold edg1
    rw [h0]
    exact edgS_perm _ (numS_perm 6) ((h.filter _).map _) _
  unfold codeB codeSt
  rw [h0, h1]
theorem codeB_ne (L : List PairL) : codeB L ≠ [] := by
  unfold codeB codeSt
  simp [joinP]

end Go.Proofs.YtchhmojnoiephaaDoor

/- Plain mathematics: pairs that are put in anew, others in between: the same pairs (what Canon asks). -/
namespace Go.Proofs.YtchhmojnoiephaaDoor

/-- one round of the first loop -/
def canS (q x : PairL) (A : List PairL) : List PairL :=
  if (addR A q.1 q.2).1.1 = 0 ∧ ¬ x = q then (dropR (addR (addR A q.1 q.2).2 x.1 x.2).2 q.1 q.2).2 else (addR (addR A q.1 q.2).2 x.1 x.2).2
/-- rounds left of the first loop: those of the first k pairs, from the last on -/
def canD (q : PairL) (L : List PairL) : Nat → List PairL → List PairL
  | 0, A => A
  | k + 1, A => canD q L k (match L[k]? with | some x => canS q x A | none => A)
/-- the second loop -/
def canU (L : List PairL) (A : List PairL) : List PairL := L.foldl (fun A x => (addR A x.1 x.2).2) A

theorem addR_mem (A : List PairL) (x : PairL) : ∀ y ∈ (addR A x.1 x.2).2, y ∈ A ∨ y = x := by
  intro y hy
  unfold addR at hy
  split at hy
  · exact Or.inl hy
  · split at hy
    · exact Or.inl hy
    · split at hy
      · exact Or.inl hy
      · rcases List.mem_append.1 hy with h | h
        · exact Or.inl h
        · exact Or.inr (by simpa using h)
theorem addR_ok (A : List PairL) (x : PairL) (h : (addR A x.1 x.2).1.1 = 0) : (addR A x.1 x.2).2 = A ++ [x] ∧ x ∉ A := by
  unfold addR at h ⊢
  split at h
  · rename_i hh; exact absurd h hh
  · rename_i hh
    split at h
    · simp at h
    · rename_i hm
      split at h
      · simp at h
      · rename_i hl
        rw [if_neg hh, if_neg hm, if_neg hl]
        exact ⟨rfl, hm⟩
theorem addR_no (A : List PairL) (x : PairL) (h : ¬ (addR A x.1 x.2).1.1 = 0) : (addR A x.1 x.2).2 = A := by
  unfold addR at h ⊢
  split
  · rfl
  · split
    · rfl
    · split
      · rfl
      · rename_i h1 h2 h3
        rw [if_neg h1, if_neg h2, if_neg h3] at h
        simp at h
theorem dropR_mem (A : List PairL) (q : PairL) (hA : goodL A) (hq : (askR q.1 q.2).1 = 0) : ∀ y ∈ (dropR A q.1 q.2).2, y ∈ A ∧ y ≠ q := by
  intro y hy
  unfold dropR at hy
  rw [if_neg (by simp [hq])] at hy
  split at hy
  · exact ⟨List.mem_of_mem_erase hy, fun e => by
      subst e
      exact (List.Nodup.not_mem_erase hA.2.1) hy⟩
  · rename_i hn
    exact ⟨hy, fun e => hn (by rw [← e]; exact hy)⟩
theorem addR_ask (A : List PairL) (q : PairL) (h : (addR A q.1 q.2).1.1 = 0) : (askR q.1 q.2).1 = 0 := by
  unfold addR at h
  split at h
  · exact h
  · rename_i hh; simpa using hh

/-- what holds between the rounds -/
def canI (L A : List PairL) : Prop := goodL A ∧ ∀ y ∈ A, y ∈ L

theorem canS_inv (L : List PairL) (q x : PairL) (A : List PairL) (hx : x ∈ L) (h : canI L A) : canI L (canS q x A) := by
  have g1 := addR_good A q.1 q.2 h.1
  have g2 := addR_good _ x.1 x.2 g1
  unfold canS
  split
  · rename_i hh
    refine ⟨dropR_good _ _ _ g2, fun y hy => ?_⟩
    obtain ⟨h1, h2⟩ := dropR_mem _ q g2 (addR_ask A q hh.1) y hy
    rcases addR_mem _ x y h1 with h3 | rfl
    · rcases addR_mem A q y h3 with h4 | h4
      · exact h.2 y h4
      · exact absurd h4 h2
    · exact hx
  · rename_i hh
    refine ⟨g2, fun y hy => ?_⟩
    rcases addR_mem _ x y hy with h3 | rfl
    · by_cases h0 : (addR A q.1 q.2).1.1 = 0
      · have hxq : x = q := Classical.byContradiction fun hn => hh ⟨h0, hn⟩
        rcases addR_mem A q y h3 with h4 | rfl
        · exact h.2 y h4
        · rw [← hxq]; exact hx
      · rw [addR_no A q h0] at h3; exact h.2 y h3
    · exact hx
theorem canD_inv (L : List PairL) (q : PairL) (k : Nat) : ∀ A, canI L A → canI L (canD q L k A) := by
  induction k with
  | zero => intro A h; exact h
  | succ k ih =>
    intro A h
    simp only [canD]
    refine ih _ ?_
    cases hx : L[k]? with
    | none => exact h
    | some x => exact canS_inv L q x A (List.mem_of_getElem? hx) h

theorem canU_step (L A : List PairL) (x : PairL) (hL : goodL L) (hx : x ∈ L) (h : canI L A) : canI L (addR A x.1 x.2).2 ∧ x ∈ (addR A x.1 x.2).2 ∧ ∀ y ∈ A, y ∈ (addR A x.1 x.2).2 := by
  have hgx := hL.2.2 x hx
  have hask : (askR x.1 x.2).1 = 0 := by
    unfold askR; rw [if_neg (by simp [hgx.1]), if_neg (by omega)]
  refine ⟨⟨addR_good A x.1 x.2 h.1, fun y hy => ?_⟩, ?_, ?_⟩
  · rcases addR_mem A x y hy with h1 | rfl
    · exact h.2 y h1
    · exact hx
  · unfold addR
    rw [if_neg (by simp [hask])]
    split
    · rename_i hm; exact hm
    · rename_i hm
      have hlt : A.length < 6 := by
        have h1 : (x :: A).length ≤ L.length := nodup_len (x :: A) L (by rw [List.nodup_cons]; exact ⟨hm, h.1.2.1⟩) (fun y hy => by
          rcases List.mem_cons.1 hy with rfl | hy
          · exact hx
          · exact h.2 y hy)
        have := hL.1
        simp at h1; omega
      rw [if_neg (by omega)]; simp
  · intro y hy
    unfold addR
    split
    · exact hy
    · split
      · exact hy
      · split
        · exact hy
        · simp [hy]
theorem canU_inv (L : List PairL) (hL : goodL L) (M : List PairL) : ∀ A, (∀ x ∈ M, x ∈ L) → canI L A → canI L (canU M A) ∧ (∀ x ∈ M, x ∈ canU M A) ∧ ∀ y ∈ A, y ∈ canU M A := by
  induction M with
  | nil => intro A _ h; exact ⟨h, by simp, fun y hy => hy⟩
  | cons x M ih =>
    intro A hM h
    obtain ⟨h1, h2, h3⟩ := canU_step L A x hL (hM x (by simp)) h
    obtain ⟨k1, k2, k3⟩ := ih _ (fun y hy => hM y (by simp [hy])) h1
    refine ⟨k1, fun y hy => ?_, fun y hy => k3 y (h3 y hy)⟩
    rcases List.mem_cons.1 hy with rfl | hy
    · exact k3 _ h2
    · exact k2 y hy

theorem perm_of_nodup {α : Type} [DecidableEq α] : ∀ (A B : List α), A.Nodup → B.Nodup → (∀ x, x ∈ A ↔ x ∈ B) → A.Perm B
  | [], B, _, _, h => by
    cases B with
    | nil => exact List.Perm.refl _
    | cons b B => have := (h b).2 (by simp); simp at this
  | a :: A, B, hA, hB, h => by
    have ha : a ∈ B := (h a).1 (by simp)
    rw [List.nodup_cons] at hA
    refine List.Perm.trans ?_ (List.perm_cons_erase ha).symm
    refine List.Perm.cons a (perm_of_nodup A (B.erase a) hA.2 (hB.erase a) (fun x => ⟨fun hx => ?_, fun hx => ?_⟩))
    · refine (List.mem_erase_of_ne ?_).2 ((h x).1 (by simp [hx]))
      rintro rfl; exact hA.1 hx
    · have hne : x ≠ a := by rintro rfl; exact List.Nodup.not_mem_erase hB hx
      rcases List.mem_cons.1 ((h x).2 (List.mem_of_mem_erase hx)) with rfl | hx'
      · exact absurd rfl hne
      · exact hx'

/-- the second table has the same pairs -/
theorem canon_perm (L : List PairL) (hL : goodL L) (q : PairL) : (canU L (canD q L L.length [])).Perm L ∧ goodL (canU L (canD q L L.length [])) := by
  obtain ⟨h1, h2, _⟩ := canU_inv L hL L (canD q L L.length []) (fun x hx => hx) (canD_inv L q L.length [] ⟨goodL_nil, by simp⟩)
  exact ⟨perm_of_nodup _ _ h1.1.2.1 hL.2.1 (fun x => ⟨h1.2 x, h2 x⟩), h1.1⟩
theorem canon_code (L : List PairL) (hL : goodL L) (q : PairL) : codeB (canU L (canD q L L.length [])) = codeB L := codeB_perm (canon_perm L hL q).1

end Go.Proofs.YtchhmojnoiephaaDoor
