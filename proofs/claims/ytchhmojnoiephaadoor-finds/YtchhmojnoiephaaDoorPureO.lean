import Derived.Test.YtchhmojnoiephaaDoorPureN
/- Plain mathematics: how many states there are, and how long their code is. -/
namespace Go.Proofs.YtchhmojnoiephaaDoor

def subs {α : Type} : List α → List (List α)
  | [] => [[]]
  | a :: l => subs l ++ (subs l).map (a :: ·)
theorem filter_subs {α : Type} (p : α → Bool) : ∀ l : List α, l.filter p ∈ subs l
  | [] => by simp [subs]
  | a :: l => by
    have ih := filter_subs p l
    rw [List.filter_cons]
    simp only [subs, List.mem_append, List.mem_map]
    split
    · exact Or.inr ⟨_, ih, rfl⟩
    · exact Or.inl ih

/-- a thread d levels further on -/
def advT : Nat → Thr → Thr
  | 0, t => t
  | _ + 1, ([], q) => ([], q)
  | d + 1, (l :: r, q) => if l = [35] then (l :: r, q) else advT d (r, q)
theorem adv_hash (d : Nat) (r : List (List UInt8)) (q : Int) : advT d ([35] :: r, q) = ([35] :: r, q) := by cases d <;> simp [advT]
theorem adv_more (d : Nat) : ∀ t : Thr, t.1.length ≤ d → advT (d + 1) t = advT d t := by
  induction d with
  | zero =>
    intro t h
    obtain ⟨r, q⟩ := t
    cases r with
    | nil => rfl
    | cons l r => simp at h
  | succ d ih =>
    intro t h
    obtain ⟨r, q⟩ := t
    cases r with
    | nil => rfl
    | cons l r =>
      rw [advT, advT]
      split
      · rfl
      · exact ih (r, q) (by simpa using h)
theorem adv_cap (t : Thr) (h : t.1.length ≤ 5) (d : Nat) : advT (6 + d) t = advT 6 t := by
  induction d with
  | zero => rfl
  | succ d ih => rw [show 6 + (d + 1) = 6 + d + 1 from rfl, adv_more (6 + d) t (by omega), ih]

theorem aft_adv (w : List (List UInt8)) : ∀ (t u : Thr), (∀ m ∈ w, metL m) → aft t w = some u → u = advT w.length t := by
  induction w with
  | nil => intro t u _ h; simp [aft] at h; rw [h]; rfl
  | cons m w ih =>
    intro t u hw h
    simp only [aft] at h
    cases hm : meetT m t with
    | none => rw [hm] at h; cases h
    | some v =>
      rw [hm] at h
      have := ih v u (fun x hx => hw x (by simp [hx])) h
      rw [this]
      obtain ⟨r, q⟩ := t
      have hn := metL_not m (hw m (by simp))
      cases r with
      | nil => simp [meetT] at hm
      | cons l r =>
        simp only [meetT] at hm
        split at hm
        · rename_i h1
          simp only [Option.some.injEq] at hm; subst hm
          rw [List.length_cons, advT, if_neg]
          rcases h1 with rfl | rfl
          · simp
          · exact hn.1
        · split at hm
          · rename_i h2
            simp only [Option.some.injEq] at hm; subst hm; subst h2
            rw [adv_hash, adv_hash]
          · cases hm

theorem meets_form (B : List Thr) (w : List (List UInt8)) (hw : ∀ m ∈ w, metL m) : meets B w = (B.filter fun t => (aft t w).isSome).map (advT w.length) := by
  rw [meets_aft]
  induction B with
  | nil => rfl
  | cons t B ih =>
    cases ha : aft t w with
    | none => rw [List.filterMap_cons_none (f := fun t => aft t w) ha, List.filter_cons, if_neg (by simp [ha])]; exact ih
    | some u => rw [List.filterMap_cons_some (f := fun t => aft t w) ha, List.filter_cons, if_pos (by simp [ha]), List.map_cons, ih, aft_adv w t u hw ha]

def cands (B : List Thr) : List (List Thr) := (List.range 6).flatMap fun d => (subs B).map fun T => T.map (advT (d + 1))

theorem meets_cand (B : List Thr) (hB : ∀ t ∈ B, t.1.length ≤ 5) (w : List (List UInt8)) (hn : w ≠ []) (hw : ∀ m ∈ w, metL m) : meets B w ∈ cands B := by
  rw [meets_form B w hw]
  have hl : 0 < w.length := List.length_pos_iff.2 hn
  unfold cands
  rw [List.mem_flatMap]
  by_cases h6 : w.length ≤ 6
  · refine ⟨w.length - 1, List.mem_range.2 (by omega), List.mem_map.2 ⟨_, filter_subs (fun t => (aft t w).isSome) B, ?_⟩⟩
    rw [show w.length - 1 + 1 = w.length from by omega]
  · refine ⟨5, List.mem_range.2 (by omega), List.mem_map.2 ⟨_, filter_subs (fun t => (aft t w).isSome) B, ?_⟩⟩
    apply List.map_congr_left
    intro t ht
    have := adv_cap t (hB t (List.mem_filter.1 ht).1) (w.length - 6)
    rw [show 6 + (w.length - 6) = w.length from by omega] at this
    exact this.symm

/-- the weight of a row of threads: no state of it is written longer (the ';' counted) -/
def wt (T : List Thr) : Nat := 5 + 30 * T.length
def gW : Nat → Nat
  | 0 => 5
  | a + 1 => 2 * gW a + 30 * 2 ^ a

theorem sum_add {α : Type} (f g : α → Nat) (l : List α) : (l.map fun x => f x + g x).sum = (l.map f).sum + (l.map g).sum := by
  induction l with
  | nil => rfl
  | cons a l ih => simp only [List.map_cons, List.sum_cons, ih]; omega
theorem sum_const {α : Type} (c : Nat) (l : List α) : (l.map fun _ => c).sum = c * l.length := by
  induction l with
  | nil => simp
  | cons a l ih => simp only [List.map_cons, List.sum_cons, ih, List.length_cons, Nat.mul_add]; omega
theorem subs_len {α : Type} (l : List α) : (subs l).length = 2 ^ l.length := by
  induction l with
  | nil => rfl
  | cons a l ih => simp only [subs, List.length_append, List.length_map, ih, List.length_cons, Nat.pow_succ]; omega
theorem subs_wt (l : List Thr) : ((subs l).map wt).sum = gW l.length := by
  induction l with
  | nil => rfl
  | cons a l ih =>
    simp only [subs, List.map_append, List.sum_append, List.map_map, List.length_cons, gW]
    have : (List.map (wt ∘ fun x => a :: x) (subs l)).sum = ((subs l).map fun x => wt x + 30).sum := by
      congr 1
    rw [this, sum_add, sum_const, ih, subs_len]; omega
theorem cands_wt (B : List Thr) : ((cands B).map wt).sum = 6 * gW B.length := by
  have h : ∀ d, (((subs B).map fun T => T.map (advT (d + 1))).map wt).sum = gW B.length := by
    intro d
    rw [List.map_map]
    have : (List.map (wt ∘ fun T => List.map (advT (d + 1)) T) (subs B)) = (subs B).map wt := by
      apply List.map_congr_left
      intro x _
      simp [Function.comp, wt]
    rw [this, subs_wt]
  have e : List.range 6 = [0, 1, 2, 3, 4, 5] := rfl
  unfold cands
  rw [e]
  simp only [List.flatMap_cons, List.flatMap_nil, List.map_append, List.sum_append, h, List.append_nil]
  omega

theorem gW_two (a b : Nat) (h : a + b ≤ 6) : 6 * gW a + 6 * gW b ≤ 36510 := by
  have ha : a ≤ 6 := by omega
  have hb : b ≤ 6 := by omega
  have key : ∀ a b : Fin 7, a.val + b.val ≤ 6 → 6 * gW a.val + 6 * gW b.val ≤ 36510 := by decide
  exact key ⟨a, by omega⟩ ⟨b, by omega⟩ h

/-- the rows of threads that come up on the ways from P and from D -/
def Cof (P D : List Thr) (T : List Thr) : Prop := ∃ w, w ≠ [] ∧ (∀ m ∈ w, metL m) ∧ (T = meets P w ∨ T = meets D w)
theorem cof_meet (P D T : List Thr) (m : List UInt8) (h : Cof P D T) (hm : metL m) : Cof P D (meetL m T) := by
  obtain ⟨w, hn, hw, he⟩ := h
  refine ⟨w ++ [m], by simp, fun x hx => ?_, ?_⟩
  · rcases List.mem_append.1 hx with hx | hx
    · exact hw x hx
    · rw [List.mem_singleton] at hx; rw [hx]; exact hm
  · rcases he with rfl | rfl
    · left; rw [meets_append]; rfl
    · right; rw [meets_append]; rfl
theorem cof_first (P D : List Thr) (m : List UInt8) (hm : metL m) : Cof P D (meetL m P) ∧ Cof P D (meetL m D) :=
  ⟨⟨[m], by simp, by simpa using hm, Or.inl rfl⟩, ⟨[m], by simp, by simpa using hm, Or.inr rfl⟩⟩

theorem inv_weight (P D : List Thr) (hP : ∀ t ∈ P, t.1.length ≤ 5) (hD : ∀ t ∈ D, t.1.length ≤ 5) (hl : P.length + D.length ≤ 6) (S : List St) (hS : Inv (Cof P D) S) :
    ((S.drop 2).map fun x => (render x).length + 1).sum ≤ 36510 := by
  have ch : ∀ i, ∃ T, (2 ≤ i ∧ i < S.length) → Cof P D T ∧ (∀ w, sgnW w → lang S (i : Int) w = ansT (meets T w)) ∧ ∀ h : i < S.length, (render S[i]).length ≤ 4 + 30 * T.length := by
    intro i
    by_cases h : 2 ≤ i ∧ i < S.length
    · obtain ⟨T, h1, h2, h3⟩ := hS.sem i h.2 h.1
      exact ⟨T, fun _ => ⟨h1, h2, fun _ => h3⟩⟩
    · exact ⟨[], fun h' => absurd h' h⟩
  obtain ⟨f, hf⟩ := Classical.axiomOfChoice ch
  have hnd : ((List.range (S.length - 2)).map fun i => f (i + 2)).Nodup := by
    rw [List.Nodup, List.pairwise_map]
    refine (List.nodup_range (n := S.length - 2)).imp_of_mem (fun {a b} ha hb hab he => hab ?_)
    rw [List.mem_range] at ha hb
    have h1 := hf (a + 2) ⟨by omega, by omega⟩
    have h2 := hf (b + 2) ⟨by omega, by omega⟩
    have := good_min S hS.good (a + 2) (b + 2) (by omega) (by omega) (by omega) (by omega) (fun w hw => by rw [h1.2.1 w hw, h2.2.1 w hw, he])
    omega
  have hsub : ∀ T ∈ (List.range (S.length - 2)).map fun i => f (i + 2), T ∈ cands P ++ cands D := by
    intro T hT
    obtain ⟨i, hi, rfl⟩ := List.mem_map.1 hT
    rw [List.mem_range] at hi
    obtain ⟨w, hn, hw, he⟩ := (hf (i + 2) ⟨by omega, by omega⟩).1
    rw [List.mem_append]
    rcases he with he | he
    · left; rw [he]; exact meets_cand P hP w hn hw
    · right; rw [he]; exact meets_cand D hD w hn hw
  have h1 := nodup_sum wt _ _ hnd hsub
  rw [List.map_append, List.sum_append, cands_wt, cands_wt] at h1
  have h2 : ((S.drop 2).map fun x => (render x).length + 1).sum ≤ (((List.range (S.length - 2)).map fun i => f (i + 2)).map wt).sum := by
    have e : (S.drop 2) = (List.range (S.length - 2)).map fun i => (S[i + 2]?).getD deadS := by
      apply List.ext_getElem
      · simp
      · intro i h1 h2
        simp only [List.length_drop] at h1
        rw [List.getElem_drop, List.getElem_map, List.getElem_range, List.getElem?_eq_getElem (by omega)]
        simp only [Option.getD_some]
        congr 1; omega
    rw [e, List.map_map, List.map_map]
    have hle : ∀ (l : List Nat), (∀ i ∈ l, i < S.length - 2) → (l.map ((fun x : St => (render x).length + 1) ∘ fun i => (S[i + 2]?).getD deadS)).sum ≤ (l.map (wt ∘ fun i => f (i + 2))).sum := by
      intro l
      induction l with
      | nil => intro _; simp
      | cons i l ih =>
        intro h
        have hi := h i (by simp)
        simp only [List.map_cons, List.sum_cons, Function.comp]
        have h3 := (hf (i + 2) ⟨by omega, by omega⟩).2.2 (by omega)
        rw [List.getElem?_eq_getElem (by omega : i + 2 < S.length)]
        simp only [Option.getD_some, wt]
        have := ih (fun j hj => h j (by simp [hj]))
        omega
    exact hle _ (fun i hi => by rw [List.mem_range] at hi; exact hi)
  have h3 := gW_two P.length D.length hl
  omega

theorem inv_count (P D : List Thr) (hP : ∀ t ∈ P, t.1.length ≤ 5) (hD : ∀ t ∈ D, t.1.length ≤ 5) (hl : P.length + D.length ≤ 6) (S : List St) (hS : Inv (Cof P D) S) : S.length ≤ 900 := by
  have ch : ∀ i, ∃ T, (2 ≤ i ∧ i < S.length) → Cof P D T ∧ (∀ w, sgnW w → lang S (i : Int) w = ansT (meets T w)) := by
    intro i
    by_cases h : 2 ≤ i ∧ i < S.length
    · obtain ⟨T, h1, h2, h3⟩ := hS.sem i h.2 h.1
      exact ⟨T, fun _ => ⟨h1, h2⟩⟩
    · exact ⟨[], fun h' => absurd h' h⟩
  obtain ⟨f, hf⟩ := Classical.axiomOfChoice ch
  have hnd : ((List.range (S.length - 2)).map fun i => f (i + 2)).Nodup := by
    rw [List.Nodup, List.pairwise_map]
    refine (List.nodup_range (n := S.length - 2)).imp_of_mem (fun {a b} ha hb hab he => hab ?_)
    rw [List.mem_range] at ha hb
    have h1 := hf (a + 2) ⟨by omega, by omega⟩
    have h2 := hf (b + 2) ⟨by omega, by omega⟩
    have := good_min S hS.good (a + 2) (b + 2) (by omega) (by omega) (by omega) (by omega) (fun w hw => by rw [h1.2 w hw, h2.2 w hw, he])
    omega
  have hsub : ∀ T ∈ (List.range (S.length - 2)).map fun i => f (i + 2), T ∈ cands P ++ cands D := by
    intro T hT
    obtain ⟨i, hi, rfl⟩ := List.mem_map.1 hT
    rw [List.mem_range] at hi
    obtain ⟨w, hn, hw, he⟩ := (hf (i + 2) ⟨by omega, by omega⟩).1
    rw [List.mem_append]
    rcases he with he | he
    · left; rw [he]; exact meets_cand P hP w hn hw
    · right; rw [he]; exact meets_cand D hD w hn hw
  have h1 := nodup_len _ _ hnd hsub
  rw [List.length_map, List.length_range, List.length_append] at h1
  have hc : ∀ B : List Thr, (cands B).length = 6 * 2 ^ B.length := by
    intro B
    have e : List.range 6 = [0, 1, 2, 3, 4, 5] := rfl
    unfold cands
    rw [e]
    simp only [List.flatMap_cons, List.flatMap_nil, List.length_append, List.length_map, subs_len, List.length_nil]
    omega
  rw [hc, hc] at h1
  have key : ∀ a b : Fin 7, a.val + b.val ≤ 6 → 6 * 2 ^ a.val + 6 * 2 ^ b.val ≤ 390 := by decide
  have := key ⟨P.length, by omega⟩ ⟨D.length, by omega⟩ hl
  simp only at this
  omega

end Go.Proofs.YtchhmojnoiephaaDoor
