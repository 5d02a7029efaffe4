import Derived.Test.YtchhmojnoiephaaDoorPureM
/- Plain mathematics: the machine that the program builds: each call keeps what must hold. -/
namespace Go.Proofs.YtchhmojnoiephaaDoor

theorem nodup_sum {α : Type} (f : α → Nat) : ∀ (L M : List α), L.Nodup → (∀ x ∈ L, x ∈ M) → (L.map f).sum ≤ (M.map f).sum
  | [], M, _, _ => by simp
  | a :: L, M, hL, h => by
    obtain ⟨M1, M2, rfl⟩ := List.append_of_mem (h a (by simp))
    rw [List.nodup_cons] at hL
    have := nodup_sum f L (M1 ++ M2) hL.2 (fun x hx => by
      have h1 := h x (by simp [hx])
      rcases List.mem_append.1 h1 with h2 | h2
      · exact List.mem_append.2 (Or.inl h2)
      · rcases List.mem_cons.1 h2 with rfl | h2
        · exact absurd hx hL.1
        · exact List.mem_append.2 (Or.inr h2))
    simp only [List.map_append, List.sum_append, List.map_cons, List.sum_cons] at this ⊢
    omega
theorem nodup_len {α : Type} (L M : List α) (hL : L.Nodup) (h : ∀ x ∈ L, x ∈ M) : L.length ≤ M.length := by
  have h1 := nodup_sum (fun _ => 1) L M hL h
  have e : ∀ K : List α, (K.map fun _ => 1).sum = K.length := by
    intro K
    induction K with
    | nil => rfl
    | cons a K ih => simp only [List.map_cons, List.sum_cons, List.length_cons, ih]; omega
  rw [e, e] at h1; exact h1

theorem letter_nat (n : Nat) (h : n < 16) : (UInt8.ofNat (65 + n)).toNat = 65 + n := by rw [UInt8.toNat_ofNat']; omega

theorem ansT_ok (T : List Thr) : ansOK (ansT T) := by
  unfold ansT ansTo
  refine ⟨?_, fun c hc => ?_⟩
  · rw [List.pairwise_map]
    refine (List.pairwise_lt_range.filter _).imp_of_mem (fun {a b} ha hb hab => ?_)
    have h1 := List.mem_range.1 (List.mem_filter.1 ha).1
    have h2 := List.mem_range.1 (List.mem_filter.1 hb).1
    rw [letter_nat a h1, letter_nat b h2]; omega
  · obtain ⟨n, hn, rfl⟩ := List.mem_map.1 hc
    have h1 := List.mem_range.1 (List.mem_filter.1 hn).1
    rw [letter_nat n h1]; omega
theorem ansT_len (T : List Thr) : (ansT T).length ≤ T.length := by
  unfold ansT ansTo
  rw [List.length_map]
  have := nodup_len ((List.range 16).filter (hasA T)) (T.map fun t => t.2.toNat) (List.nodup_range.filter _) (fun n hn => by
    have h := (List.mem_filter.1 hn).2
    unfold hasA at h
    rw [List.any_eq_true] at h
    obtain ⟨t, ht, he⟩ := h
    simp only [Bool.and_eq_true, beq_iff_eq] at he
    exact List.mem_map.2 ⟨t, ht, by rw [he.1]; simp⟩)
  simpa using this
theorem ansT_ne (T : List Thr) (t : Thr) (ht : t ∈ T) (h0 : 0 ≤ t.2) (h1 : t.2 < 16) (ha : arrB t = true) : ansT T ≠ [] := by
  unfold ansT ansTo
  intro he
  rw [List.map_eq_nil_iff, List.filter_eq_nil_iff] at he
  refine he t.2.toNat (List.mem_range.2 (by omega)) ?_
  unfold hasA
  rw [List.any_eq_true]
  exact ⟨t, ht, by rw [ha, Bool.and_true, beq_iff_eq]; omega⟩

theorem insL_len (m : List UInt8) (ls : List (List UInt8)) : (insL m ls).length ≤ ls.length + 1 := by
  unfold insL
  rw [List.length_append, List.length_cons]
  have : (ls.filter fun t => Go.Op.bytesLess t m).length + (ls.filter fun t => Go.Op.bytesLess m t).length ≤ ls.length := by
    induction ls with
    | nil => simp
    | cons a ls ih =>
      rw [List.filter_cons, List.filter_cons]
      cases h1 : Go.Op.bytesLess a m
      · cases h2 : Go.Op.bytesLess m a <;> simp <;> omega
      · rw [less_asymm a m h1]; simp; omega
  omega
theorem levFold_len (T : List Thr) : ∀ ls, (T.foldl levT ls).length ≤ ls.length + T.length := by
  induction T with
  | nil => intro ls; simp
  | cons t T ih =>
    intro ls
    rw [List.foldl_cons]
    have h1 := ih (levT ls t)
    have h2 : (levT ls t).length ≤ ls.length + 1 := by
      obtain ⟨r, q⟩ := t
      cases r with
      | nil => simp [levT]
      | cons l r => simp only [levT]; split; omega; exact insL_len _ _
    simp only [List.length_cons]; omega
theorem levsT_len (T : List Thr) : (levsT T).length ≤ T.length := by have := levFold_len T []; simpa [levsT] using this

theorem stay_form {t : Thr} (ht : goodT t) (h : stayB t = true) : t.1 = [[35]] := by
  obtain ⟨r, q⟩ := t
  cases r with
  | nil => simp [stayB] at h
  | cons l r =>
    simp [stayB] at h
    subst h
    rw [good_hash ht]
theorem stay_meet (T : List Thr) (h : ∀ t ∈ T, stayB t = true) (m : List UInt8) (hm : metL m) : meetL m T = T := by
  have : ∀ t ∈ T, meetT m t = some t := by
    intro t ht
    have hs := h t ht
    obtain ⟨r, q⟩ := t
    cases r with
    | nil => simp [stayB] at hs
    | cons l r =>
      simp [stayB] at hs
      subst hs
      have := metL_not m hm
      simp only [meetT]
      rw [if_neg (by rintro (h | h); simp at h; exact this.1 h.symm), if_pos trivial]
  unfold meetL
  rw [fmap_congr (g := some) T this, List.filterMap_some]
theorem stay_meets (T : List Thr) (h : ∀ t ∈ T, stayB t = true) (w : List (List UInt8)) (hw : sgnW w) : meets T w = T := by
  induction w with
  | nil => rfl
  | cons m w ih =>
    simp only [meets]
    rw [stay_meet T h m (Or.inl (hw m (by simp)))]
    exact ih (fun x hx => hw x (by simp [hx]))

theorem three_len (n : Int) : (three n).length = 3 := rfl
theorem rEdges_len (E : List (List UInt8 × Int)) (h : ∀ e ∈ E, e.1.length ≤ 24) : (rEdges E).length ≤ 29 * E.length := by
  induction E with
  | nil => simp [rEdges]
  | cons e E ih =>
    have h1 := ih (fun x hx => h x (by simp [hx]))
    have h2 := h e (by simp)
    have : rEdges (e :: E) = rEdge e ++ rEdges E := rfl
    rw [this, List.length_append]
    have h3 : (rEdge e).length = e.1.length + 5 := by simp [rEdge, three_len]
    simp only [List.length_cons]; omega
theorem rStar_len (s : Int) : (rStar s).length ≤ 4 := by unfold rStar; split <;> simp [three_len]

theorem loop_spec {C : List Thr → Prop} (hC : ∀ S, Inv C S → S.length ≤ 900) {S : List St} (hS : Inv C S) {T : List Thr} (hT : ∀ t ∈ T, gT t) (hn : T ≠ []) (hst : ∀ t ∈ T, stayB t = true) (hc : C T) :
    ∃ (k : Nat) (R : List St), (loopS (ansT T) S) = ((k : Int), S ++ R) ∧ Inv C (S ++ R) ∧ 2 ≤ k ∧ k < (S ++ R).length ∧ (∀ w, sgnW w → lang (S ++ R) (k : Int) w = ansT (meets T w)) ∧ (∀ m, S.length ≤ m → m < (S ++ R).length → m = k) := by
  have h9 := hC S hS
  have hane : ansT T ≠ [] := by
    obtain ⟨t, T', rfl⟩ := List.exists_cons_of_ne_nil hn
    have ht := hT t (by simp)
    refine ansT_ne _ t (by simp) ht.2.1 ht.2.2 ?_
    have := stay_form ht.1 (hst t (by simp))
    obtain ⟨r, q⟩ := t
    simp only at this
    subst this; rfl
  have hok : ∀ i : Nat, i < 1000 → okS ⟨ansT T, [], (i : Int)⟩ := fun i hi => ⟨ansT_ok T, by simp, by simp [Rise], by show -1 ≤ (i : Int); omega, by show ((i : Int)) < 1000; omega⟩
  have hlang : ∀ (S' : List St) (i : Nat) (hi : i < S'.length), S'[i] = ⟨ansT T, [], (i : Int)⟩ → ∀ w, sgnW w → lang S' (i : Int) w = ansT (meets T w) := by
    intro S' i hi he w hw
    rw [stay_meets T hst w hw]
    induction w with
    | nil => rw [lang_nil S' i hi, he]
    | cons l w ih =>
      rw [lang_cons S' i hi, he]
      exact ih (fun x hx => hw x (by simp [hx]))
  unfold loopS
  cases hf : findS (fun i y => render y == render ⟨ansT T, [], (i : Int)⟩) 0 S with
  | some i =>
    obtain ⟨h2, _, h3, h4⟩ := findS_some _ _ _ _ hf
    simp only [Nat.sub_zero] at h3 h4
    have hi : S[i] = ⟨ansT T, [], (i : Int)⟩ := render_inj _ _ (okS_of hS.good (by omega) i h3 h2) (hok i (by omega)) (by simpa using h4)
    refine ⟨i, [], by simp, by simpa using hS, h2, by simpa using h3, hlang _ i (by simpa using h3) (by simpa using hi), fun m h1 h2 => ?_⟩
    simp at h2; omega
  | none =>
    have hno := findS_none _ _ _ hf
    have hx : OkAt S.length ⟨ansT T, [], (S.length : Int)⟩ := ⟨ansT_ok T, by simp, by simp [Rise], Or.inl ⟨rfl, rfl, hane⟩⟩
    have hgood : Good (S ++ [⟨ansT T, [], (S.length : Int)⟩]) := by
      refine ⟨by have := hS.good.two; simp; omega, fun i hi h2 => ?_, fun i j hi hj h2 hji => ?_⟩
      · by_cases hlt : i < S.length
        · rw [List.getElem_append_left hlt]; exact hS.good.each i hlt h2
        · have hi' : i = S.length := by simp at hi; omega
          subst hi'
          rw [List.getElem_append_right (Nat.le_refl _)]; simpa using hx
      · have hjl : j < S.length := by simp at hi; omega
        rw [List.getElem_append_left hjl]
        by_cases hlt : i < S.length
        · rw [List.getElem_append_left hlt]; exact hS.good.uniq i j hlt hjl h2 hji
        · have hi' : i = S.length := by simp at hi; omega
          subst hi'
          rw [List.getElem_append_right (Nat.le_refl _)]
          simp only [Nat.sub_self, List.getElem_cons_zero]
          refine ⟨fun he => ?_, fun _ he => ?_⟩
          · have okj := hS.good.each j hjl h2
            rw [← he] at okj
            rcases okj.to with ⟨_, h, _⟩ | ⟨_, h, _⟩
            · simp only at h; omega
            · simp only at h; omega
          · have := hno j hjl (by omega)
            rw [he] at this; simp at this
    refine ⟨S.length, [⟨ansT T, [], (S.length : Int)⟩], rfl, ⟨hgood, fun i hi h2 => ?_⟩, hS.good.two, by simp, hlang _ S.length (by simp) (by simp), fun m h1 h2 => by simp at h2; omega⟩
    by_cases hlt : i < S.length
    · obtain ⟨T', h1, h3, h4⟩ := hS.sem i hlt h2
      refine ⟨T', h1, fun w hw => ?_, by rw [List.getElem_append_left hlt]; exact h4⟩
      rw [lang_ext S _ hS.good _ (Or.inr ⟨by omega, by omega⟩)]; exact h3 w hw
    · have hi' : i = S.length := by simp at hi; omega
      subst hi'
      refine ⟨T, hc, hlang _ S.length hi (by simp), ?_⟩
      rw [List.getElem_append_right (Nat.le_refl _)]
      simp only [Nat.sub_self, List.getElem_cons_zero, render, List.length_append]
      have := ansT_len T
      have := rStar_len (S.length : Int)
      have : (rEdges []).length = 0 := rfl
      omega

/-- what a way to number rows of threads must do -/
def NumOK (C : List Thr → Prop) (n : Nat) (num : NumF) : Prop := ∀ (T : List Thr) (S : List St), C T → (∀ t ∈ T, gT t) → (∀ t ∈ T, depT t ≤ n) → Inv C S →
  ∃ (k : Int) (R : List St), num T S = (k, S ++ R) ∧ Inv C (S ++ R) ∧ inS (S ++ R) k ∧ (k = -1 ↔ T = []) ∧ (∀ w, sgnW w → lang (S ++ R) k w = ansT (meets T w)) ∧ (∀ m, S.length ≤ m → m < (S ++ R).length → Reach (S ++ R) k m)

theorem in_ext {S R : List St} {k : Int} (h : inS S k) : inS (S ++ R) k := by
  rcases h with h | h
  · exact Or.inl h
  · exact Or.inr ⟨h.1, by rw [List.length_append]; omega⟩

theorem edgF_spec {C : List Thr → Prop} {n : Nat} {num : NumF} (hnum : NumOK C n num) (T : List Thr) (hT : ∀ t ∈ T, gT t) (hd : ∀ t ∈ T, depT t ≤ n + 1) (hC : ∀ m, metL m → C (meetL m T)) (ls : List (List UInt8)) :
    ∀ S, (∀ l ∈ ls, sgnL l ∧ meetL l T ≠ []) → Inv C S → ∃ R, (edgF num T ls S).2 = S ++ R ∧ Inv C (S ++ R) ∧ (edgF num T ls S).1.map (·.1) = ls ∧
      (∀ e ∈ (edgF num T ls S).1, 2 ≤ e.2 ∧ e.2 < ((S ++ R).length : Int) ∧ ∀ w, sgnW w → lang (S ++ R) e.2 w = ansT (meets (meetL e.1 T) w)) ∧
      (∀ m, S.length ≤ m → m < (S ++ R).length → ∃ e ∈ (edgF num T ls S).1, Reach (S ++ R) e.2 m) := by
  induction ls with
  | nil => intro S _ hS; exact ⟨[], by simp [edgF], by simpa using hS, rfl, by simp [edgF], fun m h1 h2 => by simp at h2; omega⟩
  | cons l ls ih =>
    intro S hls hS
    have hl := hls l (by simp)
    obtain ⟨k, R1, e1, i1, in1, d1, s1, r1⟩ := hnum (meetL l T) S (hC l (Or.inl hl.1)) (meetL_gT hT (Or.inl hl.1)) (meetL_dep (fun t ht => (hT t ht).1) (Or.inl hl.1) hd) hS
    have hk : 2 ≤ k ∧ k < ((S ++ R1).length : Int) := by
      rcases in1 with h | h
      · exact absurd (d1.1 h) hl.2
      · exact h
    obtain ⟨R2, e2, i2, f2, a2, r2⟩ := ih (S ++ R1) (fun x hx => hls x (by simp [hx])) i1
    have e1' : (num (meetL l T) S).2 = S ++ R1 := by rw [e1]
    have e1'' : (num (meetL l T) S).1 = k := by rw [e1]
    simp only [edgF]
    rw [e1', e1'']
    refine ⟨R1 ++ R2, by rw [e2, List.append_assoc], by rw [← List.append_assoc]; exact i2, by simp [f2], fun e he => ?_, fun m h1 h2 => ?_⟩
    · rw [← List.append_assoc]
      rcases List.mem_cons.1 he with rfl | he
      · refine ⟨hk.1, by have := hk.2; rw [List.length_append] at this ⊢; rw [List.length_append]; omega, fun w hw => ?_⟩
        simp only
        rw [lang_ext (S ++ R1) R2 i1.good k (Or.inr hk)]; exact s1 w hw
      · exact a2 e he
    · rw [← List.append_assoc] at h2 ⊢
      by_cases hm : m < (S ++ R1).length
      · exact ⟨(l, k), by simp, reach_ext _ R2 i1.good k (Or.inr hk) m (r1 m h1 hm)⟩
      · obtain ⟨e, he, hr⟩ := r2 m (by omega) h2
        exact ⟨e, by simp [he], hr⟩


theorem cut_mem {st : Int} {F : List (List UInt8 × Int)} {e : List UInt8 × Int} : e ∈ cutTo st F ↔ e ∈ F ∧ e.2 ≠ st := by
  unfold cutTo; rw [List.mem_filter]; simp
theorem cut_rise {st : Int} {F : List (List UInt8 × Int)} (h : Rise (F.map (·.1))) : Rise ((cutTo st F).map (·.1)) := by
  unfold Rise at h ⊢
  rw [List.pairwise_map] at h ⊢
  exact h.filter _
theorem cut_follow {st : Int} {F : List (List UInt8 × Int)} (h : Rise (F.map (·.1))) (l : List UInt8) : followE (cutTo st F) st l = followE F st l := by
  rcases followE_mem (cutTo st F) st l with h1 | h1
  · rcases followE_mem F st l with h2 | h2
    · rw [h1, h2]
    · by_cases he : followE F st l = st
      · rw [h1, he]
      · have := followE_at (cutTo st F) st (cut_rise h) (l, followE F st l) (cut_mem.2 ⟨h2, he⟩)
        exact this
  · have h3 := (cut_mem.1 h1).1
    have := followE_at F st h _ h3
    exact this.symm

/-- what stands behind the edges of a state -/
structure EdgOK (C : List Thr → Prop) (T : List Thr) (S : List St) (r : List (List UInt8 × Int) × Int × List St) : Prop where
  ext : ∃ R, r.2.2 = S ++ R
  inv : Inv C r.2.2
  star : inS r.2.2 r.2.1
  each : ∀ e ∈ r.1, sgnL e.1 ∧ e.1.length ≤ 24 ∧ 2 ≤ e.2 ∧ e.2 < (r.2.2.length : Int) ∧ e.2 ≠ r.2.1
  rise : Rise (r.1.map (·.1))
  few : r.1.length ≤ T.length
  sem : ∀ l, sgnL l → inS r.2.2 (followE r.1 r.2.1 l) ∧ ∀ w, sgnW w → lang r.2.2 (followE r.1 r.2.1 l) w = ansT (meets (meetL l T) w)
  reach : ∀ m, S.length ≤ m → m < r.2.2.length → ∃ l, sgnL l ∧ Reach r.2.2 (followE r.1 r.2.1 l) m
  plus : meetL [42] T ≠ [] → r.2.1 ≠ -1
  some : ∀ l ∈ levsT T, r.1 ≠ [] ∨ r.2.1 ≠ -1

theorem lev_met (T : List Thr) (hT : ∀ t ∈ T, gT t) (l : List UInt8) (hl : l ∈ levsT T) : sgnL l ∧ l.length ≤ 24 ∧ meetL l T ≠ [] := by
  obtain ⟨r, q, hm, h1, h2⟩ := (levsT_mem T l).1 hl
  have hg := ((hT _ hm).1.1 l (by simp))
  refine ⟨?_, hg.2, fun he => ?_⟩
  · rcases hg.1 with h | h | h
    · exact h
    · exact absurd h h1
    · exact absurd h h2
  · have : (r, q) ∈ meetL l T := List.mem_filterMap.2 ⟨(l :: r, q), hm, by simp [meetT]⟩
    rw [he] at this; simp at this

theorem edgS_spec {C : List Thr → Prop} {n : Nat} {num : NumF} (hnum : NumOK C n num) (T : List Thr) (hT : ∀ t ∈ T, gT t) (hd : ∀ t ∈ T, depT t ≤ n + 1) (hC : ∀ m, metL m → C (meetL m T)) (S : List St) (hS : Inv C S) : EdgOK C T S (edgS num T S) := by
  have h42 : metL [42] := Or.inr rfl
  obtain ⟨k, R1, e1, i1, in1, d1, s1, r1⟩ := hnum (meetL [42] T) S (hC _ h42) (meetL_gT hT h42) (meetL_dep (fun t ht => (hT t ht).1) h42 hd) hS
  have e1' : (num (meetL [42] T) S).2 = S ++ R1 := by rw [e1]
  have e1'' : (num (meetL [42] T) S).1 = k := by rw [e1]
  obtain ⟨R2, e2, i2, f2, a2, r2⟩ := edgF_spec hnum T hT hd hC (levsT T) (S ++ R1) (fun l hl => ⟨(lev_met T hT l hl).1, (lev_met T hT l hl).2.2⟩) i1
  unfold edgS
  rw [e1', e1'']
  generalize hF : edgF num T (levsT T) (S ++ R1) = r at *
  obtain ⟨F, S2⟩ := r
  simp only at e2 f2 a2 r2
  subst e2
  have hrise : Rise (F.map (·.1)) := by rw [f2]; exact levsT_rise T
  have hk2 : inS (S ++ R1 ++ R2) k := in_ext in1
  have hlev : ∀ e ∈ F, e.1 ∈ levsT T := fun e he => by rw [← f2]; exact List.mem_map_of_mem he
  have hfol : ∀ l, sgnL l → inS (S ++ R1 ++ R2) (followE F k l) ∧ ∀ w, sgnW w → lang (S ++ R1 ++ R2) (followE F k l) w = ansT (meets (meetL l T) w) := by
    intro l hl
    by_cases hm : l ∈ levsT T
    · have hm' : l ∈ F.map (·.1) := by rw [f2]; exact hm
      obtain ⟨e, he, rfl⟩ := List.mem_map.1 hm'
      rw [followE_at F k hrise e he]
      have := a2 e he
      exact ⟨Or.inr ⟨this.1, this.2.1⟩, this.2.2⟩
    · rw [followE_no F k l (fun e he heq => hm (heq ▸ hlev e he))]
      refine ⟨hk2, fun w hw => ?_⟩
      rw [lang_ext (S ++ R1) R2 i1.good k in1, meet_other T l (fun t ht => (hT t ht).1) hl hm]; exact s1 w hw
  refine ⟨⟨R1 ++ R2, by simp⟩, i2, hk2, fun e he => ?_, cut_rise hrise, ?_, fun l hl => ?_, fun m h1 h2 => ?_, fun h => ?_, fun l hl => ?_⟩
  · obtain ⟨h1, h2⟩ := cut_mem.1 he
    have hl := lev_met T hT e.1 (hlev e h1)
    have ha := a2 e h1
    exact ⟨hl.1, hl.2.1, ha.1, ha.2.1, h2⟩
  · have h1 : (cutTo k F).length ≤ F.length := List.length_filter_le _ _
    have h2 : F.length = (levsT T).length := by rw [← f2, List.length_map]
    have h3 := levsT_len T
    show (cutTo k F).length ≤ T.length
    omega
  · show inS _ (followE (cutTo k F) k l) ∧ _
    simp only [cut_follow hrise l]
    exact hfol l hl
  · show ∃ l, sgnL l ∧ Reach (S ++ R1 ++ R2) (followE (cutTo k F) k l) m
    by_cases hm : m < (S ++ R1).length
    · refine ⟨freshL, fresh_sgn, ?_⟩
      rw [cut_follow hrise, follow_fresh F k (fun e he => ⟨(lev_met T hT e.1 (hlev e he)).1, (lev_met T hT e.1 (hlev e he)).2.1⟩)]
      exact reach_ext _ R2 i1.good k in1 m (r1 m h1 hm)
    · obtain ⟨e, he, hr⟩ := r2 m (by omega) h2
      refine ⟨e.1, (lev_met T hT e.1 (hlev e he)).1, ?_⟩
      rw [cut_follow hrise, followE_at F k hrise e he]; exact hr
  · exact fun he => h (d1.1 he)
  · have hm' : l ∈ F.map (·.1) := by rw [f2]; exact hl
    obtain ⟨e, he, rfl⟩ := List.mem_map.1 hm'
    by_cases hk : e.2 = k
    · right; show k ≠ -1; have := (a2 e he).1; omega
    · left
      intro h0
      have : e ∈ cutTo k F := cut_mem.2 ⟨he, hk⟩
      rw [show cutTo k F = [] from h0] at this; simp at this

theorem reach_cons (S : List St) (i : Nat) (hi : i < S.length) (l : List UInt8) (hl : sgnL l) (m : Nat) (h : Reach S (followE S[i].edges S[i].star l) m) : Reach S (i : Int) m := by
  obtain ⟨w, hw, he⟩ := h
  exact ⟨l :: w, sgnW_cons hl hw, by simp only [walkK]; rw [if_neg (by omega), stepS_some S i l hi]; exact he⟩
theorem reach_self (S : List St) (i : Nat) : Reach S (i : Int) i := ⟨[], by intro l hl; simp at hl, rfl⟩

theorem num_spec {C : List Thr → Prop} (hcount : ∀ S, Inv C S → S.length ≤ 900) (hC : ∀ T m, C T → metL m → C (meetL m T)) (n : Nat) : NumOK C n (numS (n + 1)) := by
  induction n with
  | zero =>
    intro T S hc hT hd hS
    simp only [numS]
    by_cases h0 : T = []
    · rw [if_pos h0]
      subst h0
      refine ⟨-1, [], by simp, by simpa using hS, Or.inl rfl, by simp, fun w _ => ?_, fun m h1 h2 => by simp at h2; omega⟩
      rw [lang_dead, meets_aft]; rfl
    · rw [if_neg h0]
      have hst : ∀ t ∈ T, stayB t = true := by
        intro t ht
        have := hd t ht
        unfold depT at this
        split at this
        · rename_i h
          obtain ⟨r, q⟩ := t
          simp only at h; subst h; rfl
        · omega
      rw [if_pos (by rw [List.all_eq_true]; exact hst)]
      obtain ⟨k, R, e, i, h2, hl, hs, hm⟩ := loop_spec hcount hS hT h0 hst hc
      exact ⟨(k : Int), R, e, i, Or.inr ⟨by omega, by omega⟩, ⟨fun h => by omega, fun h => absurd h h0⟩, hs, fun m h1 h2 => by rw [hm m h1 h2]; exact reach_self _ _⟩
  | succ n ih =>
    intro T S hc hT hd hS
    rw [numS]
    by_cases h0 : T = []
    · rw [if_pos h0]
      subst h0
      refine ⟨-1, [], by simp, by simpa using hS, Or.inl rfl, by simp, fun w _ => ?_, fun m h1 h2 => by simp at h2; omega⟩
      rw [lang_dead, meets_aft]; rfl
    · rw [if_neg h0]
      by_cases hst : T.all stayB = true
      · rw [if_pos hst]
        rw [List.all_eq_true] at hst
        obtain ⟨k, R, e, i, h2, hl, hs, hm⟩ := loop_spec hcount hS hT h0 hst hc
        exact ⟨(k : Int), R, e, i, Or.inr ⟨by omega, by omega⟩, ⟨fun h => by omega, fun h => absurd h h0⟩, hs, fun m h1 h2 => by rw [hm m h1 h2]; exact reach_self _ _⟩
      · rw [if_neg hst]
        have hE := edgS_spec ih T hT hd (fun m hm => hC T m hc hm) S hS
        generalize edgS (numS (n + 1)) T S = r at *
        obtain ⟨E, st, S2⟩ := r
        obtain ⟨⟨R1, e1⟩, inv, hstar, each, rise, few, sem, reach, plus, some⟩ := hE
        simp only at e1 inv hstar each rise few sem reach plus some ⊢
        have hne : ansT T ≠ [] ∨ E ≠ [] ∨ st ≠ -1 := by
          have : ∃ t ∈ T, stayB t = false := by
            refine Classical.byContradiction fun hn => hst ?_
            rw [List.all_eq_true]
            intro t ht
            cases hb : stayB t with
            | true => rfl
            | false => exact absurd ⟨t, ht, hb⟩ hn
          obtain ⟨t, ht, hb⟩ := this
          have hg := hT t ht
          obtain ⟨r, q⟩ := t
          cases r with
          | nil => exact Or.inl (ansT_ne T _ ht hg.2.1 hg.2.2 rfl)
          | cons l r =>
            have hl : l ≠ [35] := by simpa [stayB] using hb
            by_cases h43 : l = [43]
            · refine Or.inr (Or.inr (plus (fun he => ?_)))
              have : (r, q) ∈ meetL [42] T := List.mem_filterMap.2 ⟨(l :: r, q), ht, by simp [meetT, h43]⟩
              rw [he] at this; simp at this
            · exact Or.inr (some l ((levsT_mem T l).2 ⟨r, q, ht, h43, hl⟩))
        have hstar2 : st = -1 ∨ 2 ≤ st ∧ st < (S2.length : Int) := hstar
        have hx : NewSt C S2 T ⟨ansT T, E, st⟩ := by
          refine ⟨⟨ansT_ok T, fun e he => ⟨(each e he).1, (each e he).2.1⟩, rise, Or.inr ⟨fun e he => ⟨(each e he).2.2.1, (each e he).2.2.2.1, (each e he).2.2.2.2⟩, hstar2, hne⟩⟩, ?_, hc, rfl, sem, ?_⟩
          · show st ≠ (S2.length : Int); omega
          · simp only [render, List.length_append]
            have h1 := ansT_len T
            have h2 := rEdges_len E (fun e he => (each e he).2.1)
            have h3 := rStar_len st
            omega
        obtain ⟨k, R, e, i, h2, ⟨hk, hkx⟩, hm⟩ := put_spec hcount inv hx
        subst e1
        refine ⟨(k : Int), R1 ++ R, by rw [e, List.append_assoc], by rw [← List.append_assoc]; exact i, ?_, ⟨fun h => by omega, fun h => absurd h h0⟩, ?_, fun m h1 h3 => ?_⟩
        · rw [← List.append_assoc]; exact Or.inr ⟨by omega, by omega⟩
        · rw [← List.append_assoc]; exact lang_new inv.good hx _ k hk hkx ⟨R, rfl⟩
        · rw [← List.append_assoc] at h3 ⊢
          by_cases hlt : m < (S ++ R1).length
          · obtain ⟨l, hl, hr⟩ := reach m h1 hlt
            refine reach_cons _ k hk l hl m ?_
            rw [hkx]
            exact reach_ext _ R inv.good _ (sem l hl).1 m hr
          · rw [hm m (by omega) h3]; exact reach_self _ _

end Go.Proofs.YtchhmojnoiephaaDoor
