import Derived.Test.YtchhmojnoiephaaDoorPureP
/- Plain mathematics: a table's code (P9): admitted, a least one, and it finds every topic's route. -/
namespace Go.Proofs.YtchhmojnoiephaaDoor

def st0 : List St := [deadS, deadS]
def edg0 (L : List PairL) := edgS (numS 6) (plainT L) st0
def edg1 (L : List PairL) := edgS (numS 6) (dollT L) (edg0 L).2.2
/-- the states of a table's code -/
def codeSt (L : List PairL) : List St := ⟨[], (edg0 L).1, (edg0 L).2.1⟩ :: ⟨[], (edg1 L).1, (edg1 L).2.1⟩ :: (edg1 L).2.2.drop 2
/-- a table's code -/
def codeB (L : List PairL) : List UInt8 := joinP ((codeSt L).map render)

theorem inv0 (C : List Thr → Prop) : Inv C st0 :=
  ⟨⟨by simp [st0], fun i h h2 => by simp [st0] at h; omega, fun i j hi hj h2 hji => by simp [st0] at hi; omega⟩, fun i h h2 => by simp [st0] at h; omega⟩

theorem dep_le {T : List Thr} (h : ∀ t ∈ T, gT t ∧ t.1.length ≤ 5) : ∀ t ∈ T, depT t ≤ 5 + 1 := by
  intro t ht
  have := (h t ht).2
  unfold depT; split <;> omega

theorem edg_ok (L : List PairL) (h : goodL L) : EdgOK (Cof (plainT L) (dollT L)) (plainT L) st0 (edg0 L) ∧ EdgOK (Cof (plainT L) (dollT L)) (dollT L) (edg0 L).2.2 (edg1 L) := by
  obtain ⟨hP, hD, hl⟩ := thr_gT L h
  have hcount := inv_count (plainT L) (dollT L) (fun t ht => (hP t ht).2) (fun t ht => (hD t ht).2) hl
  have hnum := num_spec hcount (fun T m hc hm => cof_meet _ _ T m hc hm) 5
  have h0 := edgS_spec hnum (plainT L) (fun t ht => (hP t ht).1) (dep_le hP) (fun m hm => (cof_first _ _ m hm).1) st0 (inv0 _)
  exact ⟨h0, edgS_spec hnum (dollT L) (fun t ht => (hD t ht).1) (dep_le hD) (fun m hm => (cof_first _ _ m hm).2) _ h0.inv⟩

/-- states that are the same from number 2 on walk alike -/
theorem walk_swap (S xs : List St) (hS : Good S) (hl : xs.length = S.length) (he : ∀ i (h : i < S.length) (h' : i < xs.length), 2 ≤ i → xs[i] = S[i]) (w : List (List UInt8)) : ∀ k : Int, inS S k → walkK xs k w = walkK S k w := by
  induction w with
  | nil => intro k _; rfl
  | cons l w ih =>
    intro k hk
    rcases hk with rfl | ⟨h2, hlt⟩
    · rw [walkK_neg _ _ _ (by omega), walkK_neg _ _ _ (by omega)]
    · obtain ⟨n, rfl⟩ := Int.eq_ofNat_of_zero_le (by omega : 0 ≤ k)
      have hn : n < S.length := by omega
      simp only [walkK]
      rw [if_neg (by omega), if_neg (by omega), stepS_some S n l hn, stepS_some xs n l (by omega), he n hn (by omega) (by omega)]
      refine ih _ ?_
      rcases good_step S hS n hn (by omega) l with ⟨_, _, h⟩ | ⟨_, h | ⟨k, h, h', h''⟩⟩
      · rw [h]; exact Or.inr ⟨by omega, by omega⟩
      · exact Or.inl h
      · rw [h]; exact Or.inr ⟨by omega, by omega⟩
theorem lang_swap (S xs : List St) (hS : Good S) (hl : xs.length = S.length) (he : ∀ i (h : i < S.length) (h' : i < xs.length), 2 ≤ i → xs[i] = S[i]) (k : Int) (hk : inS S k) (w : List (List UInt8)) : lang xs k w = lang S k w := by
  unfold lang
  rw [walk_swap S xs hS hl he w k hk]
  rcases (walk_in S [] hS w k hk).1 with h | ⟨h, h'⟩
  · rw [h, ansOf_neg _ _ (by omega), ansOf_neg _ _ (by omega)]
  · obtain ⟨n, hn⟩ := Int.eq_ofNat_of_zero_le (by omega : 0 ≤ walkK S k w)
    rw [hn] at h h' ⊢
    rw [ansOf_some S n (by omega), ansOf_some xs n (by omega), he n (by omega) (by omega) (by omega)]

/-- what is asked of a table's code -/
structure CodeOK (L : List PairL) (xs : List St) : Prop where
  two : 2 ≤ xs.length
  few : xs.length ≤ 900
  good : Good xs
  okS : ∀ x ∈ xs, okS x ∧ belowS (xs.length : Int) x = true
  apart : ∀ x ∈ xs, ∀ e ∈ x.edges, e.2 ≠ x.star
  len : (joinP (xs.map render)).length ≤ 40000
  zero : ∀ l w, sgnW (l :: w) → lang xs 0 (l :: w) = ansT (meets (plainT L) (l :: w))
  one : ∀ l w, sgnW (l :: w) → lang xs 1 (l :: w) = ansT (meets (dollT L) (l :: w))
  reach : ∀ m, 2 ≤ m → m < xs.length → Reach xs 0 m ∨ Reach xs 1 m

theorem joinP_len : ∀ P : List (List UInt8), (joinP P).length ≤ (P.map fun p => p.length + 1).sum
  | [] => by simp [joinP]
  | [p] => by simp [joinP]
  | p :: q :: r => by
    have := joinP_len (q :: r)
    simp only [joinP, List.length_append, List.length_cons, List.map_cons, List.sum_cons] at this ⊢
    omega

theorem first_len {T : List Thr} {C : List Thr → Prop} {S : List St} {r : List (List UInt8 × Int) × Int × List St} (h : EdgOK C T S r) : (render ⟨[], r.1, r.2.1⟩).length ≤ 4 + 29 * T.length := by
  simp only [render, List.nil_append, List.length_append]
  have h1 := rEdges_len r.1 (fun e he => (h.each e he).2.1)
  have h2 := rStar_len r.2.1
  have h3 := h.few
  omega

theorem code_ok (L : List PairL) (h : goodL L) : CodeOK L (codeSt L) := by
  obtain ⟨hP, hD, hl⟩ := thr_gT L h
  obtain ⟨h0, h1⟩ := edg_ok L h
  have hcount := inv_count (plainT L) (dollT L) (fun t ht => (hP t ht).2) (fun t ht => (hD t ht).2) hl
  have hwt := inv_weight (plainT L) (dollT L) (fun t ht => (hP t ht).2) (fun t ht => (hD t ht).2) hl
  have f0 := first_len h0
  have f1 := first_len h1
  unfold codeSt
  generalize edg0 L = r0 at *
  generalize edg1 L = r1 at *
  obtain ⟨E0, s0, S1⟩ := r0
  obtain ⟨E1, s1, S2⟩ := r1
  simp only at h0 h1 f0 f1 ⊢
  obtain ⟨R, hR⟩ := h1.ext
  obtain ⟨R0, hR0⟩ := h0.ext
  simp only at hR hR0
  have i1 := h0.inv
  have i2 := h1.inv
  simp only at i1 i2
  have h900 := hcount S2 i2
  have hw2 := hwt S2 i2
  have hS2 := i2.good.two
  generalize hx : (⟨[], E0, s0⟩ :: ⟨[], E1, s1⟩ :: S2.drop 2 : List St) = xs
  have hlen : xs.length = S2.length := by rw [← hx]; simp; omega
  have hget : ∀ i (h : i < S2.length) (h' : i < xs.length), 2 ≤ i → xs[i] = S2[i] := by
    intro i hi hi' h2
    obtain ⟨j, rfl⟩ : ∃ j, i = j + 2 := ⟨i - 2, by omega⟩
    simp only [← hx, List.getElem_cons_succ, List.getElem_drop]
    congr 1; omega
  have hgood : Good xs := by
    refine ⟨by omega, fun i hi h2 => ?_, fun i j hi hj h2 hji => ?_⟩
    · rw [hget i (by omega) hi h2]; exact i2.good.each i (by omega) h2
    · rw [hget i (by omega) hi (by omega), hget j (by omega) hj h2]; exact i2.good.uniq i j (by omega) (by omega) h2 hji
  have hS12 : S1.length ≤ S2.length := by rw [hR, List.length_append]; omega
  have x0 : xs[0]? = some ⟨[], E0, s0⟩ := by rw [← hx]; rfl
  have x1 : xs[1]? = some ⟨[], E1, s1⟩ := by rw [← hx]; rfl
  have g0 : xs[0]'(by omega) = ⟨[], E0, s0⟩ := by simp only [← hx]; rfl
  have g1 : xs[1]'(by omega) = ⟨[], E1, s1⟩ := by simp only [← hx]; rfl
  have hst0 : inS S2 s0 := by
    have := h0.star
    simp only at this
    rw [hR]; exact in_ext this
  have hst1 : inS S2 s1 := h1.star
  have hmem : ∀ x ∈ xs, (x = ⟨[], E0, s0⟩ ∨ x = ⟨[], E1, s1⟩) ∨ ∃ i, ∃ h : i < S2.length, 2 ≤ i ∧ x = S2[i] := by
    intro x hm
    rw [← hx] at hm
    rcases List.mem_cons.1 hm with rfl | hm
    · exact Or.inl (Or.inl rfl)
    · rcases List.mem_cons.1 hm with rfl | hm
      · exact Or.inl (Or.inr rfl)
      · obtain ⟨i, hi, rfl⟩ := List.mem_iff_getElem.1 hm
        rw [List.length_drop] at hi
        exact Or.inr ⟨2 + i, by omega, by omega, by rw [List.getElem_drop]⟩
  have ok0 : okS ⟨[], E0, s0⟩ ∧ belowS (xs.length : Int) ⟨[], E0, s0⟩ = true := by
    have hs : -1 ≤ s0 ∧ s0 < (S2.length : Int) := by rcases hst0 with h | h <;> omega
    refine ⟨⟨⟨List.Pairwise.nil, by simp⟩, fun e he => ?_, h0.rise, by show -1 ≤ s0; omega, by show s0 < 1000; omega⟩, ?_⟩
    · have := h0.each e he
      simp only at this
      exact ⟨this.1, by omega, by omega⟩
    · unfold belowS belowE
      rw [Bool.and_eq_true, List.all_eq_true]
      refine ⟨fun e he => ?_, by simp only [decide_eq_true_eq]; omega⟩
      have := h0.each e he
      simp only [decide_eq_true_eq] at this ⊢; omega
  have ok1 : okS ⟨[], E1, s1⟩ ∧ belowS (xs.length : Int) ⟨[], E1, s1⟩ = true := by
    have hs : -1 ≤ s1 ∧ s1 < (S2.length : Int) := by rcases hst1 with h | h <;> omega
    refine ⟨⟨⟨List.Pairwise.nil, by simp⟩, fun e he => ?_, h1.rise, by show -1 ≤ s1; omega, by show s1 < 1000; omega⟩, ?_⟩
    · have := h1.each e he
      simp only at this
      exact ⟨this.1, by omega, by omega⟩
    · unfold belowS belowE
      rw [Bool.and_eq_true, List.all_eq_true]
      refine ⟨fun e he => ?_, by simp only [decide_eq_true_eq]; omega⟩
      have := h1.each e he
      simp only [decide_eq_true_eq] at this ⊢; omega
  refine ⟨by omega, by omega, hgood, fun x hm => ?_, fun x hm e he => ?_, ?_, fun l w hw => ?_, fun l w hw => ?_, fun m h2 hm => ?_⟩
  · rcases hmem x hm with (rfl | rfl) | ⟨i, hi, h2, rfl⟩
    · exact ok0
    · exact ok1
    · refine ⟨okS_of i2.good (by omega) i hi h2, ?_⟩
      have ok := i2.good.each i hi h2
      unfold belowS belowE
      rw [Bool.and_eq_true, List.all_eq_true]
      refine ⟨fun e he => ?_, ?_⟩
      · rcases ok.to with ⟨h, _⟩ | ⟨h, _⟩
        · rw [h] at he; simp at he
        · have := h e he; simp only [decide_eq_true_eq]; omega
      · rcases ok.to with ⟨_, h, _⟩ | ⟨_, h, _⟩
        · rw [h]; simp only [decide_eq_true_eq]; omega
        · simp only [decide_eq_true_eq]; omega
  · rcases hmem x hm with (rfl | rfl) | ⟨i, hi, h2, rfl⟩
    · exact (h0.each e he).2.2.2.2
    · exact (h1.each e he).2.2.2.2
    · rcases (i2.good.each i hi h2).to with ⟨h, _⟩ | ⟨h, _⟩
      · rw [h] at he; simp at he
      · exact (h e he).2.2
  · have hj := joinP_len (xs.map render)
    rw [List.map_map, ← hx] at hj
    rw [← hx]
    simp only [List.map_cons, List.sum_cons, Function.comp] at hj ⊢
    have : (List.map (fun x => (render x).length + 1) (List.drop 2 S2)).sum ≤ 36510 := hw2
    have e : (List.map ((fun p : List UInt8 => p.length + 1) ∘ render) (List.drop 2 S2)).sum = (List.map (fun x => (render x).length + 1) (List.drop 2 S2)).sum := rfl
    rw [e] at hj
    omega
  · have hl' : sgnL l := hw l (by simp)
    have hw' : sgnW w := fun x hx => hw x (by simp [hx])
    have hs := h0.sem l hl'
    simp only at hs
    have hc := lang_cons xs 0 (by omega) l w
    rw [g0] at hc
    have e0 : ((0 : Nat) : Int) = 0 := rfl
    rw [e0] at hc
    rw [hc]
    simp only
    have hin : inS S2 (followE E0 s0 l) := by rw [hR]; exact in_ext hs.1
    rw [lang_swap S2 xs i2.good hlen hget _ hin, hR, lang_ext S1 R i1.good _ hs.1, hs.2 w hw']; rfl
  · have hl' : sgnL l := hw l (by simp)
    have hw' : sgnW w := fun x hx => hw x (by simp [hx])
    have hs := h1.sem l hl'
    simp only at hs
    have hc := lang_cons xs 1 (by omega) l w
    rw [g1] at hc
    have e0 : ((1 : Nat) : Int) = 1 := rfl
    rw [e0] at hc
    rw [hc]
    simp only
    rw [lang_swap S2 xs i2.good hlen hget _ hs.1, hs.2 w hw']; rfl
  · have swap : ∀ k, inS S2 k → Reach S2 k m → Reach xs k m := by
      rintro k hk ⟨w, hw, he⟩
      exact ⟨w, hw, by rw [walk_swap S2 xs i2.good hlen hget w k hk]; exact he⟩
    by_cases hm1 : m < S1.length
    · left
      obtain ⟨l, hl', hr⟩ := h0.reach m (by simp [st0]; exact h2) hm1
      simp only at hr
      have hin := (h0.sem l hl').1
      simp only at hin
      have hr2 : Reach S2 (followE E0 s0 l) m := by rw [hR]; exact reach_ext S1 R i1.good _ hin m hr
      have hr3 := swap _ (by rw [hR]; exact in_ext hin) hr2
      have := reach_cons xs 0 (by omega) l hl' m (by rw [g0]; exact hr3)
      exact this
    · right
      obtain ⟨l, hl', hr⟩ := h1.reach m (by show S1.length ≤ m; omega) (by show m < S2.length; omega)
      simp only at hr
      have hin := (h1.sem l hl').1
      simp only at hin
      have := reach_cons xs 1 (by omega) l hl' m (by rw [g1]; exact swap _ hin hr)
      exact this

theorem codeB_ok (L : List PairL) (h : goodL L) : codeP (codeB L) = .ok (codeSt L) ∧ (codeB L).length ≤ 40000 ∧ codeR (codeB L) = (0, 0) := by
  have c := code_ok L h
  have h1 : codeP (codeB L) = .ok (codeSt L) := code_render _ c.two (by have := c.few; omega) c.okS
  have h2 : (codeB L).length ≤ 40000 := c.len
  refine ⟨h1, h2, ?_⟩
  unfold codeR
  rw [if_neg (by omega), h1]

/-- P9: a walk finds what the route tells -/
theorem code_route (L : List PairL) (h : goodL L) (t : List UInt8) : walkR (codeB L) t = routeR L t := by
  obtain ⟨h1, h2, h3⟩ := codeB_ok L h
  have c := code_ok L h
  unfold walkR routeR
  by_cases h24 : 24 < t.length
  · rw [if_pos (Or.inr h24)]
    have : topicR t = (1, 0) := by unfold topicR; rw [if_pos h24]
    rw [this]; simp
  · rw [if_neg (c := 40000 < (codeB L).length ∨ 24 < t.length) (by omega), if_neg (c := (codeR (codeB L)).1 ≠ 0) (by simp [h3])]
    by_cases ht : (topicR t).1 = 0
    · rw [if_neg (c := (topicR t).1 ≠ 0) (by simp [ht]), if_neg (c := (topicR t).1 ≠ 0) (by simp [ht]), h1]
      simp only []
      have hw := topic_word t ht
      obtain ⟨l, w, he⟩ := List.exists_cons_of_ne_nil (levs_ne t)
      have hlang : ansOf (codeSt L) (walkK (codeSt L) (if headI t = 36 then 1 else 0) (levs t)) = ansT (meets (if headI t = 36 then dollT L else plainT L) (levs t)) := by
        have hz := c.zero l w (by rw [← he]; exact hw)
        have ho := c.one l w (by rw [← he]; exact hw)
        unfold lang at hz ho
        rw [← he] at hz ho
        split
        · exact ho
        · exact hz
      rw [hlang, routeL_form, ints_ansT _ _ (fun n => by rw [hasA_meets (levs t) (fun m hm => Or.inl (hw m hm)), ← route_thr])]
    · rw [if_pos ht, if_pos ht]

end Go.Proofs.YtchhmojnoiephaaDoor
