import Derived.Test.YtchhmojnoiephaaDoorPureO
import Derived.Test.YtchhmojnoiephaaDoorPureC
/- Plain mathematics: filters and topics by their levels; a table's threads; the route that comes of them. -/
namespace Go.Proofs.YtchhmojnoiephaaDoor

theorem sgnL_nil : sgnL [] := by intro c hc; simp at hc
theorem sgnL_cons {c : UInt8} {l : List UInt8} (h1 : signB (c.toNat : Int) = true) (h2 : sgnL l) : sgnL (c :: l) := by
  intro x hx
  rcases List.mem_cons.1 hx with rfl | hx
  · exact h1
  · exact h2 x hx
theorem sign_not (n : Int) (h : signB n = true) : n ≠ 47 ∧ n ≠ 43 ∧ n ≠ 35 := by
  unfold signB at h; simp at h; omega

/-- what is left of a level behind the byte p, and the levels behind it -/
structure FilQ (p : Int) (a : List UInt8) (b : List (List UInt8)) : Prop where
  q47 : p = 47 → levF a
  q43 : p = 43 → a = []
  q35 : p = 35 → a = [] ∧ b = []
  sgn : p ≠ 47 → p ≠ 43 → p ≠ 35 → sgnL a
  hash : p = 47 → a = [35] → b = []
  lev : ∀ l ∈ b, levF l
  last : ∀ i (h : i < b.length), b[i] = [35] → i + 1 = b.length

theorem fil_levs (F : List UInt8) : ∀ (p : Int) (sl i : Nat), sl ≤ 4 → badF p sl i F = none → ∃ a b, levs F = a :: b ∧ (levs F).length + sl ≤ 5 ∧ FilQ p a b := by
  induction F with
  | nil =>
    intro p sl i hs _
    exact ⟨[], [], rfl, by simp [levs]; omega, ⟨fun _ => Or.inl sgnL_nil, fun _ => rfl, fun _ => ⟨rfl, rfl⟩, fun _ _ _ => sgnL_nil, fun _ h => by simp at h, by simp, fun i h => by simp at h⟩⟩
  | cons c r ih =>
    intro p sl i hs h
    unfold badF at h
    by_cases hok : okF p sl (c.toNat : Int) = true
    · rw [if_pos hok] at h
      unfold okF at hok
      rw [Bool.and_eq_true] at hok
      obtain ⟨hf, hsl⟩ := hok
      by_cases h47 : (c.toNat : Int) = 47
      · rw [if_pos h47, h47] at h
        have hs' : sl + 1 < 5 := by simpa [h47] using hsl
        obtain ⟨a, b, he, hlen, hq⟩ := ih 47 (sl + 1) (i + 1) (by omega) h
        have hl : levs (c :: r) = [] :: levs r := by simp [levs, h47]
        refine ⟨[], levs r, hl, by rw [hl]; simp; omega, ⟨fun _ => Or.inl sgnL_nil, fun _ => rfl, fun hp => ?_, fun _ _ _ => sgnL_nil, fun _ h => by simp at h, fun l hm => ?_, fun i hi h35 => ?_⟩⟩
        · rw [hp] at hf; simp [folB] at hf
        · rw [he] at hm
          rcases List.mem_cons.1 hm with rfl | hm
          · exact hq.q47 rfl
          · exact hq.lev l hm
        · simp only [he] at hi h35 ⊢
          cases i with
          | zero => rw [hq.hash rfl (by simpa using h35)]; rfl
          | succ i => have := hq.last i (by simpa using hi) (by simpa using h35); simp; omega
      · rw [if_neg h47] at h
        obtain ⟨a, b, he, hlen, hq⟩ := ih (c.toNat : Int) sl (i + 1) hs h
        have hl : levs (c :: r) = (c :: a) :: b := by simp [levs, h47, he]
        refine ⟨c :: a, b, hl, by rw [hl]; rw [he] at hlen; simpa using hlen, ⟨fun hp => ?_, fun hp => ?_, fun hp => ?_, fun h1 h2 h3 => ?_, fun hp ha => ?_, hq.lev, hq.last⟩⟩
        · rw [hp] at hf
          simp [folB] at hf
          rcases hf with ((h | h) | h) | h
          · exact absurd h h47
          · right; left; rw [hq.q43 h, toNat_inj c 43 (by omega) h]; rfl
          · right; right; rw [(hq.q35 h).1, toNat_inj c 35 (by omega) h]; rfl
          · have hn := sign_not _ h
            exact Or.inl (sgnL_cons h (hq.sgn hn.1 hn.2.1 hn.2.2))
        · rw [hp] at hf; simp [folB] at hf; exact absurd hf h47
        · rw [hp] at hf; simp [folB] at hf
        · unfold folB at hf
          rw [if_neg (by simpa using h3), if_neg (by simpa using h2), if_neg (by simpa using h1)] at hf
          simp at hf
          rcases hf with h | h
          · exact absurd h h47
          · have hn := sign_not _ h
            exact sgnL_cons h (hq.sgn hn.1 hn.2.1 hn.2.2)
        · simp only [List.cons.injEq] at ha
          have : (c.toNat : Int) = 35 := by rw [ha.1]; rfl
          exact (hq.q35 this).2
    · rw [if_neg hok] at h; cases h

theorem levs_le (F : List UInt8) : ∀ l ∈ levs F, l.length ≤ F.length := by
  induction F with
  | nil => intro l hl; simp [levs] at hl; simp [hl]
  | cons c r ih =>
    intro l hl
    by_cases h : (c.toNat : Int) = 47
    · simp only [levs, if_pos h] at hl
      rcases List.mem_cons.1 hl with rfl | hl
      · simp
      · have := ih l hl; simp; omega
    · simp only [levs, if_neg h] at hl
      cases hr : levs r with
      | nil => rw [hr] at hl; simp at hl; simp [hl]
      | cons a b =>
        rw [hr] at hl ih
        rcases List.mem_cons.1 hl with rfl | hl
        · have := ih a (by simp); simp; omega
        · have := ih l (by simp [hl]); simp; omega

/-- a filter's levels are a thread's -/
theorem filter_thr (f : List UInt8) (h : (filterR f).1 = 0) (q : Int) : goodT (levs f, q) ∧ (levs f).length ≤ 5 := by
  obtain ⟨h1, _, h3⟩ := filterR_len f h
  obtain ⟨a, b, he, hlen, hq⟩ := fil_levs f 47 0 0 (by omega) h3
  refine ⟨⟨fun l hl => ⟨?_, Nat.le_trans (levs_le f l hl) h1⟩, fun i hi h35 => ?_⟩, by omega⟩
  · simp only [he] at hl
    rcases List.mem_cons.1 hl with rfl | hl
    · exact hq.q47 rfl
    · exact hq.lev l hl
  · simp only [he] at hi h35 ⊢
    cases i with
    | zero => rw [hq.hash rfl (by simpa using h35)]; rfl
    | succ i => have := hq.last i (by simpa using hi) (by simpa using h35); simp; omega

theorem topic_sgn (F : List UInt8) (h : ∀ c ∈ F, tokB (c.toNat : Int) = true) : ∀ l ∈ levs F, sgnL l := by
  induction F with
  | nil => intro l hl; simp [levs] at hl; subst hl; exact sgnL_nil
  | cons c r ih =>
    intro l hl
    have ih' := ih (fun x hx => h x (by simp [hx]))
    have hc := h c (by simp)
    by_cases h47 : (c.toNat : Int) = 47
    · simp only [levs, if_pos h47] at hl
      rcases List.mem_cons.1 hl with rfl | hl
      · exact sgnL_nil
      · exact ih' l hl
    · simp only [levs, if_neg h47] at hl
      have hs : signB (c.toNat : Int) = true := by simpa [tokB, h47] using hc
      cases hr : levs r with
      | nil => exact absurd hr (levs_ne r)
      | cons a b =>
        rw [hr] at hl ih'
        rcases List.mem_cons.1 hl with rfl | hl
        · exact sgnL_cons hs (ih' a (by simp))
        · exact ih' l (by simp [hl])
theorem topic_word (t : List UInt8) (h : (topicR t).1 = 0) : sgnW (levs t) := topic_sgn t (badT_none t 0 (topicR_len t h).2.2)

def plainT (L : List PairL) : List Thr := (L.filter fun e => !(headI e.1 == 36)).map fun e => (levs e.1, e.2)
def dollT (L : List PairL) : List Thr := (L.filter fun e => headI e.1 == 36).map fun e => (levs e.1, e.2)

theorem thr_gT (L : List PairL) (h : goodL L) : (∀ t ∈ plainT L, gT t ∧ t.1.length ≤ 5) ∧ (∀ t ∈ dollT L, gT t ∧ t.1.length ≤ 5) ∧ (plainT L).length + (dollT L).length ≤ 6 := by
  have each : ∀ e ∈ L, gT (levs e.1, e.2) ∧ (levs e.1).length ≤ 5 := by
    intro e he
    have hh := h.2.2 e he
    have := filter_thr e.1 hh.1 e.2
    exact ⟨⟨this.1, hh.2.1, hh.2.2⟩, this.2⟩
  refine ⟨fun t ht => ?_, fun t ht => ?_, ?_⟩
  · obtain ⟨e, he, rfl⟩ := List.mem_map.1 ht
    exact each e (List.mem_filter.1 he).1
  · obtain ⟨e, he, rfl⟩ := List.mem_map.1 ht
    exact each e (List.mem_filter.1 he).1
  · unfold plainT dollT
    rw [List.length_map, List.length_map]
    have : ∀ M : List PairL, (M.filter fun e => !(headI e.1 == 36)).length + (M.filter fun e => headI e.1 == 36).length = M.length := by
      intro M
      induction M with
      | nil => rfl
      | cons a M ih =>
        rw [List.filter_cons, List.filter_cons]
        cases headI a.1 == 36 <;> simp <;> omega
    rw [this]; exact h.1

theorem levs_first (f : List UInt8) : ∃ a b, levs f = a :: b ∧ (headI f = 36 → headI a = 36) ∧ (¬ headI f = 36 → ¬ headI a = 36) := by
  cases f with
  | nil => exact ⟨[], [], rfl, by simp [headI], by simp [headI]⟩
  | cons c r =>
    by_cases h : (c.toNat : Int) = 47
    · exact ⟨[], levs r, by simp [levs, h], by simp [headI, h], by simp [headI]⟩
    · cases hr : levs r with
      | nil => exact absurd hr (levs_ne r)
      | cons a b => exact ⟨c :: a, b, by simp [levs, h, hr], by simp [headI], by simp [headI]⟩

/-- a filter and a topic of which one alone begins with $ -/
theorem fits_apart (f t : List UInt8) (hf : ¬ headI f = 43) (hf2 : ¬ headI f = 35) (h : (headI f = 36 ∧ ¬ headI t = 36) ∨ (¬ headI f = 36 ∧ headI t = 36)) : fitsL (levs f) (levs t) = false := by
  obtain ⟨a, b, ea, h1, h2⟩ := levs_first f
  obtain ⟨x, y, ex, h3, h4⟩ := levs_first t
  rw [ea, ex]
  have hax : a ≠ x := by
    intro he
    subst he
    rcases h with ⟨p, q⟩ | ⟨p, q⟩
    · exact h4 q (h1 p)
    · exact h2 p (h3 q)
  have hfirst : ∀ k : UInt8, a = [k] → headI f = (k.toNat : Int) ∨ f = [] := by
    intro k hk
    cases f with
    | nil => exact Or.inr rfl
    | cons c r =>
      left
      by_cases hc : (c.toNat : Int) = 47
      · have : levs (c :: r) = [] :: levs r := by simp [levs, hc]
        rw [this] at ea; simp at ea; rw [← ea.1] at hk; simp at hk
      · cases hr : levs r with
        | nil => exact absurd hr (levs_ne r)
        | cons a' b' =>
          have : levs (c :: r) = (c :: a') :: b' := by simp [levs, hc, hr]
          rw [this] at ea
          simp only [List.cons.injEq] at ea
          rw [← ea.1] at hk
          simp only [List.cons.injEq] at hk
          simp [headI, hk.1]
  have hnil : f = [] → a = [] := by rintro rfl; simp [levs] at ea; exact ea.1
  have h35 : a ≠ [35] := by
    intro he
    rcases hfirst 35 he with h | h
    · exact hf2 h
    · rw [hnil h] at he; simp at he
  have h43 : a ≠ [43] := by
    intro he
    rcases hfirst 43 he with h | h
    · exact hf h
    · rw [hnil h] at he; simp at he
  simp only [fitsL]
  rw [if_neg h35, if_neg (by rintro (h | h); exact h43 h; exact hax h)]

/-- the route is what the threads answer -/
theorem route_thr (L : List PairL) (t : List UInt8) (n : Nat) : hasW L t (n : Int) = (if headI t = 36 then dollT L else plainT L).any fun e => e.2 == (n : Int) && fitsL e.1 (levs t) := by
  unfold hasW plainT dollT
  split
  · rename_i ht
    rw [List.any_map]
    induction L with
    | nil => rfl
    | cons e L ih =>
      rw [List.any_cons, List.filter_cons, ih]
      have hm : matchB e.1 t = (headI e.1 == 36 && fitsL (levs e.1) (levs t)) := by
        unfold matchB
        by_cases h36 : headI e.1 = 36
        · rw [if_neg (by omega)]; simp [h36]
        · by_cases hw : headI e.1 = 43 ∨ headI e.1 = 35
          · rw [if_pos ⟨ht, hw⟩]; simp [h36]
          · rw [if_neg (fun h => hw h.2), fits_apart e.1 t (fun h => hw (Or.inl h)) (fun h => hw (Or.inr h)) (Or.inr ⟨h36, ht⟩)]; simp
      rw [hm]
      cases headI e.1 == 36 <;> simp [Function.comp]
  · rename_i ht
    rw [List.any_map]
    induction L with
    | nil => rfl
    | cons e L ih =>
      rw [List.any_cons, List.filter_cons, ih]
      have hm : matchB e.1 t = (!(headI e.1 == 36) && fitsL (levs e.1) (levs t)) := by
        unfold matchB
        rw [if_neg (fun h => ht h.1)]
        by_cases h36 : headI e.1 = 36
        · rw [fits_apart e.1 t (by omega) (by omega) (Or.inl ⟨h36, ht⟩)]; simp
        · simp [h36]
      rw [hm]
      cases headI e.1 == 36 <;> simp [Function.comp]

/-- the letters of an answer are the numbers of a route -/
theorem ints_ansT (T : List Thr) (p : Nat → Bool) (h : ∀ n, hasA T n = p n) : (ansT T).map (fun b => (b.toNat : Int) - 65) = ((List.range 16).filter p).map (fun n : Nat => (n : Int)) := by
  unfold ansT ansTo
  rw [List.map_map]
  have e : (List.range 16).filter (hasA T) = (List.range 16).filter p := List.filter_congr (fun n _ => h n)
  rw [e]
  apply List.map_congr_left
  intro n hn
  have := List.mem_range.1 (List.mem_filter.1 hn).1
  simp only [Function.comp]
  rw [letter_nat n this]; omega

theorem routeL_form (L : List PairL) (t : List UInt8) : routeL L t = ((List.range 16).filter fun n : Nat => hasW L t (n : Int)).map (fun n : Nat => (n : Int)) := by
  unfold routeL
  rw [List.filter_map]; rfl

end Go.Proofs.YtchhmojnoiephaaDoor
