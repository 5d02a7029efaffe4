import Derived.Test.YtchhmojnoiephaaDoorPureK
/- Plain mathematics: states as they are written, and that they are read as they were (P7). -/
namespace Go.Proofs.YtchhmojnoiephaaDoor

def dg (k : Nat) : UInt8 := UInt8.ofNat (48 + k)
theorem dg_nat (k : Nat) (h : k ≤ 9) : (dg k).toNat = 48 + k := by
  unfold dg; rw [UInt8.toNat_ofNat']; omega
def three (n : Int) : List UInt8 := [dg (n.toNat / 100), dg (n.toNat / 10 % 10), dg (n.toNat % 10)]
def rEdge (e : List UInt8 × Int) : List UInt8 := 44 :: (e.1 ++ 62 :: three e.2)
def rEdges (E : List (List UInt8 × Int)) : List UInt8 := E.flatMap rEdge
def rStar (s : Int) : List UInt8 := if s = -1 then [] else 42 :: three s
def render (x : St) : List UInt8 := x.ans ++ (rEdges x.edges ++ rStar x.star)

theorem dig3_three (n : Int) (h0 : 0 ≤ n) (h : n < 1000) (r : List UInt8) : dig3 (three n ++ r) = n := by
  obtain ⟨k, rfl⟩ := Int.eq_ofNat_of_zero_le h0
  have hk : k < 1000 := by omega
  unfold dig3 three
  simp only [Int.toNat_natCast, List.cons_append, List.nil_append, digFrom]
  have e1 := dg_nat (k / 100) (by omega)
  have e2 := dg_nat (k / 10 % 10) (by omega)
  have e3 := dg_nat (k % 10) (by omega)
  rw [e1, e2, e3, if_pos (by omega), if_pos (by omega), if_pos (by omega)]
  omega

theorem signLen_row (l r : List UInt8) (h : sgnL l) : signLen (l ++ 62 :: r) = l.length := by
  induction l with
  | nil => simp [signLen, signB]
  | cons c l ih =>
    simp only [List.cons_append, signLen]
    rw [if_pos (h c (by simp)), ih (fun x hx => h x (by simp [hx]))]; rfl

theorem rEdges_cons (e : List UInt8 × Int) (E : List (List UInt8 × Int)) (r : List UInt8) : rEdges (e :: E) ++ r = 44 :: (e.1 ++ 62 :: (three e.2 ++ (rEdges E ++ r))) := by
  unfold rEdges rEdge; simp

theorem edges_read (r : List UInt8) (hr : headI r ≠ 44) (E : List (List UInt8 × Int)) : ∀ (f : Nat) (G : List (List UInt8 × Int)), (rEdges E ++ r).length ≤ f → (∀ e ∈ E, sgnL e.1 ∧ 0 ≤ e.2 ∧ e.2 < 1000) → Rise ((G ++ E).map (·.1)) →
    edgesP 1000 f G (rEdges E ++ r) = some (G ++ E, r) := by
  induction E with
  | nil =>
    intro f G hf _ _
    have e0 : rEdges [] ++ r = r := by simp [rEdges]
    rw [e0, List.append_nil]
    cases f with
    | zero => rfl
    | succ f => simp only [edgesP]; rw [if_neg hr]
  | cons e E ih =>
    intro f G hf hE hR
    have he := hE e (by simp)
    rw [rEdges_cons] at hf ⊢
    obtain ⟨f', rfl⟩ : ∃ f', f = f' + 1 := ⟨f - 1, by simp at hf; omega⟩
    have hrs : risesB G e.1 = true := by
      unfold risesB
      cases hg : G.getLast? with
      | none => rfl
      | some g =>
        simp only []
        have hgm : g ∈ G := List.mem_of_getLast? hg
        rw [List.map_append, Rise, List.pairwise_append] at hR
        exact hR.2.2 g.1 (List.mem_map_of_mem hgm) e.1 (by simp)
    have hs := signLen_row e.1 (three e.2 ++ (rEdges E ++ r)) he.1
    have hd := dig3_three e.2 he.2.1 he.2.2 (rEdges E ++ r)
    have t1 : (44 :: (e.1 ++ 62 :: (three e.2 ++ (rEdges E ++ r)))).tail = e.1 ++ 62 :: (three e.2 ++ (rEdges E ++ r)) := rfl
    have t2 : (e.1 ++ 62 :: (three e.2 ++ (rEdges E ++ r))).drop e.1.length = 62 :: (three e.2 ++ (rEdges E ++ r)) := List.drop_left
    have t3 : (e.1 ++ 62 :: (three e.2 ++ (rEdges E ++ r))).take e.1.length = e.1 := List.take_left
    have t4 : (62 :: (three e.2 ++ (rEdges E ++ r))).tail = three e.2 ++ (rEdges E ++ r) := rfl
    have t5 : (three e.2 ++ (rEdges E ++ r)).drop 3 = rEdges E ++ r := by simp [three]
    simp only [edgesP]
    rw [if_pos (by rfl), t1, hs, t2, if_pos (by rfl), t4, hd, t3, if_pos ⟨he.2.1, he.2.2, hrs⟩, t5]
    have := ih f' (G ++ [(e.1, e.2)]) (by simp [three] at hf ⊢; omega) (fun x hx => hE x (by simp [hx])) (by simpa using hR)
    rw [this]; simp

theorem ansN_read (a r : List UInt8) (hr : ¬ (65 ≤ headI r ∧ headI r ≤ 80)) : ∀ p : Int, (a.Pairwise fun x y => x.toNat < y.toNat) → (∀ c ∈ a, 65 ≤ c.toNat ∧ c.toNat ≤ 80 ∧ p < (c.toNat : Int)) → ansN p (a ++ r) = some a.length := by
  induction a with
  | nil =>
    intro p _ _
    cases r with
    | nil => rfl
    | cons c r => simp only [List.nil_append, ansN]; rw [if_neg (by simpa [headI] using hr)]; rfl
  | cons c a ih =>
    intro p hp hc
    have h := hc c (by simp)
    rw [List.pairwise_cons] at hp
    simp only [List.cons_append, ansN]
    rw [if_pos (by omega), if_neg (by omega), ih (c.toNat : Int) hp.2 (fun x hx => by have := hc x (by simp [hx]); have := hp.1 x hx; omega)]
    rfl

theorem star_render (s : Int) (h0 : -1 ≤ s) (h : s < 1000) : starP 1000 (rStar s) = some s := by
  unfold rStar
  by_cases hs : s = -1
  · rw [if_pos hs, hs]; rfl
  · rw [if_neg hs]
    have hd := dig3_three s (by omega) h []
    rw [List.append_nil] at hd
    unfold starP
    have t1 : (42 :: three s).tail = three s := rfl
    rw [if_pos (by rfl), t1, hd, if_pos ⟨by omega, h, by simp [three]⟩]
theorem headI_star (s : Int) : headI (rStar s) ≠ 44 ∧ ¬ (65 ≤ headI (rStar s) ∧ headI (rStar s) ≤ 80) := by
  unfold rStar; split <;> simp [headI]
theorem headI_behind (x : St) : ¬ (65 ≤ headI (rEdges x.edges ++ rStar x.star) ∧ headI (rEdges x.edges ++ rStar x.star) ≤ 80) := by
  cases hE : x.edges with
  | nil => rw [show rEdges [] = [] from rfl, List.nil_append]; exact (headI_star _).2
  | cons e E => rw [rEdges_cons]; simp [headI]

/-- a state that can be written -/
structure okS (x : St) : Prop where
  ans : ansOK x.ans
  lev : ∀ e ∈ x.edges, sgnL e.1 ∧ 0 ≤ e.2 ∧ e.2 < 1000
  rise : Rise (x.edges.map (·.1))
  star : -1 ≤ x.star ∧ x.star < 1000

theorem state_render (x : St) (h : okS x) : stateP 1000 (render x) = some x := by
  have h1 : ansN 0 (render x) = some x.ans.length := by
    rw [ansN_low]
    exact ansN_read x.ans _ (headI_behind x) 64 h.ans.1 (fun c hc => by have := h.ans.2 c hc; omega)
  have h2 : (render x).drop x.ans.length = rEdges x.edges ++ rStar x.star := by unfold render; exact List.drop_left
  have h3 := edges_read (rStar x.star) (headI_star _).1 x.edges (render x).length [] (by unfold render; simp) h.lev (by simpa using h.rise)
  rw [List.nil_append] at h3
  have h4 := stP_yes 1000 (render x) (render x).length x.ans.length x.edges (rStar x.star) x.star rfl h1 (by rw [h2]; exact h3) (star_render _ h.star.1 h.star.2)
  rw [h4]
  have : (render x).take x.ans.length = x.ans := by unfold render; exact List.take_left
  rw [this]

theorem render_inj (x y : St) (hx : okS x) (hy : okS y) (h : render x = render y) : x = y := by
  have := state_render x hx
  rw [h, state_render y hy] at this
  exact (Option.some.inj this).symm

/-- no ';' is written -/
theorem render_no (x : St) (h : okS x) : ∀ c ∈ render x, ¬ (c.toNat : Int) = 59 := by
  have h3 : ∀ n : Int, 0 ≤ n → n < 1000 → ∀ c ∈ three n, ¬ (c.toNat : Int) = 59 := by
    intro n h0 hn c hc
    simp only [three, List.mem_cons, List.not_mem_nil, or_false] at hc
    rcases hc with rfl | rfl | rfl
    · rw [dg_nat _ (by omega)]; omega
    · rw [dg_nat _ (by omega)]; omega
    · rw [dg_nat _ (by omega)]; omega
  intro c hc
  unfold render at hc
  rcases List.mem_append.1 hc with hc | hc
  · have := h.ans.2 c hc; omega
  · rcases List.mem_append.1 hc with hc | hc
    · obtain ⟨e, he, hc⟩ := List.mem_flatMap.1 hc
      unfold rEdge at hc
      rcases List.mem_cons.1 hc with rfl | hc
      · decide
      · rcases List.mem_append.1 hc with hc | hc
        · have := (h.lev e he).1 c hc
          intro h59
          rw [h59] at this; simp [signB] at this
        · rcases List.mem_cons.1 hc with rfl | hc
          · decide
          · exact h3 _ (h.lev e he).2.1 (h.lev e he).2.2 c hc
    · unfold rStar at hc
      split at hc
      · simp at hc
      · rename_i hs
        rcases List.mem_cons.1 hc with rfl | hc
        · decide
        · exact h3 _ (by have := h.star.1; omega) h.star.2 c hc

/-- texts with ';' between them -/
def joinP : List (List UInt8) → List UInt8
  | [] => []
  | [p] => p
  | p :: q :: r => p ++ 59 :: joinP (q :: r)

theorem pcs_head (p r : List UInt8) (hp : ∀ c ∈ p, ¬ (c.toNat : Int) = 59) : pcs (p ++ 59 :: r) = p :: pcs r := by
  induction p with
  | nil => simp [pcs]
  | cons c p ih =>
    simp only [List.cons_append, pcs]
    rw [if_neg (hp c (by simp)), ih (fun x hx => hp x (by simp [hx]))]
theorem pcs_only (p : List UInt8) (hp : ∀ c ∈ p, ¬ (c.toNat : Int) = 59) : pcs p = [p] := by
  induction p with
  | nil => rfl
  | cons c p ih =>
    simp only [pcs]
    rw [if_neg (hp c (by simp)), ih (fun x hx => hp x (by simp [hx]))]
theorem pcs_join : ∀ (P : List (List UInt8)), P ≠ [] → (∀ p ∈ P, ∀ c ∈ p, ¬ (c.toNat : Int) = 59) → pcs (joinP P) = P
  | [], h, _ => absurd rfl h
  | [p], _, h => pcs_only p (h p (by simp))
  | p :: q :: r, _, h => by
    simp only [joinP]
    rw [pcs_head p _ (h p (by simp)), pcs_join (q :: r) (by simp) (fun x hx => h x (by simp [hx]))]

theorem statesR_render (n : Int) (hn : 0 ≤ n) (xs : List St) : ∀ i, i + xs.length ≤ 1000 → (∀ x ∈ xs, okS x ∧ belowS n x = true) → statesR n i (xs.map render) = .ok xs := by
  induction xs with
  | nil => intro i _ _; rfl
  | cons x xs ih =>
    intro i hi h
    simp only [List.map_cons, statesR]
    rw [if_neg (by simp at hi; omega), stateP_yes n hn _ x (state_render x (h x (by simp)).1) (h x (by simp)).2]
    simp only []
    rw [ih (i + 1) (by simp at hi; omega) (fun y hy => h y (by simp [hy]))]

/-- code as it is written is read so -/
theorem code_render (xs : List St) (h2 : 2 ≤ xs.length) (h9 : xs.length ≤ 1000) (h : ∀ x ∈ xs, okS x ∧ belowS (xs.length : Int) x = true) : codeP (joinP (xs.map render)) = .ok xs := by
  have hp : pcs (joinP (xs.map render)) = xs.map render := pcs_join _ (by intro he; rw [List.map_eq_nil_iff] at he; subst he; simp at h2) (fun p hp c hc => by
    obtain ⟨x, hx, rfl⟩ := List.mem_map.1 hp
    exact render_no x (h x hx).1 c hc)
  unfold codeP
  rw [hp, List.length_map, if_neg (by omega)]
  exact statesR_render _ (by omega) xs 0 (by omega) h

end Go.Proofs.YtchhmojnoiephaaDoor
