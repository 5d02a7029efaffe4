import Derived.Test.YtchhmojnoiephaaDoorPureF
/- Plain mathematics: a state that is read with no count of states in mind (the program's own way), and the count held against it behind. -/
namespace Go.Proofs.YtchhmojnoiephaaDoor

/-- how many letters stand at the beginning, rising behind p -/
def ansE : Int → List UInt8 → Nat
  | _, [] => 0
  | p, c :: r => if p < (c.toNat : Int) ∧ (c.toNat : Int) ≤ 80 then ansE (c.toNat : Int) r + 1 else 0

theorem ansE_le (p : Int) (l : List UInt8) : ansE p l ≤ l.length := by
  induction l generalizing p with
  | nil => simp [ansE]
  | cons c r ih => unfold ansE; split <;> simp; exact ih _

theorem ansE_on (p : Int) (k : Nat) (L : List UInt8) (h : k < L.length) (hc : p < (L[k].toNat : Int) ∧ (L[k].toNat : Int) ≤ 80) : ansE p (L.drop k) = ansE (L[k].toNat : Int) (L.drop (k + 1)) + 1 := by
  rw [List.drop_eq_getElem_cons h]; simp only [ansE]; rw [if_pos hc]
theorem ansE_off (p : Int) (k : Nat) (L : List UInt8) (h : k < L.length) (hc : ¬ (p < (L[k].toNat : Int) ∧ (L[k].toNat : Int) ≤ 80)) : ansE p (L.drop k) = 0 := by
  rw [List.drop_eq_getElem_cons h]; simp only [ansE]; rw [if_neg hc]
theorem ansE_end (p : Int) (k : Nat) (L : List UInt8) (h : ¬ k < L.length) : ansE p (L.drop k) = 0 := by
  rw [List.drop_eq_nil_of_le (by omega)]; rfl

theorem ansN_low (L : List UInt8) : ansN 0 L = ansN 64 L := by
  cases L with
  | nil => rfl
  | cons c r =>
    simp only [ansN]
    by_cases h : 65 ≤ (c.toNat : Int) ∧ (c.toNat : Int) ≤ 80
    · rw [if_pos h, if_pos h, if_neg (by omega), if_neg (by omega)]
    · rw [if_neg h, if_neg h]

theorem ansN_E (p : Int) (L : List UInt8) (hp : 64 ≤ p) : (ansN p L = some (ansE p L)) ∨ (ansN p L = none ∧ 65 ≤ headI (L.drop (ansE p L)) ∧ headI (L.drop (ansE p L)) ≤ 80) := by
  induction L generalizing p with
  | nil => left; rfl
  | cons c r ih =>
    simp only [ansN, ansE]
    by_cases h : 65 ≤ (c.toNat : Int) ∧ (c.toNat : Int) ≤ 80
    · rw [if_pos h]
      by_cases h2 : (c.toNat : Int) ≤ p
      · rw [if_pos h2, if_neg (by omega)]
        right; simpa [headI] using h
      · rw [if_neg h2, if_pos (by omega)]
        rcases ih (c.toNat : Int) (by omega) with h3 | ⟨h3, h4⟩
        · left; rw [h3]; rfl
        · right; rw [h3]; exact ⟨rfl, by simpa using h4⟩
    · rw [if_neg h, if_neg (by omega)]
      left; rfl

/-- the program's end of the answer -/
theorem ans_read (L : List UInt8) : (ansN 0 L = some (ansE 64 L)) ∨ (ansN 0 L = none ∧ 65 ≤ headI (L.drop (ansE 64 L)) ∧ headI (L.drop (ansE 64 L)) ≤ 80) := by
  rw [ansN_low]; exact ansN_E 64 L (by omega)

/-- the number behind a mark -/
def numB (l : List UInt8) (m : Int) : Int := if headI l = m then dig3 l.tail else -1

def belowE (n : Int) (E : List (List UInt8 × Int)) : Bool := E.all fun e => decide (e.2 < n)

theorem edgesP_pre (n : Int) (f : Nat) : ∀ (G : List (List UInt8 × Int)) (l : List UInt8) (E : List (List UInt8 × Int)) (r : List UInt8), edgesP n f G l = some (E, r) → ∃ H, E = G ++ H := by
  induction f with
  | zero => intro G l E r h; simp only [edgesP, Option.some.injEq, Prod.mk.injEq] at h; obtain ⟨rfl, _⟩ := h; exact ⟨[], by simp⟩
  | succ f ih =>
    intro G l E r h
    simp only [edgesP] at h
    split at h
    · split at h
      · split at h
        · obtain ⟨H, hH⟩ := ih _ _ _ _ h
          exact ⟨(l.tail.take (signLen l.tail), dig3 ((l.tail.drop (signLen l.tail)).tail)) :: H, by rw [hH]; simp⟩
        · cases h
      · cases h
    · simp only [Option.some.injEq, Prod.mk.injEq] at h; obtain ⟨rfl, _⟩ := h; exact ⟨[], by simp⟩

/-- the edges that are read with a count in mind -/
def cutE (n : Int) : Option (List (List UInt8 × Int) × List UInt8) → Option (List (List UInt8 × Int) × List UInt8)
  | none => none
  | some (E, r) => if belowE n E then some (E, r) else none

theorem edgesP_cut (n : Int) (f : Nat) : ∀ (G : List (List UInt8 × Int)) (l : List UInt8), belowE n G = true → edgesP n f G l = cutE n (edgesP 1000 f G l) := by
  induction f with
  | zero => intro G l h; simp [edgesP, cutE, h]
  | succ f ih =>
    intro G l h
    simp only [edgesP]
    by_cases h1 : headI l = 44
    · rw [if_pos h1, if_pos h1]
      by_cases h2 : headI (l.tail.drop (signLen l.tail)) = 62
      · rw [if_pos h2, if_pos h2]
        generalize hd : dig3 ((l.tail.drop (signLen l.tail)).tail) = d
        have h9 : d < 1000 := by
          by_cases h0 : 0 ≤ d
          · have := (dig3_len _ (by rw [hd]; exact h0)).2; omega
          · omega
        by_cases h0 : 0 ≤ d
        · by_cases hr : risesB G (l.tail.take (signLen l.tail)) = true
          · rw [if_pos (c := 0 ≤ d ∧ d < 1000 ∧ _) ⟨h0, h9, hr⟩]
            by_cases hn : d < n
            · rw [if_pos ⟨h0, hn, hr⟩]
              exact ih _ _ (by simp only [belowE, List.all_append] at h ⊢; simp [h, hn])
            · rw [if_neg (fun hh => hn hh.2.1)]
              cases he : edgesP 1000 f (G ++ [(l.tail.take (signLen l.tail), d)]) ((l.tail.drop (signLen l.tail)).tail.drop 3) with
              | none => rfl
              | some Er =>
                obtain ⟨E, r⟩ := Er
                obtain ⟨H, hH⟩ := edgesP_pre _ _ _ _ _ _ he
                simp only [cutE]
                rw [if_neg (by rw [hH]; simp only [belowE, List.all_append]; simp [hn])]
          · rw [if_neg (fun hh => hr hh.2.2), if_neg (fun hh => hr hh.2.2)]; rfl
        · rw [if_neg (fun hh => h0 hh.1), if_neg (fun hh => h0 hh.1)]; rfl
      · rw [if_neg h2, if_neg h2]; rfl
    · rw [if_neg h1, if_neg h1]; simp [cutE, h]

theorem starP_cut (n : Int) (hn : 0 ≤ n) (l : List UInt8) : starP n l = match starP 1000 l with
    | none => none
    | some v => if v < n then some v else none := by
  unfold starP
  by_cases h : headI l = 42
  · rw [if_pos h, if_pos h]
    have h9 : 0 ≤ dig3 l.tail → dig3 l.tail < 1000 := fun h0 => by have := (dig3_len _ h0).2; omega
    by_cases h0 : 0 ≤ dig3 l.tail ∧ l.length = 4
    · rw [if_pos (c := 0 ≤ dig3 l.tail ∧ dig3 l.tail < 1000 ∧ _) ⟨h0.1, h9 h0.1, h0.2⟩]
      simp only []
      by_cases hd : dig3 l.tail < n
      · rw [if_pos ⟨h0.1, hd, h0.2⟩, if_pos hd]
      · rw [if_neg (fun hh => hd hh.2.1), if_neg hd]
    · rw [if_neg (fun hh => h0 ⟨hh.1, hh.2.2⟩), if_neg (fun hh => h0 ⟨hh.1, hh.2.2⟩)]
  · rw [if_neg h, if_neg h]
    by_cases h1 : l.length = 0
    · rw [if_pos h1]; simp only []; rw [if_pos (by omega)]
    · rw [if_neg h1]

/-- do all edges lead below n? -/
def belowS (n : Int) (x : St) : Bool := belowE n x.edges && decide (x.star < n)

theorem stateP_cut (n : Int) (hn : 0 ≤ n) (L : List UInt8) : stateP n L = match stateP 1000 L with
    | none => none
    | some x => if belowS n x = true then some x else none := by
  unfold stateP
  cases ansN 0 L with
  | none => rfl
  | some k =>
    simp only []
    rw [edgesP_cut n L.length [] (L.drop k) rfl]
    cases he : edgesP 1000 L.length [] (L.drop k) with
    | none => rfl
    | some Er =>
      obtain ⟨E, r⟩ := Er
      simp only [cutE]
      by_cases hb : belowE n E = true
      · rw [if_pos hb]
        simp only []
        rw [starP_cut n hn r]
        cases hs : starP 1000 r with
        | none => simp
        | some v =>
          simp only []
          by_cases hv : v < n
          · rw [if_pos hv]; rw [if_pos (by simp [belowS, hb, hv])]
          · rw [if_neg hv]; rw [if_neg (by simp [belowS, hv])]
      · rw [if_neg hb]
        cases hs : starP 1000 r with
        | none => rfl
        | some v => simp only []; rw [if_neg (by simp [belowS, hb])]

theorem stateP_none (n : Int) (hn : 0 ≤ n) (L : List UInt8) (h : stateP 1000 L = none) : stateP n L = none := by rw [stateP_cut n hn, h]
theorem stateP_yes (n : Int) (hn : 0 ≤ n) (L : List UInt8) (x : St) (h : stateP 1000 L = some x) (hb : belowS n x = true) : stateP n L = some x := by rw [stateP_cut n hn, h]; simp only []; rw [if_pos hb]
theorem stateP_off (n : Int) (hn : 0 ≤ n) (L : List UInt8) (x : St) (h : stateP 1000 L = some x) (hb : belowS n x = false) : stateP n L = none := by rw [stateP_cut n hn, h]; simp only []; rw [if_neg (by simp [hb])]
theorem stateP_up (n : Int) (hn : 0 ≤ n) (L : List UInt8) (x : St) (h : stateP n L = some x) : stateP 1000 L = some x := by
  rw [stateP_cut n hn] at h
  cases h1 : stateP 1000 L with
  | none => rw [h1] at h; cases h
  | some y => rw [h1] at h; simp only [] at h; split at h; exact h; cases h

/-- a walk that carries the state itself -/
def deadS : St := ⟨[], [], -1⟩
def stAt (xs : List St) (k : Int) : St := if k < 0 then deadS else (xs[k.toNat]?).getD deadS

def walkS (xs : List St) : St → List (List UInt8) → St
  | x, [] => x
  | x, l :: ls => walkS xs (stAt xs (followE x.edges x.star l)) ls

theorem walkS_dead (xs : List St) (ls : List (List UInt8)) : walkS xs deadS ls = deadS := by
  induction ls with
  | nil => rfl
  | cons l ls ih => simp only [walkS, deadS, followE, stAt] at ih ⊢; simpa using ih

theorem walkS_K (xs : List St) (ls : List (List UInt8)) : ∀ k : Int, (k < xs.length) → walkS xs (stAt xs k) ls = stAt xs (walkK xs k ls) ∨ (∃ x ∈ xs, ¬ goodSt xs.length x) := by
  induction ls with
  | nil => intro k _; left; rfl
  | cons l ls ih =>
    intro k hk
    by_cases hb : ∃ x ∈ xs, ¬ goodSt xs.length x
    · exact Or.inr hb
    left
    by_cases h : k < 0
    · rw [walkK_neg _ _ _ h]
      have : stAt xs k = deadS := by unfold stAt; rw [if_pos h]
      rw [this]; exact walkS_dead _ _
    · obtain ⟨n, rfl⟩ := Int.eq_ofNat_of_zero_le (by omega : 0 ≤ k)
      have hn : n < xs.length := by omega
      have e1 : stAt xs (n : Int) = xs[n] := by unfold stAt; rw [if_neg h]; simp [List.getElem?_eq_getElem hn]
      simp only [walkS, walkK]
      rw [if_neg h, e1, stepS_some xs n l hn]
      have hg : goodSt xs.length xs[n] := Classical.byContradiction fun hc => hb ⟨_, List.getElem_mem hn, hc⟩
      have hf := followE_good xs.length xs[n].edges xs[n].star l hg.1 hg.2.1 hg.2.2.1
      rcases ih _ hf.2 with h3 | h3
      · exact h3
      · exact absurd h3 hb

theorem stAt_ans (xs : List St) (k : Int) : (stAt xs k).ans = ansOf xs k := by
  unfold stAt ansOf
  split
  · rfl
  · cases xs[k.toNat]? <;> rfl

/-- what stands between the separators -/
def splitB (q : Int) : List UInt8 → List (List UInt8)
  | [] => [[]]
  | c :: r => if (c.toNat : Int) = q then [] :: splitB q r else
    match splitB q r with
    | [] => [[c]]
    | a :: b => (c :: a) :: b

theorem levs_split (l : List UInt8) : levs l = splitB 47 l := by
  induction l with
  | nil => rfl
  | cons c r ih => unfold levs splitB; rw [ih]; cases splitB 47 r <;> rfl
theorem pcs_split (l : List UInt8) : pcs l = splitB 59 l := by
  induction l with
  | nil => rfl
  | cons c r ih => unfold pcs splitB; rw [ih]; cases splitB 59 r <;> rfl

/-- how many bytes stand ahead of the first separator -/
def runB (q : Int) : List UInt8 → Nat
  | [] => 0
  | c :: r => if (c.toNat : Int) = q then 0 else runB q r + 1

theorem runB_le (q : Int) (l : List UInt8) : runB q l ≤ l.length := by
  induction l with
  | nil => simp [runB]
  | cons c r ih => unfold runB; split <;> simp; omega
theorem runB_hit (q : Int) (l : List UInt8) (k : Nat) (h : k < l.length) (hs : (l[k].toNat : Int) = q) : runB q (l.drop k) = 0 := by
  rw [List.drop_eq_getElem_cons h]; simp [runB, hs]
theorem runB_other (q : Int) (l : List UInt8) (k : Nat) (h : k < l.length) (hs : ¬ (l[k].toNat : Int) = q) : runB q (l.drop k) = runB q (l.drop (k + 1)) + 1 := by
  rw [List.drop_eq_getElem_cons h]; simp [runB, hs]
theorem runB_end (q : Int) (l : List UInt8) (k : Nat) (h : ¬ k < l.length) : runB q (l.drop k) = 0 := by
  rw [List.drop_eq_nil_of_le (by omega)]; rfl
theorem splitB_step (q : Int) (l : List UInt8) : splitB q l = l.take (runB q l) :: (if runB q l < l.length then splitB q (l.drop (runB q l + 1)) else []) := by
  induction l with
  | nil => simp [splitB, runB]
  | cons c r ih =>
    by_cases h : (c.toNat : Int) = q
    · simp [splitB, runB, h]
    · rw [splitB, if_neg h, ih]
      simp [runB, h]
theorem splitB_cut (q : Int) (L : List UInt8) (fr k : Nat) (hf : fr ≤ k) (hk : k < L.length) (hr : fr + runB q (L.drop fr) = k + runB q (L.drop k)) (hs : (L[k].toNat : Int) = q) :
    splitB q (L.drop fr) = (L.drop fr).take (k - fr) :: splitB q (L.drop (k + 1)) := by
  have h0 := runB_hit q L k hk hs
  rw [splitB_step, show runB q (L.drop fr) = k - fr from by omega, if_pos (by rw [List.length_drop]; omega), List.drop_drop, show fr + (k - fr + 1) = k + 1 from by omega]
theorem splitB_last (q : Int) (L : List UInt8) (fr k : Nat) (hf : fr ≤ k) (hk : k = L.length) (hr : fr + runB q (L.drop fr) = k + runB q (L.drop k)) :
    splitB q (L.drop fr) = [(L.drop fr).take (k - fr)] := by
  have h0 := runB_end q L k (by omega)
  rw [splitB_step, show runB q (L.drop fr) = k - fr from by omega, if_neg (by rw [List.length_drop]; omega)]

end Go.Proofs.YtchhmojnoiephaaDoor
