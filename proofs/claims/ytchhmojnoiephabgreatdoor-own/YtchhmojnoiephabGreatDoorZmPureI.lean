import Derived.Test.YtchhmojnoiephabGreatDoorPureF
import Derived.Test.YtchhmojnoiephabGreatDoorPureG
import Derived.Test.YtchhmojnoiephabGreatDoorPureC
/- Plain mathematics: a state that is read with no count of states in mind (the program's own way), and the count held against it behind. -/
namespace Go.Proofs.YtchhmojnoiephabGreatDoor

/-- how many letters stand at the beginning, rising behind p -/
def ansE : Int → List UInt8 → Nat
  | _, [] => 0
  | p, c :: r => if p < (c.toNat : Int) ∧ (c.toNat : Int) ≤ 80 then ansE (c.toNat : Int) r + 1 else 0

theorem ansE_le (p : Int) (l : List UInt8) : ansE p l ≤ l.length := by
  induction l generalizing p with
  | nil => simp [ansE]
  | cons c r ih => unfold ansE; split <;> simp; exact ih _

theorem ansE_on (p : Int) (k : Nat) (L : List UInt8) (h : k < L.length) (hc : p < (L[k].toNat : Int) ∧ (L[k].toNat : Int) ≤ 80) : ansE p (L.drop k) = ansE (L[k].toNat : Int) (L.drop (k + 1)) + 1 := by
  rw [List.drop_eq_getElem_cons h]; simp only [ansE]; rw [if_pos hc]
theorem ansE_off (p : Int) (k : Nat) (L : List UInt8) (h : k < L.length) (hc : ¬ (p < (L[k].toNat : Int) ∧ (L[k].toNat : Int) ≤ 80)) : ansE p (L.drop k) = 0 := by
  rw [List.drop_eq_getElem_cons h]; simp only [ansE]; rw [if_neg hc]
theorem ansE_end (p : Int) (k : Nat) (L : List UInt8) (h : ¬ k < L.length) : ansE p (L.drop k) = 0 := by
  rw [List.drop_eq_nil_of_le (by omega)]; rfl

theorem ansN_low (L : List UInt8) : ansN 0 L = ansN 64 L := by
  cases L with
  | nil => rfl
  | cons c r =>
    simp only [ansN]
    by_cases h : 65 ≤ (c.toNat : Int) ∧ (c.toNat : Int) ≤ 80
    · rw [if_pos h, if_pos h, if_neg (by omega), if_neg (by omega)]
    · rw [if_neg h, if_neg h]

theorem ansN_E (p : Int) (L : List UInt8) (hp : 64 ≤ p) : (ansN p L = some (ansE p L)) ∨ (ansN p L = none ∧ 65 ≤ headI (L.drop (ansE p L)) ∧ headI (L.drop (ansE p L)) ≤ 80) := by
  induction L generalizing p with
  | nil => left; rfl
  | cons c r ih =>
    simp only [ansN, ansE]
    by_cases h : 65 ≤ (c.toNat : Int) ∧ (c.toNat : Int) ≤ 80
    · rw [if_pos h]
      by_cases h2 : (c.toNat : Int) ≤ p
      · rw [if_pos h2, if_neg (by omega)]
        right; simpa [headI] using h
      · rw [if_neg h2, if_pos (by omega)]
        rcases ih (c.toNat : Int) (by omega) with h3 | ⟨h3, h4⟩
        · left; rw [h3]; rfl
        · right; rw [h3]; exact ⟨rfl, by simpa using h4⟩
    · rw [if_neg h, if_neg (by omega)]
      left; rfl

/-- the program's end of the answer -/
theorem ans_read (L : List UInt8) : (ansN 0 L = some (ansE 64 L)) ∨ (ansN 0 L = none ∧ 65 ≤ headI (L.drop (ansE 64 L)) ∧ headI (L.drop (ansE 64 L)) ≤ 80) := by
  rw [ansN_low]; exact ansN_E 64 L (by omega)

/-- the number behind a mark -/
def numB (l : List UInt8) (m : Int) : Int := if headI l = m then dig3 l.tail else -1

def belowE (n : Int) (E : List (List UInt8 × Int)) : Bool := E.all fun e => decide (e.2 < n)

theorem edgesP_pre (n : Int) (f : Nat) : ∀ (G : List (List UInt8 × Int)) (l : List UInt8) (E : List (List UInt8 × Int)) (r : List UInt8), edgesP n f G l = some (E, r) → ∃ H, E = G ++ H := by
  induction f with
  | zero => intro G l E r h; simp only [edgesP, Option.some.injEq, Prod.mk.injEq] at h; obtain ⟨rfl, _⟩ := h; exact ⟨[], by simp⟩
  | succ f ih =>
    intro G l E r h
    simp only [edgesP] at h
    split at h
    · split at h
      · split at h
        · obtain ⟨H, hH⟩ := ih _ _ _ _ h
          exact ⟨(l.tail.take (signLen l.tail), dig3 ((l.tail.drop (signLen l.tail)).tail)) :: H, by rw [hH]; simp⟩
        · cases h
      · cases h
    · simp only [Option.some.injEq, Prod.mk.injEq] at h; obtain ⟨rfl, _⟩ := h; exact ⟨[], by simp⟩

/-- the edges that are read with a count in mind -/
def cutE (n : Int) : Option (List (List UInt8 × Int) × List UInt8) → Option (List (List UInt8 × Int) × List UInt8)
  | none => none
  | some (E, r) => if belowE n E then some (E, r) else none

theorem edgesP_cut (n : Int) (f : Nat) : ∀ (G : List (List UInt8 × Int)) (l : List UInt8), belowE n G = true → edgesP n f G l = cutE n (edgesP 1000 f G l) := by
  induction f with
  | zero => intro G l h; simp [edgesP, cutE, h]
  | succ f ih =>
    intro G l h
    simp only [edgesP]
    by_cases h1 : headI l = 44
    · rw [if_pos h1, if_pos h1]
      by_cases h2 : headI (l.tail.drop (signLen l.tail)) = 62
      · rw [if_pos h2, if_pos h2]
        generalize hd : dig3 ((l.tail.drop (signLen l.tail)).tail) = d
        have h9 : d < 1000 := by
          by_cases h0 : 0 ≤ d
          · have := (dig3_len _ (by rw [hd]; exact h0)).2; omega
          · omega
        by_cases h0 : 0 ≤ d
        · by_cases hr : risesB G (l.tail.take (signLen l.tail)) = true
          · rw [if_pos (c := 0 ≤ d ∧ d < 1000 ∧ _) ⟨h0, h9, hr⟩]
            by_cases hn : d < n
            · rw [if_pos ⟨h0, hn, hr⟩]
              exact ih _ _ (by simp only [belowE, List.all_append] at h ⊢; simp [h, hn])
            · rw [if_neg (fun hh => hn hh.2.1)]
              cases he : edgesP 1000 f (G ++ [(l.tail.take (signLen l.tail), d)]) ((l.tail.drop (signLen l.tail)).tail.drop 3) with
              | none => rfl
              | some Er =>
                obtain ⟨E, r⟩ := Er
                obtain ⟨H, hH⟩ := edgesP_pre _ _ _ _ _ _ he
                simp only [cutE]
                rw [if_neg (by rw [hH]; simp only [belowE, List.all_append]; simp [hn])]
          · rw [if_neg (fun hh => hr hh.2.2), if_neg (fun hh => hr hh.2.2)]; rfl
        · rw [if_neg (fun hh => h0 hh.1), if_neg (fun hh => h0 hh.1)]; rfl
      · rw [if_neg h2, if_neg h2]; rfl
    · rw [if_neg h1, if_neg h1]; simp [cutE, h]

theorem starP_cut (n : Int) (hn : 0 ≤ n) (l : List UInt8) : starP n l = match starP 1000 l with
    | none => none
    | some v => if v < n then some v else none := by
  unfold starP
  by_cases h : headI l = 42
  · rw [if_pos h, if_pos h]
    have h9 : 0 ≤ dig3 l.tail → dig3 l.tail < 1000 := fun h0 => by have := (dig3_len _ h0).2; omega
    by_cases h0 : 0 ≤ dig3 l.tail ∧ l.length = 4
    · rw [if_pos (c := 0 ≤ dig3 l.tail ∧ dig3 l.tail < 1000 ∧ _) ⟨h0.1, h9 h0.1, h0.2⟩]
      simp only []
      by_cases hd : dig3 l.tail < n
      · rw [if_pos ⟨h0.1, hd, h0.2⟩, if_pos hd]
      · rw [if_neg (fun hh => hd hh.2.1), if_neg hd]
    · rw [if_neg (fun hh => h0 ⟨hh.1, hh.2.2⟩), if_neg (fun hh => h0 ⟨hh.1, hh.2.2⟩)]
  · rw [if_neg h, if_neg h]
    by_cases h1 : l.length = 0
    · rw [if_pos h1]; simp only []; rw [if_pos (by omega)]
    · rw [if_neg h1]

/-- do all edges lead below n? -/
def belowS (n : Int) (x : St) : Bool := belowE n x.edges && decide (x.star < n)

theorem stateP_cut (n : Int) (hn : 0 ≤ n) (L : List UInt8) : stateP n L = match stateP 1000 L with
    | none => none
    | some x => if belowS n x = true then some x else none := by
  unfold stateP
  cases ansN 0 L with
  | none => rfl
  | some k =>
    simp only []
    rw [edgesP_cut n L.length [] (L.drop k) rfl]
    cases he : edgesP 1000 L.length [] (L.drop k) with
    | none => rfl
    | some Er =>
      obtain ⟨E, r⟩ := Er
      simp only [cutE]
      by_cases hb : belowE n E = true
      · rw [if_pos hb]
        simp only []
        rw [starP_cut n hn r]
        cases hs : starP 1000 r with
        | none => simp
        | some v =>
          simp only []
          by_cases hv : v < n
          · rw [if_pos hv]; rw [if_pos (by simp [belowS, hb, hv])]
          · rw [if_neg hv]; rw [if_neg (by simp [belowS, hv])]
      · rw [if_neg hb]
        cases hs : starP 1000 r with
        | none => rfl
        | some v => simp only []; rw [if_neg (by simp [belowS, hb])]

theorem stateP_none (n : Int) (hn : 0 ≤ n) (L : List UInt8) (h : stateP 1000 L = none) : stateP n L = none := by rw [stateP_cut n hn, h]
theorem stateP_yes (n : Int) (hn : 0 ≤ n) (L : List UInt8) (x : St) (h : stateP 1000 L = some x) (hb : belowS n x = true) : stateP n L = some x := by rw [stateP_cut n hn, h]; simp only []; rw [if_pos hb]
theorem stateP_off (n : Int) (hn : 0 ≤ n) (L : List UInt8) (x : St) (h : stateP 1000 L = some x) (hb : belowS n x = false) : stateP n L = none := by rw [stateP_cut n hn, h]; simp only []; rw [if_neg (by simp [hb])]
theorem stateP_up (n : Int) (hn : 0 ≤ n) (L : List UInt8) (x : St) (h : stateP n L = some x) : stateP 1000 L = some x := by
  rw [stateP_cut n hn] at h
  cases h1 : stateP 1000 L with
  | none => rw [h1] at h; cases h
  | some y => rw [h1] at h; simp only [] at h; split at h; exact h; cases h

/-- a walk that carries the state itself -/
def deadS : St := ⟨[], [], -1⟩
def stAt (xs : List St) (k : Int) : St := if k < 0 then deadS else (xs[k.toNat]?).getD deadS

def walkS (xs : List St) : St → List (List UInt8) → St
  | x, [] => x
  | x, l :: ls => walkS xs (stAt xs (followE x.edges x.star l)) ls

theorem walkS_dead (xs : List St) (ls : List (List UInt8)) : walkS xs deadS ls = deadS := by
  induction ls with
  | nil => rfl
  | cons l ls ih => simp only [walkS, deadS, followE, stAt] at ih ⊢; simpa using ih

theorem walkS_K (xs : List St) (ls : List (List UInt8)) : ∀ k : Int, (k < xs.length) → walkS xs (stAt xs k) ls = stAt xs (walkK xs k ls) ∨ (∃ x ∈ xs, ¬ goodSt xs.length x) := by
  induction ls with
  | nil => intro k _; left; rfl
  | cons l ls ih =>
    intro k hk
    by_cases hb : ∃ x ∈ xs, ¬ goodSt xs.length x
    · exact Or.inr hb
    left
    by_cases h : k < 0
    · rw [walkK_neg _ _ _ h]
      have : stAt xs k = deadS := by unfold stAt; rw [if_pos h]
      rw [this]; exact walkS_dead _ _
    · obtain ⟨n, rfl⟩ := Int.eq_ofNat_of_zero_le (by omega : 0 ≤ k)
      have hn : n < xs.length := by omega
      have e1 : stAt xs (n : Int) = xs[n] := by unfold stAt; rw [if_neg h]; simp [List.getElem?_eq_getElem hn]
      simp only [walkS, walkK]
      rw [if_neg h, e1, stepS_some xs n l hn]
      have hg : goodSt xs.length xs[n] := Classical.byContradiction fun hc => hb ⟨_, List.getElem_mem hn, hc⟩
      have hf := followE_good xs.length xs[n].edges xs[n].star l hg.1 hg.2.1 hg.2.2.1
      rcases ih _ hf.2 with h3 | h3
      · exact h3
      · exact absurd h3 hb

theorem stAt_ans (xs : List St) (k : Int) : (stAt xs k).ans = ansOf xs k := by
  unfold stAt ansOf
  split
  · rfl
  · cases xs[k.toNat]? <;> rfl

/-- what stands between the separators -/
def splitB (q : Int) : List UInt8 → List (List UInt8)
  | [] => [[]]
  | c :: r => if (c.toNat : Int) = q then [] :: splitB q r else
    match splitB q r with
    | [] => [[c]]
    | a :: b => (c :: a) :: b

theorem levs_split (l : List UInt8) : levs l = splitB 47 l := by
  induction l with
  | nil => rfl
  | cons c r ih => unfold levs splitB; rw [ih]; cases splitB 47 r <;> rfl
theorem pcs_split (l : List UInt8) : pcs l = splitB 59 l := by
  induction l with
  | nil => rfl
  | cons c r ih => unfold pcs splitB; rw [ih]; cases splitB 59 r <;> rfl

/-- how many bytes stand ahead of the first separator -/
def runB (q : Int) : List UInt8 → Nat
  | [] => 0
  | c :: r => if (c.toNat : Int) = q then 0 else runB q r + 1

theorem runB_le (q : Int) (l : List UInt8) : runB q l ≤ l.length := by
  induction l with
  | nil => simp [runB]
  | cons c r ih => unfold runB; split <;> simp; omega
theorem runB_hit (q : Int) (l : List UInt8) (k : Nat) (h : k < l.length) (hs : (l[k].toNat : Int) = q) : runB q (l.drop k) = 0 := by
  rw [List.drop_eq_getElem_cons h]; simp [runB, hs]
theorem runB_other (q : Int) (l : List UInt8) (k : Nat) (h : k < l.length) (hs : ¬ (l[k].toNat : Int) = q) : runB q (l.drop k) = runB q (l.drop (k + 1)) + 1 := by
  rw [List.drop_eq_getElem_cons h]; simp [runB, hs]
theorem runB_end (q : Int) (l : List UInt8) (k : Nat) (h : ¬ k < l.length) : runB q (l.drop k) = 0 := by
  rw [List.drop_eq_nil_of_le (by omega)]; rfl
theorem splitB_step (q : Int) (l : List UInt8) : splitB q l = l.take (runB q l) :: (if runB q l < l.length then splitB q (l.drop (runB q l + 1)) else []) := by
  induction l with
  | nil => simp [splitB, runB]
  | cons c r ih =>
    by_cases h : (c.toNat : Int) = q
    · simp [splitB, runB, h]
    · rw [splitB, if_neg h, ih]
      simp [runB, h]
theorem splitB_cut (q : Int) (L : List UInt8) (fr k : Nat) (hf : fr ≤ k) (hk : k < L.length) (hr : fr + runB q (L.drop fr) = k + runB q (L.drop k)) (hs : (L[k].toNat : Int) = q) :
    splitB q (L.drop fr) = (L.drop fr).take (k - fr) :: splitB q (L.drop (k + 1)) := by
  have h0 := runB_hit q L k hk hs
  rw [splitB_step, show runB q (L.drop fr) = k - fr from by omega, if_pos (by rw [List.length_drop]; omega), List.drop_drop, show fr + (k - fr + 1) = k + 1 from by omega]
theorem splitB_last (q : Int) (L : List UInt8) (fr k : Nat) (hf : fr ≤ k) (hk : k = L.length) (hr : fr + runB q (L.drop fr) = k + runB q (L.drop k)) :
    splitB q (L.drop fr) = [(L.drop fr).take (k - fr)] := by
  have h0 := runB_end q L k (by omega)
  rw [splitB_step, show runB q (L.drop fr) = k - fr from by omega, if_neg (by rw [List.length_drop]; omega)]

end Go.Proofs.YtchhmojnoiephabGreatDoor

/- Plain mathematics: a table's pairs on their way along a topic (P9): threads, levels, the machine that is built of them. -/
namespace Go.Proofs.YtchhmojnoiephabGreatDoor

/-- what is left of a filter's levels, and who -/
abbrev Thr := List (List UInt8) × Int

def meetT (m : List UInt8) : Thr → Option Thr
  | ([], _) => none
  | (l :: r, q) => if l = [43] ∨ l = m then some (r, q) else if l = [35] then some (l :: r, q) else none
def meetL (m : List UInt8) (T : List Thr) : List Thr := T.filterMap (meetT m)
def meets : List Thr → List (List UInt8) → List Thr
  | T, [] => T
  | T, m :: w => meets (meetL m T) w

def arrB : Thr → Bool
  | ([], _) => true
  | (l :: _, _) => l == [35]
def stayB : Thr → Bool
  | ([], _) => false
  | (l :: _, _) => l == [35]

def hasA (T : List Thr) (n : Nat) : Bool := T.any fun t => t.2 == (n : Int) && arrB t
def ansTo (T : List Thr) (k : Nat) : List UInt8 := ((List.range k).filter (hasA T)).map fun n => UInt8.ofNat (65 + n)
def ansT (T : List Thr) : List UInt8 := ansTo T 16

def insL (m : List UInt8) (ls : List (List UInt8)) : List (List UInt8) := ls.filter (fun t => Go.Op.bytesLess t m) ++ m :: ls.filter (fun t => Go.Op.bytesLess m t)
def levT (ls : List (List UInt8)) : Thr → List (List UInt8)
  | ([], _) => ls
  | (l :: _, _) => if l = [43] ∨ l = [35] then ls else insL l ls
def levsT (T : List Thr) : List (List UInt8) := T.foldl levT []

/-- a row of signs -/
def sgnL (l : List UInt8) : Prop := ∀ c ∈ l, signB (c.toNat : Int) = true
/-- a level of a filter -/
def levF (l : List UInt8) : Prop := sgnL l ∨ l = [43] ∨ l = [35]
/-- a thread of a filter: # stands last -/
def goodT (t : Thr) : Prop := (∀ l ∈ t.1, levF l ∧ l.length ≤ 24) ∧ ∀ i (h : i < t.1.length), t.1[i] = [35] → i + 1 = t.1.length

theorem sgn_not_hash (l : List UInt8) (h : sgnL l) : l ≠ [35] ∧ l ≠ [43] ∧ l ≠ [42] := by
  refine ⟨?_, ?_, ?_⟩ <;> (rintro rfl; have := h _ (List.mem_singleton.2 rfl); simp [signB] at this)

theorem less_irrefl (a : List UInt8) : Go.Op.bytesLess a a = false := by
  induction a with
  | nil => rfl
  | cons x a ih => simp [Go.Op.bytesLess, ih]
theorem less_trans (a b c : List UInt8) : Go.Op.bytesLess a b = true → Go.Op.bytesLess b c = true → Go.Op.bytesLess a c = true := by
  induction a generalizing b c with
  | nil =>
    intro h1 h2
    cases b with
    | nil => simp [Go.Op.bytesLess] at h1
    | cons y b => cases c with
      | nil => simp [Go.Op.bytesLess] at h2
      | cons z c => rfl
  | cons x a ih =>
    intro h1 h2
    cases b with
    | nil => simp [Go.Op.bytesLess] at h1
    | cons y b => cases c with
      | nil => simp [Go.Op.bytesLess] at h2
      | cons z c =>
        simp only [Go.Op.bytesLess, Bool.or_eq_true, decide_eq_true_eq, Bool.and_eq_true, beq_iff_eq] at h1 h2 ⊢
        rcases h1 with h1 | ⟨rfl, h1⟩
        · rcases h2 with h2 | ⟨rfl, h2⟩
          · exact Or.inl (UInt8.lt_trans h1 h2)
          · exact Or.inl h1
        · rcases h2 with h2 | ⟨rfl, h2⟩
          · exact Or.inl h2
          · exact Or.inr ⟨rfl, ih _ _ h1 h2⟩
theorem less_total (a b : List UInt8) : a = b ∨ Go.Op.bytesLess a b = true ∨ Go.Op.bytesLess b a = true := by
  induction a generalizing b with
  | nil => cases b with
    | nil => exact Or.inl rfl
    | cons y b => exact Or.inr (Or.inl rfl)
  | cons x a ih => cases b with
    | nil => exact Or.inr (Or.inr rfl)
    | cons y b =>
      simp only [Go.Op.bytesLess, Bool.or_eq_true, decide_eq_true_eq, Bool.and_eq_true, beq_iff_eq]
      by_cases hxy : x = y
      · subst hxy
        rcases ih b with h | h | h
        · exact Or.inl (by rw [h])
        · exact Or.inr (Or.inl (Or.inr ⟨rfl, h⟩))
        · exact Or.inr (Or.inr (Or.inr ⟨rfl, h⟩))
      · rcases UInt8.lt_or_lt_of_ne hxy with h | h
        · exact Or.inr (Or.inl (Or.inl h))
        · exact Or.inr (Or.inr (Or.inl h))
theorem less_asymm (a b : List UInt8) (h : Go.Op.bytesLess a b = true) : Go.Op.bytesLess b a = false := by
  cases hb : Go.Op.bytesLess b a
  · rfl
  · have := less_trans a b a h hb; rw [less_irrefl] at this; cases this

/-- levels that rise -/
def Rise (ls : List (List UInt8)) : Prop := ls.Pairwise fun a b => Go.Op.bytesLess a b = true

theorem insL_mem (m x : List UInt8) (ls : List (List UInt8)) : x ∈ insL m ls ↔ x = m ∨ x ∈ ls := by
  unfold insL
  simp only [List.mem_append, List.mem_filter, List.mem_cons]
  constructor
  · rintro (⟨h, _⟩ | rfl | ⟨h, _⟩)
    · exact Or.inr h
    · exact Or.inl rfl
    · exact Or.inr h
  · rintro (rfl | h)
    · exact Or.inr (Or.inl rfl)
    · rcases less_total x m with rfl | h1 | h1
      · exact Or.inr (Or.inl rfl)
      · exact Or.inl ⟨h, h1⟩
      · exact Or.inr (Or.inr ⟨h, h1⟩)
theorem insL_rise (m : List UInt8) (ls : List (List UInt8)) (h : Rise ls) : Rise (insL m ls) := by
  unfold insL Rise
  rw [List.pairwise_append]
  refine ⟨h.filter _, ?_, fun a ha b hb => ?_⟩
  · rw [List.pairwise_cons]
    exact ⟨fun b hb => (List.mem_filter.1 hb).2, h.filter _⟩
  · have h1 := (List.mem_filter.1 ha).2
    rcases List.mem_cons.1 hb with rfl | hb
    · exact h1
    · exact less_trans a m b h1 (List.mem_filter.1 hb).2

theorem levFold_rise (T : List Thr) : ∀ ls, Rise ls → Rise (T.foldl levT ls) := by
  induction T with
  | nil => intro ls h; exact h
  | cons t T ih =>
    intro ls h
    refine ih _ ?_
    obtain ⟨r, q⟩ := t
    cases r with
    | nil => exact h
    | cons l r => simp only [levT]; split; exact h; exact insL_rise _ _ h
theorem levsT_rise (T : List Thr) : Rise (levsT T) := levFold_rise T [] List.Pairwise.nil

theorem levFold_mem (T : List Thr) (x : List UInt8) : ∀ ls, x ∈ T.foldl levT ls ↔ x ∈ ls ∨ ∃ r q, (x :: r, q) ∈ T ∧ x ≠ [43] ∧ x ≠ [35] := by
  induction T with
  | nil => intro ls; simp
  | cons t T ih =>
    intro ls
    rw [List.foldl_cons, ih]
    obtain ⟨r, q⟩ := t
    cases r with
    | nil =>
      simp only [levT]
      constructor
      · rintro (h | ⟨r, q', h, h2⟩)
        · exact Or.inl h
        · exact Or.inr ⟨r, q', List.mem_cons_of_mem _ h, h2⟩
      · rintro (h | ⟨r, q', h, h2⟩)
        · exact Or.inl h
        · rcases List.mem_cons.1 h with h | h
          · simp at h
          · exact Or.inr ⟨r, q', h, h2⟩
    | cons l r =>
      simp only [levT]
      by_cases hl : l = [43] ∨ l = [35]
      · rw [if_pos hl]
        constructor
        · rintro (h | ⟨r, q', h, h2⟩)
          · exact Or.inl h
          · exact Or.inr ⟨r, q', List.mem_cons_of_mem _ h, h2⟩
        · rintro (h | ⟨r', q', h, h2, h3⟩)
          · exact Or.inl h
          · rcases List.mem_cons.1 h with h | h
            · simp only [Prod.mk.injEq, List.cons.injEq] at h
              obtain ⟨⟨rfl, rfl⟩, rfl⟩ := h
              rcases hl with hl | hl
              · exact absurd hl h2
              · exact absurd hl h3
            · exact Or.inr ⟨r', q', h, h2, h3⟩
      · rw [if_neg hl, insL_mem]
        constructor
        · rintro ((rfl | h) | ⟨r', q', h, h2⟩)
          · exact Or.inr ⟨r, q, by simp, fun e => hl (Or.inl e), fun e => hl (Or.inr e)⟩
          · exact Or.inl h
          · exact Or.inr ⟨r', q', List.mem_cons_of_mem _ h, h2⟩
        · rintro (h | ⟨r', q', h, h2⟩)
          · exact Or.inl (Or.inr h)
          · rcases List.mem_cons.1 h with h | h
            · simp only [Prod.mk.injEq, List.cons.injEq] at h
              exact Or.inl (Or.inl h.1.1)
            · exact Or.inr ⟨r', q', h, h2⟩
theorem levsT_mem (T : List Thr) (x : List UInt8) : x ∈ levsT T ↔ ∃ r q, (x :: r, q) ∈ T ∧ x ≠ [43] ∧ x ≠ [35] := by
  unfold levsT; rw [levFold_mem]; simp

theorem fmap_congr {α β : Type} {f g : α → Option β} : ∀ l : List α, (∀ x ∈ l, f x = g x) → l.filterMap f = l.filterMap g
  | [], _ => rfl
  | a :: l, h => by
    rw [List.filterMap_cons, List.filterMap_cons, h a (by simp), fmap_congr l (fun x hx => h x (by simp [hx]))]

/-- a level that no thread names is met as any other -/
theorem meet_other (T : List Thr) (m : List UInt8) (hT : ∀ t ∈ T, goodT t) (hm : sgnL m) (hn : m ∉ levsT T) : meetL m T = meetL [42] T := by
  unfold meetL
  apply fmap_congr
  intro t ht
  obtain ⟨r, q⟩ := t
  cases r with
  | nil => rfl
  | cons l r =>
    simp only [meetT]
    have h1 : l ≠ m := fun e => hn ((levsT_mem T m).2 ⟨r, q, e ▸ ht, (sgn_not_hash m hm).2.1, (sgn_not_hash m hm).1⟩)
    have h2 : l ≠ [42] := by
      rcases ((hT _ ht).1 l (by simp)).1 with h | h | h
      · exact (sgn_not_hash l h).2.2
      · rw [h]; simp
      · rw [h]; simp
    simp [h1, h2]

/-- a level that may be met -/
def metL (m : List UInt8) : Prop := sgnL m ∨ m = [42]
theorem metL_not (m : List UInt8) (h : metL m) : m ≠ [35] ∧ m ≠ [43] := by
  rcases h with h | rfl
  · exact ⟨(sgn_not_hash m h).1, (sgn_not_hash m h).2.1⟩
  · simp

def depT (t : Thr) : Nat := if t.1 = [[35]] then 0 else t.1.length + 1

theorem good_tail {l : List UInt8} {r : List (List UInt8)} {q : Int} (h : goodT (l :: r, q)) : goodT (r, q) := by
  refine ⟨fun x hx => h.1 x (by simp [hx]), fun i hi he => ?_⟩
  have := h.2 (i + 1) (by simpa using hi) (by simpa using he)
  simp at this ⊢; omega
theorem good_hash {r : List (List UInt8)} {q : Int} (h : goodT ([35] :: r, q)) : r = [] := by
  have := h.2 0 (by simp) (by simp)
  simp at this; exact this

theorem meetT_good {m : List UInt8} {t u : Thr} (ht : goodT t) (hm : metL m) (h : meetT m t = some u) : goodT u ∧ u.2 = t.2 ∧ depT u ≤ depT t - 1 := by
  obtain ⟨r, q⟩ := t
  cases r with
  | nil => simp [meetT] at h
  | cons l r =>
    simp only [meetT] at h
    split at h
    · rename_i h1
      simp only [Option.some.injEq] at h; subst h
      have hl : l ≠ [35] := by
        rcases h1 with rfl | rfl
        · simp
        · exact (metL_not l hm).1
      refine ⟨good_tail ht, rfl, ?_⟩
      have e1 : depT (l :: r, q) = r.length + 2 := by
        unfold depT; rw [if_neg (by simp [hl])]; simp
      rw [e1]
      unfold depT; split <;> (try simp) <;> omega
    · split at h
      · rename_i h2
        simp only [Option.some.injEq] at h; subst h; subst h2
        have := good_hash ht
        subst this
        exact ⟨ht, rfl, by simp [depT]⟩
      · cases h

theorem meetL_good {m : List UInt8} {T : List Thr} (hT : ∀ t ∈ T, goodT t) (hm : metL m) : ∀ t ∈ meetL m T, goodT t := by
  intro u hu
  obtain ⟨t, ht, he⟩ := List.mem_filterMap.1 hu
  exact (meetT_good (hT t ht) hm he).1
theorem meetL_dep {m : List UInt8} {T : List Thr} {n : Nat} (hT : ∀ t ∈ T, goodT t) (hm : metL m) (hd : ∀ t ∈ T, depT t ≤ n + 1) : ∀ t ∈ meetL m T, depT t ≤ n := by
  intro u hu
  obtain ⟨t, ht, he⟩ := List.mem_filterMap.1 hu
  have := (meetT_good (hT t ht) hm he).2.2
  have := hd t ht
  omega

/-- what a thread has become -/
def aft : Thr → List (List UInt8) → Option Thr
  | t, [] => some t
  | t, m :: w => (meetT m t).bind fun u => aft u w
theorem meets_aft (w : List (List UInt8)) : ∀ T, meets T w = T.filterMap fun t => aft t w := by
  induction w with
  | nil => intro T; simp [meets, aft]
  | cons m w ih => intro T; simp only [meets, aft, ih, meetL, List.filterMap_filterMap]
theorem meets_append (w v : List (List UInt8)) : ∀ T, meets T (w ++ v) = meets (meets T w) v := by
  induction w with
  | nil => intro T; rfl
  | cons m w ih => intro T; simp only [meets, List.cons_append, ih]

theorem aft_who (w : List (List UInt8)) : ∀ t u, aft t w = some u → u.2 = t.2 := by
  induction w with
  | nil => intro t u h; simp [aft] at h; rw [h]
  | cons m w ih =>
    intro t u h
    simp only [aft] at h
    cases hm : meetT m t with
    | none => rw [hm] at h; cases h
    | some v =>
      rw [hm] at h
      rw [ih v u h]
      obtain ⟨r, q⟩ := t
      cases r with
      | nil => simp [meetT] at hm
      | cons l r =>
        simp only [meetT] at hm
        split at hm
        · simp only [Option.some.injEq] at hm; subst hm; rfl
        · split at hm
          · simp only [Option.some.injEq] at hm; subst hm; rfl
          · cases hm

def arrO : Option Thr → Bool
  | none => false
  | some t => arrB t

theorem aft_fits (w : List (List UInt8)) (hw : ∀ m ∈ w, metL m) : ∀ t : Thr, arrO (aft t w) = fitsL t.1 w := by
  induction w with
  | nil =>
    intro t
    obtain ⟨r, q⟩ := t
    cases r with
    | nil => rfl
    | cons l r => simp only [aft, arrO, arrB, fitsL]; by_cases h : l = [35] <;> simp [h]
  | cons m w ih =>
    intro t
    obtain ⟨r, q⟩ := t
    have hm := metL_not m (hw m (by simp))
    cases r with
    | nil => simp [aft, meetT, arrO, fitsL]
    | cons l r =>
      simp only [aft, meetT, fitsL]
      by_cases h35 : l = [35]
      · subst h35
        rw [if_neg (by rintro (h | h); simp at h; exact hm.1 h.symm), if_pos rfl, if_pos rfl]
        simp only [Option.bind_some]
        rw [ih (fun x hx => hw x (by simp [hx]))]
        cases w <;> simp [fitsL]
      · rw [if_neg h35, if_neg h35]
        by_cases h : l = [43] ∨ l = m
        · rw [if_pos h, if_pos h]
          simp only [Option.bind_some]
          exact ih (fun x hx => hw x (by simp [hx])) (r, q)
        · rw [if_neg h, if_neg h]; rfl

/-- who is answered behind a row of levels -/
theorem hasA_meets (w : List (List UInt8)) (hw : ∀ m ∈ w, metL m) (T : List Thr) (n : Nat) : hasA (meets T w) n = T.any fun t => t.2 == (n : Int) && fitsL t.1 w := by
  rw [meets_aft]
  unfold hasA
  induction T with
  | nil => rfl
  | cons t T ih =>
    rw [List.any_cons, ← ih]
    have hf := aft_fits w hw t
    cases ha : aft t w with
    | none => rw [List.filterMap_cons_none (f := fun t => aft t w) ha]; rw [ha] at hf; simp only [arrO] at hf; rw [← hf]; simp
    | some u => rw [List.filterMap_cons_some (f := fun t => aft t w) ha, List.any_cons]; rw [ha] at hf; simp only [arrO] at hf; rw [hf, aft_who w t u ha]

end Go.Proofs.YtchhmojnoiephabGreatDoor

/- Plain mathematics: least machines (P9): states of which each leads to earlier ones (or to itself at every level), no two the same: no two of them answer alike. -/
namespace Go.Proofs.YtchhmojnoiephabGreatDoor

def lang (S : List St) (k : Int) (w : List (List UInt8)) : List UInt8 := ansOf S (walkK S k w)

/-- letters that rise -/
def ansOK (a : List UInt8) : Prop := a.Pairwise (fun x y => x.toNat < y.toNat) ∧ ∀ c ∈ a, 65 ≤ c.toNat ∧ c.toNat ≤ 80

structure OkAt (i : Nat) (x : St) : Prop where
  ans : ansOK x.ans
  lev : ∀ e ∈ x.edges, sgnL e.1 ∧ e.1.length ≤ 24
  rise : Rise (x.edges.map (·.1))
  to : (x.edges = [] ∧ x.star = (i : Int) ∧ x.ans ≠ []) ∨
    ((∀ e ∈ x.edges, 2 ≤ e.2 ∧ e.2 < (i : Int) ∧ e.2 ≠ x.star) ∧ (x.star = -1 ∨ (2 ≤ x.star ∧ x.star < (i : Int))) ∧ (x.ans ≠ [] ∨ x.edges ≠ [] ∨ x.star ≠ -1))

structure Good (S : List St) : Prop where
  two : 2 ≤ S.length
  each : ∀ i (h : i < S.length), 2 ≤ i → OkAt i S[i]
  uniq : ∀ i j (hi : i < S.length) (hj : j < S.length), 2 ≤ j → j < i → S[i] ≠ S[j] ∧ (S[i].star = (i : Int) → S[j] ≠ ⟨S[i].ans, [], (j : Int)⟩)

theorem lang_dead (S : List St) (w : List (List UInt8)) : lang S (-1) w = [] := by
  unfold lang; rw [walkK_neg _ _ _ (by omega), ansOf_neg _ _ (by omega)]
theorem lang_nil (S : List St) (i : Nat) (h : i < S.length) : lang S (i : Int) [] = S[i].ans := by
  unfold lang; simp only [walkK]; exact ansOf_some S i h
theorem lang_cons (S : List St) (i : Nat) (h : i < S.length) (l : List UInt8) (w : List (List UInt8)) : lang S (i : Int) (l :: w) = lang S (followE S[i].edges S[i].star l) w := by
  unfold lang; simp only [walkK]; rw [if_neg (by omega), stepS_some S i l h]

theorem followE_mem (E : List (List UInt8 × Int)) (st : Int) (l : List UInt8) : followE E st l = st ∨ (l, followE E st l) ∈ E := by
  induction E with
  | nil => exact Or.inl rfl
  | cons e E ih =>
    simp only [followE]
    split
    · rename_i h; right; rw [← h]; simp
    · rcases ih with h | h
      · exact Or.inl h
      · exact Or.inr (by simp [h])
theorem followE_at (E : List (List UInt8 × Int)) (st : Int) (h : Rise (E.map (·.1))) : ∀ e ∈ E, followE E st e.1 = e.2 := by
  induction E with
  | nil => intro e he; simp at he
  | cons a E ih =>
    intro e he
    simp only [followE]
    simp only [Rise, List.map_cons, List.pairwise_cons] at h
    rcases List.mem_cons.1 he with rfl | he
    · rw [if_pos rfl]
    · rw [if_neg, ih h.2 e he]
      intro heq
      have := h.1 e.1 (List.mem_map_of_mem he)
      rw [heq, less_irrefl] at this; cases this
theorem followE_no (E : List (List UInt8 × Int)) (st : Int) (l : List UInt8) (h : ∀ e ∈ E, e.1 ≠ l) : followE E st l = st := by
  induction E with
  | nil => rfl
  | cons a E ih =>
    simp only [followE]
    rw [if_neg (h a (by simp))]; exact ih (fun e he => h e (by simp [he]))

/-- two rising rows with the same members are one -/
theorem rise_ext : ∀ (E F : List (List UInt8 × Int)), Rise (E.map (·.1)) → Rise (F.map (·.1)) → (∀ e, e ∈ E ↔ e ∈ F) → E = F
  | [], [], _, _, _ => rfl
  | [], f :: F, _, _, h => by have := (h f).2 (by simp); simp at this
  | e :: E, [], _, _, h => by have := (h e).1 (by simp); simp at this
  | e :: E, f :: F, hE, hF, h => by
    simp only [Rise, List.map_cons, List.pairwise_cons] at hE hF
    have hef : e = f := by
      rcases List.mem_cons.1 ((h e).1 (by simp)) with he | he
      · exact he
      · rcases List.mem_cons.1 ((h f).2 (by simp)) with hf | hf
        · exact hf.symm
        · have h1 := hF.1 e.1 (List.mem_map_of_mem he)
          have h2 := hE.1 f.1 (List.mem_map_of_mem hf)
          have := less_asymm _ _ h1
          rw [h2] at this; cases this
    subst hef
    congr 1
    refine rise_ext E F hE.2 hF.2 (fun x => ⟨fun hx => ?_, fun hx => ?_⟩)
    · rcases List.mem_cons.1 ((h x).1 (by simp [hx])) with hh | hh
      · subst hh
        have := hE.1 x.1 (List.mem_map_of_mem hx)
        rw [less_irrefl] at this; cases this
      · exact hh
    · rcases List.mem_cons.1 ((h x).2 (by simp [hx])) with hh | hh
      · subst hh
        have := hF.1 x.1 (List.mem_map_of_mem hx)
        rw [less_irrefl] at this; cases this
      · exact hh

/-- a level that no edge names -/
def freshL : List UInt8 := List.replicate 25 97
theorem fresh_sgn : sgnL freshL := by
  intro c hc
  rw [freshL, List.mem_replicate] at hc
  rw [hc.2]; rfl
theorem follow_fresh (E : List (List UInt8 × Int)) (st : Int) (h : ∀ e ∈ E, sgnL e.1 ∧ e.1.length ≤ 24) : followE E st freshL = st :=
  followE_no E st freshL (fun e he heq => by have := (h e he).2; rw [heq] at this; simp [freshL] at this)

def sgnW (w : List (List UInt8)) : Prop := ∀ l ∈ w, sgnL l
theorem sgnW_cons {l : List UInt8} {w : List (List UInt8)} (h1 : sgnL l) (h2 : sgnW w) : sgnW (l :: w) := by
  intro x hx
  rcases List.mem_cons.1 hx with rfl | hx
  · exact h1
  · exact h2 x hx

/-- from each state one comes to an answer -/
theorem good_live (S : List St) (hS : Good S) : ∀ (n i : Nat), i ≤ n → 2 ≤ i → i < S.length → ∃ w, sgnW w ∧ lang S (i : Int) w ≠ [] := by
  intro n
  induction n with
  | zero => intro i h1 h2; omega
  | succ n ih =>
    intro i h1 h2 hi
    have ok := hS.each i hi h2
    by_cases ha : S[i].ans = []
    · rcases ok.to with ⟨_, _, h⟩ | ⟨he, hs, hne⟩
      · exact absurd ha h
      · by_cases hE : S[i].edges = []
        · have hst : S[i].star ≠ -1 := by
            rcases hne with h | h | h
            · exact absurd ha h
            · exact absurd hE h
            · exact h
          rcases hs with hs | hs
          · exact absurd hs hst
          · obtain ⟨k, hk⟩ := Int.eq_ofNat_of_zero_le (by omega : 0 ≤ S[i].star)
            obtain ⟨w, hw, hl⟩ := ih k (by omega) (by omega) (by omega)
            refine ⟨freshL :: w, sgnW_cons fresh_sgn hw, ?_⟩
            rw [lang_cons S i hi, follow_fresh _ _ ok.lev, hk]; exact hl
        · obtain ⟨e, E, hcons⟩ := List.exists_cons_of_ne_nil hE
          have hm : e ∈ S[i].edges := by rw [hcons]; simp
          have hb := he e hm
          obtain ⟨k, hk⟩ := Int.eq_ofNat_of_zero_le (by omega : 0 ≤ e.2)
          obtain ⟨w, hw, hl⟩ := ih k (by omega) (by omega) (by omega)
          refine ⟨e.1 :: w, sgnW_cons (ok.lev e hm).1 hw, ?_⟩
          rw [lang_cons S i hi, followE_at _ _ ok.rise e hm, hk]; exact hl
    · exact ⟨[], by intro l hl; simp at hl, by rw [lang_nil S i hi]; exact ha⟩

/-- where a level leads: nowhere, to an earlier state, or (a loop) to itself -/
theorem good_step (S : List St) (hS : Good S) (i : Nat) (hi : i < S.length) (h2 : 2 ≤ i) (l : List UInt8) :
    (S[i].edges = [] ∧ S[i].star = (i : Int) ∧ followE S[i].edges S[i].star l = (i : Int)) ∨ (S[i].star ≠ (i : Int) ∧ (followE S[i].edges S[i].star l = -1 ∨ ∃ k : Nat, followE S[i].edges S[i].star l = (k : Int) ∧ 2 ≤ k ∧ k < i)) := by
  have ok := hS.each i hi h2
  rcases ok.to with ⟨h, hs, _⟩ | ⟨he, hs, _⟩
  · left; exact ⟨h, hs, by rw [h, hs]; rfl⟩
  · right
    refine ⟨by omega, ?_⟩
    rcases followE_mem S[i].edges S[i].star l with h | h
    · rcases hs with hs | hs
      · left; rw [h, hs]
      · right
        obtain ⟨k, hk⟩ := Int.eq_ofNat_of_zero_le (by omega : 0 ≤ S[i].star)
        exact ⟨k, by rw [h, hk], by omega, by omega⟩
    · right
      have := he _ h
      simp only at this
      obtain ⟨k, hk⟩ := Int.eq_ofNat_of_zero_le (by omega : 0 ≤ followE S[i].edges S[i].star l)
      exact ⟨k, hk, by omega, by omega⟩

def sameLang (S : List St) (a b : Int) : Prop := ∀ w, sgnW w → lang S a w = lang S b w

theorem good_edges (E F : List (List UInt8 × Int)) (st : Int) (hE : Rise (E.map (·.1))) (hF : Rise (F.map (·.1))) (lE : ∀ e ∈ E, sgnL e.1) (lF : ∀ e ∈ F, sgnL e.1) (nE : ∀ e ∈ E, e.2 ≠ st) (nF : ∀ e ∈ F, e.2 ≠ st)
    (h : ∀ l, sgnL l → followE E st l = followE F st l) : E = F := by
  refine rise_ext E F hE hF (fun e => ⟨fun he => ?_, fun he => ?_⟩)
  · have h1 := followE_at E st hE e he
    have h2 := h e.1 (lE e he)
    rcases followE_mem F st e.1 with h3 | h3
    · exact absurd (h1.symm.trans (h2.trans h3)) (nE e he)
    · rw [← h2, h1] at h3; exact h3
  · have h1 := followE_at F st hF e he
    have h2 := h e.1 (lF e he)
    rcases followE_mem E st e.1 with h3 | h3
    · exact absurd (h1.symm.trans (h2.symm.trans h3)) (nF e he)
    · rw [h2, h1] at h3; exact h3

theorem good_apart (S : List St) (hS : Good S) : ∀ (n i j : Nat), i ≤ n → j < i → 2 ≤ j → i < S.length → ¬ sameLang S (i : Int) (j : Int) := by
  intro n
  induction n with
  | zero => intro i j h1 h2; omega
  | succ n ih =>
    intro i j h1 h2 h3 hi hsame
    have hj : j < S.length := by omega
    have oki := hS.each i hi (by omega)
    have okj := hS.each j hj h3
    have hun := hS.uniq i j hi hj h3 h2
    have hans : S[i].ans = S[j].ans := by
      have := hsame [] (by intro l hl; simp at hl)
      rw [lang_nil S i hi, lang_nil S j hj] at this; exact this
    -- two states below i that answer alike are one
    have one : ∀ a b : Nat, a < i → b < i → 2 ≤ a → 2 ≤ b → sameLang S (a : Int) (b : Int) → a = b := by
      intro a b ha hb h2a h2b hs
      rcases Nat.lt_trichotomy a b with h | h | h
      · exact absurd (fun w hw => (hs w hw).symm) (ih b a (by omega) h h2a (by omega))
      · exact h
      · exact absurd hs (ih a b (by omega) h h2b (by omega))
    have hstep : ∀ l, sgnL l → sameLang S (followE S[i].edges S[i].star l) (followE S[j].edges S[j].star l) := by
      intro l hl w hw
      have := hsame (l :: w) (sgnW_cons hl hw)
      rw [lang_cons S i hi, lang_cons S j hj] at this; exact this
    have dead : ∀ k : Nat, 2 ≤ k → k < S.length → ¬ sameLang S (k : Int) (-1) := by
      intro k h2k hk hs
      obtain ⟨w, hw, hl⟩ := good_live S hS k k (Nat.le_refl _) h2k hk
      exact hl ((hs w hw).trans (lang_dead S w))
    by_cases hloop : S[i].star = (i : Int)
    · -- i leads to itself
      rcases good_step S hS i hi (by omega) freshL with ⟨hei, hsi, hfi⟩ | ⟨hn, _⟩
      · rcases good_step S hS j hj h3 freshL with ⟨hej, hsj, _⟩ | ⟨hnj, hb⟩
        · refine hun.2 hloop ?_
          have e : S[j] = ⟨S[j].ans, S[j].edges, S[j].star⟩ := rfl
          rw [e, hej, hsj, hans]
        · have hs1 := hstep freshL fresh_sgn
          rw [hfi] at hs1
          rcases hb with hb | ⟨k, hk, hk2, hkj⟩
          · rw [hb] at hs1; exact dead i (by omega) hi hs1
          · rw [hk] at hs1
            have : k = j := one k j (by omega) h2 hk2 h3 (fun w hw => (hs1 w hw).symm.trans (hsame w hw))
            omega
      · exact absurd hloop hn
    · have heq : ∀ l, sgnL l → followE S[i].edges S[i].star l = followE S[j].edges S[j].star l := by
        intro l hl
        have hs := hstep l hl
        rcases good_step S hS i hi (by omega) l with ⟨_, hsi, _⟩ | ⟨_, ha⟩
        · exact absurd hsi hloop
        · have hb : followE S[j].edges S[j].star l = -1 ∨ ∃ k : Nat, followE S[j].edges S[j].star l = (k : Int) ∧ 2 ≤ k ∧ k < i := by
            rcases good_step S hS j hj h3 l with ⟨_, _, h⟩ | ⟨_, h | ⟨k, h, h', h''⟩⟩
            · exact Or.inr ⟨j, h, h3, h2⟩
            · exact Or.inl h
            · exact Or.inr ⟨k, h, h', by omega⟩
          rcases ha with ha | ⟨a, ha, ha2, hai⟩
          · rcases hb with hb | ⟨b, hb, hb2, hbi⟩
            · rw [ha, hb]
            · rw [ha, hb] at hs
              exact absurd (fun w hw => (hs w hw).symm) (dead b hb2 (by omega))
          · rcases hb with hb | ⟨b, hb, hb2, hbi⟩
            · rw [ha, hb] at hs
              exact absurd hs (dead a ha2 (by omega))
            · rw [ha, hb] at hs ⊢
              rw [one a b hai hbi ha2 hb2 hs]
      have hst : S[i].star = S[j].star := by
        have := heq freshL fresh_sgn
        rw [follow_fresh _ _ oki.lev, follow_fresh _ _ okj.lev] at this; exact this
      have hni : ∀ e ∈ S[i].edges, e.2 ≠ S[i].star := by
        rcases oki.to with ⟨_, h, _⟩ | ⟨h, _⟩
        · exact absurd h hloop
        · exact fun e he => (h e he).2.2
      have hnj : ∀ e ∈ S[j].edges, e.2 ≠ S[i].star := by
        rcases okj.to with ⟨h, _⟩ | ⟨h, _⟩
        · intro e he; rw [h] at he; simp at he
        · exact fun e he => by rw [hst]; exact (h e he).2.2
      have hE : S[i].edges = S[j].edges := good_edges _ _ S[i].star oki.rise okj.rise (fun e he => (oki.lev e he).1) (fun e he => (okj.lev e he).1) hni hnj (fun l hl => by rw [heq l hl, hst])
      refine hun.1 ?_
      have e1 : S[i] = ⟨S[i].ans, S[i].edges, S[i].star⟩ := rfl
      have e2 : S[j] = ⟨S[j].ans, S[j].edges, S[j].star⟩ := rfl
      rw [e1, e2, hans, hE, hst]

/-- no two states answer alike -/
theorem good_min (S : List St) (hS : Good S) (i j : Nat) (h2i : 2 ≤ i) (h2j : 2 ≤ j) (hi : i < S.length) (hj : j < S.length) (h : sameLang S (i : Int) (j : Int)) : i = j := by
  rcases Nat.lt_trichotomy i j with hl | hl | hl
  · exact absurd (fun w hw => (h w hw).symm) (good_apart S hS j j i (Nat.le_refl _) hl h2i hj)
  · exact hl
  · exact absurd h (good_apart S hS i i j (Nat.le_refl _) hl h2j hi)

end Go.Proofs.YtchhmojnoiephabGreatDoor

/- Plain mathematics: states as they are written, and that they are read as they were (P7). -/
namespace Go.Proofs.YtchhmojnoiephabGreatDoor

def dg (k : Nat) : UInt8 := UInt8.ofNat (48 + k)
theorem dg_nat (k : Nat) (h : k ≤ 9) : (dg k).toNat = 48 + k := by
  unfold dg; rw [UInt8.toNat_ofNat']; omega
def three (n : Int) : List UInt8 := [dg (n.toNat / 100), dg (n.toNat / 10 % 10), dg (n.toNat % 10)]
def rEdge (e : List UInt8 × Int) : List UInt8 := 44 :: (e.1 ++ 62 :: three e.2)
def rEdges (E : List (List UInt8 × Int)) : List UInt8 := E.flatMap rEdge
def rStar (s : Int) : List UInt8 := if s = -1 then [] else 42 :: three s
def render (x : St) : List UInt8 := x.ans ++ (rEdges x.edges ++ rStar x.star)

theorem dig3_three (n : Int) (h0 : 0 ≤ n) (h : n < 1000) (r : List UInt8) : dig3 (three n ++ r) = n := by
  obtain ⟨k, rfl⟩ := Int.eq_ofNat_of_zero_le h0
  have hk : k < 1000 := by omega
  unfold dig3 three
  simp only [Int.toNat_natCast, List.cons_append, List.nil_append, digFrom]
  have e1 := dg_nat (k / 100) (by omega)
  have e2 := dg_nat (k / 10 % 10) (by omega)
  have e3 := dg_nat (k % 10) (by omega)
  rw [e1, e2, e3, if_pos (by omega), if_pos (by omega), if_pos (by omega)]
  omega

theorem signLen_row (l r : List UInt8) (h : sgnL l) : signLen (l ++ 62 :: r) = l.length := by
  induction l with
  | nil => simp [signLen, signB]
  | cons c l ih =>
    simp only [List.cons_append, signLen]
    rw [if_pos (h c (by simp)), ih (fun x hx => h x (by simp [hx]))]; rfl

theorem rEdges_cons (e : List UInt8 × Int) (E : List (List UInt8 × Int)) (r : List UInt8) : rEdges (e :: E) ++ r = 44 :: (e.1 ++ 62 :: (three e.2 ++ (rEdges E ++ r))) := by
  unfold rEdges rEdge; simp

theorem edges_read (r : List UInt8) (hr : headI r ≠ 44) (E : List (List UInt8 × Int)) : ∀ (f : Nat) (G : List (List UInt8 × Int)), (rEdges E ++ r).length ≤ f → (∀ e ∈ E, sgnL e.1 ∧ 0 ≤ e.2 ∧ e.2 < 1000) → Rise ((G ++ E).map (·.1)) →
    edgesP 1000 f G (rEdges E ++ r) = some (G ++ E, r) := by
  induction E with
  | nil =>
    intro f G hf _ _
    have e0 : rEdges [] ++ r = r := by simp [rEdges]
    rw [e0, List.append_nil]
    cases f with
    | zero => rfl
    | succ f => simp only [edgesP]; rw [if_neg hr]
  | cons e E ih =>
    intro f G hf hE hR
    have he := hE e (by simp)
    rw [rEdges_cons] at hf ⊢
    obtain ⟨f', rfl⟩ : ∃ f', f = f' + 1 := ⟨f - 1, by simp at hf; omega⟩
    have hrs : risesB G e.1 = true := by
      unfold risesB
      cases hg : G.getLast? with
      | none => rfl
      | some g =>
        simp only []
        have hgm : g ∈ G := List.mem_of_getLast? hg
        rw [List.map_append, Rise, List.pairwise_append] at hR
        exact hR.2.2 g.1 (List.mem_map_of_mem hgm) e.1 (by simp)
    have hs := signLen_row e.1 (three e.2 ++ (rEdges E ++ r)) he.1
    have hd := dig3_three e.2 he.2.1 he.2.2 (rEdges E ++ r)
    have t1 : (44 :: (e.1 ++ 62 :: (three e.2 ++ (rEdges E ++ r)))).tail = e.1 ++ 62 :: (three e.2 ++ (rEdges E ++ r)) := rfl
    have t2 : (e.1 ++ 62 :: (three e.2 ++ (rEdges E ++ r))).drop e.1.length = 62 :: (three e.2 ++ (rEdges E ++ r)) := List.drop_left
    have t3 : (e.1 ++ 62 :: (three e.2 ++ (rEdges E ++ r))).take e.1.length = e.1 := List.take_left
    have t4 : (62 :: (three e.2 ++ (rEdges E ++ r))).tail = three e.2 ++ (rEdges E ++ r) := rfl
    have t5 : (three e.2 ++ (rEdges E ++ r)).drop 3 = rEdges E ++ r := by simp [three]
    simp only [edgesP]
    rw [if_pos (by rfl), t1, hs, t2, if_pos (by rfl), t4, hd, t3, if_pos ⟨he.2.1, he.2.2, hrs⟩, t5]
    have := ih f' (G ++ [(e.1, e.2)]) (by simp [three] at hf ⊢; omega) (fun x hx => hE x (by simp [hx])) (by simpa using hR)
    rw [this]; simp

theorem ansN_read (a r : List UInt8) (hr : ¬ (65 ≤ headI r ∧ headI r ≤ 80)) : ∀ p : Int, (a.Pairwise fun x y => x.toNat < y.toNat) → (∀ c ∈ a, 65 ≤ c.toNat ∧ c.toNat ≤ 80 ∧ p < (c.toNat : Int)) → ansN p (a ++ r) = some a.length := by
  induction a with
  | nil =>
    intro p _ _
    cases r with
    | nil => rfl
    | cons c r => simp only [List.nil_append, ansN]; rw [if_neg (by simpa [headI] using hr)]; rfl
  | cons c a ih =>
    intro p hp hc
    have h := hc c (by simp)
    rw [List.pairwise_cons] at hp
    simp only [List.cons_append, ansN]
    rw [if_pos (by omega), if_neg (by omega), ih (c.toNat : Int) hp.2 (fun x hx => by have := hc x (by simp [hx]); have := hp.1 x hx; omega)]
    rfl

theorem star_render (s : Int) (h0 : -1 ≤ s) (h : s < 1000) : starP 1000 (rStar s) = some s := by
  unfold rStar
  by_cases hs : s = -1
  · rw [if_pos hs, hs]; rfl
  · rw [if_neg hs]
    have hd := dig3_three s (by omega) h []
    rw [List.append_nil] at hd
    unfold starP
    have t1 : (42 :: three s).tail = three s := rfl
    rw [if_pos (by rfl), t1, hd, if_pos ⟨by omega, h, by simp [three]⟩]
theorem headI_star (s : Int) : headI (rStar s) ≠ 44 ∧ ¬ (65 ≤ headI (rStar s) ∧ headI (rStar s) ≤ 80) := by
  unfold rStar; split <;> simp [headI]
theorem headI_behind (x : St) : ¬ (65 ≤ headI (rEdges x.edges ++ rStar x.star) ∧ headI (rEdges x.edges ++ rStar x.star) ≤ 80) := by
  cases hE : x.edges with
  | nil => rw [show rEdges [] = [] from rfl, List.nil_append]; exact (headI_star _).2
  | cons e E => rw [rEdges_cons]; simp [headI]

/-- a state that can be written -/
structure okS (x : St) : Prop where
  ans : ansOK x.ans
  lev : ∀ e ∈ x.edges, sgnL e.1 ∧ 0 ≤ e.2 ∧ e.2 < 1000
  rise : Rise (x.edges.map (·.1))
  star : -1 ≤ x.star ∧ x.star < 1000

theorem state_render (x : St) (h : okS x) : stateP 1000 (render x) = some x := by
  have h1 : ansN 0 (render x) = some x.ans.length := by
    rw [ansN_low]
    exact ansN_read x.ans _ (headI_behind x) 64 h.ans.1 (fun c hc => by have := h.ans.2 c hc; omega)
  have h2 : (render x).drop x.ans.length = rEdges x.edges ++ rStar x.star := by unfold render; exact List.drop_left
  have h3 := edges_read (rStar x.star) (headI_star _).1 x.edges (render x).length [] (by unfold render; simp) h.lev (by simpa using h.rise)
  rw [List.nil_append] at h3
  have h4 := stP_yes 1000 (render x) (render x).length x.ans.length x.edges (rStar x.star) x.star rfl h1 (by rw [h2]; exact h3) (star_render _ h.star.1 h.star.2)
  rw [h4]
  have : (render x).take x.ans.length = x.ans := by unfold render; exact List.take_left
  rw [this]

theorem render_inj (x y : St) (hx : okS x) (hy : okS y) (h : render x = render y) : x = y := by
  have := state_render x hx
  rw [h, state_render y hy] at this
  exact (Option.some.inj this).symm

/-- no ';' is written -/
theorem render_no (x : St) (h : okS x) : ∀ c ∈ render x, ¬ (c.toNat : Int) = 59 := by
  have h3 : ∀ n : Int, 0 ≤ n → n < 1000 → ∀ c ∈ three n, ¬ (c.toNat : Int) = 59 := by
    intro n h0 hn c hc
    simp only [three, List.mem_cons, List.not_mem_nil, or_false] at hc
    rcases hc with rfl | rfl | rfl
    · rw [dg_nat _ (by omega)]; omega
    · rw [dg_nat _ (by omega)]; omega
    · rw [dg_nat _ (by omega)]; omega
  intro c hc
  unfold render at hc
  rcases List.mem_append.1 hc with hc | hc
  · have := h.ans.2 c hc; omega
  · rcases List.mem_append.1 hc with hc | hc
    · obtain ⟨e, he, hc⟩ := List.mem_flatMap.1 hc
      unfold rEdge at hc
      rcases List.mem_cons.1 hc with rfl | hc
      · decide
      · rcases List.mem_append.1 hc with hc | hc
        · have := (h.lev e he).1 c hc
          intro h59
          rw [h59] at this; simp [signB] at this
        · rcases List.mem_cons.1 hc with rfl | hc
          · decide
          · exact h3 _ (h.lev e he).2.1 (h.lev e he).2.2 c hc
    · unfold rStar at hc
      split at hc
      · simp at hc
      · rename_i hs
        rcases List.mem_cons.1 hc with rfl | hc
        · decide
        · exact h3 _ (by have := h.star.1; omega) h.star.2 c hc

/-- texts with ';' between them -/
def joinP : List (List UInt8) → List UInt8
  | [] => []
  | [p] => p
  | p :: q :: r => p ++ 59 :: joinP (q :: r)

theorem pcs_head (p r : List UInt8) (hp : ∀ c ∈ p, ¬ (c.toNat : Int) = 59) : pcs (p ++ 59 :: r) = p :: pcs r := by
  induction p with
  | nil => simp [pcs]
  | cons c p ih =>
    simp only [List.cons_append, pcs]
    rw [if_neg (hp c (by simp)), ih (fun x hx => hp x (by simp [hx]))]
theorem pcs_only (p : List UInt8) (hp : ∀ c ∈ p, ¬ (c.toNat : Int) = 59) : pcs p = [p] := by
  induction p with
  | nil => rfl
  | cons c p ih =>
    simp only [pcs]
    rw [if_neg (hp c (by simp)), ih (fun x hx => hp x (by simp [hx]))]
theorem pcs_join : ∀ (P : List (List UInt8)), P ≠ [] → (∀ p ∈ P, ∀ c ∈ p, ¬ (c.toNat : Int) = 59) → pcs (joinP P) = P
  | [], h, _ => absurd rfl h
  | [p], _, h => pcs_only p (h p (by simp))
  | p :: q :: r, _, h => by
    simp only [joinP]
    rw [pcs_head p _ (h p (by simp)), pcs_join (q :: r) (by simp) (fun x hx => h x (by simp [hx]))]

theorem statesR_render (n : Int) (hn : 0 ≤ n) (xs : List St) : ∀ i, i + xs.length ≤ 1000 → (∀ x ∈ xs, okS x ∧ belowS n x = true) → statesR n i (xs.map render) = .ok xs := by
  induction xs with
  | nil => intro i _ _; rfl
  | cons x xs ih =>
    intro i hi h
    simp only [List.map_cons, statesR]
    rw [if_neg (by simp at hi; omega), stateP_yes n hn _ x (state_render x (h x (by simp)).1) (h x (by simp)).2]
    simp only []
    rw [ih (i + 1) (by simp at hi; omega) (fun y hy => h y (by simp [hy]))]

/-- code as it is written is read so -/
theorem code_render (xs : List St) (h2 : 2 ≤ xs.length) (h9 : xs.length ≤ 1000) (h : ∀ x ∈ xs, okS x ∧ belowS (xs.length : Int) x = true) : codeP (joinP (xs.map render)) = .ok xs := by
  have hp : pcs (joinP (xs.map render)) = xs.map render := pcs_join _ (by intro he; rw [List.map_eq_nil_iff] at he; subst he; simp at h2) (fun p hp c hc => by
    obtain ⟨x, hx, rfl⟩ := List.mem_map.1 hp
    exact render_no x (h x hx).1 c hc)
  unfold codeP
  rw [hp, List.length_map, if_neg (by omega)]
  exact statesR_render _ (by omega) xs 0 (by omega) h

end Go.Proofs.YtchhmojnoiephabGreatDoor

/- Plain mathematics: the machine that the program builds of threads, and what holds of it. -/
namespace Go.Proofs.YtchhmojnoiephabGreatDoor

/-- the first place from 2 on at which p holds -/
def findS (p : Nat → St → Bool) : Nat → List St → Option Nat
  | _, [] => none
  | i, x :: xs => if 2 ≤ i ∧ p i x = true then some i else findS p (i + 1) xs

theorem findS_some (p : Nat → St → Bool) (xs : List St) : ∀ (i k : Nat), findS p i xs = some k → 2 ≤ k ∧ i ≤ k ∧ ∃ h : k - i < xs.length, p k xs[k - i] = true := by
  induction xs with
  | nil => intro i k h; cases h
  | cons x xs ih =>
    intro i k h
    simp only [findS] at h
    split at h
    · rename_i hc; simp only [Option.some.injEq] at h; subst h
      exact ⟨hc.1, Nat.le_refl _, by simp, by simpa using hc.2⟩
    · obtain ⟨h1, h2, h3, h4⟩ := ih _ _ h
      refine ⟨h1, by omega, by simp; omega, ?_⟩
      have e : k - i = (k - (i + 1)) + 1 := by omega
      simp only [e, List.getElem_cons_succ]; exact h4
theorem findS_none (p : Nat → St → Bool) (xs : List St) : ∀ (i : Nat), findS p i xs = none → ∀ k (h : k < xs.length), 2 ≤ i + k → p (i + k) xs[k] = false := by
  induction xs with
  | nil => intro i _ k h; simp at h
  | cons x xs ih =>
    intro i h k hk h2
    simp only [findS] at h
    split at h
    · cases h
    · rename_i hc
      cases k with
      | zero => cases hp : p i x with
        | false => simpa using hp
        | true => exact absurd ⟨by omega, hp⟩ hc
      | succ k =>
        have := ih _ h k (by simpa using hk) (by omega)
        simp only [List.getElem_cons_succ]
        rw [show i + (k + 1) = i + 1 + k from by omega]; exact this

def putS (x : St) (S : List St) : Int × List St :=
  match findS (fun _ y => render y == render x) 0 S with
  | some i => ((i : Int), S)
  | none => ((S.length : Int), S ++ [x])
def loopS (a : List UInt8) (S : List St) : Int × List St :=
  match findS (fun i y => render y == render ⟨a, [], (i : Int)⟩) 0 S with
  | some i => ((i : Int), S)
  | none => ((S.length : Int), S ++ [⟨a, [], (S.length : Int)⟩])

abbrev NumF := List Thr → List St → Int × List St

/-- where each of the levels leads -/
def edgF (num : NumF) (T : List Thr) : List (List UInt8) → List St → List (List UInt8 × Int) × List St
  | [], S => ([], S)
  | l :: ls, S => ((l, (num (meetL l T) S).1) :: (edgF num T ls (num (meetL l T) S).2).1, (edgF num T ls (num (meetL l T) S).2).2)

def cutTo (st : Int) (F : List (List UInt8 × Int)) : List (List UInt8 × Int) := F.filter fun e => e.2 != st

/-- the edges, where * leads, and the states behind it -/
def edgS (num : NumF) (T : List Thr) (S : List St) : List (List UInt8 × Int) × Int × List St :=
  (cutTo (num (meetL [42] T) S).1 (edgF num T (levsT T) (num (meetL [42] T) S).2).1, (num (meetL [42] T) S).1, (edgF num T (levsT T) (num (meetL [42] T) S).2).2)

def numS : Nat → NumF
  | 0, _, S => (-1, S)
  | n + 1, T, S => if T = [] then (-1, S) else if T.all stayB then loopS (ansT T) S else
    putS ⟨ansT T, (edgS (numS n) T S).1, (edgS (numS n) T S).2.1⟩ (edgS (numS n) T S).2.2

theorem edgF_snoc (num : NumF) (T : List Thr) (l : List UInt8) : ∀ (ls : List (List UInt8)) (S : List St),
    edgF num T (ls ++ [l]) S = ((edgF num T ls S).1 ++ [(l, (num (meetL l T) (edgF num T ls S).2).1)], (num (meetL l T) (edgF num T ls S).2).2)
  | [], S => rfl
  | m :: ls, S => by simp only [List.cons_append, edgF]; rw [edgF_snoc num T l ls]

/-- a thread of a table -/
def gT (t : Thr) : Prop := goodT t ∧ 0 ≤ t.2 ∧ t.2 < 16

theorem meetL_gT {m : List UInt8} {T : List Thr} (hT : ∀ t ∈ T, gT t) (hm : metL m) : ∀ t ∈ meetL m T, gT t := by
  intro u hu
  obtain ⟨t, ht, he⟩ := List.mem_filterMap.1 hu
  have h := meetT_good (hT t ht).1 hm he
  have h2 := hT t ht
  exact ⟨h.1, by rw [h.2.1]; exact h2.2.1, by rw [h.2.1]; exact h2.2.2⟩

def inS (S : List St) (k : Int) : Prop := k = -1 ∨ (2 ≤ k ∧ k < (S.length : Int))

theorem walk_in (S R : List St) (hS : Good S) (w : List (List UInt8)) : ∀ k : Int, inS S k → inS S (walkK S k w) ∧ walkK (S ++ R) k w = walkK S k w := by
  induction w with
  | nil => intro k hk; exact ⟨hk, rfl⟩
  | cons l w ih =>
    intro k hk
    rcases hk with rfl | ⟨h2, hl⟩
    · rw [walkK_neg _ _ _ (by omega), walkK_neg _ _ _ (by omega)]; exact ⟨Or.inl rfl, rfl⟩
    · obtain ⟨n, rfl⟩ := Int.eq_ofNat_of_zero_le (by omega : 0 ≤ k)
      have hn : n < S.length := by omega
      have hn' : n < (S ++ R).length := by rw [List.length_append]; omega
      have hg : (S ++ R)[n] = S[n] := List.getElem_append_left hn
      simp only [walkK]
      rw [if_neg (by omega), if_neg (by omega), stepS_some S n l hn, stepS_some (S ++ R) n l hn', hg]
      refine ih _ ?_
      rcases good_step S hS n hn (by omega) l with ⟨_, _, h⟩ | ⟨_, h | ⟨k, h, h', h''⟩⟩
      · rw [h]; exact Or.inr ⟨by omega, by omega⟩
      · exact Or.inl h
      · rw [h]; exact Or.inr ⟨by omega, by omega⟩
theorem lang_ext (S R : List St) (hS : Good S) (k : Int) (hk : inS S k) (w : List (List UInt8)) : lang (S ++ R) k w = lang S k w := by
  obtain ⟨h1, h2⟩ := walk_in S R hS w k hk
  unfold lang
  rw [h2]
  rcases h1 with h | ⟨h, h'⟩
  · rw [h, ansOf_neg _ _ (by omega), ansOf_neg _ _ (by omega)]
  · obtain ⟨n, hn⟩ := Int.eq_ofNat_of_zero_le (by omega : 0 ≤ walkK S k w)
    rw [hn] at h' ⊢
    have hl : n < S.length := by omega
    rw [ansOf_some S n hl, ansOf_some (S ++ R) n (by rw [List.length_append]; omega), List.getElem_append_left hl]

/-- one comes from k to m -/
def Reach (S : List St) (k : Int) (m : Nat) : Prop := ∃ w, sgnW w ∧ walkK S k w = (m : Int)
theorem reach_ext (S R : List St) (hS : Good S) (k : Int) (hk : inS S k) (m : Nat) (h : Reach S k m) : Reach (S ++ R) k m := by
  obtain ⟨w, hw, he⟩ := h
  exact ⟨w, hw, by rw [(walk_in S R hS w k hk).2]; exact he⟩

/-- what holds of the states while they are put in; C: the rows of threads that come up -/
structure Inv (C : List Thr → Prop) (S : List St) : Prop where
  good : Good S
  sem : ∀ i (h : i < S.length), 2 ≤ i → ∃ T, C T ∧ (∀ w, sgnW w → lang S (i : Int) w = ansT (meets T w)) ∧ (render S[i]).length ≤ 4 + 30 * T.length

theorem okS_of {S : List St} (hS : Good S) (h9 : S.length ≤ 1000) (i : Nat) (hi : i < S.length) (h2 : 2 ≤ i) : okS S[i] := by
  have ok := hS.each i hi h2
  refine ⟨ok.ans, fun e he => ⟨(ok.lev e he).1, ?_⟩, ok.rise, ?_⟩
  · rcases ok.to with ⟨h, _⟩ | ⟨h, _⟩
    · rw [h] at he; simp at he
    · have := h e he; omega
  · rcases ok.to with ⟨_, h, _⟩ | ⟨_, h, _⟩
    · rw [h]; omega
    · omega

/-- a state that is not yet there -/
structure NewSt (C : List Thr → Prop) (S : List St) (T : List Thr) (x : St) : Prop where
  at' : OkAt S.length x
  star : x.star ≠ (S.length : Int)
  c : C T
  nil : x.ans = ansT T
  cons : ∀ l, sgnL l → inS S (followE x.edges x.star l) ∧ ∀ w, sgnW w → lang S (followE x.edges x.star l) w = ansT (meets (meetL l T) w)
  len : (render x).length ≤ 4 + 30 * T.length

theorem follow_in {S : List St} {x : St} (h : OkAt S.length x) (hs : x.star ≠ (S.length : Int)) (l : List UInt8) : inS S (followE x.edges x.star l) := by
  rcases h.to with ⟨_, h1, _⟩ | ⟨h1, h2, _⟩
  · exact absurd h1 hs
  · rcases followE_mem x.edges x.star l with h3 | h3
    · rw [h3]
      rcases h2 with h2 | h2
      · exact Or.inl h2
      · exact Or.inr ⟨h2.1, h2.2⟩
    · have := h1 _ h3; exact Or.inr ⟨this.1, this.2.1⟩

theorem lang_new {C : List Thr → Prop} {S : List St} {T : List Thr} {x : St} (hS : Good S) (hx : NewSt C S T x) (S' : List St) (i : Nat) (hi : i < S'.length) (he : S'[i] = x) (hp : ∃ R, S' = S ++ R) :
    ∀ w, sgnW w → lang S' (i : Int) w = ansT (meets T w) := by
  intro w hw
  cases w with
  | nil => rw [lang_nil S' i hi, he]; exact hx.nil
  | cons l w =>
    have hl : sgnL l := hw l (by simp)
    have hw' : sgnW w := fun m hm => hw m (by simp [hm])
    rw [lang_cons S' i hi, he]
    obtain ⟨R, rfl⟩ := hp
    rw [lang_ext S R hS _ (hx.cons l hl).1, (hx.cons l hl).2 w hw']; rfl

theorem put_spec {C : List Thr → Prop} (hC : ∀ S, Inv C S → S.length ≤ 900) {S : List St} (hS : Inv C S) {T : List Thr} {x : St} (hx : NewSt C S T x) :
    ∃ (k : Nat) (R : List St), (putS x S) = ((k : Int), S ++ R) ∧ Inv C (S ++ R) ∧ 2 ≤ k ∧ (∃ h : k < (S ++ R).length, (S ++ R)[k] = x) ∧ (∀ m, S.length ≤ m → m < (S ++ R).length → m = k) := by
  have h9 := hC S hS
  have okx : okS x := by
    refine ⟨hx.at'.ans, fun e he => ⟨(hx.at'.lev e he).1, ?_⟩, hx.at'.rise, ?_⟩
    · rcases hx.at'.to with ⟨h, _⟩ | ⟨h, _⟩
      · rw [h] at he; simp at he
      · have := h e he; omega
    · rcases hx.at'.to with ⟨_, h, _⟩ | ⟨_, h, _⟩
      · exact absurd h hx.star
      · omega
  unfold putS
  cases hf : findS (fun _ y => render y == render x) 0 S with
  | some i =>
    obtain ⟨h2, _, h3, h4⟩ := findS_some _ _ _ _ hf
    simp only [Nat.sub_zero] at h3 h4
    have hi : S[i] = x := render_inj _ _ (okS_of hS.good (by omega) i h3 h2) okx (by simpa using h4)
    refine ⟨i, [], by simp, by simpa using hS, h2, ⟨by simpa using h3, by simpa using hi⟩, fun m h1 h2 => ?_⟩
    simp at h2; omega
  | none =>
    have hno := findS_none _ _ _ hf
    have hgood : Good (S ++ [x]) := by
      refine ⟨by have := hS.good.two; simp; omega, fun i hi h2 => ?_, fun i j hi hj h2 hji => ?_⟩
      · by_cases hlt : i < S.length
        · rw [List.getElem_append_left hlt]; exact hS.good.each i hlt h2
        · have hi' : i = S.length := by simp at hi; omega
          subst hi'
          rw [List.getElem_append_right (Nat.le_refl _)]; simpa using hx.at'
      · have hjl : j < S.length := by simp at hi; omega
        rw [List.getElem_append_left hjl]
        by_cases hlt : i < S.length
        · rw [List.getElem_append_left hlt]; exact hS.good.uniq i j hlt hjl h2 hji
        · have hi' : i = S.length := by simp at hi; omega
          subst hi'
          rw [List.getElem_append_right (Nat.le_refl _)]
          simp only [Nat.sub_self, List.getElem_cons_zero]
          refine ⟨fun he => ?_, fun he => absurd he hx.star⟩
          have := hno j hjl (by omega)
          rw [← he] at this; simp at this
    refine ⟨S.length, [x], rfl, ⟨hgood, fun i hi h2 => ?_⟩, hS.good.two, ⟨by simp, by simp⟩, fun m h1 h2 => by simp at h2; omega⟩
    by_cases hlt : i < S.length
    · obtain ⟨T', h1, h3, h4⟩ := hS.sem i hlt h2
      refine ⟨T', h1, fun w hw => ?_, by rw [List.getElem_append_left hlt]; exact h4⟩
      rw [lang_ext S [x] hS.good _ (Or.inr ⟨by omega, by omega⟩)]; exact h3 w hw
    · have hi' : i = S.length := by simp at hi; omega
      subst hi'
      refine ⟨T, hx.c, lang_new hS.good hx _ _ hi (by simp) ⟨[x], rfl⟩, ?_⟩
      rw [List.getElem_append_right (Nat.le_refl _)]; simpa using hx.len

end Go.Proofs.YtchhmojnoiephabGreatDoor

/- Plain mathematics: the machine that the program builds: each call keeps what must hold. -/
namespace Go.Proofs.YtchhmojnoiephabGreatDoor

theorem nodup_sum {α : Type} (f : α → Nat) : ∀ (L M : List α), L.Nodup → (∀ x ∈ L, x ∈ M) → (L.map f).sum ≤ (M.map f).sum
  | [], M, _, _ => by simp
  | a :: L, M, hL, h => by
    obtain ⟨M1, M2, rfl⟩ := List.append_of_mem (h a (by simp))
    rw [List.nodup_cons] at hL
    have := nodup_sum f L (M1 ++ M2) hL.2 (fun x hx => by
      have h1 := h x (by simp [hx])
      rcases List.mem_append.1 h1 with h2 | h2
      · exact List.mem_append.2 (Or.inl h2)
      · rcases List.mem_cons.1 h2 with rfl | h2
        · exact absurd hx hL.1
        · exact List.mem_append.2 (Or.inr h2))
    simp only [List.map_append, List.sum_append, List.map_cons, List.sum_cons] at this ⊢
    omega
theorem nodup_len {α : Type} (L M : List α) (hL : L.Nodup) (h : ∀ x ∈ L, x ∈ M) : L.length ≤ M.length := by
  have h1 := nodup_sum (fun _ => 1) L M hL h
  have e : ∀ K : List α, (K.map fun _ => 1).sum = K.length := by
    intro K
    induction K with
    | nil => rfl
    | cons a K ih => simp only [List.map_cons, List.sum_cons, List.length_cons, ih]; omega
  rw [e, e] at h1; exact h1

theorem letter_nat (n : Nat) (h : n < 16) : (UInt8.ofNat (65 + n)).toNat = 65 + n := by rw [UInt8.toNat_ofNat']; omega

theorem ansT_ok (T : List Thr) : ansOK (ansT T) := by
  unfold ansT ansTo
  refine ⟨?_, fun c hc => ?_⟩
  · rw [List.pairwise_map]
    refine (List.pairwise_lt_range.filter _).imp_of_mem (fun {a b} ha hb hab => ?_)
    have h1 := List.mem_range.1 (List.mem_filter.1 ha).1
    have h2 := List.mem_range.1 (List.mem_filter.1 hb).1
    rw [letter_nat a h1, letter_nat b h2]; omega
  · obtain ⟨n, hn, rfl⟩ := List.mem_map.1 hc
    have h1 := List.mem_range.1 (List.mem_filter.1 hn).1
    rw [letter_nat n h1]; omega
theorem ansT_len (T : List Thr) : (ansT T).length ≤ T.length := by
  unfold ansT ansTo
  rw [List.length_map]
  have := nodup_len ((List.range 16).filter (hasA T)) (T.map fun t => t.2.toNat) (List.nodup_range.filter _) (fun n hn => by
    have h := (List.mem_filter.1 hn).2
    unfold hasA at h
    rw [List.any_eq_true] at h
    obtain ⟨t, ht, he⟩ := h
    simp only [Bool.and_eq_true, beq_iff_eq] at he
    exact List.mem_map.2 ⟨t, ht, by rw [he.1]; simp⟩)
  simpa using this
theorem ansT_ne (T : List Thr) (t : Thr) (ht : t ∈ T) (h0 : 0 ≤ t.2) (h1 : t.2 < 16) (ha : arrB t = true) : ansT T ≠ [] := by
  unfold ansT ansTo
  intro he
  rw [List.map_eq_nil_iff, List.filter_eq_nil_iff] at he
  refine he t.2.toNat (List.mem_range.2 (by omega)) ?_
  unfold hasA
  rw [List.any_eq_true]
  exact ⟨t, ht, by rw [ha, Bool.and_true, beq_iff_eq]; omega⟩

theorem insL_len (m : List UInt8) (ls : List (List UInt8)) : (insL m ls).length ≤ ls.length + 1 := by
  unfold insL
  rw [List.length_append, List.length_cons]
  have : (ls.filter fun t => Go.Op.bytesLess t m).length + (ls.filter fun t => Go.Op.bytesLess m t).length ≤ ls.length := by
    induction ls with
    | nil => simp
    | cons a ls ih =>
      rw [List.filter_cons, List.filter_cons]
      cases h1 : Go.Op.bytesLess a m
      · cases h2 : Go.Op.bytesLess m a <;> simp <;> omega
      · rw [less_asymm a m h1]; simp; omega
  omega
theorem levFold_len (T : List Thr) : ∀ ls, (T.foldl levT ls).length ≤ ls.length + T.length := by
  induction T with
  | nil => intro ls; simp
  | cons t T ih =>
    intro ls
    rw [List.foldl_cons]
    have h1 := ih (levT ls t)
    have h2 : (levT ls t).length ≤ ls.length + 1 := by
      obtain ⟨r, q⟩ := t
      cases r with
      | nil => simp [levT]
      | cons l r => simp only [levT]; split; omega; exact insL_len _ _
    simp only [List.length_cons]; omega
theorem levsT_len (T : List Thr) : (levsT T).length ≤ T.length := by have := levFold_len T []; simpa [levsT] using this

theorem stay_form {t : Thr} (ht : goodT t) (h : stayB t = true) : t.1 = [[35]] := by
  obtain ⟨r, q⟩ := t
  cases r with
  | nil => simp [stayB] at h
  | cons l r =>
    simp [stayB] at h
    subst h
    rw [good_hash ht]
theorem stay_meet (T : List Thr) (h : ∀ t ∈ T, stayB t = true) (m : List UInt8) (hm : metL m) : meetL m T = T := by
  have : ∀ t ∈ T, meetT m t = some t := by
    intro t ht
    have hs := h t ht
    obtain ⟨r, q⟩ := t
    cases r with
    | nil => simp [stayB] at hs
    | cons l r =>
      simp [stayB] at hs
      subst hs
      have := metL_not m hm
      simp only [meetT]
      rw [if_neg (by rintro (h | h); simp at h; exact this.1 h.symm), if_pos trivial]
  unfold meetL
  rw [fmap_congr (g := some) T this, List.filterMap_some]
theorem stay_meets (T : List Thr) (h : ∀ t ∈ T, stayB t = true) (w : List (List UInt8)) (hw : sgnW w) : meets T w = T := by
  induction w with
  | nil => rfl
  | cons m w ih =>
    simp only [meets]
    rw [stay_meet T h m (Or.inl (hw m (by simp)))]
    exact ih (fun x hx => hw x (by simp [hx]))

theorem three_len (n : Int) : (three n).length = 3 := rfl
theorem rEdges_len (E : List (List UInt8 × Int)) (h : ∀ e ∈ E, e.1.length ≤ 24) : (rEdges E).length ≤ 29 * E.length := by
  induction E with
  | nil => simp [rEdges]
  | cons e E ih =>
    have h1 := ih (fun x hx => h x (by simp [hx]))
    have h2 := h e (by simp)
    have : rEdges (e :: E) = rEdge e ++ rEdges E := rfl
    rw [this, List.length_append]
    have h3 : (rEdge e).length = e.1.length + 5 := by simp [rEdge, three_len]
    simp only [List.length_cons]; omega
theorem rStar_len (s : Int) : (rStar s).length ≤ 4 := by unfold rStar; split <;> simp [three_len]

theorem loop_spec {C : List Thr → Prop} (hC : ∀ S, Inv C S → S.length ≤ 900) {S : List St} (hS : Inv C S) {T : List Thr} (hT : ∀ t ∈ T, gT t) (hn : T ≠ []) (hst : ∀ t ∈ T, stayB t = true) (hc : C T) :
    ∃ (k : Nat) (R : List St), (loopS (ansT T) S) = ((k : Int), S ++ R) ∧ Inv C (S ++ R) ∧ 2 ≤ k ∧ k < (S ++ R).length ∧ (∀ w, sgnW w → lang (S ++ R) (k : Int) w = ansT (meets T w)) ∧ (∀ m, S.length ≤ m → m < (S ++ R).length → m = k) := by
  have h9 := hC S hS
  have hane : ansT T ≠ [] := by
    obtain ⟨t, T', rfl⟩ := List.exists_cons_of_ne_nil hn
    have ht := hT t (by simp)
    refine ansT_ne _ t (by simp) ht.2.1 ht.2.2 ?_
    have := stay_form ht.1 (hst t (by simp))
    obtain ⟨r, q⟩ := t
    simp only at this
    subst this; rfl
  have hok : ∀ i : Nat, i < 1000 → okS ⟨ansT T, [], (i : Int)⟩ := fun i hi => ⟨ansT_ok T, by simp, by simp [Rise], by show -1 ≤ (i : Int); omega, by show ((i : Int)) < 1000; omega⟩
  have hlang : ∀ (S' : List St) (i : Nat) (hi : i < S'.length), S'[i] = ⟨ansT T, [], (i : Int)⟩ → ∀ w, sgnW w → lang S' (i : Int) w = ansT (meets T w) := by
    intro S' i hi he w hw
    rw [stay_meets T hst w hw]
    induction w with
    | nil => rw [lang_nil S' i hi, he]
    | cons l w ih =>
      rw [lang_cons S' i hi, he]
      exact ih (fun x hx => hw x (by simp [hx]))
  unfold loopS
  cases hf : findS (fun i y => render y == render ⟨ansT T, [], (i : Int)⟩) 0 S with
  | some i =>
    obtain ⟨h2, _, h3, h4⟩ := findS_some _ _ _ _ hf
    simp only [Nat.sub_zero] at h3 h4
    have hi : S[i] = ⟨ansT T, [], (i : Int)⟩ := render_inj _ _ (okS_of hS.good (by omega) i h3 h2) (hok i (by omega)) (by simpa using h4)
    refine ⟨i, [], by simp, by simpa using hS, h2, by simpa using h3, hlang _ i (by simpa using h3) (by simpa using hi), fun m h1 h2 => ?_⟩
    simp at h2; omega
  | none =>
    have hno := findS_none _ _ _ hf
    have hx : OkAt S.length ⟨ansT T, [], (S.length : Int)⟩ := ⟨ansT_ok T, by simp, by simp [Rise], Or.inl ⟨rfl, rfl, hane⟩⟩
    have hgood : Good (S ++ [⟨ansT T, [], (S.length : Int)⟩]) := by
      refine ⟨by have := hS.good.two; simp; omega, fun i hi h2 => ?_, fun i j hi hj h2 hji => ?_⟩
      · by_cases hlt : i < S.length
        · rw [List.getElem_append_left hlt]; exact hS.good.each i hlt h2
        · have hi' : i = S.length := by simp at hi; omega
          subst hi'
          rw [List.getElem_append_right (Nat.le_refl _)]; simpa using hx
      · have hjl : j < S.length := by simp at hi; omega
        rw [List.getElem_append_left hjl]
        by_cases hlt : i < S.length
        · rw [List.getElem_append_left hlt]; exact hS.good.uniq i j hlt hjl h2 hji
        · have hi' : i = S.length := by simp at hi; omega
          subst hi'
          rw [List.getElem_append_right (Nat.le_refl _)]
          simp only [Nat.sub_self, List.getElem_cons_zero]
          refine ⟨fun he => ?_, fun _ he => ?_⟩
          · have okj := hS.good.each j hjl h2
            rw [← he] at okj
            rcases okj.to with ⟨_, h, _⟩ | ⟨_, h, _⟩
            · simp only at h; omega
            · simp only at h; omega
          · have := hno j hjl (by omega)
            rw [he] at this; simp at this
    refine ⟨S.length, [⟨ansT T, [], (S.length : Int)⟩], rfl, ⟨hgood, fun i hi h2 => ?_⟩, hS.good.two, by simp, hlang _ S.length (by simp) (by simp), fun m h1 h2 => by simp at h2; omega⟩
    by_cases hlt : i < S.length
    · obtain ⟨T', h1, h3, h4⟩ := hS.sem i hlt h2
      refine ⟨T', h1, fun w hw => ?_, by rw [List.getElem_append_left hlt]; exact h4⟩
      rw [lang_ext S _ hS.good _ (Or.inr ⟨by omega, by omega⟩)]; exact h3 w hw
    · have hi' : i = S.length := by simp at hi; omega
      subst hi'
      refine ⟨T, hc, hlang _ S.length hi (by simp), ?_⟩
      rw [List.getElem_append_right (Nat.le_refl _)]
      simp only [Nat.sub_self, List.getElem_cons_zero, render, List.length_append]
      have := ansT_len T
      have := rStar_len (S.length : Int)
      have : (rEdges []).length = 0 := rfl
      omega

/-- what a way to number rows of threads must do -/
def NumOK (C : List Thr → Prop) (n : Nat) (num : NumF) : Prop := ∀ (T : List Thr) (S : List St), C T → (∀ t ∈ T, gT t) → (∀ t ∈ T, depT t ≤ n) → Inv C S →
  ∃ (k : Int) (R : List St), num T S = (k, S ++ R) ∧ Inv C (S ++ R) ∧ inS (S ++ R) k ∧ (k = -1 ↔ T = []) ∧ (∀ w, sgnW w → lang (S ++ R) k w = ansT (meets T w)) ∧ (∀ m, S.length ≤ m → m < (S ++ R).length → Reach (S ++ R) k m)

theorem in_ext {S R : List St} {k : Int} (h : inS S k) : inS (S ++ R) k := by
  rcases h with h | h
  · exact Or.inl h
  · exact Or.inr ⟨h.1, by rw [List.length_append]; omega⟩

theorem edgF_spec {C : List Thr → Prop} {n : Nat} {num : NumF} (hnum : NumOK C n num) (T : List Thr) (hT : ∀ t ∈ T, gT t) (hd : ∀ t ∈ T, depT t ≤ n + 1) (hC : ∀ m, metL m → C (meetL m T)) (ls : List (List UInt8)) :
    ∀ S, (∀ l ∈ ls, sgnL l ∧ meetL l T ≠ []) → Inv C S → ∃ R, (edgF num T ls S).2 = S ++ R ∧ Inv C (S ++ R) ∧ (edgF num T ls S).1.map (·.1) = ls ∧
      (∀ e ∈ (edgF num T ls S).1, 2 ≤ e.2 ∧ e.2 < ((S ++ R).length : Int) ∧ ∀ w, sgnW w → lang (S ++ R) e.2 w = ansT (meets (meetL e.1 T) w)) ∧
      (∀ m, S.length ≤ m → m < (S ++ R).length → ∃ e ∈ (edgF num T ls S).1, Reach (S ++ R) e.2 m) := by
  induction ls with
  | nil => intro S _ hS; exact ⟨[], by simp [edgF], by simpa using hS, rfl, by simp [edgF], fun m h1 h2 => by simp at h2; omega⟩
  | cons l ls ih =>
    intro S hls hS
    have hl := hls l (by simp)
    obtain ⟨k, R1, e1, i1, in1, d1, s1, r1⟩ := hnum (meetL l T) S (hC l (Or.inl hl.1)) (meetL_gT hT (Or.inl hl.1)) (meetL_dep (fun t ht => (hT t ht).1) (Or.inl hl.1) hd) hS
    have hk : 2 ≤ k ∧ k < ((S ++ R1).length : Int) := by
      rcases in1 with h | h
      · exact absurd (d1.1 h) hl.2
      · exact h
    obtain ⟨R2, e2, i2, f2, a2, r2⟩ := ih (S ++ R1) (fun x hx => hls x (by simp [hx])) i1
    have e1' : (num (meetL l T) S).2 = S ++ R1 := by rw [e1]
    have e1'' : (num (meetL l T) S).1 = k := by rw [e1]
    simp only [edgF]
    rw [e1', e1'']
    refine ⟨R1 ++ R2, by rw [e2, List.append_assoc], by rw [← List.append_assoc]; exact i2, by simp [f2], fun e he => ?_, fun m h1 h2 => ?_⟩
    · rw [← List.append_assoc]
      rcases List.mem_cons.1 he with rfl | he
      · refine ⟨hk.1, by have := hk.2; rw [List.length_append] at this ⊢; rw [List.length_append]; omega, fun w hw => ?_⟩
        simp only
        rw [lang_ext (S ++ R1) R2 i1.good k (Or.inr hk)]; exact s1 w hw
      · exact a2 e he
    · rw [← List.append_assoc] at h2 ⊢
      by_cases hm : m < (S ++ R1).length
      · exact ⟨(l, k), by simp, reach_ext _ R2 i1.good k (Or.inr hk) m (r1 m h1 hm)⟩
      · obtain ⟨e, he, hr⟩ := r2 m (by omega) h2
        exact ⟨e, by simp [he], hr⟩


theorem cut_mem {st : Int} {F : List (List UInt8 × Int)} {e : List UInt8 × Int} : e ∈ cutTo st F ↔ e ∈ F ∧ e.2 ≠ st := by
  unfold cutTo; rw [List.mem_filter]; simp
theorem cut_rise {st : Int} {F : List (List UInt8 × Int)} (h : Rise (F.map (·.1))) : Rise ((cutTo st F).map (·.1)) := by
  unfold Rise at h ⊢
  rw [List.pairwise_map] at h ⊢
  exact h.filter _
theorem cut_follow {st : Int} {F : List (List UInt8 × Int)} (h : Rise (F.map (·.1))) (l : List UInt8) : followE (cutTo st F) st l = followE F st l := by
  rcases followE_mem (cutTo st F) st l with h1 | h1
  · rcases followE_mem F st l with h2 | h2
    · rw [h1, h2]
    · by_cases he : followE F st l = st
      · rw [h1, he]
      · have := followE_at (cutTo st F) st (cut_rise h) (l, followE F st l) (cut_mem.2 ⟨h2, he⟩)
        exact this
  · have h3 := (cut_mem.1 h1).1
    have := followE_at F st h _ h3
    exact this.symm

/-- what stands behind the edges of a state -/
structure EdgOK (C : List Thr → Prop) (T : List Thr) (S : List St) (r : List (List UInt8 × Int) × Int × List St) : Prop where
  ext : ∃ R, r.2.2 = S ++ R
  inv : Inv C r.2.2
  star : inS r.2.2 r.2.1
  each : ∀ e ∈ r.1, sgnL e.1 ∧ e.1.length ≤ 24 ∧ 2 ≤ e.2 ∧ e.2 < (r.2.2.length : Int) ∧ e.2 ≠ r.2.1
  rise : Rise (r.1.map (·.1))
  few : r.1.length ≤ T.length
  sem : ∀ l, sgnL l → inS r.2.2 (followE r.1 r.2.1 l) ∧ ∀ w, sgnW w → lang r.2.2 (followE r.1 r.2.1 l) w = ansT (meets (meetL l T) w)
  reach : ∀ m, S.length ≤ m → m < r.2.2.length → ∃ l, sgnL l ∧ Reach r.2.2 (followE r.1 r.2.1 l) m
  plus : meetL [42] T ≠ [] → r.2.1 ≠ -1
  some : ∀ l ∈ levsT T, r.1 ≠ [] ∨ r.2.1 ≠ -1

theorem lev_met (T : List Thr) (hT : ∀ t ∈ T, gT t) (l : List UInt8) (hl : l ∈ levsT T) : sgnL l ∧ l.length ≤ 24 ∧ meetL l T ≠ [] := by
  obtain ⟨r, q, hm, h1, h2⟩ := (levsT_mem T l).1 hl
  have hg := ((hT _ hm).1.1 l (by simp))
  refine ⟨?_, hg.2, fun he => ?_⟩
  · rcases hg.1 with h | h | h
    · exact h
    · exact absurd h h1
    · exact absurd h h2
  · have : (r, q) ∈ meetL l T := List.mem_filterMap.2 ⟨(l :: r, q), hm, by simp [meetT]⟩
    rw [he] at this; simp at this

theorem edgS_spec {C : List Thr → Prop} {n : Nat} {num : NumF} (hnum : NumOK C n num) (T : List Thr) (hT : ∀ t ∈ T, gT t) (hd : ∀ t ∈ T, depT t ≤ n + 1) (hC : ∀ m, metL m → C (meetL m T)) (S : List St) (hS : Inv C S) : EdgOK C T S (edgS num T S) := by
  have h42 : metL [42] := Or.inr rfl
  obtain ⟨k, R1, e1, i1, in1, d1, s1, r1⟩ := hnum (meetL [42] T) S (hC _ h42) (meetL_gT hT h42) (meetL_dep (fun t ht => (hT t ht).1) h42 hd) hS
  have e1' : (num (meetL [42] T) S).2 = S ++ R1 := by rw [e1]
  have e1'' : (num (meetL [42] T) S).1 = k := by rw [e1]
  obtain ⟨R2, e2, i2, f2, a2, r2⟩ := edgF_spec hnum T hT hd hC (levsT T) (S ++ R1) (fun l hl => ⟨(lev_met T hT l hl).1, (lev_met T hT l hl).2.2⟩) i1
  unfold edgS
  rw [e1', e1'']
  generalize hF : edgF num T (levsT T) (S ++ R1) = r at *
  obtain ⟨F, S2⟩ := r
  simp only at e2 f2 a2 r2
  subst e2
  have hrise : Rise (F.map (·.1)) := by rw [f2]; exact levsT_rise T
  have hk2 : inS (S ++ R1 ++ R2) k := in_ext in1
  have hlev : ∀ e ∈ F, e.1 ∈ levsT T := fun e he => by rw [← f2]; exact List.mem_map_of_mem he
  have hfol : ∀ l, sgnL l → inS (S ++ R1 ++ R2) (followE F k l) ∧ ∀ w, sgnW w → lang (S ++ R1 ++ R2) (followE F k l) w = ansT (meets (meetL l T) w) := by
    intro l hl
    by_cases hm : l ∈ levsT T
    · have hm' : l ∈ F.map (·.1) := by rw [f2]; exact hm
      obtain ⟨e, he, rfl⟩ := List.mem_map.1 hm'
      rw [followE_at F k hrise e he]
      have := a2 e he
      exact ⟨Or.inr ⟨this.1, this.2.1⟩, this.2.2⟩
    · rw [followE_no F k l (fun e he heq => hm (heq ▸ hlev e he))]
      refine ⟨hk2, fun w hw => ?_⟩
      rw [lang_ext (S ++ R1) R2 i1.good k in1, meet_other T l (fun t ht => (hT t ht).1) hl hm]; exact s1 w hw
  refine ⟨⟨R1 ++ R2, by simp⟩, i2, hk2, fun e he => ?_, cut_rise hrise, ?_, fun l hl => ?_, fun m h1 h2 => ?_, fun h => ?_, fun l hl => ?_⟩
  · obtain ⟨h1, h2⟩ := cut_mem.1 he
    have hl := lev_met T hT e.1 (hlev e h1)
    have ha := a2 e h1
    exact ⟨hl.1, hl.2.1, ha.1, ha.2.1, h2⟩
  · have h1 : (cutTo k F).length ≤ F.length := List.length_filter_le _ _
    have h2 : F.length = (levsT T).length := by rw [← f2, List.length_map]
    have h3 := levsT_len T
    show (cutTo k F).length ≤ T.length
    omega
  · show inS _ (followE (cutTo k F) k l) ∧ _
    simp only [cut_follow hrise l]
    exact hfol l hl
  · show ∃ l, sgnL l ∧ Reach (S ++ R1 ++ R2) (followE (cutTo k F) k l) m
    by_cases hm : m < (S ++ R1).length
    · refine ⟨freshL, fresh_sgn, ?_⟩
      rw [cut_follow hrise, follow_fresh F k (fun e he => ⟨(lev_met T hT e.1 (hlev e he)).1, (lev_met T hT e.1 (hlev e he)).2.1⟩)]
      exact reach_ext _ R2 i1.good k in1 m (r1 m h1 hm)
    · obtain ⟨e, he, hr⟩ := r2 m (by omega) h2
      refine ⟨e.1, (lev_met T hT e.1 (hlev e he)).1, ?_⟩
      rw [cut_follow hrise, followE_at F k hrise e he]; exact hr
  · exact fun he => h (d1.1 he)
  · have hm' : l ∈ F.map (·.1) := by rw [f2]; exact hl
    obtain ⟨e, he, rfl⟩ := List.mem_map.1 hm'
    by_cases hk : e.2 = k
    · right; show k ≠ -1; have := (a2 e he).1; omega
    · left
      intro h0
      have : e ∈ cutTo k F := cut_mem.2 ⟨he, hk⟩
      rw [show cutTo k F = [] from h0] at this; simp at this

theorem reach_cons (S : List St) (i : Nat) (hi : i < S.length) (l : List UInt8) (hl : sgnL l) (m : Nat) (h : Reach S (followE S[i].edges S[i].star l) m) : Reach S (i : Int) m := by
  obtain ⟨w, hw, he⟩ := h
  exact ⟨l :: w, sgnW_cons hl hw, by simp only [walkK]; rw [if_neg (by omega), stepS_some S i l hi]; exact he⟩
theorem reach_self (S : List St) (i : Nat) : Reach S (i : Int) i := ⟨[], by intro l hl; simp at hl, rfl⟩

theorem num_spec {C : List Thr → Prop} (hcount : ∀ S, Inv C S → S.length ≤ 900) (hC : ∀ T m, C T → metL m → C (meetL m T)) (n : Nat) : NumOK C n (numS (n + 1)) := by
  induction n with
  | zero =>
    intro T S hc hT hd hS
    simp only [numS]
    by_cases h0 : T = []
    · rw [if_pos h0]
      subst h0
      refine ⟨-1, [], by simp, by simpa using hS, Or.inl rfl, by simp, fun w _ => ?_, fun m h1 h2 => by simp at h2; omega⟩
      rw [lang_dead, meets_aft]; rfl
    · rw [if_neg h0]
      have hst : ∀ t ∈ T, stayB t = true := by
        intro t ht
        have := hd t ht
        unfold depT at this
        split at this
        · rename_i h
          obtain ⟨r, q⟩ := t
          simp only at h; subst h; rfl
        · omega
      rw [if_pos (by rw [List.all_eq_true]; exact hst)]
      obtain ⟨k, R, e, i, h2, hl, hs, hm⟩ := loop_spec hcount hS hT h0 hst hc
      exact ⟨(k : Int), R, e, i, Or.inr ⟨by omega, by omega⟩, ⟨fun h => by omega, fun h => absurd h h0⟩, hs, fun m h1 h2 => by rw [hm m h1 h2]; exact reach_self _ _⟩
  | succ n ih =>
    intro T S hc hT hd hS
    rw [numS]
    by_cases h0 : T = []
    · rw [if_pos h0]
      subst h0
      refine ⟨-1, [], by simp, by simpa using hS, Or.inl rfl, by simp, fun w _ => ?_, fun m h1 h2 => by simp at h2; omega⟩
      rw [lang_dead, meets_aft]; rfl
    · rw [if_neg h0]
      by_cases hst : T.all stayB = true
      · rw [if_pos hst]
        rw [List.all_eq_true] at hst
        obtain ⟨k, R, e, i, h2, hl, hs, hm⟩ := loop_spec hcount hS hT h0 hst hc
        exact ⟨(k : Int), R, e, i, Or.inr ⟨by omega, by omega⟩, ⟨fun h => by omega, fun h => absurd h h0⟩, hs, fun m h1 h2 => by rw [hm m h1 h2]; exact reach_self _ _⟩
      · rw [if_neg hst]
        have hE := edgS_spec ih T hT hd (fun m hm => hC T m hc hm) S hS
        generalize edgS (numS (n + 1)) T S = r at *
        obtain ⟨E, st, S2⟩ := r
        obtain ⟨⟨R1, e1⟩, inv, hstar, each, rise, few, sem, reach, plus, some⟩ := hE
        simp only at e1 inv hstar each rise few sem reach plus some ⊢
        have hne : ansT T ≠ [] ∨ E ≠ [] ∨ st ≠ -1 := by
          have : ∃ t ∈ T, stayB t = false := by
            refine Classical.byContradiction fun hn => hst ?_
            rw [List.all_eq_true]
            intro t ht
            cases hb : stayB t with
            | true => rfl
            | false => exact absurd ⟨t, ht, hb⟩ hn
          obtain ⟨t, ht, hb⟩ := this
          have hg := hT t ht
          obtain ⟨r, q⟩ := t
          cases r with
          | nil => exact Or.inl (ansT_ne T _ ht hg.2.1 hg.2.2 rfl)
          | cons l r =>
            have hl : l ≠ [35] := by simpa [stayB] using hb
            by_cases h43 : l = [43]
            · refine Or.inr (Or.inr (plus (fun he => ?_)))
              have : (r, q) ∈ meetL [42] T := List.mem_filterMap.2 ⟨(l :: r, q), ht, by simp [meetT, h43]⟩
              rw [he] at this; simp at this
            · exact Or.inr (some l ((levsT_mem T l).2 ⟨r, q, ht, h43, hl⟩))
        have hstar2 : st = -1 ∨ 2 ≤ st ∧ st < (S2.length : Int) := hstar
        have hx : NewSt C S2 T ⟨ansT T, E, st⟩ := by
          refine ⟨⟨ansT_ok T, fun e he => ⟨(each e he).1, (each e he).2.1⟩, rise, Or.inr ⟨fun e he => ⟨(each e he).2.2.1, (each e he).2.2.2.1, (each e he).2.2.2.2⟩, hstar2, hne⟩⟩, ?_, hc, rfl, sem, ?_⟩
          · show st ≠ (S2.length : Int); omega
          · simp only [render, List.length_append]
            have h1 := ansT_len T
            have h2 := rEdges_len E (fun e he => (each e he).2.1)
            have h3 := rStar_len st
            omega
        obtain ⟨k, R, e, i, h2, ⟨hk, hkx⟩, hm⟩ := put_spec hcount inv hx
        subst e1
        refine ⟨(k : Int), R1 ++ R, by rw [e, List.append_assoc], by rw [← List.append_assoc]; exact i, ?_, ⟨fun h => by omega, fun h => absurd h h0⟩, ?_, fun m h1 h3 => ?_⟩
        · rw [← List.append_assoc]; exact Or.inr ⟨by omega, by omega⟩
        · rw [← List.append_assoc]; exact lang_new inv.good hx _ k hk hkx ⟨R, rfl⟩
        · rw [← List.append_assoc] at h3 ⊢
          by_cases hlt : m < (S ++ R1).length
          · obtain ⟨l, hl, hr⟩ := reach m h1 hlt
            refine reach_cons _ k hk l hl m ?_
            rw [hkx]
            exact reach_ext _ R inv.good _ (sem l hl).1 m hr
          · rw [hm m (by omega) h3]; exact reach_self _ _

end Go.Proofs.YtchhmojnoiephabGreatDoor

/- Plain mathematics: how many states there are, and how long their code is. -/
namespace Go.Proofs.YtchhmojnoiephabGreatDoor

def subs {α : Type} : List α → List (List α)
  | [] => [[]]
  | a :: l => subs l ++ (subs l).map (a :: ·)
theorem filter_subs {α : Type} (p : α → Bool) : ∀ l : List α, l.filter p ∈ subs l
  | [] => by simp [subs]
  | a :: l => by
    have ih := filter_subs p l
    rw [List.filter_cons]
    simp only [subs, List.mem_append, List.mem_map]
    split
    · exact Or.inr ⟨_, ih, rfl⟩
    · exact Or.inl ih

/-- a thread d levels further on -/
def advT : Nat → Thr → Thr
  | 0, t => t
  | _ + 1, ([], q) => ([], q)
  | d + 1, (l :: r, q) => if l = [35] then (l :: r, q) else advT d (r, q)
theorem adv_hash (d : Nat) (r : List (List UInt8)) (q : Int) : advT d ([35] :: r, q) = ([35] :: r, q) := by cases d <;> simp [advT]
theorem adv_more (d : Nat) : ∀ t : Thr, t.1.length ≤ d → advT (d + 1) t = advT d t := by
  induction d with
  | zero =>
    intro t h
    obtain ⟨r, q⟩ := t
    cases r with
    | nil => rfl
    | cons l r => simp at h
  | succ d ih =>
    intro t h
    obtain ⟨r, q⟩ := t
    cases r with
    | nil => rfl
    | cons l r =>
      rw [advT, advT]
      split
      · rfl
      · exact ih (r, q) (by simpa using h)
theorem adv_cap (t : Thr) (h : t.1.length ≤ 5) (d : Nat) : advT (6 + d) t = advT 6 t := by
  induction d with
  | zero => rfl
  | succ d ih => rw [show 6 + (d + 1) = 6 + d + 1 from rfl, adv_more (6 + d) t (by omega), ih]

theorem aft_adv (w : List (List UInt8)) : ∀ (t u : Thr), (∀ m ∈ w, metL m) → aft t w = some u → u = advT w.length t := by
  induction w with
  | nil => intro t u _ h; simp [aft] at h; rw [h]; rfl
  | cons m w ih =>
    intro t u hw h
    simp only [aft] at h
    cases hm : meetT m t with
    | none => rw [hm] at h; cases h
    | some v =>
      rw [hm] at h
      have := ih v u (fun x hx => hw x (by simp [hx])) h
      rw [this]
      obtain ⟨r, q⟩ := t
      have hn := metL_not m (hw m (by simp))
      cases r with
      | nil => simp [meetT] at hm
      | cons l r =>
        simp only [meetT] at hm
        split at hm
        · rename_i h1
          simp only [Option.some.injEq] at hm; subst hm
          rw [List.length_cons, advT, if_neg]
          rcases h1 with rfl | rfl
          · simp
          · exact hn.1
        · split at hm
          · rename_i h2
            simp only [Option.some.injEq] at hm; subst hm; subst h2
            rw [adv_hash, adv_hash]
          · cases hm

theorem meets_form (B : List Thr) (w : List (List UInt8)) (hw : ∀ m ∈ w, metL m) : meets B w = (B.filter fun t => (aft t w).isSome).map (advT w.length) := by
  rw [meets_aft]
  induction B with
  | nil => rfl
  | cons t B ih =>
    cases ha : aft t w with
    | none => rw [List.filterMap_cons_none (f := fun t => aft t w) ha, List.filter_cons, if_neg (by simp [ha])]; exact ih
    | some u => rw [List.filterMap_cons_some (f := fun t => aft t w) ha, List.filter_cons, if_pos (by simp [ha]), List.map_cons, ih, aft_adv w t u hw ha]

def cands (B : List Thr) : List (List Thr) := (List.range 6).flatMap fun d => (subs B).map fun T => T.map (advT (d + 1))

theorem meets_cand (B : List Thr) (hB : ∀ t ∈ B, t.1.length ≤ 5) (w : List (List UInt8)) (hn : w ≠ []) (hw : ∀ m ∈ w, metL m) : meets B w ∈ cands B := by
  rw [meets_form B w hw]
  have hl : 0 < w.length := List.length_pos_iff.2 hn
  unfold cands
  rw [List.mem_flatMap]
  by_cases h6 : w.length ≤ 6
  · refine ⟨w.length - 1, List.mem_range.2 (by omega), List.mem_map.2 ⟨_, filter_subs (fun t => (aft t w).isSome) B, ?_⟩⟩
    rw [show w.length - 1 + 1 = w.length from by omega]
  · refine ⟨5, List.mem_range.2 (by omega), List.mem_map.2 ⟨_, filter_subs (fun t => (aft t w).isSome) B, ?_⟩⟩
    apply List.map_congr_left
    intro t ht
    have := adv_cap t (hB t (List.mem_filter.1 ht).1) (w.length - 6)
    rw [show 6 + (w.length - 6) = w.length from by omega] at this
    exact this.symm

/-- the weight of a row of threads: no state of it is written longer (the ';' counted) -/
def wt (T : List Thr) : Nat := 5 + 30 * T.length
def gW : Nat → Nat
  | 0 => 5
  | a + 1 => 2 * gW a + 30 * 2 ^ a

theorem sum_add {α : Type} (f g : α → Nat) (l : List α) : (l.map fun x => f x + g x).sum = (l.map f).sum + (l.map g).sum := by
  induction l with
  | nil => rfl
  | cons a l ih => simp only [List.map_cons, List.sum_cons, ih]; omega
theorem sum_const {α : Type} (c : Nat) (l : List α) : (l.map fun _ => c).sum = c * l.length := by
  induction l with
  | nil => simp
  | cons a l ih => simp only [List.map_cons, List.sum_cons, ih, List.length_cons, Nat.mul_add]; omega
theorem subs_len {α : Type} (l : List α) : (subs l).length = 2 ^ l.length := by
  induction l with
  | nil => rfl
  | cons a l ih => simp only [subs, List.length_append, List.length_map, ih, List.length_cons, Nat.pow_succ]; omega
theorem subs_wt (l : List Thr) : ((subs l).map wt).sum = gW l.length := by
  induction l with
  | nil => rfl
  | cons a l ih =>
    simp only [subs, List.map_append, List.sum_append, List.map_map, List.length_cons, gW]
    have : (List.map (wt ∘ fun x => a :: x) (subs l)).sum = ((subs l).map fun x => wt x + 30).sum := by
      congr 1
    rw [this, sum_add, sum_const, ih, subs_len]; omega
theorem cands_wt (B : List Thr) : ((cands B).map wt).sum = 6 * gW B.length := by
  have h : ∀ d, (((subs B).map fun T => T.map (advT (d + 1))).map wt).sum = gW B.length := by
    intro d
    rw [List.map_map]
    have : (List.map (wt ∘ fun T => List.map (advT (d + 1)) T) (subs B)) = (subs B).map wt := by
      apply List.map_congr_left
      intro x _
      simp [Function.comp, wt]
    rw [this, subs_wt]
  have e : List.range 6 = [0, 1, 2, 3, 4, 5] := rfl
  unfold cands
  rw [e]
  simp only [List.flatMap_cons, List.flatMap_nil, List.map_append, List.sum_append, h, List.append_nil]
  omega

theorem gW_two (a b : Nat) (h : a + b ≤ 6) : 6 * gW a + 6 * gW b ≤ 36510 := by
  have ha : a ≤ 6 := by omega
  have hb : b ≤ 6 := by omega
  have key : ∀ a b : Fin 7, a.val + b.val ≤ 6 → 6 * gW a.val + 6 * gW b.val ≤ 36510 := by decide
  exact key ⟨a, by omega⟩ ⟨b, by omega⟩ h

/-- the rows of threads that come up on the ways from P and from D -/
def Cof (P D : List Thr) (T : List Thr) : Prop := ∃ w, w ≠ [] ∧ (∀ m ∈ w, metL m) ∧ (T = meets P w ∨ T = meets D w)
theorem cof_meet (P D T : List Thr) (m : List UInt8) (h : Cof P D T) (hm : metL m) : Cof P D (meetL m T) := by
  obtain ⟨w, hn, hw, he⟩ := h
  refine ⟨w ++ [m], by simp, fun x hx => ?_, ?_⟩
  · rcases List.mem_append.1 hx with hx | hx
    · exact hw x hx
    · rw [List.mem_singleton] at hx; rw [hx]; exact hm
  · rcases he with rfl | rfl
    · left; rw [meets_append]; rfl
    · right; rw [meets_append]; rfl
theorem cof_first (P D : List Thr) (m : List UInt8) (hm : metL m) : Cof P D (meetL m P) ∧ Cof P D (meetL m D) :=
  ⟨⟨[m], by simp, by simpa using hm, Or.inl rfl⟩, ⟨[m], by simp, by simpa using hm, Or.inr rfl⟩⟩

theorem inv_weight (P D : List Thr) (hP : ∀ t ∈ P, t.1.length ≤ 5) (hD : ∀ t ∈ D, t.1.length ≤ 5) (hl : P.length + D.length ≤ 6) (S : List St) (hS : Inv (Cof P D) S) :
    ((S.drop 2).map fun x => (render x).length + 1).sum ≤ 36510 := by
  have ch : ∀ i, ∃ T, (2 ≤ i ∧ i < S.length) → Cof P D T ∧ (∀ w, sgnW w → lang S (i : Int) w = ansT (meets T w)) ∧ ∀ h : i < S.length, (render S[i]).length ≤ 4 + 30 * T.length := by
    intro i
    by_cases h : 2 ≤ i ∧ i < S.length
    · obtain ⟨T, h1, h2, h3⟩ := hS.sem i h.2 h.1
      exact ⟨T, fun _ => ⟨h1, h2, fun _ => h3⟩⟩
    · exact ⟨[], fun h' => absurd h' h⟩
  obtain ⟨f, hf⟩ := Classical.axiomOfChoice ch
  have hnd : ((List.range (S.length - 2)).map fun i => f (i + 2)).Nodup := by
    rw [List.Nodup, List.pairwise_map]
    refine (List.nodup_range (n := S.length - 2)).imp_of_mem (fun {a b} ha hb hab he => hab ?_)
    rw [List.mem_range] at ha hb
    have h1 := hf (a + 2) ⟨by omega, by omega⟩
    have h2 := hf (b + 2) ⟨by omega, by omega⟩
    have := good_min S hS.good (a + 2) (b + 2) (by omega) (by omega) (by omega) (by omega) (fun w hw => by rw [h1.2.1 w hw, h2.2.1 w hw, he])
    omega
  have hsub : ∀ T ∈ (List.range (S.length - 2)).map fun i => f (i + 2), T ∈ cands P ++ cands D := by
    intro T hT
    obtain ⟨i, hi, rfl⟩ := List.mem_map.1 hT
    rw [List.mem_range] at hi
    obtain ⟨w, hn, hw, he⟩ := (hf (i + 2) ⟨by omega, by omega⟩).1
    rw [List.mem_append]
    rcases he with he | he
    · left; rw [he]; exact meets_cand P hP w hn hw
    · right; rw [he]; exact meets_cand D hD w hn hw
  have h1 := nodup_sum wt _ _ hnd hsub
  rw [List.map_append, List.sum_append, cands_wt, cands_wt] at h1
  have h2 : ((S.drop 2).map fun x => (render x).length + 1).sum ≤ (((List.range (S.length - 2)).map fun i => f (i + 2)).map wt).sum := by
    have e : (S.drop 2) = (List.range (S.length - 2)).map fun i => (S[i + 2]?).getD deadS := by
      apply List.ext_getElem
      · simp
      · intro i h1 h2
        simp only [List.length_drop] at h1
        rw [List.getElem_drop, List.getElem_map, List.getElem_range, List.getElem?_eq_getElem (by omega)]
        simp only [Option.getD_some]
        congr 1; omega
    rw [e, List.map_map, List.map_map]
    have hle : ∀ (l : List Nat), (∀ i ∈ l, i < S.length - 2) → (l.map ((fun x : St => (render x).length + 1) ∘ fun i => (S[i + 2]?).getD deadS)).sum ≤ (l.map (wt ∘ fun i => f (i + 2))).sum := by
      intro l
      induction l with
      | nil => intro _; simp
      | cons i l ih =>
        intro h
        have hi := h i (by simp)
        simp only [List.map_cons, List.sum_cons, Function.comp]
        have h3 := (hf (i + 2) ⟨by omega, by omega⟩).2.2 (by omega)
        rw [List.getElem?_eq_getElem (by omega : i + 2 < S.length)]
        simp only [Option.getD_some, wt]
        have := ih (fun j hj => h j (by simp [hj]))
        omega
    exact hle _ (fun i hi => by rw [List.mem_range] at hi; exact hi)
  have h3 := gW_two P.length D.length hl
  omega

theorem inv_count (P D : List Thr) (hP : ∀ t ∈ P, t.1.length ≤ 5) (hD : ∀ t ∈ D, t.1.length ≤ 5) (hl : P.length + D.length ≤ 6) (S : List St) (hS : Inv (Cof P D) S) : S.length ≤ 900 := by
  have ch : ∀ i, ∃ T, (2 ≤ i ∧ i < S.length) → Cof P D T ∧ (∀ w, sgnW w → lang S (i : Int) w = ansT (meets T w)) := by
    intro i
    by_cases h : 2 ≤ i ∧ i < S.length
    · obtain ⟨T, h1, h2, h3⟩ := hS.sem i h.2 h.1
      exact ⟨T, fun _ => ⟨h1, h2⟩⟩
    · exact ⟨[], fun h' => absurd h' h⟩
  obtain ⟨f, hf⟩ := Classical.axiomOfChoice ch
  have hnd : ((List.range (S.length - 2)).map fun i => f (i + 2)).Nodup := by
    rw [List.Nodup, List.pairwise_map]
    refine (List.nodup_range (n := S.length - 2)).imp_of_mem (fun {a b} ha hb hab he => hab ?_)
    rw [List.mem_range] at ha hb
    have h1 := hf (a + 2) ⟨by omega, by omega⟩
    have h2 := hf (b + 2) ⟨by omega, by omega⟩
    have := good_min S hS.good (a + 2) (b + 2) (by omega) (by omega) (by omega) (by omega) (fun w hw => by rw [h1.2 w hw, h2.2 w hw, he])
    omega
  have hsub : ∀ T ∈ (List.range (S.length - 2)).map fun i => f (i + 2), T ∈ cands P ++ cands D := by
    intro T hT
    obtain ⟨i, hi, rfl⟩ := List.mem_map.1 hT
    rw [List.mem_range] at hi
    obtain ⟨w, hn, hw, he⟩ := (hf (i + 2) ⟨by omega, by omega⟩).1
    rw [List.mem_append]
    rcases he with he | he
    · left; rw [he]; exact meets_cand P hP w hn hw
    · right; rw [he]; exact meets_cand D hD w hn hw
  have h1 := nodup_len _ _ hnd hsub
  rw [List.length_map, List.length_range, List.length_append] at h1
  have hc : ∀ B : List Thr, (cands B).length = 6 * 2 ^ B.length := by
    intro B
    have e : List.range 6 = [0, 1, 2, 3, 4, 5] := rfl
    unfold cands
    rw [e]
    simp only [List.flatMap_cons, List.flatMap_nil, List.length_append, List.length_map, subs_len, List.length_nil]
    omega
  rw [hc, hc] at h1
  have key : ∀ a b : Fin 7, a.val + b.val ≤ 6 → 6 * 2 ^ a.val + 6 * 2 ^ b.val ≤ 390 := by decide
  have := key ⟨P.length, by omega⟩ ⟨D.length, by omega⟩ hl
  simp only at this
  omega

end Go.Proofs.YtchhmojnoiephabGreatDoor

/- Plain mathematics: filters and topics by their levels; a table's threads; the route that comes of them. -/
namespace Go.Proofs.YtchhmojnoiephabGreatDoor

theorem sgnL_nil : sgnL [] := by intro c hc; simp at hc
theorem sgnL_cons {c : UInt8} {l : List UInt8} (h1 : signB (c.toNat : Int) = true) (h2 : sgnL l) : sgnL (c :: l) := by
  intro x hx
  rcases List.mem_cons.1 hx with rfl | hx
  · exact h1
  · exact h2 x hx
theorem sign_not (n : Int) (h : signB n = true) : n ≠ 47 ∧ n ≠ 43 ∧ n ≠ 35 := by
  unfold signB at h; simp at h; omega

/-- what is left of a level behind the byte p, and the levels behind it -/
structure FilQ (p : Int) (a : List UInt8) (b : List (List UInt8)) : Prop where
  q47 : p = 47 → levF a
  q43 : p = 43 → a = []
  q35 : p = 35 → a = [] ∧ b = []
  sgn : p ≠ 47 → p ≠ 43 → p ≠ 35 → sgnL a
  hash : p = 47 → a = [35] → b = []
  lev : ∀ l ∈ b, levF l
  last : ∀ i (h : i < b.length), b[i] = [35] → i + 1 = b.length

theorem fil_levs (F : List UInt8) : ∀ (p : Int) (sl i : Nat), sl ≤ 4 → badF p sl i F = none → ∃ a b, levs F = a :: b ∧ (levs F).length + sl ≤ 5 ∧ FilQ p a b := by
  induction F with
  | nil =>
    intro p sl i hs _
    exact ⟨[], [], rfl, by simp [levs]; omega, ⟨fun _ => Or.inl sgnL_nil, fun _ => rfl, fun _ => ⟨rfl, rfl⟩, fun _ _ _ => sgnL_nil, fun _ h => by simp at h, by simp, fun i h => by simp at h⟩⟩
  | cons c r ih =>
    intro p sl i hs h
    unfold badF at h
    by_cases hok : okF p sl (c.toNat : Int) = true
    · rw [if_pos hok] at h
      unfold okF at hok
      rw [Bool.and_eq_true] at hok
      obtain ⟨hf, hsl⟩ := hok
      by_cases h47 : (c.toNat : Int) = 47
      · rw [if_pos h47, h47] at h
        have hs' : sl + 1 < 5 := by simpa [h47] using hsl
        obtain ⟨a, b, he, hlen, hq⟩ := ih 47 (sl + 1) (i + 1) (by omega) h
        have hl : levs (c :: r) = [] :: levs r := by simp [levs, h47]
        refine ⟨[], levs r, hl, by rw [hl]; simp; omega, ⟨fun _ => Or.inl sgnL_nil, fun _ => rfl, fun hp => ?_, fun _ _ _ => sgnL_nil, fun _ h => by simp at h, fun l hm => ?_, fun i hi h35 => ?_⟩⟩
        · rw [hp] at hf; simp [folB] at hf
        · rw [he] at hm
          rcases List.mem_cons.1 hm with rfl | hm
          · exact hq.q47 rfl
          · exact hq.lev l hm
        · simp only [he] at hi h35 ⊢
          cases i with
          | zero => rw [hq.hash rfl (by simpa using h35)]; rfl
          | succ i => have := hq.last i (by simpa using hi) (by simpa using h35); simp; omega
      · rw [if_neg h47] at h
        obtain ⟨a, b, he, hlen, hq⟩ := ih (c.toNat : Int) sl (i + 1) hs h
        have hl : levs (c :: r) = (c :: a) :: b := by simp [levs, h47, he]
        refine ⟨c :: a, b, hl, by rw [hl]; rw [he] at hlen; simpa using hlen, ⟨fun hp => ?_, fun hp => ?_, fun hp => ?_, fun h1 h2 h3 => ?_, fun hp ha => ?_, hq.lev, hq.last⟩⟩
        · rw [hp] at hf
          simp [folB] at hf
          rcases hf with ((h | h) | h) | h
          · exact absurd h h47
          · right; left; rw [hq.q43 h, toNat_inj c 43 (by omega) h]; rfl
          · right; right; rw [(hq.q35 h).1, toNat_inj c 35 (by omega) h]; rfl
          · have hn := sign_not _ h
            exact Or.inl (sgnL_cons h (hq.sgn hn.1 hn.2.1 hn.2.2))
        · rw [hp] at hf; simp [folB] at hf; exact absurd hf h47
        · rw [hp] at hf; simp [folB] at hf
        · unfold folB at hf
          rw [if_neg (by simpa using h3), if_neg (by simpa using h2), if_neg (by simpa using h1)] at hf
          simp at hf
          rcases hf with h | h
          · exact absurd h h47
          · have hn := sign_not _ h
            exact sgnL_cons h (hq.sgn hn.1 hn.2.1 hn.2.2)
        · simp only [List.cons.injEq] at ha
          have : (c.toNat : Int) = 35 := by rw [ha.1]; rfl
          exact (hq.q35 this).2
    · rw [if_neg hok] at h; cases h

theorem levs_le (F : List UInt8) : ∀ l ∈ levs F, l.length ≤ F.length := by
  induction F with
  | nil => intro l hl; simp [levs] at hl; simp [hl]
  | cons c r ih =>
    intro l hl
    by_cases h : (c.toNat : Int) = 47
    · simp only [levs, if_pos h] at hl
      rcases List.mem_cons.1 hl with rfl | hl
      · simp
      · have := ih l hl; simp; omega
    · simp only [levs, if_neg h] at hl
      cases hr : levs r with
      | nil => rw [hr] at hl; simp at hl; simp [hl]
      | cons a b =>
        rw [hr] at hl ih
        rcases List.mem_cons.1 hl with rfl | hl
        · have := ih a (by simp); simp; omega
        · have := ih l (by simp [hl]); simp; omega

/-- a filter's levels are a thread's -/
theorem filter_thr (f : List UInt8) (h : (filterR f).1 = 0) (q : Int) : goodT (levs f, q) ∧ (levs f).length ≤ 5 := by
  obtain ⟨h1, _, h3⟩ := filterR_len f h
  obtain ⟨a, b, he, hlen, hq⟩ := fil_levs f 47 0 0 (by omega) h3
  refine ⟨⟨fun l hl => ⟨?_, Nat.le_trans (levs_le f l hl) h1⟩, fun i hi h35 => ?_⟩, by omega⟩
  · simp only [he] at hl
    rcases List.mem_cons.1 hl with rfl | hl
    · exact hq.q47 rfl
    · exact hq.lev l hl
  · simp only [he] at hi h35 ⊢
    cases i with
    | zero => rw [hq.hash rfl (by simpa using h35)]; rfl
    | succ i => have := hq.last i (by simpa using hi) (by simpa using h35); simp; omega

theorem topic_sgn (F : List UInt8) (h : ∀ c ∈ F, tokB (c.toNat : Int) = true) : ∀ l ∈ levs F, sgnL l := by
  induction F with
  | nil => intro l hl; simp [levs] at hl; subst hl; exact sgnL_nil
  | cons c r ih =>
    intro l hl
    have ih' := ih (fun x hx => h x (by simp [hx]))
    have hc := h c (by simp)
    by_cases h47 : (c.toNat : Int) = 47
    · simp only [levs, if_pos h47] at hl
      rcases List.mem_cons.1 hl with rfl | hl
      · exact sgnL_nil
      · exact ih' l hl
    · simp only [levs, if_neg h47] at hl
      have hs : signB (c.toNat : Int) = true := by simpa [tokB, h47] using hc
      cases hr : levs r with
      | nil => exact absurd hr (levs_ne r)
      | cons a b =>
        rw [hr] at hl ih'
        rcases List.mem_cons.1 hl with rfl | hl
        · exact sgnL_cons hs (ih' a (by simp))
        · exact ih' l (by simp [hl])
theorem topic_word (t : List UInt8) (h : (topicR t).1 = 0) : sgnW (levs t) := topic_sgn t (badT_none t 0 (topicR_len t h).2.2)

def plainT (L : List PairL) : List Thr := (L.filter fun e => !(headI e.1 == 36)).map fun e => (levs e.1, e.2)
def dollT (L : List PairL) : List Thr := (L.filter fun e => headI e.1 == 36).map fun e => (levs e.1, e.2)

theorem thr_gT (L : List PairL) (h : goodL L) : (∀ t ∈ plainT L, gT t ∧ t.1.length ≤ 5) ∧ (∀ t ∈ dollT L, gT t ∧ t.1.length ≤ 5) ∧ (plainT L).length + (dollT L).length ≤ 6 := by
  have each : ∀ e ∈ L, gT (levs e.1, e.2) ∧ (levs e.1).length ≤ 5 := by
    intro e he
    have hh := h.2.2 e he
    have := filter_thr e.1 hh.1 e.2
    exact ⟨⟨this.1, hh.2.1, hh.2.2⟩, this.2⟩
  refine ⟨fun t ht => ?_, fun t ht => ?_, ?_⟩
  · obtain ⟨e, he, rfl⟩ := List.mem_map.1 ht
    exact each e (List.mem_filter.1 he).1
  · obtain ⟨e, he, rfl⟩ := List.mem_map.1 ht
    exact each e (List.mem_filter.1 he).1
  · unfold plainT dollT
    rw [List.length_map, List.length_map]
    have : ∀ M : List PairL, (M.filter fun e => !(headI e.1 == 36)).length + (M.filter fun e => headI e.1 == 36).length = M.length := by
      intro M
      induction M with
      | nil => rfl
      | cons a M ih =>
        rw [List.filter_cons, List.filter_cons]
        cases headI a.1 == 36 <;> simp <;> omega
    rw [this]; exact h.1

theorem levs_first (f : List UInt8) : ∃ a b, levs f = a :: b ∧ (headI f = 36 → headI a = 36) ∧ (¬ headI f = 36 → ¬ headI a = 36) := by
  cases f with
  | nil => exact ⟨[], [], rfl, by simp [headI], by simp [headI]⟩
  | cons c r =>
    by_cases h : (c.toNat : Int) = 47
    · exact ⟨[], levs r, by simp [levs, h], by simp [headI, h], by simp [headI]⟩
    · cases hr : levs r with
      | nil => exact absurd hr (levs_ne r)
      | cons a b => exact ⟨c :: a, b, by simp [levs, h, hr], by simp [headI], by simp [headI]⟩

/-- a filter and a topic of which one alone begins with $ -/
theorem fits_apart (f t : List UInt8) (hf : ¬ headI f = 43) (hf2 : ¬ headI f = 35) (h : (headI f = 36 ∧ ¬ headI t = 36) ∨ (¬ headI f = 36 ∧ headI t = 36)) : fitsL (levs f) (levs t) = false := by
  obtain ⟨a, b, ea, h1, h2⟩ := levs_first f
  obtain ⟨x, y, ex, h3, h4⟩ := levs_first t
  rw [ea, ex]
  have hax : a ≠ x := by
    intro he
    subst he
    rcases h with ⟨p, q⟩ | ⟨p, q⟩
    · exact h4 q (h1 p)
    · exact h2 p (h3 q)
  have hfirst : ∀ k : UInt8, a = [k] → headI f = (k.toNat : Int) ∨ f = [] := by
    intro k hk
    cases f with
    | nil => exact Or.inr rfl
    | cons c r =>
      left
      by_cases hc : (c.toNat : Int) = 47
      · have : levs (c :: r) = [] :: levs r := by simp [levs, hc]
        rw [this] at ea; simp at ea; rw [← ea.1] at hk; simp at hk
      · cases hr : levs r with
        | nil => exact absurd hr (levs_ne r)
        | cons a' b' =>
          have : levs (c :: r) = (c :: a') :: b' := by simp [levs, hc, hr]
          rw [this] at ea
          simp only [List.cons.injEq] at ea
          rw [← ea.1] at hk
          simp only [List.cons.injEq] at hk
          simp [headI, hk.1]
  have hnil : f = [] → a = [] := by rintro rfl; simp [levs] at ea; exact ea.1
  have h35 : a ≠ [35] := by
    intro he
    rcases hfirst 35 he with h | h
    · exact hf2 h
    · rw [hnil h] at he; simp at he
  have h43 : a ≠ [43] := by
    intro he
    rcases hfirst 43 he with h | h
    · exact hf h
    · rw [hnil h] at he; simp at he
  simp only [fitsL]
  rw [if_neg h35, if_neg (by rintro (h | h); exact h43 h; exact hax h)]

/-- the route is what the threads answer -/
theorem route_thr (L : List PairL) (t : List UInt8) (n : Nat) : hasW L t (n : Int) = (if headI t = 36 then dollT L else plainT L).any fun e => e.2 == (n : Int) && fitsL e.1 (levs t) := by
  unfold hasW plainT dollT
  split
  · rename_i ht
    rw [List.any_map]
    induction L with
    | nil => rfl
    | cons e L ih =>
      rw [List.any_cons, List.filter_cons, ih]
      have hm : matchB e.1 t = (headI e.1 == 36 && fitsL (levs e.1) (levs t)) := by
        unfold matchB
        by_cases h36 : headI e.1 = 36
        · rw [if_neg (by omega)]; simp [h36]
        · by_cases hw : headI e.1 = 43 ∨ headI e.1 = 35
          · rw [if_pos ⟨ht, hw⟩]; simp [h36]
          · rw [if_neg (fun h => hw h.2), fits_apart e.1 t (fun h => hw (Or.inl h)) (fun h => hw (Or.inr h)) (Or.inr ⟨h36, ht⟩)]; simp
      rw [hm]
      cases headI e.1 == 36 <;> simp [Function.comp]
  · rename_i ht
    rw [List.any_map]
    induction L with
    | nil => rfl
    | cons e L ih =>
      rw [List.any_cons, List.filter_cons, ih]
      have hm : matchB e.1 t = (!(headI e.1 == 36) && fitsL (levs e.1) (levs t)) := by
        unfold matchB
        rw [if_neg (fun h => ht h.1)]
        by_cases h36 : headI e.1 = 36
        · rw [fits_apart e.1 t (by omega) (by omega) (Or.inl ⟨h36, ht⟩)]; simp
        · simp [h36]
      rw [hm]
      cases headI e.1 == 36 <;> simp [Function.comp]

/-- the letters of an answer are the numbers of a route -/
theorem ints_ansT (T : List Thr) (p : Nat → Bool) (h : ∀ n, hasA T n = p n) : (ansT T).map (fun b => (b.toNat : Int) - 65) = ((List.range 16).filter p).map (fun n : Nat => (n : Int)) := by
  unfold ansT ansTo
  rw [List.map_map]
  have e : (List.range 16).filter (hasA T) = (List.range 16).filter p := List.filter_congr (fun n _ => h n)
  rw [e]
  apply List.map_congr_left
  intro n hn
  have := List.mem_range.1 (List.mem_filter.1 hn).1
  simp only [Function.comp]
  rw [letter_nat n this]; omega

theorem routeL_form (L : List PairL) (t : List UInt8) : routeL L t = ((List.range 16).filter fun n : Nat => hasW L t (n : Int)).map (fun n : Nat => (n : Int)) := by
  unfold routeL
  rw [List.filter_map]; rfl

end Go.Proofs.YtchhmojnoiephabGreatDoor

/- Plain mathematics: a table's code (P9): admitted, a least one, and it finds every topic's route. -/
namespace Go.Proofs.YtchhmojnoiephabGreatDoor

def st0 : List St := [deadS, deadS]
def edg0 (L : List PairL) := edgS (numS 6) (plainT L) st0
def edg1 (L : List PairL) := edgS (numS 6) (dollT L) (edg0 L).2.2
/-- the states of a table's code -/
def codeSt (L : List PairL) : List St := ⟨[], (edg0 L).1, (edg0 L).2.1⟩ :: ⟨[], (edg1 L).1, (edg1 L).2.1⟩ :: (edg1 L).2.2.drop 2
/-- a table's code -/
def codeB (L : List PairL) : List UInt8 := joinP ((codeSt L).map render)

theorem inv0 (C : List Thr → Prop) : Inv C st0 :=
  ⟨⟨by simp [st0], fun i h h2 => by simp [st0] at h; omega, fun i j hi hj h2 hji => by simp [st0] at hi; omega⟩, fun i h h2 => by simp [st0] at h; omega⟩

theorem dep_le {T : List Thr} (h : ∀ t ∈ T, gT t ∧ t.1.length ≤ 5) : ∀ t ∈ T, depT t ≤ 5 + 1 := by
  intro t ht
  have := (h t ht).2
  unfold depT; split <;> omega

theorem edg_ok (L : List PairL) (h : goodL L) : EdgOK (Cof (plainT L) (dollT L)) (plainT L) st0 (edg0 L) ∧ EdgOK (Cof (plainT L) (dollT L)) (dollT L) (edg0 L).2.2 (edg1 L) := by
  obtain ⟨hP, hD, hl⟩ := thr_gT L h
  have hcount := inv_count (plainT L) (dollT L) (fun t ht => (hP t ht).2) (fun t ht => (hD t ht).2) hl
  have hnum := num_spec hcount (fun T m hc hm => cof_meet _ _ T m hc hm) 5
  have h0 := edgS_spec hnum (plainT L) (fun t ht => (hP t ht).1) (dep_le hP) (fun m hm => (cof_first _ _ m hm).1) st0 (inv0 _)
  exact ⟨h0, edgS_spec hnum (dollT L) (fun t ht => (hD t ht).1) (dep_le hD) (fun m hm => (cof_first _ _ m hm).2) _ h0.inv⟩

/-- states that are the same from number 2 on walk alike -/
theorem walk_swap (S xs : List St) (hS : Good S) (hl : xs.length = S.length) (he : ∀ i (h : i < S.length) (h' : i < xs.length), 2 ≤ i → xs[i] = S[i]) (w : List (List UInt8)) : ∀ k : Int, inS S k → walkK xs k w = walkK S k w := by
  induction w with
  | nil => intro k _; rfl
  | cons l w ih =>
    intro k hk
    rcases hk with rfl | ⟨h2, hlt⟩
    · rw [walkK_neg _ _ _ (by omega), walkK_neg _ _ _ (by omega)]
    · obtain ⟨n, rfl⟩ := Int.eq_ofNat_of_zero_le (by omega : 0 ≤ k)
      have hn : n < S.length := by omega
      simp only [walkK]
      rw [if_neg (by omega), if_neg (by omega), stepS_some S n l hn, stepS_some xs n l (by omega), he n hn (by omega) (by omega)]
      refine ih _ ?_
      rcases good_step S hS n hn (by omega) l with ⟨_, _, h⟩ | ⟨_, h | ⟨k, h, h', h''⟩⟩
      · rw [h]; exact Or.inr ⟨by omega, by omega⟩
      · exact Or.inl h
      · rw [h]; exact Or.inr ⟨by omega, by omega⟩
theorem lang_swap (S xs : List St) (hS : Good S) (hl : xs.length = S.length) (he : ∀ i (h : i < S.length) (h' : i < xs.length), 2 ≤ i → xs[i] = S[i]) (k : Int) (hk : inS S k) (w : List (List UInt8)) : lang xs k w = lang S k w := by
  unfold lang
  rw [walk_swap S xs hS hl he w k hk]
  rcases (walk_in S [] hS w k hk).1 with h | ⟨h, h'⟩
  · rw [h, ansOf_neg _ _ (by omega), ansOf_neg _ _ (by omega)]
  · obtain ⟨n, hn⟩ := Int.eq_ofNat_of_zero_le (by omega : 0 ≤ walkK S k w)
    rw [hn] at h h' ⊢
    rw [ansOf_some S n (by omega), ansOf_some xs n (by omega), he n (by omega) (by omega) (by omega)]

/-- what is asked of a table's code -/
structure CodeOK (L : List PairL) (xs : List St) : Prop where
  two : 2 ≤ xs.length
  few : xs.length ≤ 900
  good : Good xs
  okS : ∀ x ∈ xs, okS x ∧ belowS (xs.length : Int) x = true
  apart : ∀ x ∈ xs, ∀ e ∈ x.edges, e.2 ≠ x.star
  len : (joinP (xs.map render)).length ≤ 40000
  zero : ∀ l w, sgnW (l :: w) → lang xs 0 (l :: w) = ansT (meets (plainT L) (l :: w))
  one : ∀ l w, sgnW (l :: w) → lang xs 1 (l :: w) = ansT (meets (dollT L) (l :: w))
  reach : ∀ m, 2 ≤ m → m < xs.length → Reach xs 0 m ∨ Reach xs 1 m

theorem joinP_len : ∀ P : List (List UInt8), (joinP P).length ≤ (P.map fun p => p.length + 1).sum
  | [] => by simp [joinP]
  | [p] => by simp [joinP]
  | p :: q :: r => by
    have := joinP_len (q :: r)
    simp only [joinP, List.length_append, List.length_cons, List.map_cons, List.sum_cons] at this ⊢
    omega

theorem first_len {T : List Thr} {C : List Thr → Prop} {S : List St} {r : List (List UInt8 × Int) × Int × List St} (h : EdgOK C T S r) : (render ⟨[], r.1, r.2.1⟩).length ≤ 4 + 29 * T.length := by
  simp only [render, List.nil_append, List.length_append]
  have h1 := rEdges_len r.1 (fun e he => (h.each e he).2.1)
  have h2 := rStar_len r.2.1
  have h3 := h.few
  omega

theorem code_ok (L : List PairL) (h : goodL L) : CodeOK L (codeSt L) := by
  obtain ⟨hP, hD, hl⟩ := thr_gT L h
  obtain ⟨h0, h1⟩ := edg_ok L h
  have hcount := inv_count (plainT L) (dollT L) (fun t ht => (hP t ht).2) (fun t ht => (hD t ht).2) hl
  have hwt := inv_weight (plainT L) (dollT L) (fun t ht => (hP t ht).2) (fun t ht => (hD t ht).2) hl
  have f0 := first_len h0
  have f1 := first_len h1
  unfold codeSt
  generalize edg0 L = r0 at *
  generalize edg1 L = r1 at *
  obtain ⟨E0, s0, S1⟩ := r0
  obtain ⟨E1, s1, S2⟩ := r1
  simp only at h0 h1 f0 f1 ⊢
  obtain ⟨R, hR⟩ := h1.ext
  obtain ⟨R0, hR0⟩ := h0.ext
  simp only at hR hR0
  have i1 := h0.inv
  have i2 := h1.inv
  simp only at i1 i2
  have h900 := hcount S2 i2
  have hw2 := hwt S2 i2
  have hS2 := i2.good.two
  generalize hx : (⟨[], E0, s0⟩ :: ⟨[], E1, s1⟩ :: S2.drop 2 : List St) = xs
  have hlen : xs.length = S2.length := by rw [← hx]; simp; omega
  have hget : ∀ i (h : i < S2.length) (h' : i < xs.length), 2 ≤ i → xs[i] = S2[i] := by
    intro i hi hi' h2
    obtain ⟨j, rfl⟩ : ∃ j, i = j + 2 := ⟨i - 2, by omega⟩
    simp only [← hx, List.getElem_cons_succ, List.getElem_drop]
    congr 1; omega
  have hgood : Good xs := by
    refine ⟨by omega, fun i hi h2 => ?_, fun i j hi hj h2 hji => ?_⟩
    · rw [hget i (by omega) hi h2]; exact i2.good.each i (by omega) h2
    · rw [hget i (by omega) hi (by omega), hget j (by omega) hj h2]; exact i2.good.uniq i j (by omega) (by omega) h2 hji
  have hS12 : S1.length ≤ S2.length := by rw [hR, List.length_append]; omega
  have x0 : xs[0]? = some ⟨[], E0, s0⟩ := by rw [← hx]; rfl
  have x1 : xs[1]? = some ⟨[], E1, s1⟩ := by rw [← hx]; rfl
  have g0 : xs[0]'(by omega) = ⟨[], E0, s0⟩ := by simp only [← hx]; rfl
  have g1 : xs[1]'(by omega) = ⟨[], E1, s1⟩ := by simp only [← hx]; rfl
  have hst0 : inS S2 s0 := by
    have := h0.star
    simp only at this
    rw [hR]; exact in_ext this
  have hst1 : inS S2 s1 := h1.star
  have hmem : ∀ x ∈ xs, (x = ⟨[], E0, s0⟩ ∨ x = ⟨[], E1, s1⟩) ∨ ∃ i, ∃ h : i < S2.length, 2 ≤ i ∧ x = S2[i] := by
    intro x hm
    rw [← hx] at hm
    rcases List.mem_cons.1 hm with rfl | hm
    · exact Or.inl (Or.inl rfl)
    · rcases List.mem_cons.1 hm with rfl | hm
      · exact Or.inl (Or.inr rfl)
      · obtain ⟨i, hi, rfl⟩ := List.mem_iff_getElem.1 hm
        rw [List.length_drop] at hi
        exact Or.inr ⟨2 + i, by omega, by omega, by rw [List.getElem_drop]⟩
  have ok0 : okS ⟨[], E0, s0⟩ ∧ belowS (xs.length : Int) ⟨[], E0, s0⟩ = true := by
    have hs : -1 ≤ s0 ∧ s0 < (S2.length : Int) := by rcases hst0 with h | h <;> omega
    refine ⟨⟨⟨List.Pairwise.nil, by simp⟩, fun e he => ?_, h0.rise, by show -1 ≤ s0; omega, by show s0 < 1000; omega⟩, ?_⟩
    · have := h0.each e he
      simp only at this
      exact ⟨this.1, by omega, by omega⟩
    · unfold belowS belowE
      rw [Bool.and_eq_true, List.all_eq_true]
      refine ⟨fun e he => ?_, by simp only [decide_eq_true_eq]; omega⟩
      have := h0.each e he
      simp only [decide_eq_true_eq] at this ⊢; omega
  have ok1 : okS ⟨[], E1, s1⟩ ∧ belowS (xs.length : Int) ⟨[], E1, s1⟩ = true := by
    have hs : -1 ≤ s1 ∧ s1 < (S2.length : Int) := by rcases hst1 with h | h <;> omega
    refine ⟨⟨⟨List.Pairwise.nil, by simp⟩, fun e he => ?_, h1.rise, by show -1 ≤ s1; omega, by show s1 < 1000; omega⟩, ?_⟩
    · have := h1.each e he
      simp only at this
      exact ⟨this.1, by omega, by omega⟩
    · unfold belowS belowE
      rw [Bool.and_eq_true, List.all_eq_true]
      refine ⟨fun e he => ?_, by simp only [decide_eq_true_eq]; omega⟩
      have := h1.each e he
      simp only [decide_eq_true_eq] at this ⊢; omega
  refine ⟨by omega, by omega, hgood, fun x hm => ?_, fun x hm e he => ?_, ?_, fun l w hw => ?_, fun l w hw => ?_, fun m h2 hm => ?_⟩
  · rcases hmem x hm with (rfl | rfl) | ⟨i, hi, h2, rfl⟩
    · exact ok0
    · exact ok1
    · refine ⟨okS_of i2.good (by omega) i hi h2, ?_⟩
      have ok := i2.good.each i hi h2
      unfold belowS belowE
      rw [Bool.and_eq_true, List.all_eq_true]
      refine ⟨fun e he => ?_, ?_⟩
      · rcases ok.to with ⟨h, _⟩ | ⟨h, _⟩
        · rw [h] at he; simp at he
        · have := h e he; simp only [decide_eq_true_eq]; omega
      · rcases ok.to with ⟨_, h, _⟩ | ⟨_, h, _⟩
        · rw [h]; simp only [decide_eq_true_eq]; omega
        · simp only [decide_eq_true_eq]; omega
  · rcases hmem x hm with (rfl | rfl) | ⟨i, hi, h2, rfl⟩
    · exact (h0.each e he).2.2.2.2
    · exact (h1.each e he).2.2.2.2
    · rcases (i2.good.each i hi h2).to with ⟨h, _⟩ | ⟨h, _⟩
      · rw [h] at he; simp at he
      · exact (h e he).2.2
  · have hj := joinP_len (xs.map render)
    rw [List.map_map, ← hx] at hj
    rw [← hx]
    simp only [List.map_cons, List.sum_cons, Function.comp] at hj ⊢
    have : (List.map (fun x => (render x).length + 1) (List.drop 2 S2)).sum ≤ 36510 := hw2
    have e : (List.map ((fun p : List UInt8 => p.length + 1) ∘ render) (List.drop 2 S2)).sum = (List.map (fun x => (render x).length + 1) (List.drop 2 S2)).sum := rfl
    rw [e] at hj
    omega
  · have hl' : sgnL l := hw l (by simp)
    have hw' : sgnW w := fun x hx => hw x (by simp [hx])
    have hs := h0.sem l hl'
    simp only at hs
    have hc := lang_cons xs 0 (by omega) l w
    rw [g0] at hc
    have e0 : ((0 : Nat) : Int) = 0 := rfl
    rw [e0] at hc
    rw [hc]
    simp only
    have hin : inS S2 (followE E0 s0 l) := by rw [hR]; exact in_ext hs.1
    rw [lang_swap S2 xs i2.good hlen hget _ hin, hR, lang_ext S1 R i1.good _ hs.1, hs.2 w hw']; rfl
  · have hl' : sgnL l := hw l (by simp)
    have hw' : sgnW w := fun x hx => hw x (by simp [hx])
    have hs := h1.sem l hl'
    simp only at hs
    have hc := lang_cons xs 1 (by omega) l w
    rw [g1] at hc
    have e0 : ((1 : Nat) : Int) = 1 := rfl
    rw [e0] at hc
    rw [hc]
    simp only
    rw [lang_swap S2 xs i2.good hlen hget _ hs.1, hs.2 w hw']; rfl
  · have swap : ∀ k, inS S2 k → Reach S2 k m → Reach xs k m := by
      rintro k hk ⟨w, hw, he⟩
      exact ⟨w, hw, by rw [walk_swap S2 xs i2.good hlen hget w k hk]; exact he⟩
    by_cases hm1 : m < S1.length
    · left
      obtain ⟨l, hl', hr⟩ := h0.reach m (by simp [st0]; exact h2) hm1
      simp only at hr
      have hin := (h0.sem l hl').1
      simp only at hin
      have hr2 : Reach S2 (followE E0 s0 l) m := by rw [hR]; exact reach_ext S1 R i1.good _ hin m hr
      have hr3 := swap _ (by rw [hR]; exact in_ext hin) hr2
      have := reach_cons xs 0 (by omega) l hl' m (by rw [g0]; exact hr3)
      exact this
    · right
      obtain ⟨l, hl', hr⟩ := h1.reach m (by show S1.length ≤ m; omega) (by show m < S2.length; omega)
      simp only at hr
      have hin := (h1.sem l hl').1
      simp only at hin
      have := reach_cons xs 1 (by omega) l hl' m (by rw [g1]; exact swap _ hin hr)
      exact this

theorem codeB_ok (L : List PairL) (h : goodL L) : codeP (codeB L) = .ok (codeSt L) ∧ (codeB L).length ≤ 40000 ∧ codeR (codeB L) = (0, 0) := by
  have c := code_ok L h
  have h1 : codeP (codeB L) = .ok (codeSt L) := code_render _ c.two (by have := c.few; omega) c.okS
  have h2 : (codeB L).length ≤ 40000 := c.len
  refine ⟨h1, h2, ?_⟩
  unfold codeR
  rw [if_neg (by omega), h1]

/-- P9: a walk finds what the route tells -/
theorem code_route (L : List PairL) (h : goodL L) (t : List UInt8) : walkR (codeB L) t = routeR L t := by
  obtain ⟨h1, h2, h3⟩ := codeB_ok L h
  have c := code_ok L h
  unfold walkR routeR
  by_cases h24 : 24 < t.length
  · rw [if_pos (Or.inr h24)]
    have : topicR t = (1, 0) := by unfold topicR; rw [if_pos h24]
    rw [this]; simp
  · rw [if_neg (c := 40000 < (codeB L).length ∨ 24 < t.length) (by omega), if_neg (c := (codeR (codeB L)).1 ≠ 0) (by simp [h3])]
    by_cases ht : (topicR t).1 = 0
    · rw [if_neg (c := (topicR t).1 ≠ 0) (by simp [ht]), if_neg (c := (topicR t).1 ≠ 0) (by simp [ht]), h1]
      simp only []
      have hw := topic_word t ht
      obtain ⟨l, w, he⟩ := List.exists_cons_of_ne_nil (levs_ne t)
      have hlang : ansOf (codeSt L) (walkK (codeSt L) (if headI t = 36 then 1 else 0) (levs t)) = ansT (meets (if headI t = 36 then dollT L else plainT L) (levs t)) := by
        have hz := c.zero l w (by rw [← he]; exact hw)
        have ho := c.one l w (by rw [← he]; exact hw)
        unfold lang at hz ho
        rw [← he] at hz ho
        split
        · exact ho
        · exact hz
      rw [hlang, routeL_form, ints_ansT _ _ (fun n => by rw [hasA_meets (levs t) (fun m hm => Or.inl (hw m hm)), ← route_thr])]
    · rw [if_pos ht, if_pos ht]

end Go.Proofs.YtchhmojnoiephabGreatDoor

/- Plain mathematics: states in groups, cut again and again (what Least asks of a code). -/
namespace Go.Proofs.YtchhmojnoiephabGreatDoor

/-- the group of a state's number -/
def grpF (g : List Int) (k : Int) : Int := if k < 0 then -1 else g.getD k.toNat (-1)
theorem grpF_neg (g : List Int) (k : Int) (h : k < 0) : grpF g k = -1 := by unfold grpF; rw [if_pos h]
theorem grpF_nat (g : List Int) (k : Nat) : grpF g (k : Int) = g.getD k (-1) := by unfold grpF; rw [if_neg (by omega)]; simp

def sameF (g : List Int) (lv : List (List UInt8)) (x y : St) : Bool :=
  decide (grpF g x.star = grpF g y.star) && lv.all fun l => decide (grpF g (followE x.edges x.star l) = grpF g (followE y.edges y.star l))
theorem sameF_iff (g : List Int) (lv : List (List UInt8)) (x y : St) : sameF g lv x y = true ↔ grpF g x.star = grpF g y.star ∧ ∀ l ∈ lv, grpF g (followE x.edges x.star l) = grpF g (followE y.edges y.star l) := by
  unfold sameF; simp
theorem sameF_refl (g : List Int) (lv : List (List UInt8)) (x : St) : sameF g lv x x = true := by rw [sameF_iff]; exact ⟨rfl, fun _ _ => rfl⟩
theorem sameF_join {g : List Int} {lv : List (List UInt8)} {x y z : St} (h : sameF g lv x z = true) (k : sameF g lv y z = true) : sameF g lv x y = true := by
  rw [sameF_iff] at *
  exact ⟨h.1.trans k.1.symm, fun l hl => (h.2 l hl).trans (k.2 l hl).symm⟩

def alikeF (xs : List St) (g : List Int) (lv : List (List UInt8)) (i j : Nat) : Bool :=
  match xs[i]?, xs[j]? with
  | some x, some y => decide (g.getD i (-1) = g.getD j (-1)) && sameF g lv x y
  | _, _ => false
theorem alikeF_iff {xs : List St} {g : List Int} {lv : List (List UInt8)} {i j : Nat} (hi : i < xs.length) (hj : j < xs.length) : alikeF xs g lv i j = true ↔ g.getD i (-1) = g.getD j (-1) ∧ sameF g lv xs[i] xs[j] = true := by
  unfold alikeF; rw [List.getElem?_eq_getElem hi, List.getElem?_eq_getElem hj]; simp

def deadF (g : List Int) (x : St) : Bool := decide (grpF g x.star = -1) && x.edges.all fun e => decide (grpF g e.2 = -1)
theorem deadF_iff (g : List Int) (x : St) : deadF g x = true ↔ grpF g x.star = -1 ∧ ∀ e ∈ x.edges, grpF g e.2 = -1 := by
  unfold deadF; simp only [Bool.and_eq_true, decide_eq_true_eq, List.all_eq_true]

/-- the first place from j on with p, n places left; else the place behind -/
def firstA (p : Nat → Bool) : Nat → Nat → Nat
  | j, 0 => j
  | j, n + 1 => if p j = true then j else firstA p (j + 1) n
theorem firstA_spec (p : Nat → Bool) (n : Nat) : ∀ j, j ≤ firstA p j n ∧ firstA p j n ≤ j + n ∧ (firstA p j n < j + n → p (firstA p j n) = true) := by
  induction n with
  | zero => intro j; simp [firstA]
  | succ n ih =>
    intro j
    simp only [firstA]
    split
    · rename_i h; exact ⟨by omega, by omega, fun _ => h⟩
    · obtain ⟨h1, h2, h3⟩ := ih (j + 1)
      exact ⟨by omega, by omega, fun h => h3 (by omega)⟩
/-- downwards: the last place below k with p that comes up; else v -/
def lastF (p : Nat → Bool) : Nat → Int → Int
  | 0, v => v
  | k + 1, v => lastF p k (if p k = true then (k : Int) else v)
theorem lastF_spec (p : Nat → Bool) (k : Nat) : ∀ v, (lastF p k v = v ∧ ∀ j, j < k → p j = false) ∨ ∃ m : Nat, m < k ∧ lastF p k v = (m : Int) ∧ p m = true := by
  induction k with
  | zero => intro v; exact Or.inl ⟨rfl, by omega⟩
  | succ k ih =>
    intro v
    simp only [lastF]
    rcases ih (if p k = true then (k : Int) else v) with ⟨h1, h2⟩ | ⟨m, h1, h2, h3⟩
    · by_cases hp : p k = true
      · rw [if_pos hp] at h1 ⊢
        exact Or.inr ⟨k, by omega, h1, hp⟩
      · rw [if_neg hp] at h1 ⊢
        refine Or.inl ⟨h1, fun j hj => ?_⟩
        by_cases hk : j = k
        · subst hk; simpa using hp
        · exact h2 j (by omega)
    · exact Or.inr ⟨m, by omega, h2, h3⟩

def cutF (xs : List St) (g : List Int) (lv : List (List UInt8)) (i : Nat) : Int :=
  match xs[i]? with
  | none => -1
  | some x => if g.getD i (-1) = -1 ∧ deadF g x = true then -1 else ((firstA (alikeF xs g lv i) 0 i : Nat) : Int)
theorem cut_cases (xs : List St) (g : List Int) (lv : List (List UInt8)) (i : Nat) (hi : i < xs.length) :
    (cutF xs g lv i = -1 ∧ g.getD i (-1) = -1 ∧ deadF g xs[i] = true) ∨ ∃ m : Nat, ∃ hm : m < xs.length, m ≤ i ∧ cutF xs g lv i = (m : Int) ∧ g.getD i (-1) = g.getD m (-1) ∧ sameF g lv xs[i] xs[m] = true := by
  unfold cutF
  rw [List.getElem?_eq_getElem hi]
  simp only
  split
  · rename_i h; exact Or.inl ⟨rfl, h⟩
  · refine Or.inr ?_
    obtain ⟨h1, h2, h3⟩ := firstA_spec (alikeF xs g lv i) i 0
    have hm : firstA (alikeF xs g lv i) 0 i < xs.length := by omega
    refine ⟨firstA (alikeF xs g lv i) 0 i, hm, by omega, rfl, ?_⟩
    by_cases he : firstA (alikeF xs g lv i) 0 i = i
    · simp only [he]; exact ⟨trivial, sameF_refl _ _ _⟩
    · exact (alikeF_iff hi hm).1 (h3 (by omega))

def nextF (xs : List St) (g : List Int) (lv : List (List UInt8)) : List Int := (List.range xs.length).map (cutF xs g lv)
theorem next_at (xs : List St) (g : List Int) (lv : List (List UInt8)) (i : Nat) (hi : i < xs.length) : (nextF xs g lv).getD i (-1) = cutF xs g lv i := by
  unfold nextF; simp [List.getD, List.getElem?_map, List.getElem?_range hi]

/-- what holds between the rounds -/
structure GI (xs : List St) (g : List Int) : Prop where
  len : g.length = xs.length
  low : ∀ i, i < xs.length → -1 ≤ g.getD i (-1) ∧ g.getD i (-1) ≤ (i : Int)
  ans : ∀ i j (hi : i < xs.length) (hj : j < xs.length), g.getD i (-1) = g.getD j (-1) → xs[i].ans = xs[j].ans
  dead : ∀ i (hi : i < xs.length), g.getD i (-1) = -1 → xs[i].ans = []

theorem next_inv {xs : List St} {g : List Int} (lv : List (List UInt8)) (h : GI xs g) : GI xs (nextF xs g lv) := by
  refine ⟨by unfold nextF; simp, fun i hi => ?_, fun i j hi hj he => ?_, fun i hi he => ?_⟩
  · rw [next_at _ _ _ _ hi]
    rcases cut_cases xs g lv i hi with ⟨h1, _⟩ | ⟨m, hm, h1, h2, _⟩
    · rw [h1]; omega
    · rw [h2]; omega
  · rw [next_at _ _ _ _ hi, next_at _ _ _ _ hj] at he
    rcases cut_cases xs g lv i hi with ⟨a1, a2, _⟩ | ⟨m, hm, a1, a2, a3, _⟩
    · rcases cut_cases xs g lv j hj with ⟨b1, b2, _⟩ | ⟨n, hn, b1, b2, b3, _⟩
      · rw [h.dead i hi a2, h.dead j hj b2]
      · omega
    · rcases cut_cases xs g lv j hj with ⟨b1, b2, _⟩ | ⟨n, hn, b1, b2, b3, _⟩
      · omega
      · obtain rfl : m = n := by omega
        exact h.ans i j hi hj (a3.trans b3.symm)
  · rw [next_at _ _ _ _ hi] at he
    rcases cut_cases xs g lv i hi with ⟨a1, a2, _⟩ | ⟨m, hm, a1, a2, a3, _⟩
    · exact h.dead i hi a2
    · omega
theorem next_ge {xs : List St} {g : List Int} (lv : List (List UInt8)) (h : GI xs g) (i : Nat) (hi : i < xs.length) : g.getD i (-1) ≤ cutF xs g lv i ∧ cutF xs g lv i ≤ (i : Int) := by
  rcases cut_cases xs g lv i hi with ⟨a1, a2, _⟩ | ⟨m, hm, a1, a2, a3, _⟩
  · omega
  · have := (h.low m hm).2; omega

/-- what is left to cut -/
def wtG (g : List Int) : Nat → Nat
  | 0 => 0
  | n + 1 => wtG g n + ((n : Int) - g.getD n (-1)).toNat
theorem wtG_le (g h : List Int) (n : Nat) (hh : ∀ i, i < n → g.getD i (-1) ≤ h.getD i (-1)) : wtG h n ≤ wtG g n := by
  induction n with
  | zero => exact Nat.le_refl _
  | succ n ih =>
    have h1 := ih (fun i hi => hh i (by omega))
    have h2 := hh n (by omega)
    simp only [wtG]
    omega
theorem wtG_lt (g h : List Int) (n i : Nat) (hh : ∀ i, i < n → g.getD i (-1) ≤ h.getD i (-1)) (hi : i < n) (hl : h.getD i (-1) ≤ (i : Int)) (hd : g.getD i (-1) ≠ h.getD i (-1)) : wtG h n < wtG g n := by
  induction n with
  | zero => omega
  | succ n ih =>
    simp only [wtG]
    by_cases he : i = n
    · subst he
      have h1 := wtG_le g h i (fun j hj => hh j (by omega))
      have h2 := hh i (by omega)
      omega
    · have h1 := ih (fun j hj => hh j (by omega)) (by omega)
      have h2 := hh n (by omega)
      omega
theorem next_wt {xs : List St} {g : List Int} (lv : List (List UInt8)) (h : GI xs g) (i : Nat) (hi : i < xs.length) (hd : (nextF xs g lv).getD i (-1) ≠ g.getD i (-1)) : wtG (nextF xs g lv) xs.length < wtG g xs.length :=
  wtG_lt g _ _ i (fun j hj => by rw [next_at _ _ _ _ hj]; exact (next_ge lv h j hj).1) hi (by rw [next_at _ _ _ _ hi]; exact (next_ge lv h i hi).2) (fun e => hd e.symm)

theorem followE_not (E : List (List UInt8 × Int)) (st : Int) (l : List UInt8) (h : ∀ e ∈ E, e.1 ≠ l) : followE E st l = st := by
  induction E with
  | nil => rfl
  | cons e E ih => simp only [followE]; rw [if_neg (h e (by simp))]; exact ih (fun x hx => h x (by simp [hx]))

/-- the numbers that states name lie among them -/
def inX (xs : List St) : Prop := ∀ x ∈ xs, (-1 ≤ x.star ∧ x.star < (xs.length : Int)) ∧ ∀ e ∈ x.edges, 0 ≤ e.2 ∧ e.2 < (xs.length : Int)
theorem step_in {xs : List St} (h : inX xs) (i : Nat) (hi : i < xs.length) (l : List UInt8) : stepS xs (i : Int) l = followE xs[i].edges xs[i].star l ∧ -1 ≤ stepS xs (i : Int) l ∧ stepS xs (i : Int) l < (xs.length : Int) := by
  have h1 : stepS xs (i : Int) l = followE xs[i].edges xs[i].star l := by unfold stepS; simp [List.getElem?_eq_getElem hi]
  refine ⟨h1, ?_⟩
  rw [h1]
  obtain ⟨hs, he⟩ := h xs[i] (List.getElem_mem hi)
  rcases followE_mem xs[i].edges xs[i].star l with h3 | h3
  · rw [h3]; exact hs
  · have := he _ h3; simp only at this; omega
theorem lang_step (xs : List St) (i : Nat) (l : List UInt8) (w : List (List UInt8)) : lang xs (i : Int) (l :: w) = lang xs (stepS xs (i : Int) l) w := by
  unfold lang; simp only [walkK]; rw [if_neg (by omega)]
theorem lang_less (xs : List St) (a : Int) (h : a < 0) (w : List (List UInt8)) : lang xs a w = [] := by
  unfold lang; rw [walkK_neg _ _ _ h, ansOf_neg _ _ h]

/-- at the end: what is in no group answers nothing -/
theorem fix_dead {xs : List St} {g : List Int} {lv : List (List UInt8)} (hI : GI xs g) (hx : inX xs) (hf : ∀ i, i < xs.length → cutF xs g lv i = g.getD i (-1)) (w : List (List UInt8)) : ∀ a : Int, a < (xs.length : Int) → grpF g a = -1 → lang xs a w = [] := by
  induction w with
  | nil =>
    intro a h1 h2
    by_cases ha : a < 0
    · exact lang_less xs a ha []
    · obtain ⟨i, rfl⟩ : ∃ i : Nat, a = i := ⟨a.toNat, by omega⟩
      rw [grpF_nat] at h2
      rw [lang_nil xs i (by omega)]
      exact hI.dead i (by omega) h2
  | cons l w ih =>
    intro a h1 h2
    by_cases ha : a < 0
    · exact lang_less xs a ha _
    · obtain ⟨i, rfl⟩ : ∃ i : Nat, a = i := ⟨a.toNat, by omega⟩
      have hi : i < xs.length := by omega
      rw [grpF_nat] at h2
      obtain ⟨s1, s2, s3⟩ := step_in hx i hi l
      rw [lang_step]
      refine ih _ s3 ?_
      rcases cut_cases xs g lv i hi with ⟨a1, a2, a3⟩ | ⟨m, hm, a1, a2, a3, _⟩
      · rw [deadF_iff] at a3
        rw [s1]
        rcases followE_mem xs[i].edges xs[i].star l with h3 | h3
        · rw [h3]; exact a3.1
        · exact a3.2 _ h3
      · have := hf i hi; omega
/-- at the end: a group is of one language -/
theorem fix_lang {xs : List St} {g : List Int} {lv : List (List UInt8)} (hI : GI xs g) (hx : inX xs) (hlv : ∀ x ∈ xs, ∀ e ∈ x.edges, e.1 ∈ lv) (hf : ∀ i, i < xs.length → cutF xs g lv i = g.getD i (-1)) (w : List (List UInt8)) :
    ∀ a b : Int, a < (xs.length : Int) → b < (xs.length : Int) → grpF g a = grpF g b → lang xs a w = lang xs b w := by
  induction w with
  | nil =>
    intro a b ha hb he
    by_cases hd : grpF g a = -1
    · rw [fix_dead hI hx hf [] a ha hd, fix_dead hI hx hf [] b hb (he ▸ hd)]
    · have h1 : ¬ a < 0 := fun h => hd (grpF_neg g a h)
      have h2 : ¬ b < 0 := fun h => hd (he.trans (grpF_neg g b h))
      obtain ⟨i, rfl⟩ : ∃ i : Nat, a = i := ⟨a.toNat, by omega⟩
      obtain ⟨j, rfl⟩ : ∃ j : Nat, b = j := ⟨b.toNat, by omega⟩
      rw [grpF_nat, grpF_nat] at he
      rw [lang_nil xs i (by omega), lang_nil xs j (by omega)]
      exact hI.ans i j (by omega) (by omega) he
  | cons l w ih =>
    intro a b ha hb he
    by_cases hd : grpF g a = -1
    · rw [fix_dead hI hx hf _ a ha hd, fix_dead hI hx hf _ b hb (he ▸ hd)]
    · have h1 : ¬ a < 0 := fun h => hd (grpF_neg g a h)
      have h2 : ¬ b < 0 := fun h => hd (he.trans (grpF_neg g b h))
      obtain ⟨i, rfl⟩ : ∃ i : Nat, a = i := ⟨a.toNat, by omega⟩
      obtain ⟨j, rfl⟩ : ∃ j : Nat, b = j := ⟨b.toNat, by omega⟩
      have hi : i < xs.length := by omega
      have hj : j < xs.length := by omega
      rw [grpF_nat] at hd
      rw [grpF_nat, grpF_nat] at he
      have hfi := hf i hi
      have hfj := hf j hj
      rw [lang_step, lang_step]
      obtain ⟨s1, s2, s3⟩ := step_in hx i hi l
      obtain ⟨t1, t2, t3⟩ := step_in hx j hj l
      refine ih _ _ s3 t3 ?_
      rw [s1, t1]
      rcases cut_cases xs g lv i hi with ⟨a1, a2, a3⟩ | ⟨m, hm, a1, a2, a3, a4⟩
      · exact absurd a2 hd
      rcases cut_cases xs g lv j hj with ⟨b1, b2, b3⟩ | ⟨n, hn, b1, b2, b3, b4⟩
      · exact absurd (he.trans b2) hd
      obtain rfl : m = n := by omega
      have hs := sameF_join a4 b4
      rw [sameF_iff] at hs
      by_cases hl : l ∈ lv
      · exact hs.2 l hl
      · rw [followE_not xs[i].edges xs[i].star l (fun e h e2 => hl (by rw [← e2]; exact hlv _ (List.getElem_mem hi) e h)), followE_not xs[j].edges xs[j].star l (fun e h e2 => hl (by rw [← e2]; exact hlv _ (List.getElem_mem hj) e h))]
        exact hs.1

/-- so in a good machine no two states share a group, and none is in no group -/
theorem fix_least {xs : List St} {g : List Int} {lv : List (List UInt8)} (hG : Good xs) (hI : GI xs g) (hx : inX xs) (hlv : ∀ x ∈ xs, ∀ e ∈ x.edges, e.1 ∈ lv) (hf : ∀ i, i < xs.length → cutF xs g lv i = g.getD i (-1)) :
    (∀ i, 2 ≤ i → i < xs.length → g.getD i (-1) ≠ -1) ∧ ∀ i j, 2 ≤ j → j < i → i < xs.length → g.getD i (-1) ≠ g.getD j (-1) := by
  refine ⟨fun i h2 hi he => ?_, fun i j h2 hj hi he => ?_⟩
  · obtain ⟨w, _, hw⟩ := good_live xs hG i i (Nat.le_refl _) h2 hi
    exact hw (fix_dead hI hx hf w i (by omega) (by rw [grpF_nat]; exact he))
  · have := good_min xs hG i j (by omega) h2 hi (by omega) (fun w _ => fix_lang hI hx hlv hf w i j (by omega) (by omega) (by rw [grpF_nat, grpF_nat]; exact he))
    omega

/-- the groups by their answers -/
def ansP (xs : List St) (i j : Nat) : Bool :=
  match xs[i]?, xs[j]? with
  | some x, some y => decide (y.ans = x.ans) && decide (x.ans ≠ [])
  | _, _ => false
def g0F (xs : List St) : List Int := (List.range xs.length).map fun i => lastF (ansP xs i) (i + 1) (-1)
theorem g0_at (xs : List St) (i : Nat) (hi : i < xs.length) : (g0F xs).getD i (-1) = lastF (ansP xs i) (i + 1) (-1) := by
  unfold g0F; simp [List.getD, List.getElem?_map, List.getElem?_range hi]
theorem ansP_iff (xs : List St) (i j : Nat) (hi : i < xs.length) (hj : j < xs.length) : ansP xs i j = true ↔ xs[j].ans = xs[i].ans ∧ xs[i].ans ≠ [] := by
  unfold ansP; rw [List.getElem?_eq_getElem hi, List.getElem?_eq_getElem hj]; simp
theorem g0_cases (xs : List St) (i : Nat) (hi : i < xs.length) : ((g0F xs).getD i (-1) = -1 ∧ xs[i].ans = []) ∨ ∃ m : Nat, ∃ hm : m < xs.length, m ≤ i ∧ (g0F xs).getD i (-1) = (m : Int) ∧ xs[m].ans = xs[i].ans := by
  rw [g0_at xs i hi]
  rcases lastF_spec (ansP xs i) (i + 1) (-1) with ⟨h1, h2⟩ | ⟨m, h1, h2, h3⟩
  · refine Or.inl ⟨h1, ?_⟩
    have h := h2 i (by omega)
    by_cases ha : xs[i].ans = []
    · exact ha
    · rw [(ansP_iff xs i i hi hi).2 ⟨rfl, ha⟩] at h
      cases h
  · exact Or.inr ⟨m, by omega, by omega, h2, ((ansP_iff xs i m hi (by omega)).1 h3).1⟩
theorem g0_inv (xs : List St) : GI xs (g0F xs) := by
  refine ⟨by unfold g0F; simp, fun i hi => ?_, fun i j hi hj he => ?_, fun i hi he => ?_⟩
  · rcases g0_cases xs i hi with ⟨h1, _⟩ | ⟨m, hm, h1, h2, _⟩
    · rw [h1]; omega
    · rw [h2]; omega
  · rcases g0_cases xs i hi with ⟨a1, a2⟩ | ⟨m, hm, a1, a2, a3⟩
    · rcases g0_cases xs j hj with ⟨b1, b2⟩ | ⟨n, hn, b1, b2, b3⟩
      · rw [a2, b2]
      · omega
    · rcases g0_cases xs j hj with ⟨b1, b2⟩ | ⟨n, hn, b1, b2, b3⟩
      · omega
      · obtain rfl : m = n := by omega
        exact a3.symm.trans b3
  · rcases g0_cases xs i hi with ⟨a1, a2⟩ | ⟨m, hm, a1, a2, a3⟩
    · exact a2
    · omega

/-- a set of states that is closed holds all that are reached -/
def closedR (xs : List St) (r : List Bool) : Prop := ∀ i (hi : i < xs.length), r.getD i false = true → (0 ≤ xs[i].star → r.getD xs[i].star.toNat false = true) ∧ ∀ e ∈ xs[i].edges, r.getD e.2.toNat false = true
theorem closed_walk {xs : List St} {r : List Bool} (hx : inX xs) (h : closedR xs r) (w : List (List UInt8)) : ∀ k : Nat, k < xs.length → r.getD k false = true → ∀ m : Nat, walkK xs (k : Int) w = (m : Int) → r.getD m false = true := by
  induction w with
  | nil => intro k hk hr m hm; simp only [walkK] at hm; obtain rfl : k = m := by omega
           exact hr
  | cons l w ih =>
    intro k hk hr m hm
    simp only [walkK] at hm
    rw [if_neg (by omega)] at hm
    obtain ⟨s1, s2, s3⟩ := step_in hx k hk l
    by_cases hn : stepS xs (k : Int) l < 0
    · rw [walkK_neg _ _ _ hn] at hm; omega
    · obtain ⟨j, hj⟩ : ∃ j : Nat, stepS xs (k : Int) l = j := ⟨(stepS xs (k : Int) l).toNat, by omega⟩
      rw [hj] at hm
      refine ih j (by omega) ?_ m hm
      obtain ⟨c1, c2⟩ := h k hk hr
      rw [s1] at hj
      rcases followE_mem xs[k].edges xs[k].star l with h3 | h3
      · rw [h3] at hj
        have := c1 (by omega)
        rw [hj] at this; simpa using this
      · have := c2 _ h3
        simp only [hj] at this; simpa using this
theorem closed_reach {xs : List St} {r : List Bool} (hx : inX xs) (h : closedR xs r) (h2 : 2 ≤ xs.length) (r0 : r.getD 0 false = true) (r1 : r.getD 1 false = true) (m : Nat) (hm : Reach xs 0 m ∨ Reach xs 1 m) : r.getD m false = true := by
  rcases hm with ⟨w, _, hw⟩ | ⟨w, _, hw⟩
  · exact closed_walk hx h w 0 (by omega) r0 m hw
  · exact closed_walk hx h w 1 (by omega) r1 m hw

theorem ok_in {L : List PairL} {xs : List St} (h : CodeOK L xs) : inX xs := by
  intro x hx
  obtain ⟨h1, h2⟩ := h.okS x hx
  unfold belowS at h2
  simp only [Bool.and_eq_true, decide_eq_true_eq] at h2
  refine ⟨⟨h1.star.1, h2.2⟩, fun e he => ⟨(h1.lev e he).2.1, ?_⟩⟩
  have h3 := h2.1
  unfold belowE at h3
  simpa using List.all_eq_true.1 h3 e he

end Go.Proofs.YtchhmojnoiephabGreatDoor

/- Plain mathematics: the levels that edges name, each once (hubref.all). -/
namespace Go.Proofs.YtchhmojnoiephabGreatDoor

def addL (lv : List (List UInt8)) (l : List UInt8) : List (List UInt8) := if l ∈ lv then lv else lv ++ [l]
def addE (lv : List (List UInt8)) (E : List (List UInt8 × Int)) : List (List UInt8) := E.foldl (fun lv e => addL lv e.1) lv
def allF (xs : List St) : List (List UInt8) := xs.foldl (fun lv x => addE lv x.edges) []

theorem addL_mem (lv : List (List UInt8)) (l : List UInt8) : l ∈ addL lv l ∧ (∀ m ∈ lv, m ∈ addL lv l) ∧ (addL lv l).length ≤ lv.length + 1 := by
  unfold addL
  split
  · rename_i h; exact ⟨h, fun m hm => hm, by omega⟩
  · exact ⟨by simp, fun m hm => by simp [hm], by simp⟩
theorem addE_mem (E : List (List UInt8 × Int)) : ∀ lv, (∀ e ∈ E, e.1 ∈ addE lv E) ∧ (∀ m ∈ lv, m ∈ addE lv E) ∧ (addE lv E).length ≤ lv.length + E.length := by
  induction E with
  | nil => intro lv; exact ⟨by simp, fun m hm => hm, by simp [addE]⟩
  | cons x E ih =>
    intro lv
    obtain ⟨h1, h2, h3⟩ := ih (addL lv x.1)
    obtain ⟨k1, k2, k3⟩ := addL_mem lv x.1
    have he : addE lv (x :: E) = addE (addL lv x.1) E := rfl
    rw [he]
    refine ⟨fun e hm => ?_, fun m hm => h2 m (k2 m hm), by simp only [List.length_cons]; omega⟩
    rcases List.mem_cons.1 hm with rfl | hm
    · exact h2 _ k1
    · exact h1 e hm
theorem allF_mem (xs : List St) : (∀ x ∈ xs, ∀ e ∈ x.edges, e.1 ∈ allF xs) ∧ (allF xs).length ≤ (xs.map fun x => x.edges.length).sum := by
  have : ∀ (xs : List St) (lv : List (List UInt8)), (∀ x ∈ xs, ∀ e ∈ x.edges, e.1 ∈ xs.foldl (fun lv x => addE lv x.edges) lv) ∧ (∀ m ∈ lv, m ∈ xs.foldl (fun lv x => addE lv x.edges) lv) ∧ (xs.foldl (fun lv x => addE lv x.edges) lv).length ≤ lv.length + (xs.map fun x => x.edges.length).sum := by
    intro xs
    induction xs with
    | nil => intro lv; exact ⟨by simp, fun m hm => hm, by simp⟩
    | cons y xs ih =>
      intro lv
      obtain ⟨h1, h2, h3⟩ := ih (addE lv y.edges)
      obtain ⟨k1, k2, k3⟩ := addE_mem y.edges lv
      simp only [List.foldl_cons, List.map_cons, List.sum_cons]
      refine ⟨fun x hx e he => ?_, fun m hm => h2 m (k2 m hm), by omega⟩
      rcases List.mem_cons.1 hx with rfl | hx
      · exact h2 _ (k1 e he)
      · exact h1 x hx e he
  obtain ⟨h1, _, h3⟩ := this xs []
  exact ⟨h1, by simpa [allF] using h3⟩

/-- a code of at most 40000 signs has no more edges than that -/
theorem edges_few (xs : List St) (h : (joinP (xs.map render)).length ≤ 40000) : (xs.map fun x => x.edges.length).sum ≤ 40000 := by
  have hE : ∀ E : List (List UInt8 × Int), E.length ≤ (rEdges E).length := by
    intro E
    induction E with
    | nil => simp
    | cons e E ih =>
      unfold rEdges at ih ⊢
      have h1 : 0 < (rEdge e).length := by unfold rEdge; simp
      rw [List.flatMap_cons, List.length_append, List.length_cons]
      omega
  have hj : ∀ P : List (List UInt8), (P.map List.length).sum ≤ (joinP P).length := by
    intro P
    induction P with
    | nil => simp [joinP]
    | cons p P ih =>
      cases P with
      | nil => simp [joinP]
      | cons q r => simp only [joinP, List.map_cons, List.sum_cons, List.length_append, List.length_cons] at ih ⊢; omega
  have h1 := hj (xs.map render)
  have h2 : (xs.map fun x => x.edges.length).sum ≤ ((xs.map render).map List.length).sum := by
    clear h h1 hj
    induction xs with
    | nil => simp
    | cons x xs ih =>
      have := hE x.edges
      simp only [List.map_cons, List.sum_cons, render, List.length_append] at ih ⊢
      omega
  omega

end Go.Proofs.YtchhmojnoiephabGreatDoor

/- Plain mathematics: which states are come to (hubref.reached). -/
namespace Go.Proofs.YtchhmojnoiephabGreatDoor

/-- how many are not come to -/
def cntF (r : List Bool) : Nat := r.countP (fun b => !b)
theorem cnt_set (r : List Bool) : ∀ i, i < r.length → r.getD i false = false → cntF (r.set i true) + 1 = cntF r := by
  induction r with
  | nil => intro i h; simp at h
  | cons b r ih =>
    intro i h hf
    cases i with
    | zero => simp [List.getD] at hf; subst hf; simp [cntF]
    | succ i =>
      have h1 := ih i (by simpa using h) (by simpa [List.getD] using hf)
      unfold cntF at h1 ⊢
      rw [List.set_cons_succ, List.countP_cons, List.countP_cons]
      omega
theorem getD_set (r : List Bool) (i j : Nat) (h : r.getD j false = true) : (r.set i true).getD j false = true := by
  simp only [List.getD, List.getElem?_set] at h ⊢
  by_cases he : i = j
  · subst he
    by_cases hl : i < r.length
    · simp [hl]
    · simp [List.getElem?_eq_none (show r.length ≤ i by omega)] at h
  · simp only [he, if_false]; exact h

def clAt (xs : List St) (r : List Bool) (i : Nat) : Prop := ∀ (hi : i < xs.length), r.getD i false = true → (0 ≤ xs[i].star → r.getD xs[i].star.toNat false = true) ∧ ∀ e ∈ xs[i].edges, r.getD e.2.toNat false = true
def clTo (x : St) (r : List Bool) (k : Nat) : Prop := (1 ≤ k → 0 ≤ x.star → r.getD x.star.toNat false = true) ∧ ∀ j (hj : j < x.edges.length), j + 1 < k → r.getD x.edges[j].2.toNat false = true

/-- at state n, in a round that began with r0 -/
structure RI (xs : List St) (r0 r : List Bool) (a : Bool) (n : Nat) : Prop where
  len : r.length = xs.length
  one : r.getD 0 false = true ∧ r.getD 1 false = true
  yes : a = true → cntF r < cntF r0
  no : a = false → r = r0 ∧ ∀ i, i < n → clAt xs r i

theorem RI.start {xs : List St} {r : List Bool} (h : r.length = xs.length) (h1 : r.getD 0 false = true ∧ r.getD 1 false = true) : RI xs r r false 0 :=
  ⟨h, h1, (fun h => by cases h), fun _ => ⟨rfl, fun i hi => by omega⟩⟩
theorem RI.closed {xs : List St} {r0 r : List Bool} (h : RI xs r0 r false xs.length) : closedR xs r := fun i hi hr => (h.no rfl).2 i hi hi hr
theorem RI.not {xs : List St} {r0 r : List Bool} {a : Bool} {n : Nat} (h : RI xs r0 r a n) (hr : r.getD n false = false) : RI xs r0 r a (n + 1) :=
  ⟨h.len, h.one, h.yes, fun ha => ⟨(h.no ha).1, fun i hi => by
    by_cases hin : i = n
    · subst hin; intro _ h2; rw [hr] at h2; cases h2
    · exact (h.no ha).2 i (by omega)⟩⟩
theorem RI.all {xs : List St} {r0 r : List Bool} {a : Bool} {n : Nat} (h : RI xs r0 r a n) (hn : n < xs.length) (hk : a = false → clTo xs[n] r (xs[n].edges.length + 1)) : RI xs r0 r a (n + 1) :=
  ⟨h.len, h.one, h.yes, fun ha => ⟨(h.no ha).1, fun i hi => by
    by_cases hin : i = n
    · subst hin
      intro _ h2
      obtain ⟨h3, h4⟩ := hk ha
      refine ⟨h3 (by omega), fun e he => ?_⟩
      obtain ⟨j, hj, rfl⟩ := List.mem_iff_getElem.1 he
      exact h4 j hj (by omega)
    · exact (h.no ha).2 i (by omega)⟩⟩
theorem RI.mark {xs : List St} {r0 r : List Bool} {a : Bool} {n : Nat} (h : RI xs r0 r a n) (t : Nat) (ht : t < xs.length) (hf : r.getD t false = false) : RI xs r0 (r.set t true) true n := by
  have hc := cnt_set r t (by rw [h.len]; exact ht) hf
  refine ⟨by rw [List.length_set]; exact h.len, ⟨getD_set _ _ _ h.one.1, getD_set _ _ _ h.one.2⟩, fun _ => ?_, fun h => by cases h⟩
  cases a with
  | true => have := h.yes rfl; omega
  | false => have := (h.no rfl).1; subst this; omega
theorem clTo_zero (x : St) (r : List Bool) : clTo x r 0 := ⟨fun h => by omega, fun j _ h => by omega⟩
theorem clTo_star {x : St} {r : List Bool} (h : 0 ≤ x.star → r.getD x.star.toNat false = true) : clTo x r 1 := ⟨fun _ => h, fun j _ h => by omega⟩
theorem clTo_edge {x : St} {r : List Bool} {k : Nat} (h : clTo x r (k + 1)) (hk : k < x.edges.length) (he : r.getD x.edges[k].2.toNat false = true) : clTo x r (k + 2) :=
  ⟨fun _ => h.1 (by omega), fun j hj h2 => by
    by_cases hjk : j = k
    · subst hjk; exact he
    · exact h.2 j hj (by omega)⟩

end Go.Proofs.YtchhmojnoiephabGreatDoor
