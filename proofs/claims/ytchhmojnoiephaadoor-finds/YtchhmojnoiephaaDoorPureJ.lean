import Derived.Test.YtchhmojnoiephaaDoorPureI
import Derived.Test.YtchhmojnoiephaaDoorPureG
/- Plain mathematics: a table's pairs on their way along a topic (P9): threads, levels, the machine that is built of them. -/
namespace Go.Proofs.YtchhmojnoiephaaDoor

/-- what is left of a filter's levels, and who -/
abbrev Thr := List (List UInt8) × Int

def meetT (m : List UInt8) : Thr → Option Thr
  | ([], _) => none
  | (l :: r, q) => if l = [43] ∨ l = m then some (r, q) else if l = [35] then some (l :: r, q) else none
def meetL (m : List UInt8) (T : List Thr) : List Thr := T.filterMap (meetT m)
def meets : List Thr → List (List UInt8) → List Thr
  | T, [] => T
  | T, m :: w => meets (meetL m T) w

def arrB : Thr → Bool
  | ([], _) => true
  | (l :: _, _) => l == [35]
def stayB : Thr → Bool
  | ([], _) => false
  | (l :: _, _) => l == [35]

def hasA (T : List Thr) (n : Nat) : Bool := T.any fun t => t.2 == (n : Int) && arrB t
def ansTo (T : List Thr) (k : Nat) : List UInt8 := ((List.range k).filter (hasA T)).map fun n => UInt8.ofNat (65 + n)
def ansT (T : List Thr) : List UInt8 := ansTo T 16

def insL (m : List UInt8) (ls : List (List UInt8)) : List (List UInt8) := ls.filter (fun t => Go.Op.bytesLess t m) ++ m :: ls.filter (fun t => Go.Op.bytesLess m t)
def levT (ls : List (List UInt8)) : Thr → List (List UInt8)
  | ([], _) => ls
  | (l :: _, _) => if l = [43] ∨ l = [35] then ls else insL l ls
def levsT (T : List Thr) : List (List UInt8) := T.foldl levT []

/-- a row of signs -/
def sgnL (l : List UInt8) : Prop := ∀ c ∈ l, signB (c.toNat : Int) = true
/-- a level of a filter -/
def levF (l : List UInt8) : Prop := sgnL l ∨ l = [43] ∨ l = [35]
/-- a thread of a filter: # stands last -/
def goodT (t : Thr) : Prop := (∀ l ∈ t.1, levF l ∧ l.length ≤ 24) ∧ ∀ i (h : i < t.1.length), t.1[i] = [35] → i + 1 = t.1.length

theorem sgn_not_hash (l : List UInt8) (h : sgnL l) : l ≠ [35] ∧ l ≠ [43] ∧ l ≠ [42] := by
  refine ⟨?_, ?_, ?_⟩ <;> (rintro rfl; have := h _ (List.mem_singleton.2 rfl); simp [signB] at this)

theorem less_irrefl (a : List UInt8) : Go.Op.bytesLess a a = false := by
  induction a with
  | nil => rfl
  | cons x a ih => simp [Go.Op.bytesLess, ih]
theorem less_trans (a b c : List UInt8) : Go.Op.bytesLess a b = true → Go.Op.bytesLess b c = true → Go.Op.bytesLess a c = true := by
  induction a generalizing b c with
  | nil =>
    intro h1 h2
    cases b with
    | nil => simp [Go.Op.bytesLess] at h1
    | cons y b => cases c with
      | nil => simp [Go.Op.bytesLess] at h2
      | cons z c => rfl
  | cons x a ih =>
    intro h1 h2
    cases b with
    | nil => simp [Go.Op.bytesLess] at h1
    | cons y b => cases c with
      | nil => simp [Go.Op.bytesLess] at h2
      | cons z c =>
        simp only [Go.Op.bytesLess, Bool.or_eq_true, decide_eq_true_eq, Bool.and_eq_true, beq_iff_eq] at h1 h2 ⊢
        rcases h1 with h1 | ⟨rfl, h1⟩
        · rcases h2 with h2 | ⟨rfl, h2⟩
          · exact Or.inl (UInt8.lt_trans h1 h2)
          · exact Or.inl h1
        · rcases h2 with h2 | ⟨rfl, h2⟩
          · exact Or.inl h2
          · exact Or.inr ⟨rfl, ih _ _ h1 h2⟩
theorem less_total (a b : List UInt8) : a = b ∨ Go.Op.bytesLess a b = true ∨ Go.Op.bytesLess b a = true := by
  induction a generalizing b with
  | nil => cases b with
    | nil => exact Or.inl rfl
    | cons y b => exact Or.inr (Or.inl rfl)
  | cons x a ih => cases b with
    | nil => exact Or.inr (Or.inr rfl)
    | cons y b =>
      simp only [Go.Op.bytesLess, Bool.or_eq_true, decide_eq_true_eq, Bool.and_eq_true, beq_iff_eq]
      by_cases hxy : x = y
      · subst hxy
        rcases ih b with h | h | h
        · exact Or.inl (by rw [h])
        · exact Or.inr (Or.inl (Or.inr ⟨rfl, h⟩))
        · exact Or.inr (Or.inr (Or.inr ⟨rfl, h⟩))
      · rcases UInt8.lt_or_lt_of_ne hxy with h | h
        · exact Or.inr (Or.inl (Or.inl h))
        · exact Or.inr (Or.inr (Or.inl h))
theorem less_asymm (a b : List UInt8) (h : Go.Op.bytesLess a b = true) : Go.Op.bytesLess b a = false := by
  cases hb : Go.Op.bytesLess b a
  · rfl
  · have := less_trans a b a h hb; rw [less_irrefl] at this; cases this

/-- levels that rise -/
def Rise (ls : List (List UInt8)) : Prop := ls.Pairwise fun a b => Go.Op.bytesLess a b = true

theorem insL_mem (m x : List UInt8) (ls : List (List UInt8)) : x ∈ insL m ls ↔ x = m ∨ x ∈ ls := by
  unfold insL
  simp only [List.mem_append, List.mem_filter, List.mem_cons]
  constructor
  · rintro (⟨h, _⟩ | rfl | ⟨h, _⟩)
    · exact Or.inr h
    · exact Or.inl rfl
    · exact Or.inr h
  · rintro (rfl | h)
    · exact Or.inr (Or.inl rfl)
    · rcases less_total x m with rfl | h1 | h1
      · exact Or.inr (Or.inl rfl)
      · exact Or.inl ⟨h, h1⟩
      · exact Or.inr (Or.inr ⟨h, h1⟩)
theorem insL_rise (m : List UInt8) (ls : List (List UInt8)) (h : Rise ls) : Rise (insL m ls) := by
  unfold insL Rise
  rw [List.pairwise_append]
  refine ⟨h.filter _, ?_, fun a ha b hb => ?_⟩
  · rw [List.pairwise_cons]
    exact ⟨fun b hb => (List.mem_filter.1 hb).2, h.filter _⟩
  · have h1 := (List.mem_filter.1 ha).2
    rcases List.mem_cons.1 hb with rfl | hb
    · exact h1
    · exact less_trans a m b h1 (List.mem_filter.1 hb).2

theorem levFold_rise (T : List Thr) : ∀ ls, Rise ls → Rise (T.foldl levT ls) := by
  induction T with
  | nil => intro ls h; exact h
  | cons t T ih =>
    intro ls h
    refine ih _ ?_
    obtain ⟨r, q⟩ := t
    cases r with
    | nil => exact h
    | cons l r => simp only [levT]; split; exact h; exact insL_rise _ _ h
theorem levsT_rise (T : List Thr) : Rise (levsT T) := levFold_rise T [] List.Pairwise.nil

theorem levFold_mem (T : List Thr) (x : List UInt8) : ∀ ls, x ∈ T.foldl levT ls ↔ x ∈ ls ∨ ∃ r q, (x :: r, q) ∈ T ∧ x ≠ [43] ∧ x ≠ [35] := by
  induction T with
  | nil => intro ls; simp
  | cons t T ih =>
    intro ls
    rw [List.foldl_cons, ih]
    obtain ⟨r, q⟩ := t
    cases r with
    | nil =>
      simp only [levT]
      constructor
      · rintro (h | ⟨r, q', h, h2⟩)
        · exact Or.inl h
        · exact Or.inr ⟨r, q', List.mem_cons_of_mem _ h, h2⟩
      · rintro (h | ⟨r, q', h, h2⟩)
        · exact Or.inl h
        · rcases List.mem_cons.1 h with h | h
          · simp at h
          · exact Or.inr ⟨r, q', h, h2⟩
    | cons l r =>
      simp only [levT]
      by_cases hl : l = [43] ∨ l = [35]
      · rw [if_pos hl]
        constructor
        · rintro (h | ⟨r, q', h, h2⟩)
          · exact Or.inl h
          · exact Or.inr ⟨r, q', List.mem_cons_of_mem _ h, h2⟩
        · rintro (h | ⟨r', q', h, h2, h3⟩)
          · exact Or.inl h
          · rcases List.mem_cons.1 h with h | h
            · simp only [Prod.mk.injEq, List.cons.injEq] at h
              obtain ⟨⟨rfl, rfl⟩, rfl⟩ := h
              rcases hl with hl | hl
              · exact absurd hl h2
              · exact absurd hl h3
            · exact Or.inr ⟨r', q', h, h2, h3⟩
      · rw [if_neg hl, insL_mem]
        constructor
        · rintro ((rfl | h) | ⟨r', q', h, h2⟩)
          · exact Or.inr ⟨r, q, by simp, fun e => hl (Or.inl e), fun e => hl (Or.inr e)⟩
          · exact Or.inl h
          · exact Or.inr ⟨r', q', List.mem_cons_of_mem _ h, h2⟩
        · rintro (h | ⟨r', q', h, h2⟩)
          · exact Or.inl (Or.inr h)
          · rcases List.mem_cons.1 h with h | h
            · simp only [Prod.mk.injEq, List.cons.injEq] at h
              exact Or.inl (Or.inl h.1.1)
            · exact Or.inr ⟨r', q', h, h2⟩
theorem levsT_mem (T : List Thr) (x : List UInt8) : x ∈ levsT T ↔ ∃ r q, (x :: r, q) ∈ T ∧ x ≠ [43] ∧ x ≠ [35] := by
  unfold levsT; rw [levFold_mem]; simp

theorem fmap_congr {α β : Type} {f g : α → Option β} : ∀ l : List α, (∀ x ∈ l, f x = g x) → l.filterMap f = l.filterMap g
  | [], _ => rfl
  | a :: l, h => by
    rw [List.filterMap_cons, List.filterMap_cons, h a (by simp), fmap_congr l (fun x hx => h x (by simp [hx]))]

/-- a level that no thread names is met as any other -/
theorem meet_other (T : List Thr) (m : List UInt8) (hT : ∀ t ∈ T, goodT t) (hm : sgnL m) (hn : m ∉ levsT T) : meetL m T = meetL [42] T := by
  unfold meetL
  apply fmap_congr
  intro t ht
  obtain ⟨r, q⟩ := t
  cases r with
  | nil => rfl
  | cons l r =>
    simp only [meetT]
    have h1 : l ≠ m := fun e => hn ((levsT_mem T m).2 ⟨r, q, e ▸ ht, (sgn_not_hash m hm).2.1, (sgn_not_hash m hm).1⟩)
    have h2 : l ≠ [42] := by
      rcases ((hT _ ht).1 l (by simp)).1 with h | h | h
      · exact (sgn_not_hash l h).2.2
      · rw [h]; simp
      · rw [h]; simp
    simp [h1, h2]

/-- a level that may be met -/
def metL (m : List UInt8) : Prop := sgnL m ∨ m = [42]
theorem metL_not (m : List UInt8) (h : metL m) : m ≠ [35] ∧ m ≠ [43] := by
  rcases h with h | rfl
  · exact ⟨(sgn_not_hash m h).1, (sgn_not_hash m h).2.1⟩
  · simp

def depT (t : Thr) : Nat := if t.1 = [[35]] then 0 else t.1.length + 1

theorem good_tail {l : List UInt8} {r : List (List UInt8)} {q : Int} (h : goodT (l :: r, q)) : goodT (r, q) := by
  refine ⟨fun x hx => h.1 x (by simp [hx]), fun i hi he => ?_⟩
  have := h.2 (i + 1) (by simpa using hi) (by simpa using he)
  simp at this ⊢; omega
theorem good_hash {r : List (List UInt8)} {q : Int} (h : goodT ([35] :: r, q)) : r = [] := by
  have := h.2 0 (by simp) (by simp)
  simp at this; exact this

theorem meetT_good {m : List UInt8} {t u : Thr} (ht : goodT t) (hm : metL m) (h : meetT m t = some u) : goodT u ∧ u.2 = t.2 ∧ depT u ≤ depT t - 1 := by
  obtain ⟨r, q⟩ := t
  cases r with
  | nil => simp [meetT] at h
  | cons l r =>
    simp only [meetT] at h
    split at h
    · rename_i h1
      simp only [Option.some.injEq] at h; subst h
      have hl : l ≠ [35] := by
        rcases h1 with rfl | rfl
        · simp
        · exact (metL_not l hm).1
      refine ⟨good_tail ht, rfl, ?_⟩
      have e1 : depT (l :: r, q) = r.length + 2 := by
        unfold depT; rw [if_neg (by simp [hl])]; simp
      rw [e1]
      unfold depT; split <;> (try simp) <;> omega
    · split at h
      · rename_i h2
        simp only [Option.some.injEq] at h; subst h; subst h2
        have := good_hash ht
        subst this
        exact ⟨ht, rfl, by simp [depT]⟩
      · cases h

theorem meetL_good {m : List UInt8} {T : List Thr} (hT : ∀ t ∈ T, goodT t) (hm : metL m) : ∀ t ∈ meetL m T, goodT t := by
  intro u hu
  obtain ⟨t, ht, he⟩ := List.mem_filterMap.1 hu
  exact (meetT_good (hT t ht) hm he).1
theorem meetL_dep {m : List UInt8} {T : List Thr} {n : Nat} (hT : ∀ t ∈ T, goodT t) (hm : metL m) (hd : ∀ t ∈ T, depT t ≤ n + 1) : ∀ t ∈ meetL m T, depT t ≤ n := by
  intro u hu
  obtain ⟨t, ht, he⟩ := List.mem_filterMap.1 hu
  have := (meetT_good (hT t ht) hm he).2.2
  have := hd t ht
  omega

/-- what a thread has become -/
def aft : Thr → List (List UInt8) → Option Thr
  | t, [] => some t
  | t, m :: w => (meetT m t).bind fun u => aft u w
theorem meets_aft (w : List (List UInt8)) : ∀ T, meets T w = T.filterMap fun t => aft t w := by
  induction w with
  | nil => intro T; simp [meets, aft]
  | cons m w ih => intro T; simp only [meets, aft, ih, meetL, List.filterMap_filterMap]
theorem meets_append (w v : List (List UInt8)) : ∀ T, meets T (w ++ v) = meets (meets T w) v := by
  induction w with
  | nil => intro T; rfl
  | cons m w ih => intro T; simp only [meets, List.cons_append, ih]

theorem aft_who (w : List (List UInt8)) : ∀ t u, aft t w = some u → u.2 = t.2 := by
  induction w with
  | nil => intro t u h; simp [aft] at h; rw [h]
  | cons m w ih =>
    intro t u h
    simp only [aft] at h
    cases hm : meetT m t with
    | none => rw [hm] at h; cases h
    | some v =>
      rw [hm] at h
      rw [ih v u h]
      obtain ⟨r, q⟩ := t
      cases r with
      | nil => simp [meetT] at hm
      | cons l r =>
        simp only [meetT] at hm
        split at hm
        · simp only [Option.some.injEq] at hm; subst hm; rfl
        · split at hm
          · simp only [Option.some.injEq] at hm; subst hm; rfl
          · cases hm

def arrO : Option Thr → Bool
  | none => false
  | some t => arrB t

theorem aft_fits (w : List (List UInt8)) (hw : ∀ m ∈ w, metL m) : ∀ t : Thr, arrO (aft t w) = fitsL t.1 w := by
  induction w with
  | nil =>
    intro t
    obtain ⟨r, q⟩ := t
    cases r with
    | nil => rfl
    | cons l r => simp only [aft, arrO, arrB, fitsL]; by_cases h : l = [35] <;> simp [h]
  | cons m w ih =>
    intro t
    obtain ⟨r, q⟩ := t
    have hm := metL_not m (hw m (by simp))
    cases r with
    | nil => simp [aft, meetT, arrO, fitsL]
    | cons l r =>
      simp only [aft, meetT, fitsL]
      by_cases h35 : l = [35]
      · subst h35
        rw [if_neg (by rintro (h | h); simp at h; exact hm.1 h.symm), if_pos rfl, if_pos rfl]
        simp only [Option.bind_some]
        rw [ih (fun x hx => hw x (by simp [hx]))]
        cases w <;> simp [fitsL]
      · rw [if_neg h35, if_neg h35]
        by_cases h : l = [43] ∨ l = m
        · rw [if_pos h, if_pos h]
          simp only [Option.bind_some]
          exact ih (fun x hx => hw x (by simp [hx])) (r, q)
        · rw [if_neg h, if_neg h]; rfl

/-- who is answered behind a row of levels -/
theorem hasA_meets (w : List (List UInt8)) (hw : ∀ m ∈ w, metL m) (T : List Thr) (n : Nat) : hasA (meets T w) n = T.any fun t => t.2 == (n : Int) && fitsL t.1 w := by
  rw [meets_aft]
  unfold hasA
  induction T with
  | nil => rfl
  | cons t T ih =>
    rw [List.any_cons, ← ih]
    have hf := aft_fits w hw t
    cases ha : aft t w with
    | none => rw [List.filterMap_cons_none (f := fun t => aft t w) ha]; rw [ha] at hf; simp only [arrO] at hf; rw [← hf]; simp
    | some u => rw [List.filterMap_cons_some (f := fun t => aft t w) ha, List.any_cons]; rw [ha] at hf; simp only [arrO] at hf; rw [hf, aft_who w t u ha]

end Go.Proofs.YtchhmojnoiephaaDoor
