import Derived.Test.YtchhmojnoiephabGreatDoorPureE
/- Plain mathematics: a walk through code (P8). -/
namespace Go.Proofs.YtchhmojnoiephabGreatDoor

def followE : List (List UInt8 × Int) → Int → List UInt8 → Int
  | [], st, _ => st
  | e :: E, st, l => if e.1 = l then e.2 else followE E st l

theorem followE_hit (E : List (List UInt8 × Int)) (st : Int) (l : List UInt8) (k : Nat) (h : k < E.length) (he : E[k].1 = l) : followE (E.drop k) st l = E[k].2 := by
  rw [List.drop_eq_getElem_cons h]; simp only [followE]; rw [if_pos he]
theorem followE_miss (E : List (List UInt8 × Int)) (st : Int) (l : List UInt8) (k : Nat) (h : k < E.length) (he : ¬ E[k].1 = l) : followE (E.drop k) st l = followE (E.drop (k + 1)) st l := by
  rw [List.drop_eq_getElem_cons h]; simp only [followE]; rw [if_neg he]
theorem followE_end (E : List (List UInt8 × Int)) (st : Int) (l : List UInt8) (k : Nat) (h : ¬ k < E.length) : followE (E.drop k) st l = st := by
  rw [List.drop_eq_nil_of_le (by omega)]; rfl

/-- the state that a level leads to; from none (below 0) nowhere -/
def stepS (xs : List St) (k : Int) (l : List UInt8) : Int :=
  match xs[k.toNat]? with
  | none => -1
  | some x => followE x.edges x.star l

def walkK (xs : List St) : Int → List (List UInt8) → Int
  | k, [] => k
  | k, l :: ls => if k < 0 then k else walkK xs (stepS xs k l) ls

def ansOf (xs : List St) (k : Int) : List UInt8 :=
  if k < 0 then [] else match xs[k.toNat]? with
  | none => []
  | some x => x.ans

/-- P8 -/
def walkR (c t : List UInt8) : List Int × Int × Int :=
  if 40000 < c.length ∨ 24 < t.length then ([], 1, 0) else
  if (codeR c).1 ≠ 0 then ([], (codeR c).1, (codeR c).2) else
  if (topicR t).1 ≠ 0 then ([], (topicR t).1, (topicR t).2) else
  match codeP c with
  | .error _ => ([], 0, 0)
  | .ok xs => ((ansOf xs (walkK xs (if headI t = 36 then 1 else 0) (levs t))).map (fun b => (b.toNat : Int) - 65), 0, 0)

theorem walkK_on (xs : List St) (k : Int) (P : List (List UInt8)) (i : Nat) (h : i < P.length) (hk : ¬ k < 0) : walkK xs k (P.drop i) = walkK xs (stepS xs k P[i]) (P.drop (i + 1)) := by
  rw [List.drop_eq_getElem_cons h]; simp only [walkK]; rw [if_neg hk]
theorem walkK_neg (xs : List St) (k : Int) (P : List (List UInt8)) (hk : k < 0) : walkK xs k P = k := by
  cases P with
  | nil => rfl
  | cons p P => simp only [walkK]; rw [if_pos hk]
theorem walkK_end (xs : List St) (k : Int) (P : List (List UInt8)) (i : Nat) (h : ¬ i < P.length) : walkK xs k (P.drop i) = k := by
  rw [List.drop_eq_nil_of_le (by omega)]; rfl

/-- every edge of a state that was read leads to a state -/
def goodSt (n : Int) (x : St) : Prop := (∀ e ∈ x.edges, 0 ≤ e.2 ∧ e.2 < n) ∧ -1 ≤ x.star ∧ x.star < n ∧ x.ans.length ≤ 80 ∧ ∀ c ∈ x.ans, 65 ≤ (c.toNat : Int) ∧ (c.toNat : Int) ≤ 80

theorem edgesP_good (n : Int) (f : Nat) : ∀ (G : List (List UInt8 × Int)) (l : List UInt8) (E : List (List UInt8 × Int)) (r : List UInt8), (∀ e ∈ G, 0 ≤ e.2 ∧ e.2 < n) → edgesP n f G l = some (E, r) → ∀ e ∈ E, 0 ≤ e.2 ∧ e.2 < n := by
  induction f with
  | zero => intro G l E r hG h; simp only [edgesP, Option.some.injEq, Prod.mk.injEq] at h; obtain ⟨rfl, _⟩ := h; exact hG
  | succ f ih =>
    intro G l E r hG h
    simp only [edgesP] at h
    split at h
    · split at h
      · split at h
        · rename_i h3
          refine ih _ _ _ _ ?_ h
          intro e he
          rcases List.mem_append.1 he with he | he
          · exact hG e he
          · rw [List.mem_singleton] at he; subst he; exact ⟨h3.1, h3.2.1⟩
        · cases h
      · cases h
    · simp only [Option.some.injEq, Prod.mk.injEq] at h; obtain ⟨rfl, _⟩ := h; exact hG
theorem starP_good (n : Int) (l : List UInt8) (v : Int) (h : starP n l = some v) : -1 ≤ v ∧ v < n ∨ v = -1 := by
  unfold starP at h
  split at h
  · split at h
    · rename_i h2; simp at h; subst h; left; omega
    · cases h
  · split at h
    · simp at h; subst h; right; rfl
    · cases h
theorem ansN_good (p : Int) (L : List UInt8) (k : Nat) : ansN p L = some k → ∀ c ∈ L.take k, 65 ≤ (c.toNat : Int) ∧ (c.toNat : Int) ≤ 80 := by
  induction L generalizing p k with
  | nil => intro h c hc; simp at hc
  | cons a r ih =>
    intro h c hc
    simp only [ansN] at h
    split at h
    · rename_i h1
      split at h
      · cases h
      · cases hr : ansN (a.toNat : Int) r with
        | none => rw [hr] at h; cases h
        | some m =>
          rw [hr] at h; simp at h; subst h
          simp at hc
          rcases hc with rfl | hc
          · exact h1
          · exact ih _ _ hr c hc
    · simp at h; subst h; simp at hc
theorem ansN_len (p : Int) (L : List UInt8) (k : Nat) (hp : p ≤ 80) : ansN p L = some k → (k : Int) + p ≤ 80 := by
  induction L generalizing p k with
  | nil => intro h; simp [ansN] at h; subst h; omega
  | cons a r ih =>
    intro h
    simp only [ansN] at h
    split at h
    · split at h
      · cases h
      · cases hr : ansN (a.toNat : Int) r with
        | none => rw [hr] at h; cases h
        | some m =>
          rw [hr] at h; simp at h; subst h
          have := ih (a.toNat : Int) m (by omega) hr
          omega
    · simp at h; subst h; omega
theorem stateP_good (n : Int) (hn : 0 < n) (L : List UInt8) (x : St) (h : stateP n L = some x) : goodSt n x := by
  unfold stateP at h
  cases ha : ansN 0 L with
  | none => rw [ha] at h; cases h
  | some k =>
    rw [ha] at h; simp only [] at h
    cases he : edgesP n L.length [] (L.drop k) with
    | none => rw [he] at h; cases h
    | some Er =>
      obtain ⟨E, r⟩ := Er
      rw [he] at h; simp only [] at h
      cases hs : starP n r with
      | none => rw [hs] at h; cases h
      | some v =>
        rw [hs] at h; simp only [Option.some.injEq] at h
        subst h
        have := starP_good n r v hs
        exact ⟨edgesP_good n _ _ _ _ _ (by simp) he, by show -1 ≤ v; omega, by show v < n; omega, by have := ansN_len 0 L k (by omega) ha; show (L.take k).length ≤ 80; rw [List.length_take]; omega, ansN_good 0 L k ha⟩
theorem statesR_good (n : Int) (hn : 0 < n) (P : List (List UInt8)) : ∀ (i : Nat) (xs : List St), statesR n i P = .ok xs → xs.length = P.length ∧ ∀ x ∈ xs, goodSt n x := by
  induction P with
  | nil => intro i xs h; simp only [statesR, Except.ok.injEq] at h; subst h; simp
  | cons p r ih =>
    intro i xs h
    simp only [statesR] at h
    split at h
    · cases h
    · cases hs : stateP n p with
      | none => rw [hs] at h; cases h
      | some x =>
        rw [hs] at h; simp only [] at h
        cases hr : statesR n (i + 1) r with
        | error k => rw [hr] at h; cases h
        | ok ys =>
          rw [hr] at h; simp only [Except.ok.injEq] at h
          subst h
          obtain ⟨h1, h2⟩ := ih _ _ hr
          refine ⟨by simp [h1], fun y hy => ?_⟩
          rcases List.mem_cons.1 hy with rfl | hy
          · exact stateP_good n hn p _ hs
          · exact h2 y hy
theorem codeP_good (L : List UInt8) (xs : List St) (h : codeP L = .ok xs) : 2 ≤ xs.length ∧ ∀ x ∈ xs, goodSt (xs.length : Int) x := by
  unfold codeP at h
  split at h
  · cases h
  · rename_i h2
    obtain ⟨h3, h4⟩ := statesR_good _ (by omega) _ _ _ h
    refine ⟨by omega, fun x hx => ?_⟩
    rw [h3]; exact h4 x hx

theorem followE_good (n : Int) (E : List (List UInt8 × Int)) (st : Int) (l : List UInt8) (hE : ∀ e ∈ E, 0 ≤ e.2 ∧ e.2 < n) (h1 : -1 ≤ st) (h2 : st < n) : -1 ≤ followE E st l ∧ followE E st l < n := by
  induction E with
  | nil => exact ⟨h1, h2⟩
  | cons e E ih =>
    simp only [followE]
    split
    · have := hE e (by simp); omega
    · exact ih (fun a ha => hE a (by simp [ha]))
theorem stepS_some (xs : List St) (k : Nat) (l : List UInt8) (h : k < xs.length) : stepS xs (k : Int) l = followE xs[k].edges xs[k].star l := by
  unfold stepS; rw [Int.toNat_natCast, List.getElem?_eq_getElem h]
theorem ansOf_some (xs : List St) (k : Nat) (h : k < xs.length) : ansOf xs (k : Int) = xs[k].ans := by
  unfold ansOf; rw [if_neg (by omega), Int.toNat_natCast, List.getElem?_eq_getElem h]
theorem ansOf_neg (xs : List St) (k : Int) (h : k < 0) : ansOf xs k = [] := by
  unfold ansOf; rw [if_pos h]

end Go.Proofs.YtchhmojnoiephabGreatDoor
