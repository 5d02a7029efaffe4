import Derived.Test.YtchhmojnoiephabGreatDoorPureD
/- Plain mathematics: the pieces of code, its states, and a walk through them (P7, P8). -/
namespace Go.Proofs.YtchhmojnoiephabGreatDoor

/-- the pieces of a text -/
def pcs : List UInt8 → List (List UInt8)
  | [] => [[]]
  | c :: r => if (c.toNat : Int) = 59 then [] :: pcs r else
    match pcs r with
    | [] => [[c]]
    | a :: b => (c :: a) :: b

/-- how many bytes stand ahead of the first slash -/
def runS : List UInt8 → Nat
  | [] => 0
  | c :: r => if (c.toNat : Int) = 59 then 0 else runS r + 1

theorem runS_le (l : List UInt8) : runS l ≤ l.length := by
  induction l with
  | nil => simp [runS]
  | cons c r ih => unfold runS; split <;> simp; omega

theorem runS_slash (l : List UInt8) (k : Nat) (h : k < l.length) (hs : (l[k].toNat : Int) = 59) : runS (l.drop k) = 0 := by
  rw [List.drop_eq_getElem_cons h]; simp [runS, hs]
theorem runS_other (l : List UInt8) (k : Nat) (h : k < l.length) (hs : ¬ (l[k].toNat : Int) = 59) : runS (l.drop k) = runS (l.drop (k + 1)) + 1 := by
  rw [List.drop_eq_getElem_cons h]; simp [runS, hs]
theorem runS_end (l : List UInt8) (k : Nat) (h : ¬ k < l.length) : runS (l.drop k) = 0 := by
  rw [List.drop_eq_nil_of_le (by omega)]; rfl

theorem pcs_ne (l : List UInt8) : pcs l ≠ [] := by
  cases l with
  | nil => simp [pcs]
  | cons c r => unfold pcs; split <;> (try split) <;> simp

theorem pcs_step (l : List UInt8) : pcs l = l.take (runS l) :: (if runS l < l.length then pcs (l.drop (runS l + 1)) else []) := by
  induction l with
  | nil => simp [pcs, runS]
  | cons c r ih =>
    by_cases h : (c.toNat : Int) = 59
    · simp [pcs, runS, h]
    · rw [pcs, if_neg h, ih]
      simp [runS, h]

/-- the pieces from place st on; none, if st is behind the end -/
def pcsFrom (l : List UInt8) (st : Nat) : List (List UInt8) := if st ≤ l.length then pcs (l.drop st) else []

theorem pcsFrom_zero (l : List UInt8) : pcsFrom l 0 = pcs l := by simp [pcsFrom]
theorem pcsFrom_behind (l : List UInt8) (st : Nat) (h : ¬ st ≤ l.length) : pcsFrom l st = [] := by simp [pcsFrom, h]
theorem pcsFrom_step (l : List UInt8) (st : Nat) (h : st ≤ l.length) :
    pcsFrom l st = (l.drop st).take (runS (l.drop st)) :: pcsFrom l (st + runS (l.drop st) + 1) := by
  have h1 := runS_le (l.drop st)
  rw [List.length_drop] at h1
  unfold pcsFrom
  rw [if_pos h, pcs_step]
  congr 1
  rw [List.length_drop, List.drop_drop]
  by_cases h2 : runS (l.drop st) < l.length - st
  · rw [if_pos h2, if_pos (by omega)]; congr 2
  · rw [if_neg h2, if_neg (by omega)]


theorem pcs_len (L : List UInt8) : (∀ p ∈ pcs L, p.length ≤ L.length) ∧ (pcs L).length ≤ L.length + 1 := by
  induction L with
  | nil => simp [pcs]
  | cons c r ih =>
    by_cases h : (c.toNat : Int) = 59
    · simp only [pcs]; rw [if_pos h]
      refine ⟨fun p hp => ?_, by simp; exact ih.2⟩
      rcases List.mem_cons.1 hp with rfl | hp
      · simp
      · have := ih.1 p hp; simp; omega
    · simp only [pcs]; rw [if_neg h]
      cases hr : pcs r with
      | nil => simp
      | cons a b =>
        rw [hr] at ih
        refine ⟨fun p hp => ?_, by have := ih.2; simp at this ⊢; omega⟩
        rcases List.mem_cons.1 hp with rfl | hp
        · have := ih.1 a (by simp); simp; omega
        · have := ih.1 p (by simp [hp]); simp; omega

/-- the states of the pieces from number i on; or the number of the first that is none -/
def statesR (n : Int) : Nat → List (List UInt8) → Except Nat (List St)
  | _, [] => .ok []
  | i, p :: r => if i = 1000 then .error i else
    match stateP n p with
    | none => .error i
    | some x =>
      match statesR n (i + 1) r with
      | .error k => .error k
      | .ok xs => .ok (x :: xs)

/-- P7: the states of code -/
def codeP (L : List UInt8) : Except Nat (List St) :=
  if (pcs L).length < 2 then .error 0 else statesR ((pcs L).length : Int) 0 (pcs L)

def codeR (L : List UInt8) : Int × Int :=
  if 40000 < L.length then (1, 0) else
  match codeP L with
  | .error k => (8, (k : Int))
  | .ok _ => (0, 0)

/-- the states that were read, and what comes of the rest -/
def statesOn (done : List St) : Except Nat (List St) → Except Nat (List St)
  | .error k => .error k
  | .ok xs => .ok (done ++ xs)

theorem statesOn_nil (r : Except Nat (List St)) : statesOn [] r = r := by cases r <;> rfl
theorem statesR_bad (n : Int) (i : Nat) (P : List (List UInt8)) (h : i < P.length) (hi : ¬ i = 1000) (hs : stateP n P[i] = none) : statesR n i (P.drop i) = .error i := by
  rw [List.drop_eq_getElem_cons h]; simp only [statesR]; rw [if_neg hi, hs]
theorem statesR_many (n : Int) (P : List (List UInt8)) (h : 1000 < P.length) : statesR n 1000 (P.drop 1000) = .error 1000 := by
  rw [List.drop_eq_getElem_cons h]; simp [statesR]
theorem statesR_on (n : Int) (i : Nat) (P : List (List UInt8)) (done : List St) (x : St) (h : i < P.length) (hi : ¬ i = 1000) (hs : stateP n P[i] = some x) :
    statesOn done (statesR n i (P.drop i)) = statesOn (done ++ [x]) (statesR n (i + 1) (P.drop (i + 1))) := by
  rw [List.drop_eq_getElem_cons h]; simp only [statesR]; rw [if_neg hi, hs]
  cases statesR n (i + 1) (P.drop (i + 1)) <;> simp [statesOn]
theorem statesR_end (n : Int) (i : Nat) (P : List (List UInt8)) (h : ¬ i < P.length) : statesR n i (P.drop i) = .ok [] := by
  rw [List.drop_eq_nil_of_le (by omega)]; rfl
theorem codeP_few (L : List UInt8) (h : (pcs L).length < 2) : codeP L = .error 0 := by unfold codeP; rw [if_pos h]
theorem codeP_else (L : List UInt8) (h : ¬ (pcs L).length < 2) : codeP L = statesR ((pcs L).length : Int) 0 (pcs L) := by unfold codeP; rw [if_neg h]

end Go.Proofs.YtchhmojnoiephabGreatDoor
