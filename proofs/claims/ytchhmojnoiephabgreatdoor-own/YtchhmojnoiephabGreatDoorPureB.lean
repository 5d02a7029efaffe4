import Derived.Test.YtchhmojnoiephabGreatDoorPureA
/- Plain mathematics: levels and matching. -/
namespace Go.Proofs.YtchhmojnoiephabGreatDoor

/-- the levels of a text -/
def levs : List UInt8 → List (List UInt8)
  | [] => [[]]
  | c :: r => if (c.toNat : Int) = 47 then [] :: levs r else
    match levs r with
    | [] => [[c]]
    | a :: b => (c :: a) :: b

/-- how many bytes stand ahead of the first slash -/
def runLen : List UInt8 → Nat
  | [] => 0
  | c :: r => if (c.toNat : Int) = 47 then 0 else runLen r + 1

theorem runLen_le (l : List UInt8) : runLen l ≤ l.length := by
  induction l with
  | nil => simp [runLen]
  | cons c r ih => unfold runLen; split <;> simp; omega

theorem runLen_slash (l : List UInt8) (k : Nat) (h : k < l.length) (hs : (l[k].toNat : Int) = 47) : runLen (l.drop k) = 0 := by
  rw [List.drop_eq_getElem_cons h]; simp [runLen, hs]
theorem runLen_other (l : List UInt8) (k : Nat) (h : k < l.length) (hs : ¬ (l[k].toNat : Int) = 47) : runLen (l.drop k) = runLen (l.drop (k + 1)) + 1 := by
  rw [List.drop_eq_getElem_cons h]; simp [runLen, hs]
theorem runLen_end (l : List UInt8) (k : Nat) (h : ¬ k < l.length) : runLen (l.drop k) = 0 := by
  rw [List.drop_eq_nil_of_le (by omega)]; rfl

theorem levs_ne (l : List UInt8) : levs l ≠ [] := by
  cases l with
  | nil => simp [levs]
  | cons c r => unfold levs; split <;> (try split) <;> simp

theorem levs_step (l : List UInt8) : levs l = l.take (runLen l) :: (if runLen l < l.length then levs (l.drop (runLen l + 1)) else []) := by
  induction l with
  | nil => simp [levs, runLen]
  | cons c r ih =>
    by_cases h : (c.toNat : Int) = 47
    · simp [levs, runLen, h]
    · rw [levs, if_neg h, ih]
      simp [runLen, h]

/-- the levels from place st on; none, if st is behind the end -/
def levsFrom (l : List UInt8) (st : Nat) : List (List UInt8) := if st ≤ l.length then levs (l.drop st) else []

theorem levsFrom_zero (l : List UInt8) : levsFrom l 0 = levs l := by simp [levsFrom]
theorem levsFrom_behind (l : List UInt8) (st : Nat) (h : ¬ st ≤ l.length) : levsFrom l st = [] := by simp [levsFrom, h]
theorem levsFrom_step (l : List UInt8) (st : Nat) (h : st ≤ l.length) :
    levsFrom l st = (l.drop st).take (runLen (l.drop st)) :: levsFrom l (st + runLen (l.drop st) + 1) := by
  have h1 := runLen_le (l.drop st)
  rw [List.length_drop] at h1
  unfold levsFrom
  rw [if_pos h, levs_step]
  congr 1
  rw [List.length_drop, List.drop_drop]
  by_cases h2 : runLen (l.drop st) < l.length - st
  · rw [if_pos h2, if_pos (by omega)]; congr 2
  · rw [if_neg h2, if_neg (by omega)]

/-- do the filter's levels stand for the topic's? -/
def fitsL : List (List UInt8) → List (List UInt8) → Bool
  | [], t => t.isEmpty
  | f :: fs, t => if f = [35] then true else
    match t with
    | [] => false
    | x :: xs => if f = [43] ∨ f = x then fitsL fs xs else false

def headI : List UInt8 → Int
  | [] => -1
  | c :: _ => (c.toNat : Int)

def matchB (f t : List UInt8) : Bool :=
  if headI t = 36 ∧ (headI f = 43 ∨ headI f = 35) then false else fitsL (levs f) (levs t)

def matchR (f t : List UInt8) : Bool × Int × Int :=
  if 24 < f.length ∨ 24 < t.length then (false, 1, 0) else
  if (filterR f).1 ≠ 0 then (false, (filterR f).1, (filterR f).2) else
  if (topicR t).1 ≠ 0 then (false, (topicR t).1, (topicR t).2) else (matchB f t, 0, 0)

theorem fits_hash (f : List UInt8) (a : Nat) (T : List (List UInt8)) (h : a ≤ f.length) (hl : (f.drop a).take (runLen (f.drop a)) = [35]) : fitsL (levsFrom f a) T = true := by
  rw [levsFrom_step f a h]; simp [fitsL, hl]
theorem fits_none (f t : List UInt8) (a b : Nat) (h : a ≤ f.length) (hl : ¬ (f.drop a).take (runLen (f.drop a)) = [35]) (hb : ¬ b ≤ t.length) : fitsL (levsFrom f a) (levsFrom t b) = false := by
  rw [levsFrom_step f a h, levsFrom_behind t b hb]; simp [fitsL, hl]
theorem fits_on (f t : List UInt8) (a b : Nat) (h : a ≤ f.length) (hl : ¬ (f.drop a).take (runLen (f.drop a)) = [35]) (hb : b ≤ t.length)
    (he : (f.drop a).take (runLen (f.drop a)) = [43] ∨ (f.drop a).take (runLen (f.drop a)) = (t.drop b).take (runLen (t.drop b))) :
    fitsL (levsFrom f a) (levsFrom t b) = fitsL (levsFrom f (a + runLen (f.drop a) + 1)) (levsFrom t (b + runLen (t.drop b) + 1)) := by
  rw [levsFrom_step f a h, levsFrom_step t b hb]
  generalize levsFrom f (a + runLen (f.drop a) + 1) = F
  generalize levsFrom t (b + runLen (t.drop b) + 1) = T
  simp only [fitsL]; rw [if_neg hl, if_pos he]
theorem fits_off (f t : List UInt8) (a b : Nat) (h : a ≤ f.length) (hl : ¬ (f.drop a).take (runLen (f.drop a)) = [35]) (hb : b ≤ t.length)
    (he : ¬ (f.drop a).take (runLen (f.drop a)) = [43]) (he2 : ¬ (f.drop a).take (runLen (f.drop a)) = (t.drop b).take (runLen (t.drop b))) :
    fitsL (levsFrom f a) (levsFrom t b) = false := by
  rw [levsFrom_step f a h, levsFrom_step t b hb]
  generalize levsFrom f (a + runLen (f.drop a) + 1) = F
  generalize levsFrom t (b + runLen (t.drop b) + 1) = T
  simp only [fitsL]; rw [if_neg hl, if_neg (by simp [he, he2])]
theorem fits_end (f t : List UInt8) (a b : Nat) (h : ¬ a ≤ f.length) : fitsL (levsFrom f a) (levsFrom t b) = decide (t.length < b) := by
  rw [levsFrom_behind f a h]
  by_cases hb : b ≤ t.length
  · rw [levsFrom_step t b hb]; simp [fitsL]; omega
  · rw [levsFrom_behind t b hb]; simp [fitsL]; omega

end Go.Proofs.YtchhmojnoiephabGreatDoor
