/- Plain mathematics: signs, topics, filters. Nothing of the translation. -/
namespace Go.Proofs.YtchhmojnoiephabGreatDoor

def signB (n : Int) : Bool := decide (97 ≤ n ∧ n ≤ 122) || decide (48 ≤ n ∧ n ≤ 57) || n == 36

/-- a byte of a topic -/
def tokB (n : Int) : Bool := n == 47 || signB n

/-- the first byte that no topic has, from place i on -/
def badT : Nat → List UInt8 → Option Nat
  | _, [] => none
  | i, c :: r => if tokB (c.toNat : Int) then badT (i + 1) r else some i

/-- P3 of a topic: the error's number and the place -/
def topicR (l : List UInt8) : Int × Int :=
  if 24 < l.length then (1, 0) else if l.length = 0 then (2, 0) else
  match badT 0 l with
  | some i => (2, (i : Int))
  | none => (0, 0)

/-- may c follow p in a filter, where so many slashes are ahead? -/
def folB (p c : Int) : Bool :=
  if p == 35 then false else if p == 43 then c == 47 else if p == 47 then c == 47 || c == 43 || c == 35 || signB c else c == 47 || signB c

def okF (p : Int) (sl : Nat) (c : Int) : Bool := folB p c && (!(c == 47) || decide (sl + 1 < 5))

def badF : Int → Nat → Nat → List UInt8 → Option Nat
  | _, _, _, [] => none
  | p, sl, i, c :: r => if okF p sl (c.toNat : Int) then badF (c.toNat : Int) (if (c.toNat : Int) = 47 then sl + 1 else sl) (i + 1) r else some i

def filterR (l : List UInt8) : Int × Int :=
  if 24 < l.length then (1, 0) else if l.length = 0 then (3, 0) else
  match badF 47 0 0 l with
  | some i => (3, (i : Int))
  | none => (0, 0)

theorem badT_drop_ok (i k : Nat) (l : List UInt8) (h : k < l.length) (ht : tokB (l[k].toNat : Int) = true) :
    badT i (l.drop k) = badT (i + 1) (l.drop (k + 1)) := by
  rw [List.drop_eq_getElem_cons h]; simp [badT, ht]

theorem badT_drop_bad (i k : Nat) (l : List UInt8) (h : k < l.length) (ht : tokB (l[k].toNat : Int) = false) :
    badT i (l.drop k) = some i := by
  rw [List.drop_eq_getElem_cons h]; simp [badT, ht]

theorem badF_drop_ok (p : Int) (sl i k : Nat) (l : List UInt8) (h : k < l.length) (ht : okF p sl (l[k].toNat : Int) = true) :
    badF p sl i (l.drop k) = badF (l[k].toNat : Int) (if (l[k].toNat : Int) = 47 then sl + 1 else sl) (i + 1) (l.drop (k + 1)) := by
  rw [List.drop_eq_getElem_cons h]; simp [badF, ht]

theorem badF_drop_bad (p : Int) (sl i k : Nat) (l : List UInt8) (h : k < l.length) (ht : okF p sl (l[k].toNat : Int) = false) :
    badF p sl i (l.drop k) = some i := by
  rw [List.drop_eq_getElem_cons h]; simp [badF, ht]

end Go.Proofs.YtchhmojnoiephabGreatDoor
