import Derived.Test.YtchhmojnoiephabGreatDoorPureB
import GoSem.Op.String
/- Plain mathematics: code (P7): numbers, states. -/
namespace Go.Proofs.YtchhmojnoiephabGreatDoor

/-- m digits more, behind the value v; -1: they do not stand there -/
def digFrom : Int → Nat → List UInt8 → Int
  | v, 0, _ => v
  | _, _ + 1, [] => -1
  | v, m + 1, c :: r => if 48 ≤ (c.toNat : Int) ∧ (c.toNat : Int) ≤ 57 then digFrom (10 * v + ((c.toNat : Int) - 48)) m r else -1

def dig3 (l : List UInt8) : Int := digFrom 0 3 l

theorem digFrom_end (v : Int) (m k : Nat) (L : List UInt8) (h : ¬ k < L.length) : digFrom v (m + 1) (L.drop k) = -1 := by
  rw [List.drop_eq_nil_of_le (by omega)]; rfl
theorem digFrom_bad (v : Int) (m k : Nat) (L : List UInt8) (h : k < L.length) (hd : ¬ (48 ≤ (L[k].toNat : Int) ∧ (L[k].toNat : Int) ≤ 57)) : digFrom v (m + 1) (L.drop k) = -1 := by
  rw [List.drop_eq_getElem_cons h]; simp only [digFrom]; rw [if_neg hd]
theorem digFrom_good (v : Int) (m k : Nat) (L : List UInt8) (h : k < L.length) (hd : 48 ≤ (L[k].toNat : Int) ∧ (L[k].toNat : Int) ≤ 57) :
    digFrom v (m + 1) (L.drop k) = digFrom (10 * v + ((L[k].toNat : Int) - 48)) m (L.drop (k + 1)) := by
  rw [List.drop_eq_getElem_cons h]; simp only [digFrom]; rw [if_pos hd]

/-- how many letters of an answer stand at the beginning, behind the letter p; none: they do not rise -/
def ansN : Int → List UInt8 → Option Nat
  | _, [] => some 0
  | p, c :: r => if 65 ≤ (c.toNat : Int) ∧ (c.toNat : Int) ≤ 80 then (if (c.toNat : Int) ≤ p then none else (ansN (c.toNat : Int) r).map (· + 1)) else some 0

def signLen : List UInt8 → Nat
  | [] => 0
  | c :: r => if signB (c.toNat : Int) then signLen r + 1 else 0

/-- does the level rise above the last one? -/
def risesB (G : List (List UInt8 × Int)) (l : List UInt8) : Bool :=
  match G.getLast? with
  | none => true
  | some e => Go.Op.bytesLess e.1 l

/-- the edges, behind those that were read; the fuel is the text's length -/
def edgesP (n : Int) : Nat → List (List UInt8 × Int) → List UInt8 → Option (List (List UInt8 × Int) × List UInt8)
  | 0, G, l => some (G, l)
  | f + 1, G, l => if headI l = 44 then
      (if headI (l.tail.drop (signLen l.tail)) = 62 then
        (if 0 ≤ dig3 ((l.tail.drop (signLen l.tail)).tail) ∧ dig3 ((l.tail.drop (signLen l.tail)).tail) < n ∧ risesB G (l.tail.take (signLen l.tail)) = true
          then edgesP n f (G ++ [(l.tail.take (signLen l.tail), dig3 ((l.tail.drop (signLen l.tail)).tail))]) ((l.tail.drop (signLen l.tail)).tail.drop 3) else none) else none)
      else some (G, l)

structure St where
  ans : List UInt8
  edges : List (List UInt8 × Int)
  star : Int

/-- what stands behind the edges -/
def starP (n : Int) (l : List UInt8) : Option Int :=
  if headI l = 42 then (if 0 ≤ dig3 l.tail ∧ dig3 l.tail < n ∧ l.length = 4 then some (dig3 l.tail) else none)
  else if l.length = 0 then some (-1) else none

/-- P7: one state -/
def stateP (n : Int) (L : List UInt8) : Option St :=
  match ansN 0 L with
  | none => none
  | some k =>
    match edgesP n L.length [] (L.drop k) with
    | none => none
    | some (E, r) =>
      match starP n r with
      | none => none
      | some v => some ⟨L.take k, E, v⟩

/-- the byte ahead of place k; 0 at the beginning -/
def prevZ (L : List UInt8) (k : Nat) : Int := if h : 0 < k ∧ k ≤ L.length then (L[k - 1].toNat : Int) else 0

theorem ansN_stop (p : Int) (k : Nat) (L : List UInt8) (h : ¬ (∃ hk : k < L.length, 65 ≤ (L[k].toNat : Int) ∧ (L[k].toNat : Int) ≤ 80)) : ansN p (L.drop k) = some 0 := by
  by_cases hk : k < L.length
  · rw [List.drop_eq_getElem_cons hk]
    simp only [ansN]
    rw [if_neg (fun h' => h ⟨hk, h'⟩)]
  · rw [List.drop_eq_nil_of_le (by omega)]; rfl
theorem ansN_none (p : Int) (k : Nat) (L : List UInt8) (hk : k < L.length) (h : 65 ≤ (L[k].toNat : Int) ∧ (L[k].toNat : Int) ≤ 80) (hp : (L[k].toNat : Int) ≤ p) : ansN p (L.drop k) = none := by
  rw [List.drop_eq_getElem_cons hk]; simp only [ansN]; rw [if_pos h, if_pos hp]
theorem ansN_on (p : Int) (k : Nat) (L : List UInt8) (hk : k < L.length) (h : 65 ≤ (L[k].toNat : Int) ∧ (L[k].toNat : Int) ≤ 80) (hp : ¬ (L[k].toNat : Int) ≤ p) :
    ansN p (L.drop k) = (ansN (L[k].toNat : Int) (L.drop (k + 1))).map (· + 1) := by
  rw [List.drop_eq_getElem_cons hk]; simp only [ansN]; rw [if_pos h, if_neg hp]

theorem signLen_no (l : List UInt8) (k : Nat) (h : k < l.length) (hs : signB (l[k].toNat : Int) = false) : signLen (l.drop k) = 0 := by
  rw [List.drop_eq_getElem_cons h]; simp [signLen, hs]
theorem signLen_on (l : List UInt8) (k : Nat) (h : k < l.length) (hs : signB (l[k].toNat : Int) = true) : signLen (l.drop k) = signLen (l.drop (k + 1)) + 1 := by
  rw [List.drop_eq_getElem_cons h]; simp [signLen, hs]
theorem signLen_end (l : List UInt8) (k : Nat) (h : ¬ k < l.length) : signLen (l.drop k) = 0 := by
  rw [List.drop_eq_nil_of_le (by omega)]; rfl
theorem signLen_le (l : List UInt8) : signLen l ≤ l.length := by
  induction l with
  | nil => simp [signLen]
  | cons c r ih => unfold signLen; split <;> simp; omega

theorem headI_drop (L : List UInt8) (k : Nat) (h : k < L.length) : headI (L.drop k) = (L[k].toNat : Int) := by
  rw [List.drop_eq_getElem_cons h]; rfl
theorem headI_drop_end (L : List UInt8) (k : Nat) (h : ¬ k < L.length) : headI (L.drop k) = -1 := by
  rw [List.drop_eq_nil_of_le (by omega)]; rfl

theorem dig3_len (l : List UInt8) (h : 0 ≤ dig3 l) : 3 ≤ l.length ∧ dig3 l ≤ 999 := by
  unfold dig3 at h ⊢
  match l with
  | [] => simp [digFrom] at h
  | [a] => simp only [digFrom] at h; split at h <;> simp at h
  | [a, b] => simp only [digFrom] at h; split at h <;> (try split at h) <;> simp at h
  | a :: b :: c :: r =>
    refine ⟨by simp, ?_⟩
    simp only [digFrom] at h ⊢
    split
    · split
      · split
        · omega
        · omega
      · omega
    · omega

theorem edgesP_stop (n : Int) (f : Nat) (G : List (List UInt8 × Int)) (L : List UInt8) (p : Nat) (h : ¬ headI (L.drop p) = 44) (hf : L.length ≤ p + f) : edgesP n f G (L.drop p) = some (G, L.drop p) := by
  cases f with
  | zero => rfl
  | succ f => simp only [edgesP]; rw [if_neg h]

theorem edgesP_step (n : Int) (f : Nat) (G : List (List UInt8 × Int)) (L : List UInt8) (p m : Nat) (h : headI (L.drop p) = 44) (hf : L.length ≤ p + f) (hm : signLen (L.drop (p + 1)) = m) :
    ∃ f', f = f' + 1 ∧ edgesP n f G (L.drop p) = (if headI (L.drop (p + 1 + m)) = 62 then (if 0 ≤ dig3 (L.drop (p + 1 + m + 1)) ∧ dig3 (L.drop (p + 1 + m + 1)) < n ∧ risesB G ((L.drop (p + 1)).take m) = true then edgesP n f' (G ++ [((L.drop (p + 1)).take m, dig3 (L.drop (p + 1 + m + 1)))]) (L.drop (p + m + 5)) else none) else none) := by
  have hp : p < L.length := by
    refine Classical.byContradiction fun hn => ?_
    rw [headI_drop_end L p hn] at h; omega
  obtain ⟨f', rfl⟩ : ∃ f', f = f' + 1 := ⟨f - 1, by omega⟩
  refine ⟨f', rfl, ?_⟩
  simp only [edgesP]
  rw [if_pos h]
  simp only [List.tail_drop, List.drop_drop, hm]
  rw [show p + 1 + m + 1 + 3 = p + m + 5 from by omega]

theorem stP_ans (n : Int) (L : List UInt8) (h : ansN 0 L = none) : stateP n L = none := by unfold stateP; rw [h]
theorem stP_edge (n : Int) (L : List UInt8) (z k : Nat) (hz : L.length = z) (h : ansN 0 L = some k) (he : edgesP n z [] (L.drop k) = none) : stateP n L = none := by
  unfold stateP; rw [h]; simp only []; rw [hz, he]
theorem stP_star (n : Int) (L : List UInt8) (z k : Nat) (G : List (List UInt8 × Int)) (r : List UInt8) (hz : L.length = z) (h : ansN 0 L = some k) (he : edgesP n z [] (L.drop k) = some (G, r)) (hs : starP n r = none) : stateP n L = none := by
  unfold stateP; rw [h]; simp only []; rw [hz, he]; simp only []; rw [hs]
theorem stP_yes (n : Int) (L : List UInt8) (z k : Nat) (G : List (List UInt8 × Int)) (r : List UInt8) (v : Int) (hz : L.length = z) (h : ansN 0 L = some k) (he : edgesP n z [] (L.drop k) = some (G, r)) (hs : starP n r = some v) : stateP n L = some ⟨L.take k, G, v⟩ := by
  unfold stateP; rw [h]; simp only []; rw [hz, he]; simp only []; rw [hs]

theorem star_end (n : Int) (L : List UInt8) (p : Nat) (h : p = L.length) : starP n (L.drop p) = some (-1) := by
  rw [List.drop_eq_nil_of_le (by omega)]; rfl
theorem star_other (n : Int) (L : List UInt8) (p : Nat) (h : p < L.length) (hs : ¬ headI (L.drop p) = 42) : starP n (L.drop p) = none := by
  unfold starP; rw [if_neg hs, if_neg (by rw [List.length_drop]; omega)]
theorem star_bad (n : Int) (L : List UInt8) (p : Nat) (hs : headI (L.drop p) = 42) (hd : ¬ (0 ≤ dig3 (L.drop (p + 1)) ∧ dig3 (L.drop (p + 1)) < n ∧ L.length = p + 4)) : starP n (L.drop p) = none := by
  unfold starP; rw [if_pos hs, if_neg]
  rw [List.tail_drop, List.length_drop]
  intro h; exact hd ⟨h.1, h.2.1, by omega⟩
theorem star_good (n : Int) (L : List UInt8) (p : Nat) (hs : headI (L.drop p) = 42) (hd : 0 ≤ dig3 (L.drop (p + 1)) ∧ dig3 (L.drop (p + 1)) < n) (hl : L.length = p + 4) : starP n (L.drop p) = some (dig3 (L.drop (p + 1))) := by
  unfold starP; rw [if_pos hs, if_pos]
  · rw [List.tail_drop]
  · rw [List.tail_drop, List.length_drop]
    exact ⟨hd.1, hd.2, by omega⟩
theorem risesB_nil (l : List UInt8) : risesB [] l = true := rfl
theorem risesB_snoc (G : List (List UInt8 × Int)) (e : List UInt8 × Int) (l : List UInt8) : risesB (G ++ [e]) l = Go.Op.bytesLess e.1 l := by
  unfold risesB; rw [List.getLast?_append]; rfl

end Go.Proofs.YtchhmojnoiephabGreatDoor
