import Derived.Test.YtchhmojnoiephaaDoorPureQ
/- Plain mathematics: states in groups, cut again and again (what Least asks of a code). -/
namespace Go.Proofs.YtchhmojnoiephaaDoor

/-- the group of a state's number -/
def grpF (g : List Int) (k : Int) : Int := if k < 0 then -1 else g.getD k.toNat (-1)
theorem grpF_neg (g : List Int) (k : Int) (h : k < 0) : grpF g k = -1 := by unfold grpF; rw [if_pos h]
theorem grpF_nat (g : List Int) (k : Nat) : grpF g (k : Int) = g.getD k (-1) := by unfold grpF; rw [if_neg (by omega)]; simp

def sameF (g : List Int) (lv : List (List UInt8)) (x y : St) : Bool :=
  decide (grpF g x.star = grpF g y.star) && lv.all fun l => decide (grpF g (followE x.edges x.star l) = grpF g (followE y.edges y.star l))
theorem sameF_iff (g : List Int) (lv : List (List UInt8)) (x y : St) : sameF g lv x y = true ↔ grpF g x.star = grpF g y.star ∧ ∀ l ∈ lv, grpF g (followE x.edges x.star l) = grpF g (followE y.edges y.star l) := by
  unfold sameF; simp
theorem sameF_refl (g : List Int) (lv : List (List UInt8)) (x : St) : sameF g lv x x = true := by rw [sameF_iff]; exact ⟨rfl, fun _ _ => rfl⟩
theorem sameF_join {g : List Int} {lv : List (List UInt8)} {x y z : St} (h : sameF g lv x z = true) (k : sameF g lv y z = true) : sameF g lv x y = true := by
  rw [sameF_iff] at *
  exact ⟨h.1.trans k.1.symm, fun l hl => (h.2 l hl).trans (k.2 l hl).symm⟩

def alikeF (xs : List St) (g : List Int) (lv : List (List UInt8)) (i j : Nat) : Bool :=
  match xs[i]?, xs[j]? with
  | some x, some y => decide (g.getD i (-1) = g.getD j (-1)) && sameF g lv x y
  | _, _ => false
theorem alikeF_iff {xs : List St} {g : List Int} {lv : List (List UInt8)} {i j : Nat} (hi : i < xs.length) (hj : j < xs.length) : alikeF xs g lv i j = true ↔ g.getD i (-1) = g.getD j (-1) ∧ sameF g lv xs[i] xs[j] = true := by
  unfold alikeF; rw [List.getElem?_eq_getElem hi, List.getElem?_eq_getElem hj]; simp

def deadF (g : List Int) (x : St) : Bool := decide (grpF g x.star = -1) && x.edges.all fun e => decide (grpF g e.2 = -1)
theorem deadF_iff (g : List Int) (x : St) : deadF g x = true ↔ grpF g x.star = -1 ∧ ∀ e ∈ x.edges, grpF g e.2 = -1 := by
  unfold deadF; simp only [Bool.and_eq_true, decide_eq_true_eq, List.all_eq_true]

/-- the first place from j on with p, n places left; else the place behind -/
def firstA (p : Nat → Bool) : Nat → Nat → Nat
  | j, 0 => j
  | j, n + 1 => if p j = true then j else firstA p (j + 1) n
theorem firstA_spec (p : Nat → Bool) (n : Nat) : ∀ j, j ≤ firstA p j n ∧ firstA p j n ≤ j + n ∧ (firstA p j n < j + n → p (firstA p j n) = true) := by
  induction n with
  | zero => intro j; simp [firstA]
  | succ n ih =>
    intro j
    simp only [firstA]
    split
    · rename_i h; exact ⟨by omega, by omega, fun _ => h⟩
    · obtain ⟨h1, h2, h3⟩ := ih (j + 1)
      exact ⟨by omega, by omega, fun h => h3 (by omega)⟩
/-- downwards: the last place below k with p that comes up; else v -/
def lastF (p : Nat → Bool) : Nat → Int → Int
  | 0, v => v
  | k + 1, v => lastF p k (if p k = true then (k : Int) else v)
theorem lastF_spec (p : Nat → Bool) (k : Nat) : ∀ v, (lastF p k v = v ∧ ∀ j, j < k → p j = false) ∨ ∃ m : Nat, m < k ∧ lastF p k v = (m : Int) ∧ p m = true := by
  induction k with
  | zero => intro v; exact Or.inl ⟨rfl, by omega⟩
  | succ k ih =>
    intro v
    simp only [lastF]
    rcases ih (if p k = true then (k : Int) else v) with ⟨h1, h2⟩ | ⟨m, h1, h2, h3⟩
    · by_cases hp : p k = true
      · rw [if_pos hp] at h1 ⊢
        exact Or.inr ⟨k, by omega, h1, hp⟩
      · rw [if_neg hp] at h1 ⊢
        refine Or.inl ⟨h1, fun j hj => ?_⟩
        by_cases hk : j = k
        · subst hk; simpa using hp
        · exact h2 j (by omega)
    · exact Or.inr ⟨m, by omega, h2, h3⟩

def cutF (xs : List St) (g : List Int) (lv : List (List UInt8)) (i : Nat) : Int :=
  match xs[i]? with
  | none => -1
  | some x => if g.getD i (-1) = -1 ∧ deadF g x = true then -1 else ((firstA (alikeF xs g lv i) 0 i : Nat) : Int)
theorem cut_cases (xs : List St) (g : List Int) (lv : List (List UInt8)) (i : Nat) (hi : i < xs.length) :
    (cutF xs g lv i = -1 ∧ g.getD i (-1) = -1 ∧ deadF g xs[i] = true) ∨ ∃ m : Nat, ∃ hm : m < xs.length, m ≤ i ∧ cutF xs g lv i = (m : Int) ∧ g.getD i (-1) = g.getD m (-1) ∧ sameF g lv xs[i] xs[m] = true := by
  unfold cutF
  rw [List.getElem?_eq_getElem hi]
  simp only
  split
  · rename_i h; exact Or.inl ⟨rfl, h⟩
  · refine Or.inr ?_
    obtain ⟨h1, h2, h3⟩ := firstA_spec (alikeF xs g lv i) i 0
    have hm : firstA (alikeF xs g lv i) 0 i < xs.length := by omega
    refine ⟨firstA (alikeF xs g lv i) 0 i, hm, by omega, rfl, ?_⟩
    by_cases he : firstA (alikeF xs g lv i) 0 i = i
    · simp only [he]; exact ⟨trivial, sameF_refl _ _ _⟩
    · exact (alikeF_iff hi hm).1 (h3 (by omega))

def nextF (xs : List St) (g : List Int) (lv : List (List UInt8)) : List Int := (List.range xs.length).map (cutF xs g lv)
theorem next_at (xs : List St) (g : List Int) (lv : List (List UInt8)) (i : Nat) (hi : i < xs.length) : (nextF xs g lv).getD i (-1) = cutF xs g lv i := by
  unfold nextF; simp [List.getD, List.getElem?_map, List.getElem?_range hi]

/-- what holds between the rounds -/
structure GI (xs : List St) (g : List Int) : Prop where
  len : g.length = xs.length
  low : ∀ i, i < xs.length → -1 ≤ g.getD i (-1) ∧ g.getD i (-1) ≤ (i : Int)
  ans : ∀ i j (hi : i < xs.length) (hj : j < xs.length), g.getD i (-1) = g.getD j (-1) → xs[i].ans = xs[j].ans
  dead : ∀ i (hi : i < xs.length), g.getD i (-1) = -1 → xs[i].ans = []

theorem next_inv {xs : List St} {g : List Int} (lv : List (List UInt8)) (h : GI xs g) : GI xs (nextF xs g lv) := by
  refine ⟨by unfold nextF; simp, fun i hi => ?_, fun i j hi hj he => ?_, fun i hi he => ?_⟩
  · rw [next_at _ _ _ _ hi]
    rcases cut_cases xs g lv i hi with ⟨h1, _⟩ | ⟨m, hm, h1, h2, _⟩
    · rw [h1]; omega
    · rw [h2]; omega
  · rw [next_at _ _ _ _ hi, next_at _ _ _ _ hj] at he
    rcases cut_cases xs g lv i hi with ⟨a1, a2, _⟩ | ⟨m, hm, a1, a2, a3, _⟩
    · rcases cut_cases xs g lv j hj with ⟨b1, b2, _⟩ | ⟨n, hn, b1, b2, b3, _⟩
      · rw [h.dead i hi a2, h.dead j hj b2]
      · omega
    · rcases cut_cases xs g lv j hj with ⟨b1, b2, _⟩ | ⟨n, hn, b1, b2, b3, _⟩
      · omega
      · obtain rfl : m = n := by omega
        exact h.ans i j hi hj (a3.trans b3.symm)
  · rw [next_at _ _ _ _ hi] at he
    rcases cut_cases xs g lv i hi with ⟨a1, a2, _⟩ | ⟨m, hm, a1, a2, a3, _⟩
    · exact h.dead i hi a2
    · omega
theorem next_ge {xs : List St} {g : List Int} (lv : List (List UInt8)) (h : GI xs g) (i : Nat) (hi : i < xs.length) : g.getD i (-1) ≤ cutF xs g lv i ∧ cutF xs g lv i ≤ (i : Int) := by
  rcases cut_cases xs g lv i hi with ⟨a1, a2, _⟩ | ⟨m, hm, a1, a2, a3, _⟩
  · omega
  · have := (h.low m hm).2; omega

/-- what is left to cut -/
def wtG (g : List Int) : Nat → Nat
  | 0 => 0
  | n + 1 => wtG g n + ((n : Int) - g.getD n (-1)).toNat
theorem wtG_le (g h : List Int) (n : Nat) (hh : ∀ i, i < n → g.getD i (-1) ≤ h.getD i (-1)) : wtG h n ≤ wtG g n := by
  induction n with
  | zero => exact Nat.le_refl _
  | succ n ih =>
    have h1 := ih (fun i hi => hh i (by omega))
    have h2 := hh n (by omega)
    simp only [wtG]
    omega
theorem wtG_lt (g h : List Int) (n i : Nat) (hh : ∀ i, i < n → g.getD i (-1) ≤ h.getD i (-1)) (hi : i < n) (hl : h.getD i (-1) ≤ (i : Int)) (hd : g.getD i (-1) ≠ h.getD i (-1)) : wtG h n < wtG g n := by
  induction n with
  | zero => omega
  | succ n ih =>
    simp only [wtG]
    by_cases he : i = n
    · subst he
      have h1 := wtG_le g h i (fun j hj => hh j (by omega))
      have h2 := hh i (by omega)
      omega
    · have h1 := ih (fun j hj => hh j (by omega)) (by omega)
      have h2 := hh n (by omega)
      omega
theorem next_wt {xs : List St} {g : List Int} (lv : List (List UInt8)) (h : GI xs g) (i : Nat) (hi : i < xs.length) (hd : (nextF xs g lv).getD i (-1) ≠ g.getD i (-1)) : wtG (nextF xs g lv) xs.length < wtG g xs.length :=
  wtG_lt g _ _ i (fun j hj => by rw [next_at _ _ _ _ hj]; exact (next_ge lv h j hj).1) hi (by rw [next_at _ _ _ _ hi]; exact (next_ge lv h i hi).2) (fun e => hd e.symm)

theorem followE_not (E : List (List UInt8 × Int)) (st : Int) (l : List UInt8) (h : ∀ e ∈ E, e.1 ≠ l) : followE E st l = st := by
  induction E with
  | nil => rfl
  | cons e E ih => simp only [followE]; rw [if_neg (h e (by simp))]; exact ih (fun x hx => h x (by simp [hx]))

/-- the numbers that states name lie among them -/
def inX (xs : List St) : Prop := ∀ x ∈ xs, (-1 ≤ x.star ∧ x.star < (xs.length : Int)) ∧ ∀ e ∈ x.edges, 0 ≤ e.2 ∧ e.2 < (xs.length : Int)
theorem step_in {xs : List St} (h : inX xs) (i : Nat) (hi : i < xs.length) (l : List UInt8) : stepS xs (i : Int) l = followE xs[i].edges xs[i].star l ∧ -1 ≤ stepS xs (i : Int) l ∧ stepS xs (i : Int) l < (xs.length : Int) := by
  have h1 : stepS xs (i : Int) l = followE xs[i].edges xs[i].star l := by unfold stepS; simp [List.getElem?_eq_getElem hi]
  refine ⟨h1, ?_⟩
  rw [h1]
  obtain ⟨hs, he⟩ := h xs[i] (List.getElem_mem hi)
  rcases followE_mem xs[i].edges xs[i].star l with h3 | h3
  · rw [h3]; exact hs
  · have := he _ h3; simp only at this; omega
theorem lang_step (xs : List St) (i : Nat) (l : List UInt8) (w : List (List UInt8)) : lang xs (i : Int) (l :: w) = lang xs (stepS xs (i : Int) l) w := by
  unfold lang; simp only [walkK]; rw [if_neg (by omega)]
theorem lang_less (xs : List St) (a : Int) (h : a < 0) (w : List (List UInt8)) : lang xs a w = [] := by
  unfold lang; rw [walkK_neg _ _ _ h, ansOf_neg _ _ h]

/-- at the end: what is in no group answers nothing -/
theorem fix_dead {xs : List St} {g : List Int} {lv : List (List UInt8)} (hI : GI xs g) (hx : inX xs) (hf : ∀ i, i < xs.length → cutF xs g lv i = g.getD i (-1)) (w : List (List UInt8)) : ∀ a : Int, a < (xs.length : Int) → grpF g a = -1 → lang xs a w = [] := by
  induction w with
  | nil =>
    intro a h1 h2
    by_cases ha : a < 0
    · exact lang_less xs a ha []
    · obtain ⟨i, rfl⟩ : ∃ i : Nat, a = i := ⟨a.toNat, by omega⟩
      rw [grpF_nat] at h2
      rw [lang_nil xs i (by omega)]
      exact hI.dead i (by omega) h2
  | cons l w ih =>
    intro a h1 h2
    by_cases ha : a < 0
    · exact lang_less xs a ha _
    · obtain ⟨i, rfl⟩ : ∃ i : Nat, a = i := ⟨a.toNat, by omega⟩
      have hi : i < xs.length := by omega
      rw [grpF_nat] at h2
      obtain ⟨s1, s2, s3⟩ := step_in hx i hi l
      rw [lang_step]
      refine ih _ s3 ?_
      rcases cut_cases xs g lv i hi with ⟨a1, a2, a3⟩ | ⟨m, hm, a1, a2, a3, _⟩
      · rw [deadF_iff] at a3
        rw [s1]
        rcases followE_mem xs[i].edges xs[i].star l with h3 | h3
        · rw [h3]; exact a3.1
        · exact a3.2 _ h3
      · have := hf i hi; omega
/-- at the end: a group is of one language -/
theorem fix_lang {xs : List St} {g : List Int} {lv : List (List UInt8)} (hI : GI xs g) (hx : inX xs) (hlv : ∀ x ∈ xs, ∀ e ∈ x.edges, e.1 ∈ lv) (hf : ∀ i, i < xs.length → cutF xs g lv i = g.getD i (-1)) (w : List (List UInt8)) :
    ∀ a b : Int, a < (xs.length : Int) → b < (xs.length : Int) → grpF g a = grpF g b → lang xs a w = lang xs b w := by
  induction w with
  | nil =>
    intro a b ha hb he
    by_cases hd : grpF g a = -1
    · rw [fix_dead hI hx hf [] a ha hd, fix_dead hI hx hf [] b hb (he ▸ hd)]
    · have h1 : ¬ a < 0 := fun h => hd (grpF_neg g a h)
      have h2 : ¬ b < 0 := fun h => hd (he.trans (grpF_neg g b h))
      obtain ⟨i, rfl⟩ : ∃ i : Nat, a = i := ⟨a.toNat, by omega⟩
      obtain ⟨j, rfl⟩ : ∃ j : Nat, b = j := ⟨b.toNat, by omega⟩
      rw [grpF_nat, grpF_nat] at he
      rw [lang_nil xs i (by omega), lang_nil xs j (by omega)]
      exact hI.ans i j (by omega) (by omega) he
  | cons l w ih =>
    intro a b ha hb he
    by_cases hd : grpF g a = -1
    · rw [fix_dead hI hx hf _ a ha hd, fix_dead hI hx hf _ b hb (he ▸ hd)]
    · have h1 : ¬ a < 0 := fun h => hd (grpF_neg g a h)
      have h2 : ¬ b < 0 := fun h => hd (he.trans (grpF_neg g b h))
      obtain ⟨i, rfl⟩ : ∃ i : Nat, a = i := ⟨a.toNat, by omega⟩
      obtain ⟨j, rfl⟩ : ∃ j : Nat, b = j := ⟨b.toNat, by omega⟩
      have hi : i < xs.length := by omega
      have hj : j < xs.length := by omega
      rw [grpF_nat] at hd
      rw [grpF_nat, grpF_nat] at he
      have hfi := hf i hi
      have hfj := hf j hj
      rw [lang_step, lang_step]
      obtain ⟨s1, s2, s3⟩ := step_in hx i hi l
      obtain ⟨t1, t2, t3⟩ := step_in hx j hj l
      refine ih _ _ s3 t3 ?_
      rw [s1, t1]
      rcases cut_cases xs g lv i hi with ⟨a1, a2, a3⟩ | ⟨m, hm, a1, a2, a3, a4⟩
      · exact absurd a2 hd
      rcases cut_cases xs g lv j hj with ⟨b1, b2, b3⟩ | ⟨n, hn, b1, b2, b3, b4⟩
      · exact absurd (he.trans b2) hd
      obtain rfl : m = n := by omega
      have hs := sameF_join a4 b4
      rw [sameF_iff] at hs
      by_cases hl : l ∈ lv
      · exact hs.2 l hl
      · rw [followE_not xs[i].edges xs[i].star l (fun e h e2 => hl (by rw [← e2]; exact hlv _ (List.getElem_mem hi) e h)), followE_not xs[j].edges xs[j].star l (fun e h e2 => hl (by rw [← e2]; exact hlv _ (List.getElem_mem hj) e h))]
        exact hs.1

/-- so in a good machine no two states share a group, and none is in no group -/
theorem fix_least {xs : List St} {g : List Int} {lv : List (List UInt8)} (hG : Good xs) (hI : GI xs g) (hx : inX xs) (hlv : ∀ x ∈ xs, ∀ e ∈ x.edges, e.1 ∈ lv) (hf : ∀ i, i < xs.length → cutF xs g lv i = g.getD i (-1)) :
    (∀ i, 2 ≤ i → i < xs.length → g.getD i (-1) ≠ -1) ∧ ∀ i j, 2 ≤ j → j < i → i < xs.length → g.getD i (-1) ≠ g.getD j (-1) := by
  refine ⟨fun i h2 hi he => ?_, fun i j h2 hj hi he => ?_⟩
  · obtain ⟨w, _, hw⟩ := good_live xs hG i i (Nat.le_refl _) h2 hi
    exact hw (fix_dead hI hx hf w i (by omega) (by rw [grpF_nat]; exact he))
  · have := good_min xs hG i j (by omega) h2 hi (by omega) (fun w _ => fix_lang hI hx hlv hf w i j (by omega) (by omega) (by rw [grpF_nat, grpF_nat]; exact he))
    omega

/-- the groups by their answers -/
def ansP (xs : List St) (i j : Nat) : Bool :=
  match xs[i]?, xs[j]? with
  | some x, some y => decide (y.ans = x.ans) && decide (x.ans ≠ [])
  | _, _ => false
def g0F (xs : List St) : List Int := (List.range xs.length).map fun i => lastF (ansP xs i) (i + 1) (-1)
theorem g0_at (xs : List St) (i : Nat) (hi : i < xs.length) : (g0F xs).getD i (-1) = lastF (ansP xs i) (i + 1) (-1) := by
  unfold g0F; simp [List.getD, List.getElem?_map, List.getElem?_range hi]
theorem ansP_iff (xs : List St) (i j : Nat) (hi : i < xs.length) (hj : j < xs.length) : ansP xs i j = true ↔ xs[j].ans = xs[i].ans ∧ xs[i].ans ≠ [] := by
  unfold ansP; rw [List.getElem?_eq_getElem hi, List.getElem?_eq_getElem hj]; simp
theorem g0_cases (xs : List St) (i : Nat) (hi : i < xs.length) : ((g0F xs).getD i (-1) = -1 ∧ xs[i].ans = []) ∨ ∃ m : Nat, ∃ hm : m < xs.length, m ≤ i ∧ (g0F xs).getD i (-1) = (m : Int) ∧ xs[m].ans = xs[i].ans := by
  rw [g0_at xs i hi]
  rcases lastF_spec (ansP xs i) (i + 1) (-1) with ⟨h1, h2⟩ | ⟨m, h1, h2, h3⟩
  · refine Or.inl ⟨h1, ?_⟩
    have h := h2 i (by omega)
    by_cases ha : xs[i].ans = []
    · exact ha
    · rw [(ansP_iff xs i i hi hi).2 ⟨rfl, ha⟩] at h
      cases h
  · exact Or.inr ⟨m, by omega, by omega, h2, ((ansP_iff xs i m hi (by omega)).1 h3).1⟩
theorem g0_inv (xs : List St) : GI xs (g0F xs) := by
  refine ⟨by unfold g0F; simp, fun i hi => ?_, fun i j hi hj he => ?_, fun i hi he => ?_⟩
  · rcases g0_cases xs i hi with ⟨h1, _⟩ | ⟨m, hm, h1, h2, _⟩
    · rw [h1]; omega
    · rw [h2]; omega
  · rcases g0_cases xs i hi with ⟨a1, a2⟩ | ⟨m, hm, a1, a2, a3⟩
    · rcases g0_cases xs j hj with ⟨b1, b2⟩ | ⟨n, hn, b1, b2, b3⟩
      · rw [a2, b2]
      · omega
    · rcases g0_cases xs j hj with ⟨b1, b2⟩ | ⟨n, hn, b1, b2, b3⟩
      · omega
      · obtain rfl : m = n := by omega
        exact a3.symm.trans b3
  · rcases g0_cases xs i hi with ⟨a1, a2⟩ | ⟨m, hm, a1, a2, a3⟩
    · exact a2
    · omega

/-- a set of states that is closed holds all that are reached -/
def closedR (xs : List St) (r : List Bool) : Prop := ∀ i (hi : i < xs.length), r.getD i false = true → (0 ≤ xs[i].star → r.getD xs[i].star.toNat false = true) ∧ ∀ e ∈ xs[i].edges, r.getD e.2.toNat false = true
theorem closed_walk {xs : List St} {r : List Bool} (hx : inX xs) (h : closedR xs r) (w : List (List UInt8)) : ∀ k : Nat, k < xs.length → r.getD k false = true → ∀ m : Nat, walkK xs (k : Int) w = (m : Int) → r.getD m false = true := by
  induction w with
  | nil => intro k hk hr m hm; simp only [walkK] at hm; obtain rfl : k = m := by omega
           exact hr
  | cons l w ih =>
    intro k hk hr m hm
    simp only [walkK] at hm
    rw [if_neg (by omega)] at hm
    obtain ⟨s1, s2, s3⟩ := step_in hx k hk l
    by_cases hn : stepS xs (k : Int) l < 0
    · rw [walkK_neg _ _ _ hn] at hm; omega
    · obtain ⟨j, hj⟩ : ∃ j : Nat, stepS xs (k : Int) l = j := ⟨(stepS xs (k : Int) l).toNat, by omega⟩
      rw [hj] at hm
      refine ih j (by omega) ?_ m hm
      obtain ⟨c1, c2⟩ := h k hk hr
      rw [s1] at hj
      rcases followE_mem xs[k].edges xs[k].star l with h3 | h3
      · rw [h3] at hj
        have := c1 (by omega)
        rw [hj] at this; simpa using this
      · have := c2 _ h3
        simp only [hj] at this; simpa using this
theorem closed_reach {xs : List St} {r : List Bool} (hx : inX xs) (h : closedR xs r) (h2 : 2 ≤ xs.length) (r0 : r.getD 0 false = true) (r1 : r.getD 1 false = true) (m : Nat) (hm : Reach xs 0 m ∨ Reach xs 1 m) : r.getD m false = true := by
  rcases hm with ⟨w, _, hw⟩ | ⟨w, _, hw⟩
  · exact closed_walk hx h w 0 (by omega) r0 m hw
  · exact closed_walk hx h w 1 (by omega) r1 m hw

theorem ok_in {L : List PairL} {xs : List St} (h : CodeOK L xs) : inX xs := by
  intro x hx
  obtain ⟨h1, h2⟩ := h.okS x hx
  unfold belowS at h2
  simp only [Bool.and_eq_true, decide_eq_true_eq] at h2
  refine ⟨⟨h1.star.1, h2.2⟩, fun e he => ⟨(h1.lev e he).2.1, ?_⟩⟩
  have h3 := h2.1
  unfold belowE at h3
  simpa using List.all_eq_true.1 h3 e he

end Go.Proofs.YtchhmojnoiephaaDoor

/- Plain mathematics: the levels that edges name, each once (hubref.all). -/
namespace Go.Proofs.YtchhmojnoiephaaDoor

def addL (lv : List (List UInt8)) (l : List UInt8) : List (List UInt8) := if l ∈ lv then lv else lv ++ [l]
def addE (lv : List (List UInt8)) (E : List (List UInt8 × Int)) : List (List UInt8) := E.foldl (fun lv e => addL lv e.1) lv
def allF (xs : List St) : List (List UInt8) := xs.foldl (fun lv x => addE lv x.edges) []

theorem addL_mem (lv : List (List UInt8)) (l : List UInt8) : l ∈ addL lv l ∧ (∀ m ∈ lv, m ∈ addL lv l) ∧ (addL lv l).length ≤ lv.length + 1 := by
  unfold addL
  split
  · rename_i h; exact ⟨h, fun m hm => hm, by omega⟩
  · exact ⟨by simp, fun m hm => by simp [hm], by simp⟩
theorem addE_mem (E : List (List UInt8 × Int)) : ∀ lv, (∀ e ∈ E, e.1 ∈ addE lv E) ∧ (∀ m ∈ lv, m ∈ addE lv E) ∧ (addE lv E).length ≤ lv.length + E.length := by
  induction E with
  | nil => intro lv; exact ⟨by simp, fun m hm => hm, by simp [addE]⟩
  | cons x E ih =>
    intro lv
    obtain ⟨h1, h2, h3⟩ := ih (addL lv x.1)
    obtain ⟨k1, k2, k3⟩ := addL_mem lv x.1
    have he : addE lv (x :: E) = addE (addL lv x.1) E := rfl
    rw [he]
    refine ⟨fun e hm => ?_, fun m hm => h2 m (k2 m hm), by simp only [List.length_cons]; omega⟩
    rcases List.mem_cons.1 hm with rfl | hm
    · exact h2 _ k1
    · exact h1 e hm
theorem allF_mem (xs : List St) : (∀ x ∈ xs, ∀ e ∈ x.edges, e.1 ∈ allF xs) ∧ (allF xs).length ≤ (xs.map fun x => x.edges.length).sum := by
  have : ∀ (xs : List St) (lv : List (List UInt8)), (∀ x ∈ xs, ∀ e ∈ x.edges, e.1 ∈ xs.foldl (fun lv x => addE lv x.edges) lv) ∧ (∀ m ∈ lv, m ∈ xs.foldl (fun lv x => addE lv x.edges) lv) ∧ (xs.foldl (fun lv x => addE lv x.edges) lv).length ≤ lv.length + (xs.map fun x => x.edges.length).sum := by
    intro xs
    induction xs with
    | nil => intro lv; exact ⟨by simp, fun m hm => hm, by simp⟩
    | cons y xs ih =>
      intro lv
      obtain ⟨h1, h2, h3⟩ := ih (addE lv y.edges)
      obtain ⟨k1, k2, k3⟩ := addE_mem y.edges lv
      simp only [List.foldl_cons, List.map_cons, List.sum_cons]
      refine ⟨fun x hx e he => ?_, fun m hm => h2 m (k2 m hm), by omega⟩
      rcases List.mem_cons.1 hx with rfl | hx
      · exact h2 _ (k1 e he)
      · exact h1 x hx e he
  obtain ⟨h1, _, h3⟩ := this xs []
  exact ⟨h1, by simpa [allF] using h3⟩

/-- a code of at most 40000 signs has no more edges than that -/
theorem edges_few (xs : List St) (h : (joinP (xs.map render)).length ≤ 40000) : (xs.map fun x => x.edges.length).sum ≤ 40000 := by
  have hE : ∀ E : List (List UInt8 × Int), E.length ≤ (rEdges E).length := by
    intro E
    induction E with
    | nil => simp
    | cons e E ih =>
      unfold rEdges at ih ⊢
      have h1 : 0 < (rEdge e).length := by unfold rEdge; simp
      rw [List.flatMap_cons, List.length_append, List.length_cons]
      omega
  have hj : ∀ P : List (List UInt8), (P.map List.length).sum ≤ (joinP P).length := by
    intro P
    induction P with
    | nil => simp [joinP]
    | cons p P ih =>
      cases P with
      | nil => simp [joinP]
      | cons q r => simp only [joinP, List.map_cons, List.sum_cons, List.length_append, List.length_cons] at ih ⊢; omega
  have h1 := hj (xs.map render)
  have h2 : (xs.map fun x => x.edges.length).sum ≤ ((xs.map render).map List.length).sum := by
    clear h h1 hj
    induction xs with
    | nil => simp
    | cons x xs ih =>
      have := hE x.edges
      simp only [List.map_cons, List.sum_cons, render, List.length_append] at ih ⊢
      omega
  omega

end Go.Proofs.YtchhmojnoiephaaDoor

/- Plain mathematics: which states are come to (hubref.reached). -/
namespace Go.Proofs.YtchhmojnoiephaaDoor

/-- how many are not come to -/
def cntF (r : List Bool) : Nat := r.countP (fun b => !b)
theorem cnt_set (r : List Bool) : ∀ i, i < r.length → r.getD i false = false → cntF (r.set i true) + 1 = cntF r := by
  induction r with
  | nil => intro i h; simp at h
  | cons b r ih =>
    intro i h hf
    cases i with
    | zero => simp [List.getD] at hf; subst hf; simp [cntF]
    | succ i =>
      have h1 := ih i (by simpa using h) (by simpa [List.getD] using hf)
      unfold cntF at h1 ⊢
      rw [List.set_cons_succ, List.countP_cons, List.countP_cons]
      omega
theorem getD_set (r : List Bool) (i j : Nat) (h : r.getD j false = true) : (r.set i true).getD j false = true := by
  simp only [List.getD, List.getElem?_set] at h ⊢
  by_cases he : i = j
  · subst he
    by_cases hl : i < r.length
    · simp [hl]
    · simp [List.getElem?_eq_none (show r.length ≤ i by omega)] at h
  · simp only [he, if_false]; exact h

def clAt (xs : List St) (r : List Bool) (i : Nat) : Prop := ∀ (hi : i < xs.length), r.getD i false = true → (0 ≤ xs[i].star → r.getD xs[i].star.toNat false = true) ∧ ∀ e ∈ xs[i].edges, r.getD e.2.toNat false = true
def clTo (x : St) (r : List Bool) (k : Nat) : Prop := (1 ≤ k → 0 ≤ x.star → r.getD x.star.toNat false = true) ∧ ∀ j (hj : j < x.edges.length), j + 1 < k → r.getD x.edges[j].2.toNat false = true

/-- at state n, in a round that began with r0 -/
structure RI (xs : List St) (r0 r : List Bool) (a : Bool) (n : Nat) : Prop where
  len : r.length = xs.length
  one : r.getD 0 false = true ∧ r.getD 1 false = true
  yes : a = true → cntF r < cntF r0
  no : a = false → r = r0 ∧ ∀ i, i < n → clAt xs r i

theorem RI.start {xs : List St} {r : List Bool} (h : r.length = xs.length) (h1 : r.getD 0 false = true ∧ r.getD 1 false = true) : RI xs r r false 0 :=
  ⟨h, h1, (fun h => by cases h), fun _ => ⟨rfl, fun i hi => by omega⟩⟩
theorem RI.closed {xs : List St} {r0 r : List Bool} (h : RI xs r0 r false xs.length) : closedR xs r := fun i hi hr => (h.no rfl).2 i hi hi hr
theorem RI.not {xs : List St} {r0 r : List Bool} {a : Bool} {n : Nat} (h : RI xs r0 r a n) (hr : r.getD n false = false) : RI xs r0 r a (n + 1) :=
  ⟨h.len, h.one, h.yes, fun ha => ⟨(h.no ha).1, fun i hi => by
    by_cases hin : i = n
    · subst hin; intro _ h2; rw [hr] at h2; cases h2
    · exact (h.no ha).2 i (by omega)⟩⟩
theorem RI.all {xs : List St} {r0 r : List Bool} {a : Bool} {n : Nat} (h : RI xs r0 r a n) (hn : n < xs.length) (hk : a = false → clTo xs[n] r (xs[n].edges.length + 1)) : RI xs r0 r a (n + 1) :=
  ⟨h.len, h.one, h.yes, fun ha => ⟨(h.no ha).1, fun i hi => by
    by_cases hin : i = n
    · subst hin
      intro _ h2
      obtain ⟨h3, h4⟩ := hk ha
      refine ⟨h3 (by omega), fun e he => ?_⟩
      obtain ⟨j, hj, rfl⟩ := List.mem_iff_getElem.1 he
      exact h4 j hj (by omega)
    · exact (h.no ha).2 i (by omega)⟩⟩
theorem RI.mark {xs : List St} {r0 r : List Bool} {a : Bool} {n : Nat} (h : RI xs r0 r a n) (t : Nat) (ht : t < xs.length) (hf : r.getD t false = false) : RI xs r0 (r.set t true) true n := by
  have hc := cnt_set r t (by rw [h.len]; exact ht) hf
  refine ⟨by rw [List.length_set]; exact h.len, ⟨getD_set _ _ _ h.one.1, getD_set _ _ _ h.one.2⟩, fun _ => ?_, fun h => by cases h⟩
  cases a with
  | true => have := h.yes rfl; omega
  | false => have := (h.no rfl).1; subst this; omega
theorem clTo_zero (x : St) (r : List Bool) : clTo x r 0 := ⟨fun h => by omega, fun j _ h => by omega⟩
theorem clTo_star {x : St} {r : List Bool} (h : 0 ≤ x.star → r.getD x.star.toNat false = true) : clTo x r 1 := ⟨fun _ => h, fun j _ h => by omega⟩
theorem clTo_edge {x : St} {r : List Bool} {k : Nat} (h : clTo x r (k + 1)) (hk : k < x.edges.length) (he : r.getD x.edges[k].2.toNat false = true) : clTo x r (k + 2) :=
  ⟨fun _ => h.1 (by omega), fun j hj h2 => by
    by_cases hjk : j = k
    · subst hjk; exact he
    · exact h.2 j hj (by omega)⟩

end Go.Proofs.YtchhmojnoiephaaDoor
