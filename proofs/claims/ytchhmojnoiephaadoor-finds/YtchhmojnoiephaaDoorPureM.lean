import Derived.Test.YtchhmojnoiephaaDoorPureL
/- Plain mathematics: the machine that the program builds of threads, and what holds of it. -/
namespace Go.Proofs.YtchhmojnoiephaaDoor

/-- the first place from 2 on at which p holds -/
def findS (p : Nat → St → Bool) : Nat → List St → Option Nat
  | _, [] => none
  | i, x :: xs => if 2 ≤ i ∧ p i x = true then some i else findS p (i + 1) xs

theorem findS_some (p : Nat → St → Bool) (xs : List St) : ∀ (i k : Nat), findS p i xs = some k → 2 ≤ k ∧ i ≤ k ∧ ∃ h : k - i < xs.length, p k xs[k - i] = true := by
  induction xs with
  | nil => intro i k h; cases h
  | cons x xs ih =>
    intro i k h
    simp only [findS] at h
    split at h
    · rename_i hc; simp only [Option.some.injEq] at h; subst h
      exact ⟨hc.1, Nat.le_refl _, by simp, by simpa using hc.2⟩
    · obtain ⟨h1, h2, h3, h4⟩ := ih _ _ h
      refine ⟨h1, by omega, by simp; omega, ?_⟩
      have e : k - i = (k - (i + 1)) + 1 := by omega
      simp only [e, List.getElem_cons_succ]; exact h4
theorem findS_none (p : Nat → St → Bool) (xs : List St) : ∀ (i : Nat), findS p i xs = none → ∀ k (h : k < xs.length), 2 ≤ i + k → p (i + k) xs[k] = false := by
  induction xs with
  | nil => intro i _ k h; simp at h
  | cons x xs ih =>
    intro i h k hk h2
    simp only [findS] at h
    split at h
    · cases h
    · rename_i hc
      cases k with
      | zero => cases hp : p i x with
        | false => simpa using hp
        | true => exact absurd ⟨by omega, hp⟩ hc
      | succ k =>
        have := ih _ h k (by simpa using hk) (by omega)
        simp only [List.getElem_cons_succ]
        rw [show i + (k + 1) = i + 1 + k from by omega]; exact this

def putS (x : St) (S : List St) : Int × List St :=
  match findS (fun _ y => render y == render x) 0 S with
  | some i => ((i : Int), S)
  | none => ((S.length : Int), S ++ [x])
def loopS (a : List UInt8) (S : List St) : Int × List St :=
  match findS (fun i y => render y == render ⟨a, [], (i : Int)⟩) 0 S with
  | some i => ((i : Int), S)
  | none => ((S.length : Int), S ++ [⟨a, [], (S.length : Int)⟩])

abbrev NumF := List Thr → List St → Int × List St

/-- where each of the levels leads -/
def edgF (num : NumF) (T : List Thr) : List (List UInt8) → List St → List (List UInt8 × Int) × List St
  | [], S => ([], S)
  | l :: ls, S => ((l, (num (meetL l T) S).1) :: (edgF num T ls (num (meetL l T) S).2).1, (edgF num T ls (num (meetL l T) S).2).2)

def cutTo (st : Int) (F : List (List UInt8 × Int)) : List (List UInt8 × Int) := F.filter fun e => e.2 != st

/-- the edges, where * leads, and the states behind it -/
def edgS (num : NumF) (T : List Thr) (S : List St) : List (List UInt8 × Int) × Int × List St :=
  (cutTo (num (meetL [42] T) S).1 (edgF num T (levsT T) (num (meetL [42] T) S).2).1, (num (meetL [42] T) S).1, (edgF num T (levsT T) (num (meetL [42] T) S).2).2)

def numS : Nat → NumF
  | 0, _, S => (-1, S)
  | n + 1, T, S => if T = [] then (-1, S) else if T.all stayB then loopS (ansT T) S else
    putS ⟨ansT T, (edgS (numS n) T S).1, (edgS (numS n) T S).2.1⟩ (edgS (numS n) T S).2.2

theorem edgF_snoc (num : NumF) (T : List Thr) (l : List UInt8) : ∀ (ls : List (List UInt8)) (S : List St),
    edgF num T (ls ++ [l]) S = ((edgF num T ls S).1 ++ [(l, (num (meetL l T) (edgF num T ls S).2).1)], (num (meetL l T) (edgF num T ls S).2).2)
  | [], S => rfl
  | m :: ls, S => by simp only [List.cons_append, edgF]; rw [edgF_snoc num T l ls]

/-- a thread of a table -/
def gT (t : Thr) : Prop := goodT t ∧ 0 ≤ t.2 ∧ t.2 < 16

theorem meetL_gT {m : List UInt8} {T : List Thr} (hT : ∀ t ∈ T, gT t) (hm : metL m) : ∀ t ∈ meetL m T, gT t := by
  intro u hu
  obtain ⟨t, ht, he⟩ := List.mem_filterMap.1 hu
  have h := meetT_good (hT t ht).1 hm he
  have h2 := hT t ht
  exact ⟨h.1, by rw [h.2.1]; exact h2.2.1, by rw [h.2.1]; exact h2.2.2⟩

def inS (S : List St) (k : Int) : Prop := k = -1 ∨ (2 ≤ k ∧ k < (S.length : Int))

theorem walk_in (S R : List St) (hS : Good S) (w : List (List UInt8)) : ∀ k : Int, inS S k → inS S (walkK S k w) ∧ walkK (S ++ R) k w = walkK S k w := by
  induction w with
  | nil => intro k hk; exact ⟨hk, rfl⟩
  | cons l w ih =>
    intro k hk
    rcases hk with rfl | ⟨h2, hl⟩
    · rw [walkK_neg _ _ _ (by omega), walkK_neg _ _ _ (by omega)]; exact ⟨Or.inl rfl, rfl⟩
    · obtain ⟨n, rfl⟩ := Int.eq_ofNat_of_zero_le (by omega : 0 ≤ k)
      have hn : n < S.length := by omega
      have hn' : n < (S ++ R).length := by rw [List.length_append]; omega
      have hg : (S ++ R)[n] = S[n] := List.getElem_append_left hn
      simp only [walkK]
      rw [if_neg (by omega), if_neg (by omega), stepS_some S n l hn, stepS_some (S ++ R) n l hn', hg]
      refine ih _ ?_
      rcases good_step S hS n hn (by omega) l with ⟨_, _, h⟩ | ⟨_, h | ⟨k, h, h', h''⟩⟩
      · rw [h]; exact Or.inr ⟨by omega, by omega⟩
      · exact Or.inl h
      · rw [h]; exact Or.inr ⟨by omega, by omega⟩
theorem lang_ext (S R : List St) (hS : Good S) (k : Int) (hk : inS S k) (w : List (List UInt8)) : lang (S ++ R) k w = lang S k w := by
  obtain ⟨h1, h2⟩ := walk_in S R hS w k hk
  unfold lang
  rw [h2]
  rcases h1 with h | ⟨h, h'⟩
  · rw [h, ansOf_neg _ _ (by omega), ansOf_neg _ _ (by omega)]
  · obtain ⟨n, hn⟩ := Int.eq_ofNat_of_zero_le (by omega : 0 ≤ walkK S k w)
    rw [hn] at h' ⊢
    have hl : n < S.length := by omega
    rw [ansOf_some S n hl, ansOf_some (S ++ R) n (by rw [List.length_append]; omega), List.getElem_append_left hl]

/-- one comes from k to m -/
def Reach (S : List St) (k : Int) (m : Nat) : Prop := ∃ w, sgnW w ∧ walkK S k w = (m : Int)
theorem reach_ext (S R : List St) (hS : Good S) (k : Int) (hk : inS S k) (m : Nat) (h : Reach S k m) : Reach (S ++ R) k m := by
  obtain ⟨w, hw, he⟩ := h
  exact ⟨w, hw, by rw [(walk_in S R hS w k hk).2]; exact he⟩

/-- what holds of the states while they are put in; C: the rows of threads that come up -/
structure Inv (C : List Thr → Prop) (S : List St) : Prop where
  good : Good S
  sem : ∀ i (h : i < S.length), 2 ≤ i → ∃ T, C T ∧ (∀ w, sgnW w → lang S (i : Int) w = ansT (meets T w)) ∧ (render S[i]).length ≤ 4 + 30 * T.length

theorem okS_of {S : List St} (hS : Good S) (h9 : S.length ≤ 1000) (i : Nat) (hi : i < S.length) (h2 : 2 ≤ i) : okS S[i] := by
  have ok := hS.each i hi h2
  refine ⟨ok.ans, fun e he => ⟨(ok.lev e he).1, ?_⟩, ok.rise, ?_⟩
  · rcases ok.to with ⟨h, _⟩ | ⟨h, _⟩
    · rw [h] at he; simp at he
    · have := h e he; omega
  · rcases ok.to with ⟨_, h, _⟩ | ⟨_, h, _⟩
    · rw [h]; omega
    · omega

/-- a state that is not yet there -/
structure NewSt (C : List Thr → Prop) (S : List St) (T : List Thr) (x : St) : Prop where
  at' : OkAt S.length x
  star : x.star ≠ (S.length : Int)
  c : C T
  nil : x.ans = ansT T
  cons : ∀ l, sgnL l → inS S (followE x.edges x.star l) ∧ ∀ w, sgnW w → lang S (followE x.edges x.star l) w = ansT (meets (meetL l T) w)
  len : (render x).length ≤ 4 + 30 * T.length

theorem follow_in {S : List St} {x : St} (h : OkAt S.length x) (hs : x.star ≠ (S.length : Int)) (l : List UInt8) : inS S (followE x.edges x.star l) := by
  rcases h.to with ⟨_, h1, _⟩ | ⟨h1, h2, _⟩
  · exact absurd h1 hs
  · rcases followE_mem x.edges x.star l with h3 | h3
    · rw [h3]
      rcases h2 with h2 | h2
      · exact Or.inl h2
      · exact Or.inr ⟨h2.1, h2.2⟩
    · have := h1 _ h3; exact Or.inr ⟨this.1, this.2.1⟩

theorem lang_new {C : List Thr → Prop} {S : List St} {T : List Thr} {x : St} (hS : Good S) (hx : NewSt C S T x) (S' : List St) (i : Nat) (hi : i < S'.length) (he : S'[i] = x) (hp : ∃ R, S' = S ++ R) :
    ∀ w, sgnW w → lang S' (i : Int) w = ansT (meets T w) := by
  intro w hw
  cases w with
  | nil => rw [lang_nil S' i hi, he]; exact hx.nil
  | cons l w =>
    have hl : sgnL l := hw l (by simp)
    have hw' : sgnW w := fun m hm => hw m (by simp [hm])
    rw [lang_cons S' i hi, he]
    obtain ⟨R, rfl⟩ := hp
    rw [lang_ext S R hS _ (hx.cons l hl).1, (hx.cons l hl).2 w hw']; rfl

theorem put_spec {C : List Thr → Prop} (hC : ∀ S, Inv C S → S.length ≤ 900) {S : List St} (hS : Inv C S) {T : List Thr} {x : St} (hx : NewSt C S T x) :
    ∃ (k : Nat) (R : List St), (putS x S) = ((k : Int), S ++ R) ∧ Inv C (S ++ R) ∧ 2 ≤ k ∧ (∃ h : k < (S ++ R).length, (S ++ R)[k] = x) ∧ (∀ m, S.length ≤ m → m < (S ++ R).length → m = k) := by
  have h9 := hC S hS
  have okx : okS x := by
    refine ⟨hx.at'.ans, fun e he => ⟨(hx.at'.lev e he).1, ?_⟩, hx.at'.rise, ?_⟩
    · rcases hx.at'.to with ⟨h, _⟩ | ⟨h, _⟩
      · rw [h] at he; simp at he
      · have := h e he; omega
    · rcases hx.at'.to with ⟨_, h, _⟩ | ⟨_, h, _⟩
      · exact absurd h hx.star
      · omega
  unfold putS
  cases hf : findS (fun _ y => render y == render x) 0 S with
  | some i =>
    obtain ⟨h2, _, h3, h4⟩ := findS_some _ _ _ _ hf
    simp only [Nat.sub_zero] at h3 h4
    have hi : S[i] = x := render_inj _ _ (okS_of hS.good (by omega) i h3 h2) okx (by simpa using h4)
    refine ⟨i, [], by simp, by simpa using hS, h2, ⟨by simpa using h3, by simpa using hi⟩, fun m h1 h2 => ?_⟩
    simp at h2; omega
  | none =>
    have hno := findS_none _ _ _ hf
    have hgood : Good (S ++ [x]) := by
      refine ⟨by have := hS.good.two; simp; omega, fun i hi h2 => ?_, fun i j hi hj h2 hji => ?_⟩
      · by_cases hlt : i < S.length
        · rw [List.getElem_append_left hlt]; exact hS.good.each i hlt h2
        · have hi' : i = S.length := by simp at hi; omega
          subst hi'
          rw [List.getElem_append_right (Nat.le_refl _)]; simpa using hx.at'
      · have hjl : j < S.length := by simp at hi; omega
        rw [List.getElem_append_left hjl]
        by_cases hlt : i < S.length
        · rw [List.getElem_append_left hlt]; exact hS.good.uniq i j hlt hjl h2 hji
        · have hi' : i = S.length := by simp at hi; omega
          subst hi'
          rw [List.getElem_append_right (Nat.le_refl _)]
          simp only [Nat.sub_self, List.getElem_cons_zero]
          refine ⟨fun he => ?_, fun he => absurd he hx.star⟩
          have := hno j hjl (by omega)
          rw [← he] at this; simp at this
    refine ⟨S.length, [x], rfl, ⟨hgood, fun i hi h2 => ?_⟩, hS.good.two, ⟨by simp, by simp⟩, fun m h1 h2 => by simp at h2; omega⟩
    by_cases hlt : i < S.length
    · obtain ⟨T', h1, h3, h4⟩ := hS.sem i hlt h2
      refine ⟨T', h1, fun w hw => ?_, by rw [List.getElem_append_left hlt]; exact h4⟩
      rw [lang_ext S [x] hS.good _ (Or.inr ⟨by omega, by omega⟩)]; exact h3 w hw
    · have hi' : i = S.length := by simp at hi; omega
      subst hi'
      refine ⟨T, hx.c, lang_new hS.good hx _ _ hi (by simp) ⟨[x], rfl⟩, ?_⟩
      rw [List.getElem_append_right (Nat.le_refl _)]; simpa using hx.len

end Go.Proofs.YtchhmojnoiephaaDoor
