import Derived.Test.YtchhmojnoiephaaDoorPureJ
/- Plain mathematics: least machines (P9): states of which each leads to earlier ones (or to itself at every level), no two the same: no two of them answer alike. -/
namespace Go.Proofs.YtchhmojnoiephaaDoor

def lang (S : List St) (k : Int) (w : List (List UInt8)) : List UInt8 := ansOf S (walkK S k w)

/-- letters that rise -/
def ansOK (a : List UInt8) : Prop := a.Pairwise (fun x y => x.toNat < y.toNat) ∧ ∀ c ∈ a, 65 ≤ c.toNat ∧ c.toNat ≤ 80

structure OkAt (i : Nat) (x : St) : Prop where
  ans : ansOK x.ans
  lev : ∀ e ∈ x.edges, sgnL e.1 ∧ e.1.length ≤ 24
  rise : Rise (x.edges.map (·.1))
  to : (x.edges = [] ∧ x.star = (i : Int) ∧ x.ans ≠ []) ∨
    ((∀ e ∈ x.edges, 2 ≤ e.2 ∧ e.2 < (i : Int) ∧ e.2 ≠ x.star) ∧ (x.star = -1 ∨ (2 ≤ x.star ∧ x.star < (i : Int))) ∧ (x.ans ≠ [] ∨ x.edges ≠ [] ∨ x.star ≠ -1))

structure Good (S : List St) : Prop where
  two : 2 ≤ S.length
  each : ∀ i (h : i < S.length), 2 ≤ i → OkAt i S[i]
  uniq : ∀ i j (hi : i < S.length) (hj : j < S.length), 2 ≤ j → j < i → S[i] ≠ S[j] ∧ (S[i].star = (i : Int) → S[j] ≠ ⟨S[i].ans, [], (j : Int)⟩)

theorem lang_dead (S : List St) (w : List (List UInt8)) : lang S (-1) w = [] := by
  unfold lang; rw [walkK_neg _ _ _ (by omega), ansOf_neg _ _ (by omega)]
theorem lang_nil (S : List St) (i : Nat) (h : i < S.length) : lang S (i : Int) [] = S[i].ans := by
  unfold lang; simp only [walkK]; exact ansOf_some S i h
theorem lang_cons (S : List St) (i : Nat) (h : i < S.length) (l : List UInt8) (w : List (List UInt8)) : lang S (i : Int) (l :: w) = lang S (followE S[i].edges S[i].star l) w := by
  unfold lang; simp only [walkK]; rw [if_neg (by omega), stepS_some S i l h]

theorem followE_mem (E : List (List UInt8 × Int)) (st : Int) (l : List UInt8) : followE E st l = st ∨ (l, followE E st l) ∈ E := by
  induction E with
  | nil => exact Or.inl rfl
  | cons e E ih =>
    simp only [followE]
    split
    · rename_i h; right; rw [← h]; simp
    · rcases ih with h | h
      · exact Or.inl h
      · exact Or.inr (by simp [h])
theorem followE_at (E : List (List UInt8 × Int)) (st : Int) (h : Rise (E.map (·.1))) : ∀ e ∈ E, followE E st e.1 = e.2 := by
  induction E with
  | nil => intro e he; simp at he
  | cons a E ih =>
    intro e he
    simp only [followE]
    simp only [Rise, List.map_cons, List.pairwise_cons] at h
    rcases List.mem_cons.1 he with rfl | he
    · rw [if_pos rfl]
    · rw [if_neg, ih h.2 e he]
      intro heq
      have := h.1 e.1 (List.mem_map_of_mem he)
      rw [heq, less_irrefl] at this; cases this
theorem followE_no (E : List (List UInt8 × Int)) (st : Int) (l : List UInt8) (h : ∀ e ∈ E, e.1 ≠ l) : followE E st l = st := by
  induction E with
  | nil => rfl
  | cons a E ih =>
    simp only [followE]
    rw [if_neg (h a (by simp))]; exact ih (fun e he => h e (by simp [he]))

/-- two rising rows with the same members are one -/
theorem rise_ext : ∀ (E F : List (List UInt8 × Int)), Rise (E.map (·.1)) → Rise (F.map (·.1)) → (∀ e, e ∈ E ↔ e ∈ F) → E = F
  | [], [], _, _, _ => rfl
  | [], f :: F, _, _, h => by have := (h f).2 (by simp); simp at this
  | e :: E, [], _, _, h => by have := (h e).1 (by simp); simp at this
  | e :: E, f :: F, hE, hF, h => by
    simp only [Rise, List.map_cons, List.pairwise_cons] at hE hF
    have hef : e = f := by
      rcases List.mem_cons.1 ((h e).1 (by simp)) with he | he
      · exact he
      · rcases List.mem_cons.1 ((h f).2 (by simp)) with hf | hf
        · exact hf.symm
        · have h1 := hF.1 e.1 (List.mem_map_of_mem he)
          have h2 := hE.1 f.1 (List.mem_map_of_mem hf)
          have := less_asymm _ _ h1
          rw [h2] at this; cases this
    subst hef
    congr 1
    refine rise_ext E F hE.2 hF.2 (fun x => ⟨fun hx => ?_, fun hx => ?_⟩)
    · rcases List.mem_cons.1 ((h x).1 (by simp [hx])) with hh | hh
      · subst hh
        have := hE.1 x.1 (List.mem_map_of_mem hx)
        rw [less_irrefl] at this; cases this
      · exact hh
    · rcases List.mem_cons.1 ((h x).2 (by simp [hx])) with hh | hh
      · subst hh
        have := hF.1 x.1 (List.mem_map_of_mem hx)
        rw [less_irrefl] at this; cases this
      · exact hh

/-- a level that no edge names -/
def freshL : List UInt8 := List.replicate 25 97
theorem fresh_sgn : sgnL freshL := by
  intro c hc
  rw [freshL, List.mem_replicate] at hc
  rw [hc.2]; rfl
theorem follow_fresh (E : List (List UInt8 × Int)) (st : Int) (h : ∀ e ∈ E, sgnL e.1 ∧ e.1.length ≤ 24) : followE E st freshL = st :=
  followE_no E st freshL (fun e he heq => by have := (h e he).2; rw [heq] at this; simp [freshL] at this)

def sgnW (w : List (List UInt8)) : Prop := ∀ l ∈ w, sgnL l
theorem sgnW_cons {l : List UInt8} {w : List (List UInt8)} (h1 : sgnL l) (h2 : sgnW w) : sgnW (l :: w) := by
  intro x hx
  rcases List.mem_cons.1 hx with rfl | hx
  · exact h1
  · exact h2 x hx

/-- from each state one comes to an answer -/
theorem good_live (S : List St) (hS : Good S) : ∀ (n i : Nat), i ≤ n → 2 ≤ i → i < S.length → ∃ w, sgnW w ∧ lang S (i : Int) w ≠ [] := by
  intro n
  induction n with
  | zero => intro i h1 h2; omega
  | succ n ih =>
    intro i h1 h2 hi
    have ok := hS.each i hi h2
    by_cases ha : S[i].ans = []
    · rcases ok.to with ⟨_, _, h⟩ | ⟨he, hs, hne⟩
      · exact absurd ha h
      · by_cases hE : S[i].edges = []
        · have hst : S[i].star ≠ -1 := by
            rcases hne with h | h | h
            · exact absurd ha h
            · exact absurd hE h
            · exact h
          rcases hs with hs | hs
          · exact absurd hs hst
          · obtain ⟨k, hk⟩ := Int.eq_ofNat_of_zero_le (by omega : 0 ≤ S[i].star)
            obtain ⟨w, hw, hl⟩ := ih k (by omega) (by omega) (by omega)
            refine ⟨freshL :: w, sgnW_cons fresh_sgn hw, ?_⟩
            rw [lang_cons S i hi, follow_fresh _ _ ok.lev, hk]; exact hl
        · obtain ⟨e, E, hcons⟩ := List.exists_cons_of_ne_nil hE
          have hm : e ∈ S[i].edges := by rw [hcons]; simp
          have hb := he e hm
          obtain ⟨k, hk⟩ := Int.eq_ofNat_of_zero_le (by omega : 0 ≤ e.2)
          obtain ⟨w, hw, hl⟩ := ih k (by omega) (by omega) (by omega)
          refine ⟨e.1 :: w, sgnW_cons (ok.lev e hm).1 hw, ?_⟩
          rw [lang_cons S i hi, followE_at _ _ ok.rise e hm, hk]; exact hl
    · exact ⟨[], by intro l hl; simp at hl, by rw [lang_nil S i hi]; exact ha⟩

/-- where a level leads: nowhere, to an earlier state, or (a loop) to itself -/
theorem good_step (S : List St) (hS : Good S) (i : Nat) (hi : i < S.length) (h2 : 2 ≤ i) (l : List UInt8) :
    (S[i].edges = [] ∧ S[i].star = (i : Int) ∧ followE S[i].edges S[i].star l = (i : Int)) ∨ (S[i].star ≠ (i : Int) ∧ (followE S[i].edges S[i].star l = -1 ∨ ∃ k : Nat, followE S[i].edges S[i].star l = (k : Int) ∧ 2 ≤ k ∧ k < i)) := by
  have ok := hS.each i hi h2
  rcases ok.to with ⟨h, hs, _⟩ | ⟨he, hs, _⟩
  · left; exact ⟨h, hs, by rw [h, hs]; rfl⟩
  · right
    refine ⟨by omega, ?_⟩
    rcases followE_mem S[i].edges S[i].star l with h | h
    · rcases hs with hs | hs
      · left; rw [h, hs]
      · right
        obtain ⟨k, hk⟩ := Int.eq_ofNat_of_zero_le (by omega : 0 ≤ S[i].star)
        exact ⟨k, by rw [h, hk], by omega, by omega⟩
    · right
      have := he _ h
      simp only at this
      obtain ⟨k, hk⟩ := Int.eq_ofNat_of_zero_le (by omega : 0 ≤ followE S[i].edges S[i].star l)
      exact ⟨k, hk, by omega, by omega⟩

def sameLang (S : List St) (a b : Int) : Prop := ∀ w, sgnW w → lang S a w = lang S b w

theorem good_edges (E F : List (List UInt8 × Int)) (st : Int) (hE : Rise (E.map (·.1))) (hF : Rise (F.map (·.1))) (lE : ∀ e ∈ E, sgnL e.1) (lF : ∀ e ∈ F, sgnL e.1) (nE : ∀ e ∈ E, e.2 ≠ st) (nF : ∀ e ∈ F, e.2 ≠ st)
    (h : ∀ l, sgnL l → followE E st l = followE F st l) : E = F := by
  refine rise_ext E F hE hF (fun e => ⟨fun he => ?_, fun he => ?_⟩)
  · have h1 := followE_at E st hE e he
    have h2 := h e.1 (lE e he)
    rcases followE_mem F st e.1 with h3 | h3
    · exact absurd (h1.symm.trans (h2.trans h3)) (nE e he)
    · rw [← h2, h1] at h3; exact h3
  · have h1 := followE_at F st hF e he
    have h2 := h e.1 (lF e he)
    rcases followE_mem E st e.1 with h3 | h3
    · exact absurd (h1.symm.trans (h2.symm.trans h3)) (nF e he)
    · rw [h2, h1] at h3; exact h3

theorem good_apart (S : List St) (hS : Good S) : ∀ (n i j : Nat), i ≤ n → j < i → 2 ≤ j → i < S.length → ¬ sameLang S (i : Int) (j : Int) := by
  intro n
  induction n with
  | zero => intro i j h1 h2; omega
  | succ n ih =>
    intro i j h1 h2 h3 hi hsame
    have hj : j < S.length := by omega
    have oki := hS.each i hi (by omega)
    have okj := hS.each j hj h3
    have hun := hS.uniq i j hi hj h3 h2
    have hans : S[i].ans = S[j].ans := by
      have := hsame [] (by intro l hl; simp at hl)
      rw [lang_nil S i hi, lang_nil S j hj] at this; exact this
    -- two states below i that answer alike are one
    have one : ∀ a b : Nat, a < i → b < i → 2 ≤ a → 2 ≤ b → sameLang S (a : Int) (b : Int) → a = b := by
      intro a b ha hb h2a h2b hs
      rcases Nat.lt_trichotomy a b with h | h | h
      · exact absurd (fun w hw => (hs w hw).symm) (ih b a (by omega) h h2a (by omega))
      · exact h
      · exact absurd hs (ih a b (by omega) h h2b (by omega))
    have hstep : ∀ l, sgnL l → sameLang S (followE S[i].edges S[i].star l) (followE S[j].edges S[j].star l) := by
      intro l hl w hw
      have := hsame (l :: w) (sgnW_cons hl hw)
      rw [lang_cons S i hi, lang_cons S j hj] at this; exact this
    have dead : ∀ k : Nat, 2 ≤ k → k < S.length → ¬ sameLang S (k : Int) (-1) := by
      intro k h2k hk hs
      obtain ⟨w, hw, hl⟩ := good_live S hS k k (Nat.le_refl _) h2k hk
      exact hl ((hs w hw).trans (lang_dead S w))
    by_cases hloop : S[i].star = (i : Int)
    · -- i leads to itself
      rcases good_step S hS i hi (by omega) freshL with ⟨hei, hsi, hfi⟩ | ⟨hn, _⟩
      · rcases good_step S hS j hj h3 freshL with ⟨hej, hsj, _⟩ | ⟨hnj, hb⟩
        · refine hun.2 hloop ?_
          have e : S[j] = ⟨S[j].ans, S[j].edges, S[j].star⟩ := rfl
          rw [e, hej, hsj, hans]
        · have hs1 := hstep freshL fresh_sgn
          rw [hfi] at hs1
          rcases hb with hb | ⟨k, hk, hk2, hkj⟩
          · rw [hb] at hs1; exact dead i (by omega) hi hs1
          · rw [hk] at hs1
            have : k = j := one k j (by omega) h2 hk2 h3 (fun w hw => (hs1 w hw).symm.trans (hsame w hw))
            omega
      · exact absurd hloop hn
    · have heq : ∀ l, sgnL l → followE S[i].edges S[i].star l = followE S[j].edges S[j].star l := by
        intro l hl
        have hs := hstep l hl
        rcases good_step S hS i hi (by omega) l with ⟨_, hsi, _⟩ | ⟨_, ha⟩
        · exact absurd hsi hloop
        · have hb : followE S[j].edges S[j].star l = -1 ∨ ∃ k : Nat, followE S[j].edges S[j].star l = (k : Int) ∧ 2 ≤ k ∧ k < i := by
            rcases good_step S hS j hj h3 l with ⟨_, _, h⟩ | ⟨_, h | ⟨k, h, h', h''⟩⟩
            · exact Or.inr ⟨j, h, h3, h2⟩
            · exact Or.inl h
            · exact Or.inr ⟨k, h, h', by omega⟩
          rcases ha with ha | ⟨a, ha, ha2, hai⟩
          · rcases hb with hb | ⟨b, hb, hb2, hbi⟩
            · rw [ha, hb]
            · rw [ha, hb] at hs
              exact absurd (fun w hw => (hs w hw).symm) (dead b hb2 (by omega))
          · rcases hb with hb | ⟨b, hb, hb2, hbi⟩
            · rw [ha, hb] at hs
              exact absurd hs (dead a ha2 (by omega))
            · rw [ha, hb] at hs ⊢
              rw [one a b hai hbi ha2 hb2 hs]
      have hst : S[i].star = S[j].star := by
        have := heq freshL fresh_sgn
        rw [follow_fresh _ _ oki.lev, follow_fresh _ _ okj.lev] at this; exact this
      have hni : ∀ e ∈ S[i].edges, e.2 ≠ S[i].star := by
        rcases oki.to with ⟨_, h, _⟩ | ⟨h, _⟩
        · exact absurd h hloop
        · exact fun e he => (h e he).2.2
      have hnj : ∀ e ∈ S[j].edges, e.2 ≠ S[i].star := by
        rcases okj.to with ⟨h, _⟩ | ⟨h, _⟩
        · intro e he; rw [h] at he; simp at he
        · exact fun e he => by rw [hst]; exact (h e he).2.2
      have hE : S[i].edges = S[j].edges := good_edges _ _ S[i].star oki.rise okj.rise (fun e he => (oki.lev e he).1) (fun e he => (okj.lev e he).1) hni hnj (fun l hl => by rw [heq l hl, hst])
      refine hun.1 ?_
      have e1 : S[i] = ⟨S[i].ans, S[i].edges, S[i].star⟩ := rfl
      have e2 : S[j] = ⟨S[j].ans, S[j].edges, S[j].star⟩ := rfl
      rw [e1, e2, hans, hE, hst]

/-- no two states answer alike -/
theorem good_min (S : List St) (hS : Good S) (i j : Nat) (h2i : 2 ≤ i) (h2j : 2 ≤ j) (hi : i < S.length) (hj : j < S.length) (h : sameLang S (i : Int) (j : Int)) : i = j := by
  rcases Nat.lt_trichotomy i j with hl | hl | hl
  · exact absurd (fun w hw => (h w hw).symm) (good_apart S hS j j i (Nat.le_refl _) hl h2i hj)
  · exact hl
  · exact absurd h (good_apart S hS i i j (Nat.le_refl _) hl h2j hi)

end Go.Proofs.YtchhmojnoiephaaDoor
