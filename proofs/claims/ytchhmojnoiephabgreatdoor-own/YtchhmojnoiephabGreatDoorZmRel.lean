import Derived.Test.YtchhmojnoiephabGreatDoorZmRefQ
import Derived.Test.YtchhmojnoiephabGreatDoorZmHubQ
import Derived.Test.YtchhmojnoiephabGreatDoorZmRefF
/- Plain mathematics: what is kept: the program's way and the document's. -/
namespace Go.Proofs.YtchhmojnoiephabGreatDoor

theorem u8_tri (a b : UInt8) (h1 : ¬ a < b) (h2 : ¬ b < a) : a = b := by
  rw [UInt8.lt_iff_toNat_lt] at h1 h2
  exact UInt8.toNat_inj.1 (by omega)
theorem u8_asy (a b : UInt8) (h : a < b) : ¬ b < a := by rw [UInt8.lt_iff_toNat_lt] at *; omega
theorem u8_irr (a : UInt8) : ¬ a < a := by rw [UInt8.lt_iff_toNat_lt]; omega
theorem u8_trans (a b c : UInt8) (h : a < b) (h' : b < c) : a < c := by rw [UInt8.lt_iff_toNat_lt] at *; omega
theorem less_iff (a b : UInt8) (x y : List UInt8) : Go.Op.bytesLess (a :: x) (b :: y) = true ↔ a < b ∨ (a = b ∧ Go.Op.bytesLess x y = true) := by simp [Go.Op.bytesLess]
theorem less_tri : ∀ (x y : List UInt8), ¬ Go.Op.bytesLess x y = true → ¬ Go.Op.bytesLess y x = true → x = y
  | [], [], _, _ => rfl
  | [], b :: y, h, _ => absurd rfl h
  | a :: x, [], _, h => absurd rfl h
  | a :: x, b :: y, h, h' => by
    rw [less_iff] at h h'
    have e : a = b := u8_tri a b (fun k => h (Or.inl k)) (fun k => h' (Or.inl k))
    subst e
    rw [less_tri x y (fun k => h (Or.inr ⟨rfl, k⟩)) (fun k => h' (Or.inr ⟨rfl, k⟩))]
theorem less_asy : ∀ (x y : List UInt8), Go.Op.bytesLess x y = true → ¬ Go.Op.bytesLess y x = true
  | [], [], h, _ => by cases h
  | [], b :: y, _, h => by cases h
  | a :: x, [], h, _ => by cases h
  | a :: x, b :: y, h, h' => by
    rw [less_iff] at h h'
    rcases h with h | ⟨rfl, h⟩
    · rcases h' with h' | ⟨rfl, h'⟩
      · exact u8_asy _ _ h h'
      · exact u8_irr _ h
    · rcases h' with h' | ⟨_, h'⟩
      · exact u8_irr _ h'
      · exact less_asy x y h h'
theorem bless_trans : ∀ (x y z : List UInt8), Go.Op.bytesLess x y = true → Go.Op.bytesLess y z = true → Go.Op.bytesLess x z = true
  | a, [], _, h, _ => by cases a <;> cases h
  | [], b :: y, [], h, h' => by cases h'
  | [], b :: y, c :: z, h, h' => rfl
  | a :: x, b :: y, [], h, h' => by cases h'
  | a :: x, b :: y, c :: z, h, h' => by
    rw [less_iff] at h h' ⊢
    rcases h with h | ⟨rfl, h⟩
    · rcases h' with h' | ⟨rfl, h'⟩
      · exact Or.inl (u8_trans _ _ _ h h')
      · exact Or.inl h
    · rcases h' with h' | ⟨rfl, h'⟩
      · exact Or.inl h'
      · exact Or.inr ⟨rfl, bless_trans x y z h h'⟩
def riseK (K : List MsgL) : Prop := K.Pairwise (fun a b => Go.Op.bytesLess a.1 b.1 = true)
theorem lt_cases (t k : List UInt8) : (ltL t k = true ∧ gtL t k = false ∧ k ≠ t ∧ leqL t k = false) ∨ (ltL t k = false ∧ gtL t k = false ∧ k = t ∧ leqL t k = true) ∨ (ltL t k = false ∧ gtL t k = true ∧ k ≠ t ∧ leqL t k = true ∧ Go.Op.bytesLess t k = true) := by
  unfold ltL gtL leqL
  by_cases he : k = t
  · subst he; refine Or.inr (Or.inl ⟨less_irr _, by simp, rfl, by simp⟩)
  · by_cases h : Go.Op.bytesLess k t = true
    · have h2 : Go.Op.bytesLess t k = false := by simpa using less_asy _ _ h
      have h3 : t ≠ k := fun e => he e.symm
      refine Or.inl ⟨h, by simp [h], he, by simp [h2, h3]⟩
    · have h2 : Go.Op.bytesLess t k = true := by
        by_cases h3 : Go.Op.bytesLess t k = true
        · exact h3
        · exact absurd (less_tri _ _ h h3) he
      refine Or.inr (Or.inr ⟨by simpa using h, by simp [h, he], he, by simp [h2], h2⟩)
def keepR (t p : List UInt8) (a : List MsgL × Bool) (K : List MsgL) : List MsgL := (K.foldl (keepS t p) a).1 ++ (if (K.foldl (keepS t p) a).2 = true then [] else [(t, p)])
theorem keepR_done (t p : List UInt8) (K : List MsgL) : ∀ acc, keepR t p (acc, true) K = acc ++ K.filter (fun k => !decide (k.1 = t)) := by
  induction K with
  | nil => intro acc; simp [keepR]
  | cons m K ih =>
    intro acc
    have h := ih (acc ++ (if decide (m.1 = t) = true then [] else [m]))
    unfold keepR at h ⊢
    rw [List.foldl_cons, show keepS t p (acc, true) m = (acc ++ (if decide (m.1 = t) = true then [] else [m]), true) by simp [keepS], h]
    by_cases hm : m.1 = t <;> simp [hm]
theorem above_all (t : List UInt8) (m : MsgL) (K : List MsgL) (h : riseK (m :: K)) (hl : leqL t m.1 = true) : ∀ k ∈ K, ltL t k.1 = false ∧ gtL t k.1 = true ∧ k.1 ≠ t := by
  intro k hk
  have h1 : Go.Op.bytesLess m.1 k.1 = true := (List.pairwise_cons.1 h).1 k hk
  have h2 : Go.Op.bytesLess t k.1 = true := by
    rcases lt_cases t m.1 with ⟨_, _, _, h0⟩ | ⟨_, _, h0, _⟩ | ⟨_, _, _, _, h0⟩
    · rw [hl] at h0; cases h0
    · rw [← h0]; exact h1
    · exact bless_trans _ _ _ h0 h1
  rcases lt_cases t k.1 with ⟨h0, _⟩ | ⟨_, _, h0, _⟩ | ⟨h3, h4, h5, _⟩
  · exact absurd h0 (less_asy _ _ h2)
  · rw [h0, less_irr] at h2; cases h2
  · exact ⟨h3, h4, h5⟩
theorem filter_all {α : Type} (q : α → Bool) (K : List α) (h : ∀ k ∈ K, q k = true) : K.filter q = K := List.filter_eq_self.2 h
theorem filter_none {α : Type} (q : α → Bool) (K : List α) (h : ∀ k ∈ K, q k = false) : K.filter q = [] := List.filter_eq_nil_iff.2 (fun k hk => by simp [h k hk])
theorem keepR_open (t p : List UInt8) (K : List MsgL) (hK : riseK K) : ∀ acc, keepR t p (acc, false) K = acc ++ (K.filter (fun k => ltL t k.1) ++ [(t, p)] ++ K.filter (fun k => gtL t k.1)) := by
  induction K with
  | nil => intro acc; simp [keepR]
  | cons m K ih =>
    intro acc
    have hK' : riseK K := (List.pairwise_cons.1 hK).2
    rcases lt_cases t m.1 with ⟨h1, h2, h3, h4⟩ | h
    · have h := ih hK' (acc ++ [m])
      unfold keepR at h ⊢
      rw [List.foldl_cons, show keepS t p (acc, false) m = (acc ++ [m], false) by simp [keepS, h4, h3], h]
      simp [h1, h2]
    · have hl : leqL t m.1 = true := by rcases h with ⟨_, _, _, h⟩ | ⟨_, _, _, h, _⟩ <;> exact h
      have hlt : ltL t m.1 = false := by rcases h with ⟨h, _⟩ | ⟨h, _⟩ <;> exact h
      have ha := above_all t m K hK hl
      have h0 := keepR_done t p K ((acc ++ [(t, p)]) ++ (if decide (m.1 = t) = true then [] else [m]))
      unfold keepR at h0 ⊢
      rw [List.foldl_cons, show keepS t p (acc, false) m = ((acc ++ [(t, p)]) ++ (if decide (m.1 = t) = true then [] else [m]), true) by simp [keepS, hl], h0]
      rw [filter_all _ K (fun k hk => by simp [(ha k hk).2.2]), List.filter_cons, List.filter_cons, filter_none (fun k => ltL t k.1) K (fun k hk => (ha k hk).1), filter_all (fun k => gtL t k.1) K (fun k hk => (ha k hk).2.1)]
      rcases h with ⟨_, h2, h3, _⟩ | ⟨_, h2, h3, _⟩ <;> rw [hlt, h2] <;> simp [h3]
theorem ne_split (t : List UInt8) (K : List MsgL) (hK : riseK K) : K.filter (fun k => !decide (k.1 = t)) = K.filter (fun k => ltL t k.1) ++ K.filter (fun k => gtL t k.1) := by
  induction K with
  | nil => rfl
  | cons m K ih =>
    have hK' : riseK K := (List.pairwise_cons.1 hK).2
    rcases lt_cases t m.1 with ⟨h1, h2, h3, h4⟩ | h
    · simp [h1, h2, h3, ih hK']
    · have hl : leqL t m.1 = true := by rcases h with ⟨_, _, _, h⟩ | ⟨_, _, _, h, _⟩ <;> exact h
      have hlt : ltL t m.1 = false := by rcases h with ⟨h, _⟩ | ⟨h, _⟩ <;> exact h
      have ha := above_all t m K hK hl
      rw [List.filter_cons, List.filter_cons, List.filter_cons, filter_all _ K (fun k hk => by simp [(ha k hk).2.2]), filter_none (fun k => ltL t k.1) K (fun k hk => (ha k hk).1), filter_all (fun k => gtL t k.1) K (fun k hk => (ha k hk).2.1)]
      rcases h with ⟨_, h2, h3, _⟩ | ⟨_, h2, h3, _⟩ <;> rw [hlt, h2] <;> simp [h3]
theorem keepL_putK (t p : List UInt8) (K : List MsgL) (hK : riseK K) : keepL t p K = putK K (t, p) := by
  have h0 : keepL t p K = keepR t p ([], decide (p = [])) K := by unfold keepL keepF keepR; rw [List.take_length]
  rw [h0]
  unfold putK
  by_cases hp : p = []
  · simp only [hp, decide_true, keepR_done, if_true, List.append_nil, List.nil_append]
    exact ne_split t K hK
  · simp only [hp, decide_false, keepR_open t p K hK]
    simp
theorem putK_rise (K : List MsgL) (m : MsgL) (hK : riseK K) : riseK (putK K m) := by
  unfold putK riseK
  have hm : ∀ b ∈ K.filter (fun k => gtL m.1 k.1), Go.Op.bytesLess m.1 b.1 = true := by
    intro b hb
    rcases lt_cases m.1 b.1 with ⟨_, h, _⟩ | ⟨_, h, _⟩ | ⟨_, _, _, _, h⟩
    · have := (List.mem_filter.1 hb).2; rw [h] at this; cases this
    · have := (List.mem_filter.1 hb).2; rw [h] at this; cases this
    · exact h
  have hm' : ∀ a ∈ K.filter (fun k => ltL m.1 k.1), Go.Op.bytesLess a.1 m.1 = true := fun a ha => (List.mem_filter.1 ha).2
  rw [List.pairwise_append, List.pairwise_append]
  refine ⟨⟨hK.sublist List.filter_sublist, by split <;> simp, fun a ha b hb => ?_⟩, hK.sublist List.filter_sublist, fun a ha b hb => ?_⟩
  · split at hb
    · cases hb
    · rw [List.mem_singleton.1 hb]; exact hm' a ha
  · rcases List.mem_append.1 ha with ha | ha
    · exact bless_trans _ _ _ (hm' a ha) (hm b hb)
    · split at ha
      · cases ha
      · rw [List.mem_singleton.1 ha]; exact hm b hb
theorem putK_len2 (K : List MsgL) (t : List UInt8) : K.length = (K.filter (fun k => ltL t k.1)).length + (K.filter (fun k => gtL t k.1)).length + (K.filter (fun k => decide (k.1 = t))).length := by
  induction K with
  | nil => rfl
  | cons m K ih =>
    simp only [List.filter_cons, List.length_cons]
    rcases lt_cases t m.1 with ⟨h1, h2, h3, _⟩ | ⟨h1, h2, h3, _⟩ | ⟨h1, h2, h3, _⟩
    · rw [h1, h2, decide_eq_false h3]; simp; omega
    · rw [h1, h2, decide_eq_true h3]; simp; omega
    · rw [h1, h2, decide_eq_false h3]; simp; omega
theorem same_one (K : List MsgL) (t : List UInt8) (hK : riseK K) : (K.filter (fun k => decide (k.1 = t))).length = if K.any (fun k => decide (k.1 = t)) = true then 1 else 0 := by
  induction K with
  | nil => rfl
  | cons m K ih =>
    have hK' : riseK K := (List.pairwise_cons.1 hK).2
    by_cases hm : m.1 = t
    · have hn : ∀ k ∈ K, decide (k.1 = t) = false := fun k hk => by
        have h1 : Go.Op.bytesLess m.1 k.1 = true := (List.pairwise_cons.1 hK).1 k hk
        simp only [decide_eq_false_iff_not]; intro e; rw [hm, e, less_irr] at h1; cases h1
      rw [List.filter_cons, List.any_cons, decide_eq_true hm, filter_none _ K hn]; rfl
    · rw [List.filter_cons, List.any_cons, decide_eq_false hm, Bool.false_or, if_neg (by simp)]
      exact ih hK'
/-- there is room for the program where there is room for the document -/
theorem room_iff (K : List MsgL) (m : MsgL) (hK : riseK K) (hl : K.length ≤ 4) : roomB K m = !decide (4 < (putK K m).length) := by
  have h1 := putK_len2 K m.1
  have h2 := same_one K m.1 hK
  unfold roomB putK
  rw [List.length_append, List.length_append]
  by_cases hp : m.2 = []
  · rw [decide_eq_true hp, if_pos rfl]; simp; omega
  · rw [decide_eq_false hp, if_neg (by simp)]
    cases ha : K.any (fun k => decide (k.1 = m.1)) with
    | true => rw [ha, if_pos rfl] at h2; simp; omega
    | false =>
      rw [ha, if_neg (by simp)] at h2
      by_cases h4 : K.length < 4
      · rw [decide_eq_true h4]; simp; omega
      · rw [decide_eq_false h4]; simp; omega
end Go.Proofs.YtchhmojnoiephabGreatDoor

/- Plain mathematics: the subscriptions of the program and those of the document; whose turn it is. -/
namespace Go.Proofs.YtchhmojnoiephabGreatDoor
set_option linter.unusedVariables false

abbrev KeyL := Nat × List UInt8 × List UInt8
def keyH (s : SubL) : KeyL := (s.who, s.grp, s.fil)
def keyD (s : RSub) : KeyL := (s.who, s.grp, s.fil)
def lexK (l a : KeyL → Nat) (x y : KeyL) : Prop := l x < l y ∨ (l x = l y ∧ a x < a y)
theorem lexK_asy {l a : KeyL → Nat} {x y : KeyL} (h : lexK l a x y) (h' : lexK l a y x) : False := by unfold lexK at *; omega

/-- the two lists of subscriptions belong together: l: a subscription's last delivery; a: its age -/
structure SubsLink (L : List SubL) (D : List RSub) (cnt : Nat) (l a : KeyL → Nat) (N : Nat) : Prop where
  perm : (L.map keyH).Perm (D.map keyD)
  last : ∀ s ∈ D, s.last = l (keyD s)
  had : ∀ s ∈ L, s.had = decide (0 < l (keyH s))
  age : (D.map keyD).Pairwise (fun x y => a x < a y)
  ord : L.Pairwise (fun x y => x.grp = y.grp → x.fil = y.fil → x.had = y.had → lexK l a (keyH x) (keyH y))
  bndN : ∀ k ∈ D.map keyD, a k < N
  bndC : ∀ k ∈ D.map keyD, l k ≤ cnt
theorem SubsLink.zero : SubsLink [] [] 0 (fun _ => 0) (fun _ => 0) 0 := by
  refine ⟨by simp, by simp, by simp, by simp, by simp, by simp, by simp⟩
theorem SubsLink.nodupD {L : List SubL} {D : List RSub} {cnt : Nat} {l a : KeyL → Nat} {N : Nat} (h : SubsLink L D cnt l a N) : (D.map keyD).Nodup := by
  refine h.age.imp ?_
  intro x y hxy e; subst e; omega
theorem SubsLink.nodupH {L : List SubL} {D : List RSub} {cnt : Nat} {l a : KeyL → Nat} {N : Nat} (h : SubsLink L D cnt l a N) : (L.map keyH).Nodup := h.perm.nodup_iff.2 h.nodupD
theorem SubsLink.len {L : List SubL} {D : List RSub} {cnt : Nat} {l a : KeyL → Nat} {N : Nat} (h : SubsLink L D cnt l a N) : L.length = D.length := by simpa using h.perm.length_eq

/-- k is the one whose turn it is, among ks, of the group and the filter -/
def turnK (on : Nat → Bool) (ks : List KeyL) (l a : KeyL → Nat) (g f : List UInt8) (k : KeyL) : Prop :=
  k ∈ ks ∧ k.2.1 = g ∧ k.2.2 = f ∧ on k.1 = true ∧ ∀ j ∈ ks, j.2.1 = g → j.2.2 = f → on j.1 = true → j = k ∨ lexK l a k j
theorem turnK_one {on : Nat → Bool} {ks : List KeyL} {l a : KeyL → Nat} {g f : List UInt8} {k j : KeyL} (h : turnK on ks l a g f k) (h' : turnK on ks l a g f j) : k = j := by
  rcases h.2.2.2.2 j h'.1 h'.2.1 h'.2.2.1 h'.2.2.2.1 with e | e
  · exact e.symm
  · rcases h'.2.2.2.2 k h.1 h.2.1 h.2.2.1 h.2.2.2.1 with e' | e'
    · exact e'
    · exact (lexK_asy e e').elim
theorem turnK_perm {on : Nat → Bool} {ks ks' : List KeyL} {l a : KeyL → Nat} {g f : List UInt8} {k : KeyL} (hp : ks.Perm ks') (h : turnK on ks l a g f k) : turnK on ks' l a g f k :=
  ⟨hp.mem_iff.1 h.1, h.2.1, h.2.2.1, h.2.2.2.1, fun j hj => h.2.2.2.2 j (hp.mem_iff.2 hj)⟩

theorem mate_iff {H : HubL} {g f : List UInt8} {s : SubL} : mateB H g f s = true ↔ s.grp = g ∧ s.fil = f ∧ H.on s.who = true := by unfold mateB; simp
/-- what the program's turn is -/
def TurnS (H : HubL) (g f : List UInt8) (j : Nat) : Prop :=
  (j = H.subs.length ∧ ∀ s ∈ H.subs, mateB H g f s = false) ∨
  ∃ h : j < H.subs.length, mateB H g f H.subs[j] = true ∧
    ((H.subs[j].had = false ∧ ∀ i (hi : i < H.subs.length), i < j → mateB H g f H.subs[i] = true → H.subs[i].had = true) ∨
     (H.subs[j].had = true ∧ (∀ s ∈ H.subs, mateB H g f s = true → s.had = true) ∧ ∀ i (hi : i < H.subs.length), i < j → mateB H g f H.subs[i] = false))
theorem turn_from (H : HubL) (g f : List UInt8) : ∀ n i turn, i + n = H.subs.length →
    ((turn = H.subs.length ∧ ∀ k (hk : k < H.subs.length), k < i → mateB H g f H.subs[k] = false) ∨ (∃ h : turn < H.subs.length, turn < i ∧ mateB H g f H.subs[turn] = true ∧ H.subs[turn].had = true ∧ ∀ k (hk : k < H.subs.length), k < turn → mateB H g f H.subs[k] = false)) →
    (∀ k (hk : k < H.subs.length), k < i → mateB H g f H.subs[k] = true → H.subs[k].had = true) → TurnS H g f (turnGo H g f i turn (H.subs.drop i)) := by
  intro n
  induction n with
  | zero =>
    intro i turn hi h1 h2
    rw [turnGo_end H g f i turn i (by omega)]
    rcases h1 with ⟨e, h⟩ | ⟨hl, h3, h4, h5, h6⟩
    · refine Or.inl ⟨e, fun s hs => ?_⟩
      obtain ⟨k, hk, rfl⟩ := List.getElem_of_mem hs
      exact h k hk (by omega)
    · refine Or.inr ⟨hl, h4, Or.inr ⟨h5, fun s hs hm => ?_, h6⟩⟩
      obtain ⟨k, hk, rfl⟩ := List.getElem_of_mem hs
      exact h2 k hk (by omega) hm
  | succ n ih =>
    intro i turn hi h1 h2
    have hl : i < H.subs.length := by omega
    cases hm : mateB H g f H.subs[i] with
    | false =>
      rw [turnGo_miss H g f i turn i hl hm]
      refine ih (i + 1) turn (by omega) ?_ ?_
      · rcases h1 with ⟨e, h⟩ | ⟨h3, h4, h5, h6, h7⟩
        · refine Or.inl ⟨e, fun k hk hki => ?_⟩
          by_cases e : k = i
          · subst e; exact hm
          · exact h k hk (by omega)
        · exact Or.inr ⟨h3, by omega, h5, h6, h7⟩
      · intro k hk hki hmk
        by_cases e : k = i
        · subst e; rw [hm] at hmk; cases hmk
        · exact h2 k hk (by omega) hmk
    | true =>
      cases hh : H.subs[i].had with
      | false =>
        rw [turnGo_new H g f i turn i hl hm hh]
        exact Or.inr ⟨hl, hm, Or.inl ⟨hh, fun k hk hki hmk => h2 k hk hki hmk⟩⟩
      | true =>
        rw [turnGo_had H g f i turn i hl hm hh]
        refine ih (i + 1) _ (by omega) ?_ ?_
        · rcases h1 with ⟨e, h⟩ | ⟨h3, h4, h5, h6, h7⟩
          · rw [if_pos e]; exact Or.inr ⟨hl, by omega, hm, hh, h⟩
          · rw [if_neg (by omega)]; exact Or.inr ⟨h3, by omega, h5, h6, h7⟩
        · intro k hk hki hmk
          by_cases e : k = i
          · subst e; exact hh
          · exact h2 k hk (by omega) hmk
theorem turn_spec (H : HubL) (g f : List UInt8) : TurnS H g f (turnH H g f) := by
  have := turn_from H g f H.subs.length 0 H.subs.length (by omega) (Or.inl ⟨rfl, fun k hk h => by omega⟩) (fun k hk h => by omega)
  rw [List.drop_zero] at this
  exact this
theorem pair_at {α : Type} {L : List α} {r : α → α → Prop} (h : L.Pairwise r) {i j : Nat} (hi : i < L.length) (hj : j < L.length) (hij : i < j) : r L[i] L[j] := List.pairwise_iff_getElem.1 h i j hi hj hij
/-- the program's turn is the document's -/
theorem turn_min {H : HubL} {D : List RSub} {cnt N : Nat} {l a : KeyL → Nat} (h : SubsLink H.subs D cnt l a N) (g f : List UInt8) (hj : turnH H g f < H.subs.length) : turnK H.on (H.subs.map keyH) l a g f (keyH H.subs[turnH H g f]) := by
  have hs := turn_spec H g f
  generalize turnH H g f = j at hs hj
  rcases hs with ⟨e, _⟩ | ⟨hl, hm, hc⟩
  · omega
  obtain ⟨m1, m2, m3⟩ := mate_iff.1 hm
  refine ⟨List.mem_map.2 ⟨_, List.getElem_mem hl, rfl⟩, m1, m2, m3, fun k hk h1 h2 h3 => ?_⟩
  obtain ⟨s, hs, rfl⟩ := List.mem_map.1 hk
  obtain ⟨i, hi, rfl⟩ := List.getElem_of_mem hs
  have hmi : mateB H g f H.subs[i] = true := mate_iff.2 ⟨h1, h2, h3⟩
  by_cases e : i = j
  · subst e; exact Or.inl rfl
  · right
    have hhi := h.had _ (List.getElem_mem hi)
    have hhj := h.had _ (List.getElem_mem hl)
    have hgg : H.subs[j].grp = H.subs[i].grp := m1.trans (Eq.symm h1)
    have hff : H.subs[j].fil = H.subs[i].fil := m2.trans (Eq.symm h2)
    rcases hc with ⟨c1, c2⟩ | ⟨c1, c2, c3⟩
    · cases hhad : H.subs[i].had with
      | true =>
        rw [hhad] at hhi; rw [c1] at hhj
        have q1 := of_decide_eq_true hhi.symm
        have q2 := of_decide_eq_false hhj.symm
        exact Or.inl (by omega)
      | false =>
        have hij : j < i := by
          rcases Nat.lt_or_gt_of_ne e with h4 | h4
          · rw [c2 i hi h4 hmi] at hhad; cases hhad
          · exact h4
        exact pair_at h.ord hl hi hij hgg hff (by rw [c1, hhad])
    · have hij : j < i := by
        rcases Nat.lt_or_gt_of_ne e with h4 | h4
        · rw [c3 i hi h4] at hmi; cases hmi
        · exact h4
      exact pair_at h.ord hl hi hij hgg hff (by rw [c1, c2 _ (List.getElem_mem hi) hmi])
theorem key_inj {L : List SubL} (hn : (L.map keyH).Nodup) {i j : Nat} (hi : i < L.length) (hj : j < L.length) (h : keyH L[i] = keyH L[j]) : i = j := by
  have := (List.nodup_iff_pairwise_ne.1 hn)
  rcases Nat.lt_trichotomy i j with h1 | h1 | h1
  · have q := pair_at this (i := i) (j := j) (by simpa using hi) (by simpa using hj) h1
    rw [List.getElem_map, List.getElem_map] at q
    exact absurd h q
  · exact h1
  · have q := pair_at this (i := j) (j := i) (by simpa using hj) (by simpa using hi) h1
    rw [List.getElem_map, List.getElem_map] at q
    exact absurd h.symm q
theorem turn_iff {H : HubL} {D : List RSub} {cnt N : Nat} {l a : KeyL → Nat} (h : SubsLink H.subs D cnt l a N) (g f : List UInt8) (k : Nat) (hk : k < H.subs.length) : turnH H g f = k ↔ turnK H.on (H.subs.map keyH) l a g f (keyH H.subs[k]) := by
  constructor
  · intro e
    have hl : turnH H g f < H.subs.length := by omega
    have := turn_min h g f hl
    simp only [e] at this
    exact this
  · intro ht
    have hm : mateB H g f H.subs[k] = true := mate_iff.2 ⟨ht.2.1, ht.2.2.1, ht.2.2.2.1⟩
    have hl : turnH H g f < H.subs.length := by
      rcases turn_spec H g f with ⟨_, h0⟩ | ⟨hl, _⟩
      · rw [h0 _ (List.getElem_mem hk)] at hm; cases hm
      · exact hl
    exact key_inj h.nodupH hl hk (turnK_one (turn_min h g f hl) ht)

/-- the document's turn -/
def candR (on : Nat → Bool) (g f : List UInt8) (x : RSub) : Prop := x.grp = g ∧ x.fil = f ∧ on x.who = true
theorem better_iff {on : Nat → Bool} {g f : List UInt8} {D : List RSub} {b : Option Nat} {x : RSub} : betterB on g f D b x = true ↔ candR on g f x ∧ (match b with | none => True | some j => x.last < lastAt D j) := by
  unfold betterB candR
  cases b <;> simp [and_assoc]
theorem best_spec (on : Nat → Bool) (g f : List UInt8) (D : List RSub) : ∀ n, n ≤ D.length →
    match rbest on g f D n with
    | none => ∀ i (hi : i < D.length), i < n → ¬ candR on g f D[i]
    | some j => ∃ hj : j < D.length, j < n ∧ candR on g f D[j] ∧ ∀ i (hi : i < D.length), i < n → candR on g f D[i] → D[j].last < D[i].last ∨ (D[j].last = D[i].last ∧ j ≤ i) := by
  intro n
  induction n with
  | zero => intro _; simp only [rbest]; intro i hi h; omega
  | succ n ih =>
    intro hn
    have ih := ih (by omega)
    have hl : n < D.length := by omega
    rw [rbest_step on g f D n hl]
    cases hb : rbest on g f D n with
    | none =>
      rw [hb] at ih
      simp only at ih
      by_cases hc : betterB on g f D none D[n] = true
      · rw [if_pos hc]
        refine ⟨hl, by omega, (better_iff.1 hc).1, fun i hi hin hci => ?_⟩
        by_cases e : i = n
        · subst e; exact Or.inr ⟨rfl, Nat.le_refl _⟩
        · exact absurd hci (ih i hi (by omega))
      · rw [if_neg hc]
        intro i hi hin hci
        by_cases e : i = n
        · subst e; exact hc (better_iff.2 ⟨hci, trivial⟩)
        · exact ih i hi (by omega) hci
    | some j =>
      rw [hb] at ih
      obtain ⟨hj, hjn, hcj, hmin⟩ := ih
      by_cases hc : betterB on g f D (some j) D[n] = true
      · rw [if_pos hc]
        obtain ⟨c1, c2⟩ := better_iff.1 hc
        simp only [lastAt_of hj] at c2
        refine ⟨hl, by omega, c1, fun i hi hin hci => ?_⟩
        by_cases e : i = n
        · subst e; exact Or.inr ⟨rfl, Nat.le_refl _⟩
        · rcases hmin i hi (by omega) hci with h | ⟨h, _⟩
          · exact Or.inl (by omega)
          · exact Or.inl (by omega)
      · rw [if_neg hc]
        refine ⟨hj, by omega, hcj, fun i hi hin hci => ?_⟩
        by_cases e : i = n
        · subst e
          have : ¬ D[i].last < D[j].last := fun hlt => hc (better_iff.2 ⟨hci, by simp only [lastAt_of hj]; exact hlt⟩)
          by_cases h0 : D[j].last = D[i].last
          · exact Or.inr ⟨h0, by omega⟩
          · exact Or.inl (by omega)
        · exact hmin i hi (by omega) hci
theorem best_none {on : Nat → Bool} {g f : List UInt8} {D : List RSub} (h : rbest on g f D D.length = none) (l a : KeyL → Nat) (k : KeyL) : ¬ turnK on (D.map keyD) l a g f k := by
  have hs := best_spec on g f D D.length (Nat.le_refl _)
  rw [h] at hs
  intro ht
  obtain ⟨s, hs', rfl⟩ := List.mem_map.1 ht.1
  obtain ⟨i, hi, rfl⟩ := List.getElem_of_mem hs'
  exact hs i hi hi ⟨ht.2.1, ht.2.2.1, ht.2.2.2.1⟩
theorem best_some {on : Nat → Bool} {g f : List UInt8} {D : List RSub} {j : Nat} (h : rbest on g f D D.length = some j) (l a : KeyL → Nat) (hl : ∀ s ∈ D, s.grp = g → s.fil = f → s.last = l (keyD s)) (ha : (D.map keyD).Pairwise (fun x y => a x < a y)) :
    ∃ hj : j < D.length, turnK on (D.map keyD) l a g f (keyD D[j]) := by
  have hs := best_spec on g f D D.length (Nat.le_refl _)
  rw [h] at hs
  obtain ⟨hj, _, hc, hmin⟩ := hs
  refine ⟨hj, List.mem_map.2 ⟨_, List.getElem_mem hj, rfl⟩, hc.1, hc.2.1, hc.2.2, fun k hk h1 h2 h3 => ?_⟩
  obtain ⟨s, hs', rfl⟩ := List.mem_map.1 hk
  obtain ⟨i, hi, rfl⟩ := List.getElem_of_mem hs'
  by_cases e : i = j
  · subst e; exact Or.inl rfl
  right
  have q1 := hl _ (List.getElem_mem hj) hc.1 hc.2.1
  have q2 := hl _ (List.getElem_mem hi) h1 h2
  rcases hmin i hi hi ⟨h1, h2, h3⟩ with h4 | ⟨h4, h5⟩
  · exact Or.inl (by omega)
  · refine Or.inr ⟨by omega, ?_⟩
    have := pair_at ha (i := j) (j := i) (by simpa using hj) (by simpa using hi) (by omega)
    simpa using this
end Go.Proofs.YtchhmojnoiephabGreatDoor

/- Plain mathematics: a message's turns: the program takes them all at once, the document one after another. -/
namespace Go.Proofs.YtchhmojnoiephabGreatDoor
set_option linter.unusedVariables false
open Classical in
/-- is it the turn of k, for a message of topic t? -/
noncomputable def pk (on : Nat → Bool) (ks : List KeyL) (l a : KeyL → Nat) (t : List UInt8) (k : KeyL) : Bool := decide (k.2.1 ≠ [] ∧ matchB k.2.2 t = true ∧ turnK on ks l a k.2.1 k.2.2 k)
open Classical in
theorem pk_iff {on : Nat → Bool} {ks : List KeyL} {l a : KeyL → Nat} {t : List UInt8} {k : KeyL} : pk on ks l a t k = true ↔ (k.2.1 ≠ [] ∧ matchB k.2.2 t = true ∧ turnK on ks l a k.2.1 k.2.2 k) := by unfold pk; exact decide_eq_true_iff
theorem pick_iff {H : HubL} {D : List RSub} {cnt N : Nat} {l a : KeyL → Nat} (h : SubsLink H.subs D cnt l a N) (t : List UInt8) (k : Nat) (hk : k < H.subs.length) : pickB H t k H.subs[k] = pk H.on (H.subs.map keyH) l a t (keyH H.subs[k]) := by
  rw [Bool.eq_iff_iff, pk_iff]
  unfold pickB
  simp only [Bool.and_eq_true, Bool.not_eq_true', decide_eq_false_iff_not, decide_eq_true_eq]
  rw [turn_iff h _ _ k hk]
  exact Iff.rfl
theorem pickT_filter {H : HubL} {D : List RSub} {cnt N : Nat} {l a : KeyL → Nat} (h : SubsLink H.subs D cnt l a N) (t : List UInt8) : ∀ n, n ≤ H.subs.length →
    pickT H t n = (((H.subs.take n).filter (fun s => pk H.on (H.subs.map keyH) l a t (keyH s))).map (fun s => (s.who : Int)), (H.subs.take n).filter (fun s => !pk H.on (H.subs.map keyH) l a t (keyH s)), ((H.subs.take n).filter (fun s => pk H.on (H.subs.map keyH) l a t (keyH s))).map hadS) := by
  intro n
  induction n with
  | zero => intro _; simp [pickT]
  | succ n ih =>
    intro hn
    have hl : n < H.subs.length := by omega
    have he := pick_iff h t n hl
    rw [List.take_succ_eq_append_getElem hl]
    simp only [List.filter_append, List.map_append]
    cases hp : pickB H t n H.subs[n] with
    | true =>
      rw [pickT_yes H t n hl hp, ih (by omega)]
      rw [hp] at he
      simp [← he]
    | false =>
      rw [pickT_no H t n hl hp, ih (by omega)]
      rw [hp] at he
      simp [← he]

/-- the document's turns, behind i subscriptions: P: those that were served -/
structure ServI (R : RHub) (t : List UInt8) (l a : KeyL → Nat) (i : Nat) (P : List KeyL) (li : KeyL → Nat) : Prop where
  keys : (servF R t i).1.subs.map keyD = R.subs.map keyD
  rest : (servF R t i).1.on = R.on ∧ (servF R t i).1.known = R.known ∧ (servF R t i).1.q = R.q ∧ (servF R t i).1.kept = R.kept
  count : (servF R t i).1.count = R.count + P.length
  last : ∀ s ∈ (servF R t i).1.subs, s.last = li (keyD s)
  same : ∀ k, k ∉ P → li k = l k
  up : ∀ k ∈ P, R.count < li k ∧ li k ≤ R.count + P.length
  nodup : P.Nodup
  mem : ∀ k, k ∈ P ↔ (pk R.on (R.subs.map keyD) l a t k = true ∧ ∃ j, ∃ hj : j < R.subs.length, j < i ∧ (keyD R.subs[j]).2 = k.2)
  num : ∀ c, (servF R t i).2 c = wantN R t c + P.countP (fun k => decide (k.1 = c))
theorem first_iff {D : List RSub} {i : Nat} (hi : i < D.length) : rfirst D i = true ↔ ∀ j (hj : j < D.length), j < i → (keyD D[j]).2 ≠ (keyD D[i]).2 := by
  rw [rfirst_at hi, List.all_eq_true]
  constructor
  · intro h j hj hji e
    have := h D[j] (List.mem_take_iff_getElem.mpr ⟨j, by omega, rfl⟩)
    unfold keyEq at this
    simp only [keyD, Prod.mk.injEq] at e
    simp [e.1, e.2] at this
  · intro h s hs
    obtain ⟨j, hj, rfl⟩ := List.mem_take_iff_getElem.mp hs
    have := h j (by omega) (by omega)
    unfold keyEq
    simp only [keyD, ne_eq, Prod.mk.injEq] at this
    by_cases e1 : D[j].grp = D[i].grp
    · have e2 : ¬ D[j].fil = D[i].fil := fun e2 => this ⟨e1, e2⟩
      simp [e2]
    · simp [e1]
theorem set_last_keys (D : List RSub) (j : Nat) (hj : j < D.length) (c : Nat) : (D.set j (lastS D[j] c)).map keyD = D.map keyD := by
  rw [List.map_set, show keyD (lastS D[j] c) = (D.map keyD)[j]'(by simpa using hj) by rw [List.getElem_map]; rfl, List.set_getElem_self]
theorem serv_zero (R : RHub) (t : List UInt8) (l a : KeyL → Nat) (hl : ∀ s ∈ R.subs, s.last = l (keyD s)) : ServI R t l a 0 [] l :=
  ⟨rfl, ⟨rfl, rfl, rfl, rfl⟩, rfl, hl, (fun _ _ => rfl), (fun k hk => by cases hk), List.nodup_nil, (fun k => by simp), (fun c => by simp [servF])⟩
theorem serv_step {R : RHub} {t : List UInt8} {l a : KeyL → Nat} {i : Nat} {P : List KeyL} {li : KeyL → Nat} (h : ServI R t l a i P li) (ha : (R.subs.map keyD).Pairwise (fun x y => a x < a y)) (hi : i < R.subs.length) : ∃ P' li', ServI R t l a (i + 1) P' li' := by
  rcases hQ : servF R t i with ⟨Q, n⟩
  have hlen : Q.subs.length = R.subs.length := by have := servF_len R t i; rw [hQ] at this; exact this
  have hiQ : i < Q.subs.length := by omega
  have hk : Q.subs.map keyD = R.subs.map keyD := by have := h.keys; rw [hQ] at this; exact this
  have hkat : ∀ j (hj : j < Q.subs.length), keyD Q.subs[j] = keyD (R.subs[j]'(by omega)) := by
    intro j hj
    have h1 : (Q.subs.map keyD)[j]'(by simpa using hj) = (R.subs.map keyD)[j]'(by simpa using (show j < R.subs.length by omega)) := by simp only [hk]
    rw [List.getElem_map, List.getElem_map] at h1; exact h1
  obtain ⟨r1, r2, r3, r4⟩ := h.rest
  rw [hQ] at r1 r2 r3 r4
  simp only at r1 r2 r3 r4
  have hcount := h.count; rw [hQ] at hcount; simp only at hcount
  have hlast := h.last; rw [hQ] at hlast; simp only at hlast
  have hnum := h.num; rw [hQ] at hnum; simp only at hnum
  have hstep : servF R t (i + 1) = servS t i (Q, n) := by rw [servF, hQ]
  have hx := hkat i hiQ
  -- the case in which nothing happens
  have stay : servF R t (i + 1) = (Q, n) → (∀ k, pk R.on (R.subs.map keyD) l a t k = true → (keyD R.subs[i]).2 = k.2 → ∃ j, ∃ hj : j < R.subs.length, j < i ∧ (keyD R.subs[j]).2 = k.2) → ∃ P' li', ServI R t l a (i + 1) P' li' := by
    intro e hno
    refine ⟨P, li, ?_, ?_, ?_, ?_, h.same, h.up, h.nodup, ?_, ?_⟩
    · rw [e]; exact hk
    · rw [e]; exact ⟨r1, r2, r3, r4⟩
    · rw [e]; exact hcount
    · rw [e]; exact hlast
    · intro k
      rw [h.mem k]
      constructor
      · rintro ⟨p1, j, hj, hji, he⟩; exact ⟨p1, j, hj, by omega, he⟩
      · rintro ⟨p1, j, hj, hji, he⟩
        refine ⟨p1, ?_⟩
        by_cases e : j = i
        · subst e; exact hno k p1 he
        · exact ⟨j, hj, by omega, he⟩
    · rw [e]; exact hnum
  unfold servS at hstep
  simp only [List.getElem?_eq_getElem hiQ] at hstep
  by_cases hc : (!decide (Q.subs[i].grp = []) && (rfirst Q.subs i && matchB Q.subs[i].fil t)) = true
  · rw [if_pos hc] at hstep
    simp only [Bool.and_eq_true, Bool.not_eq_true', decide_eq_false_iff_not] at hc
    obtain ⟨hc1, hc2, hc3⟩ := hc
    have hfst := (first_iff hiQ).1 hc2
    have hnotP : ∀ k ∈ P, k.2 ≠ (keyD Q.subs[i]).2 := by
      intro k hkP e
      obtain ⟨_, j, hj, hji, he⟩ := (h.mem k).1 hkP
      refine hfst j (by omega) hji ?_
      rw [hkat j (by omega), he, e]
    have hagree : ∀ k : KeyL, k.2.1 = Q.subs[i].grp → k.2.2 = Q.subs[i].fil → li k = l k := by
      intro k e1 e2
      refine h.same k (fun hkP => hnotP k hkP ?_)
      exact Prod.ext e1 e2
    cases hb : rbest Q.on Q.subs[i].grp Q.subs[i].fil Q.subs Q.subs.length with
    | none =>
      rw [hb] at hstep
      simp only at hstep
      refine stay hstep (fun k p1 he => ?_)
      have p2 := (pk_iff.1 p1).2.2
      rw [← he, ← hx] at p2
      rw [r1, ← hk] at *
      exact absurd p2 (best_none hb l a k)
    | some j =>
      rw [hb] at hstep
      simp only at hstep
      obtain ⟨hj, hturn⟩ := best_some hb l a (fun s hs e1 e2 => by rw [hlast s hs]; exact hagree (keyD s) e1 e2) (by rw [hk]; exact ha)
      rw [turnR_at hj, whoAt_of hj] at hstep
      have hk0 : keyD Q.subs[j] ∉ P := fun hP => hnotP _ hP (Prod.ext hturn.2.1 hturn.2.2.1)
      have hpk0 : pk R.on (R.subs.map keyD) l a t (keyD Q.subs[j]) = true := by
        refine pk_iff.2 ⟨?_, ?_, ?_⟩
        · rw [hturn.2.1]; exact hc1
        · rw [hturn.2.2.1]; exact hc3
        · rw [hturn.2.1, hturn.2.2.1, ← r1, ← hk]; exact hturn
      have hkk : (keyD Q.subs[j]).2 = (keyD R.subs[i]).2 := by rw [← hx]; exact Prod.ext hturn.2.1 hturn.2.2.1
      refine ⟨P ++ [keyD Q.subs[j]], (fun k => if k = keyD Q.subs[j] then Q.count + 1 else li k), ?_, ?_, ?_, ?_, ?_, ?_, ?_, ?_, ?_⟩
      · rw [hstep]; show (Q.subs.set j (lastS Q.subs[j] (Q.count + 1))).map keyD = _; rw [set_last_keys]; exact hk
      · rw [hstep]; exact ⟨r1, r2, r3, r4⟩
      · rw [hstep]; show Q.count + 1 = _; rw [hcount, List.length_append]; simp; omega
      · rw [hstep]
        intro s hs
        rcases List.mem_iff_getElem.1 hs with ⟨m, hm, rfl⟩
        have hmQ : m < Q.subs.length := by simpa using hm
        show (Q.subs.set j (lastS Q.subs[j] (Q.count + 1)))[m].last = _
        by_cases e : j = m
        · subst e
          simp only [List.getElem_set_self]
          rw [show keyD (lastS Q.subs[j] (Q.count + 1)) = keyD Q.subs[j] from rfl, if_pos rfl]; rfl
        · simp only [List.getElem_set_ne e]
          rw [if_neg]
          · exact hlast _ (List.getElem_mem hmQ)
          · intro e2
            rcases Nat.lt_or_gt_of_ne e with h1 | h1
            · have q := pair_at ha (i := j) (j := m) (by simpa [← hlen] using hj) (by simpa [← hlen] using hmQ) h1
              rw [List.getElem_map, List.getElem_map, ← hkat j hj, ← hkat m hmQ, e2] at q; omega
            · have q := pair_at ha (i := m) (j := j) (by simpa [← hlen] using hmQ) (by simpa [← hlen] using hj) h1
              rw [List.getElem_map, List.getElem_map, ← hkat j hj, ← hkat m hmQ, e2] at q; omega
      · intro k hkn
        rw [List.mem_append, List.mem_singleton, not_or] at hkn
        simp only [if_neg hkn.2]; exact h.same k hkn.1
      · intro k hkP
        rw [List.length_append, List.length_singleton]
        by_cases e : k = keyD Q.subs[j]
        · simp only [if_pos e]; omega
        · rw [List.mem_append, List.mem_singleton] at hkP
          rcases hkP with hkP | hkP
          · have := h.up k hkP; simp only [if_neg e]; omega
          · exact absurd hkP e
      · rw [List.nodup_append]
        refine ⟨h.nodup, by simp, fun x hx y hy e => ?_⟩
        rw [List.mem_singleton.1 hy] at e; subst e; exact hk0 hx
      · intro k
        rw [List.mem_append, List.mem_singleton, h.mem k]
        constructor
        · rintro (⟨p1, m, hm, hmi, he⟩ | rfl)
          · exact ⟨p1, m, hm, by omega, he⟩
          · exact ⟨hpk0, i, hi, by omega, hkk.symm⟩
        · rintro ⟨p1, m, hm, hmi, he⟩
          by_cases e : m = i
          · subst e
            right
            have p2 := (pk_iff.1 p1).2.2
            have p3 := (pk_iff.1 hpk0).2.2
            rw [← he, ← hkk] at p2
            exact turnK_one p2 p3
          · exact Or.inl ⟨p1, m, hm, by omega, he⟩
      · rw [hstep]
        intro c
        show updF n (Q.subs[j].who) (n Q.subs[j].who + 1) c = _
        rw [List.countP_append, List.countP_singleton]
        by_cases e : c = Q.subs[j].who
        · subst e; rw [updF_same, hnum, show (keyD Q.subs[j]).1 = Q.subs[j].who from rfl]; simp; omega
        · rw [updF_other _ _ e, hnum, if_neg (by simp only [decide_eq_true_eq]; exact fun e2 => e e2.symm)]
          omega
  · rw [if_neg hc] at hstep
    refine stay hstep (fun k p1 he => ?_)
    obtain ⟨p2, p3, _⟩ := pk_iff.1 p1
    rw [← he, ← hx] at p2 p3
    have hnf : ¬ rfirst Q.subs i = true := by
      intro hf
      apply hc
      simp only [Bool.and_eq_true, Bool.not_eq_true', decide_eq_false_iff_not]
      exact ⟨p2, hf, p3⟩
    rw [first_iff hiQ] at hnf
    obtain ⟨j, hj, hji, he2⟩ : ∃ j, ∃ hj : j < Q.subs.length, j < i ∧ (keyD Q.subs[j]).2 = (keyD Q.subs[i]).2 := Classical.byContradiction fun hne => hnf (fun j hj hji e => hne ⟨j, hj, hji, e⟩)
    exact ⟨j, by omega, hji, by rw [← hkat j hj, he2, hx, he]⟩
theorem serv_all {R : RHub} {t : List UInt8} {l a : KeyL → Nat} (hl : ∀ s ∈ R.subs, s.last = l (keyD s)) (ha : (R.subs.map keyD).Pairwise (fun x y => a x < a y)) : ∀ i, i ≤ R.subs.length → ∃ P li, ServI R t l a i P li := by
  intro i
  induction i with
  | zero => intro _; exact ⟨[], l, serv_zero R t l a hl⟩
  | succ i ih =>
    intro h
    obtain ⟨P, li, hs⟩ := ih (by omega)
    exact serv_step hs ha (by omega)
noncomputable def servR (R : RHub) (t : List UInt8) : RHub × (Nat → Nat) := servF R t R.subs.length
/-- both took the same turns, and belong together behind them -/
theorem take_link {H : HubL} {R : RHub} {N : Nat} {l a : KeyL → Nat} (h : SubsLink H.subs R.subs R.count l a N) (hon : H.on = R.on) (t : List UInt8) :
    (∃ l', SubsLink (takeH H t).2.subs (servR R t).1.subs (servR R t).1.count l' a N) ∧ (∀ c : Nat, (servR R t).2 c = wantN R t c + (takeH H t).1.count (c : Int)) ∧ (servR R t).1.on = R.on ∧ (servR R t).1.known = R.known ∧ (servR R t).1.q = R.q ∧ (servR R t).1.kept = R.kept ∧ (servR R t).1.count ≤ R.count + R.subs.length ∧ (servR R t).1.subs.map keyD = R.subs.map keyD := by
  obtain ⟨P, l', hs⟩ := serv_all (t := t) h.last h.age R.subs.length (Nat.le_refl _)
  have hT : (takeH H t) = _ := rfl
  have hpt := pickT_filter h t H.subs.length (Nat.le_refl _)
  rw [List.take_length] at hpt
  unfold takeH
  rw [hpt]
  simp only
  have hpkE : ∀ k, pk H.on (H.subs.map keyH) l a t k = pk R.on (R.subs.map keyD) l a t k := by
    intro k
    rw [Bool.eq_iff_iff, pk_iff, pk_iff, hon]
    constructor
    · rintro ⟨h1, h2, h3⟩; exact ⟨h1, h2, turnK_perm h.perm h3⟩
    · rintro ⟨h1, h2, h3⟩; exact ⟨h1, h2, turnK_perm h.perm.symm h3⟩
  simp only [hpkE]
  have hPm : ∀ k, k ∈ P ↔ k ∈ (R.subs.map keyD).filter (fun k => pk R.on (R.subs.map keyD) l a t k) := by
    intro k
    rw [hs.mem, List.mem_filter]
    constructor
    · rintro ⟨p1, _⟩; exact ⟨(pk_iff.1 p1).2.2.1, p1⟩
    · rintro ⟨p0, p1⟩
      obtain ⟨s, hs', rfl⟩ := List.mem_map.1 p0
      obtain ⟨j, hj, rfl⟩ := List.getElem_of_mem hs'
      exact ⟨p1, j, hj, hj, rfl⟩
  have hPp : P.Perm ((R.subs.map keyD).filter (fun k => pk R.on (R.subs.map keyD) l a t k)) := (List.perm_ext_iff_of_nodup hs.nodup (h.nodupD.filter _)).2 hPm
  have hPH : P.Perm ((H.subs.filter (fun s => pk R.on (R.subs.map keyD) l a t (keyH s))).map keyH) := by
    refine hPp.trans ?_
    have := (h.perm.filter (fun k => pk R.on (R.subs.map keyD) l a t k)).symm
    refine this.trans ?_
    rw [List.filter_map]; exact List.Perm.refl _
  have hin : ∀ s ∈ H.subs, (keyH s ∈ P ↔ pk R.on (R.subs.map keyD) l a t (keyH s) = true) := by
    intro s hs'
    rw [hPm, List.mem_filter]
    exact ⟨fun q => q.2, fun q => ⟨h.perm.mem_iff.1 (List.mem_map.2 ⟨s, hs', rfl⟩), q⟩⟩
  obtain ⟨r1, r2, r3, r4⟩ := hs.rest
  have hPlen : P.length ≤ R.subs.length := by
    have h1 := hPp.length_eq
    have h2 := List.length_filter_le (fun k => pk R.on (R.subs.map keyD) l a t k) (R.subs.map keyD)
    rw [List.length_map] at h2; omega
  have hcnt : (servR R t).1.count = R.count + P.length := hs.count
  refine ⟨⟨l', ?_, hs.last, ?_, ?_, ?_, ?_, ?_⟩, ?_, r1, r2, r3, r4, by omega, hs.keys⟩
  · rw [show (servR R t).1.subs.map keyD = R.subs.map keyD from hs.keys, List.map_append, List.map_map, show keyH ∘ hadS = keyH from rfl]
    refine List.Perm.trans ?_ h.perm
    rw [← List.map_append]
    refine List.Perm.map _ ?_
    refine List.perm_append_comm.trans ?_
    exact List.filter_append_perm (fun s => pk R.on (R.subs.map keyD) l a t (keyH s)) H.subs
  · intro s hs'
    rcases List.mem_append.1 hs' with hs' | hs'
    · obtain ⟨q1, q2⟩ := List.mem_filter.1 hs'
      rw [h.had s q1, hs.same (keyH s) (fun hP => by rw [(hin s q1).1 hP] at q2; cases q2)]
    · obtain ⟨u, hu, rfl⟩ := List.mem_map.1 hs'
      obtain ⟨q1, q2⟩ := List.mem_filter.1 hu
      have := hs.up (keyH u) ((hin u q1).2 q2)
      show true = decide (0 < l' (keyH u))
      symm; rw [decide_eq_true_iff]; omega
  · rw [show (servR R t).1.subs.map keyD = R.subs.map keyD from hs.keys]; exact h.age
  · rw [List.pairwise_append]
    refine ⟨?_, ?_, ?_⟩
    · refine List.Pairwise.imp_of_mem ?_ (h.ord.sublist List.filter_sublist)
      intro x y hx hy hxy e1 e2 e3
      obtain ⟨x1, x2⟩ := List.mem_filter.1 hx
      obtain ⟨y1, y2⟩ := List.mem_filter.1 hy
      have := hxy e1 e2 e3
      unfold lexK at this ⊢
      rw [hs.same (keyH x) (fun hP => by rw [(hin x x1).1 hP] at x2; cases x2), hs.same (keyH y) (fun hP => by rw [(hin y y1).1 hP] at y2; cases y2)]
      exact this
    · rw [List.pairwise_map]
      refine List.Pairwise.imp_of_mem ?_ ((List.nodup_iff_pairwise_ne.1 (by have := h.nodupH; exact this) |> List.pairwise_map.1).sublist List.filter_sublist)
      intro x y hx hy hxy e1 e2 e3
      obtain ⟨x1, x2⟩ := List.mem_filter.1 hx
      obtain ⟨y1, y2⟩ := List.mem_filter.1 hy
      have p1 := (pk_iff.1 x2).2.2
      have p2 := (pk_iff.1 y2).2.2
      have e1' : (keyH x).2.1 = (keyH y).2.1 := e1
      have e2' : (keyH x).2.2 = (keyH y).2.2 := e2
      rw [e1', e2'] at p1
      exact absurd (turnK_one p1 p2) hxy
    · intro x hx y hy e1 e2 e3
      obtain ⟨x1, x2⟩ := List.mem_filter.1 hx
      obtain ⟨u, hu, rfl⟩ := List.mem_map.1 hy
      obtain ⟨q1, q2⟩ := List.mem_filter.1 hu
      have := hs.up (keyH u) ((hin u q1).2 q2)
      left
      rw [hs.same (keyH x) (fun hP => by rw [(hin x x1).1 hP] at x2; cases x2)]
      have hb := h.bndC (keyH x) (h.perm.mem_iff.1 (List.mem_map.2 ⟨x, x1, rfl⟩))
      show l (keyH x) < l' (keyH u)
      omega
  · rw [show (servR R t).1.subs.map keyD = R.subs.map keyD from hs.keys]; exact h.bndN
  · rw [show (servR R t).1.subs.map keyD = R.subs.map keyD from hs.keys]
    intro k hk
    by_cases hP : k ∈ P
    · have := hs.up k hP; omega
    · rw [hs.same k hP]; have := h.bndC k hk; omega
  · intro c
    have h1 : (servR R t).2 c = _ := hs.num c
    rw [h1, hPH.countP_eq, List.countP_map, List.count, List.countP_map]
    congr 1
    refine List.countP_congr ?_
    intro s _
    simp only [Function.comp, keyH, beq_iff_eq]
    exact ⟨fun q => by have := of_decide_eq_true q; omega, fun q => decide_eq_true (by omega)⟩
end Go.Proofs.YtchhmojnoiephabGreatDoor

/- The document's hub: Take. -/
namespace Go.Proofs.YtchhmojnoiephabGreatDoor
open Go.ChangeShapes Go.WideShapes Go.ChangeAt Go.RowKit
set_option linter.unusedVariables false

def rtake (R : RHub) (c : Int) : (List UInt8 × Int) × RHub :=
  if cliB c = true then (if R.on c.toNat = true then (match R.q c.toNat with | [] => (([], 6), R) | m :: q => ((m, 0), { R with q := updF R.q c.toNat q })) else (([], 9), R)) else (([], 4), R)
def RTakePost (w : World) (d : Nat) (S : Nat → Prop) (r : (List UInt8 × Int) × RHub) (e : Ending) (w' : World) : Prop :=
  e = .returned (.tuple #[strV r.1.1, .int .i64 r.1.2]) ∧ ∃ S', RefAt w' d S' r.2 ∧ Fr S w w' S'
theorem RTakePost.none {w : World} {d : Nat} {S : Nat → Prop} {R : RHub} {a : Int} (h : RefAt w d S R) : RTakePost w d S (([], a), R) (.returned (.tuple #[.string ⟨#[]⟩, .int .i64 a])) w := ⟨rfl, S, h, Fr.of_below (Below.refl _ _)⟩
theorem QRow.head {w : World} {v : Value} {m : List UInt8} {q : List (List UInt8)} (h : QRow w v (m :: q)) : ∃ g off cap, v = .slice (some ⟨g, off, none⟩) (q.length + 1) cap ∧ q.length + 1 ≤ cap ∧ cap ≤ maxLen ∧ g < w.heap.size ∧ w.cell? ⟨g, off, none⟩ = some (strV m) ∧ QRow w (.slice (some ⟨g, if cap = 1 then off else off + 1, none⟩) q.length (cap - 1)) q := by
  rcases h with ⟨_, hq⟩ | ⟨g, off, cap, cur, rfl, hg, h1, h2, h3, h4⟩
  · cases hq
  · have h0 := h4 0 (by simp)
    have h1' : q.length + 1 ≤ cap := by simpa using h1
    refine ⟨g, off, cap, by simp, by simpa using h1, h2, heap_lt hg, cell_block hg (by simpa using h0), Or.inr ⟨g, _, cap - 1, cur, rfl, hg, by omega, by omega, by split <;> omega, fun j hj => ?_⟩⟩
    have h5 := h4 (j + 1) (by simpa using hj)
    have hc1 : ¬ cap = 1 := by omega
    rw [if_neg hc1, show off + 1 + j = off + (j + 1) from by omega, h5]
    simp
theorem rtake_good {R : RHub} (h : goodR R) (c : Nat) {m : List UInt8} {q : List (List UInt8)} (hq : R.q c = m :: q) : goodR { R with q := updF R.q c q } := by
  refine ⟨fun k => ?_, h.subs, h.kept⟩
  by_cases hk : k = c
  · subst hk
    rw [show ({ R with q := updF R.q k q } : RHub).q k = q from updF_same _ _ _]
    have := h.queue k
    rw [hq] at this
    exact ⟨by have := this.1; simp at this; omega, fun x hx => this.2 x (List.mem_cons_of_mem _ hx)⟩
  · rw [show ({ R with q := updF R.q c q } : RHub).q k = R.q k from updF_other _ _ hk]
    exact h.queue k

set_option maxHeartbeats 2000000 in
theorem rtake_any (d : Nat) (S : Nat → Prop) (R : RHub) (c : Int) (w : World) (h : RefAt w d S R) : Calls Tryz.prog 79 #[.pointer (some ⟨d, 0, none⟩), .int .i64 c] w (RTakePost w d S (rtake R c)) := by
  have HH := hide h
  cases hc : cliB c with
  | false =>
    have HR : Hid (rtake R c = (([], 4), R)) := by unfold Hid rtake; rw [if_neg (by simp [hc])]
    rw [unhide HR]
    clear h
    go_enter Tryz.func79, Tryz.ntmps79
    go_wp2_with fail
    refine (rclient_any _ _).mono ?_
    rw [hc]
    rintro e w' ⟨rfl, rfl⟩
    go_wp2_with fail
    go_ret2
    exact RTakePost.none (unhide HH)
  | true =>
    obtain ⟨n, rfl, hn⟩ := cliB_nat hc
    obtain ⟨cb, A, qv, sv, kv, hw, rfl⟩ := h.body
    have hn6 : (n : Int) < 6 := by omega
    have hn0 : (0 : Int) ≤ (n : Int) := by omega
    have z0 := cell_block (i := 0) hw.blk rfl
    have z1 := cell_block hw.cs (hw.cli n hn).1
    have z2 := cell_block hw.cs (hw.cli n hn).2.2
    have f2 := free_block (i := n * 3 + 2) hw.cs
    cases hon : R.on n with
    | false =>
      have HR : Hid (rtake R n = (([], 9), R)) := by unfold Hid rtake; rw [if_pos hc, if_neg (by simp [hon])]
      rw [unhide HR]
      rw [hon] at z1
      clear h hw
      go_enter Tryz.func79, Tryz.ntmps79
      go_wp2_with fail
      refine (rclient_any _ _).mono ?_
      rw [hc]
      rintro e w' ⟨rfl, rfl⟩
      go_wp2_with fail
      go_ret2
      exact RTakePost.none (unhide HH)
    | true =>
      rw [hon] at z1
      cases hq : R.q n with
      | nil =>
        have HR : Hid (rtake R n = (([], 6), R)) := by unfold Hid rtake; rw [if_pos hc, if_pos (by simpa using hon), Int.toNat_natCast, hq]
        rw [unhide HR]
        obtain ⟨aq, cq, hqe⟩ := (hw.qown n hn).form
        rw [hq, List.length_nil] at hqe
        rw [hqe] at z2
        clear h hw
        go_enter Tryz.func79, Tryz.ntmps79
        go_wp2_with fail
        refine (rclient_any _ _).mono ?_
        rw [hc]
        rintro e w' ⟨rfl, rfl⟩
        go_wp2_with fail
        go_ret2
        exact RTakePost.none (unhide HH)
      | cons m q =>
        have HR : Hid (rtake R n = ((m, 0), { R with q := updF R.q n q })) := by unfold Hid rtake; rw [if_pos hc, if_pos (by simpa using hon), Int.toNat_natCast, hq]
        rw [unhide HR]
        have hqo := hw.qown n hn
        rw [hq] at hqo
        obtain ⟨g, off, cap, hqe, hl1, hl2, hg, hm, hqt⟩ := hqo.head
        obtain ⟨t1, t2⟩ := hw.setQ hn (w2 := w) rfl rfl rfl (Nat.le_refl _) (fun _ _ _ => rfl) hqt (fun k hk => Or.inl (by rw [hqe]; exact hk))
        have HG := rtake_good h.good n hq
        have HE : Hid (∀ o' c', o' = (if cap = 1 then off else off + 1) → c' = cap - 1 → ∃ S', RefAt ((w.setCell ⟨cb, n * 3 + 2, none⟩ (.slice (some ⟨g, o', none⟩) q.length c')).drew) d S' { R with q := updF R.q n q } ∧ Fr (blkR d cb qv sv kv) w ((w.setCell ⟨cb, n * 3 + 2, none⟩ (.slice (some ⟨g, o', none⟩) q.length c')).drew) S') := by
          rintro o' c' rfl rfl
          exact ⟨_, ⟨⟨_, _, _, _, _, t1.same (fun _ _ => rfl), rfl⟩, HG⟩, t2.trans ⟨rfl, rfl, rfl, Nat.le_refl _, fun _ _ _ => rfl, fun _ h => Or.inl h⟩⟩
        rw [hqe] at z2
        unfold maxLen at hl2
        have hlen : ((q.length : Int) + 1 == 0) = false := by simp; omega
        have hlb : (1 : Int) ≤ ((q.length : Int) + 1) := by omega
        have hcb := heap_lt hw.cs
        have hdd := heap_lt hw.blk
        have hm2 : w.cell? ⟨g, off, none⟩ = some (.string ⟨m.toArray⟩) := hm
        clear h hw HH hm t1 t2 hqt hqo HG hqe
        generalize hql : q.length = l at *
        by_cases hc1 : cap = 1
        · obtain rfl : l = 0 := by omega
          have HX := hide (unhide HE off 0 (by rw [if_pos hc1]) (by omega))
          subst hc1
          clear HE
          go_enter Tryz.func79, Tryz.ntmps79
          go_wp2_with fail
          refine (rclient_any _ _).mono ?_
          rw [hc]
          rintro e w' ⟨rfl, rfl⟩
          go_wp2_with fail
          go_region
          all_goals go_wp2_with fail
          all_goals go_ret2
          all_goals exact ⟨rfl, unhide HX⟩
        · have HX := hide (unhide HE (off + 1) (cap - 1) (by rw [if_neg hc1]) rfl)
          clear HE
          go_enter Tryz.func79, Tryz.ntmps79
          go_wp2_with fail
          refine (rclient_any _ _).mono ?_
          rw [hc]
          rintro e w' ⟨rfl, rfl⟩
          go_wp2_with fail
          go_region
          all_goals go_wp2_with fail
          all_goals go_ret2
          all_goals exact ⟨rfl, unhide HX⟩

end Go.Proofs.YtchhmojnoiephabGreatDoor

/- Plain mathematics: the program's hub and the document's, side by side; every call but Publish. -/
namespace Go.Proofs.YtchhmojnoiephabGreatDoor
set_option linter.unusedVariables false

def joinM (m : MsgL) : List UInt8 := m.1 ++ 61 :: m.2
structure HubLink (H : HubL) (R : RHub) : Prop where
  on : H.on = R.on
  known : H.known = R.known
  q : ∀ c, R.q c = (H.q c).map joinM
  kept : R.kept = H.kept
  rise : riseK H.kept
  subs : ∃ l a N, SubsLink H.subs R.subs R.count l a N
theorem HubLink.zero : HubLink hub0 ref0 := ⟨rfl, rfl, fun _ => rfl, rfl, List.Pairwise.nil, _, _, _, SubsLink.zero⟩
theorem HubLink.del {H : HubL} {R : RHub} (h : HubLink H R) (c : Nat) (m : MsgL) : HubLink (delH H c m) (rdel R c (m.1 ++ 61 :: m.2)) := by
  have hq := h.q c
  unfold delH rdel
  by_cases hl : (H.q c).length < 3
  · rw [if_pos hl, if_pos (by rw [hq, List.length_map]; exact hl)]
    refine ⟨h.on, h.known, fun k => ?_, h.kept, h.rise, h.subs⟩
    show updF R.q c (R.q c ++ [m.1 ++ 61 :: m.2]) k = (updF H.q c (H.q c ++ [m]) k).map joinM
    by_cases e : k = c
    · subst e; rw [updF_same, updF_same, hq]; simp [joinM]
    · rw [updF_other _ _ e, updF_other _ _ e]; exact h.q k
  · rw [if_neg hl, if_neg (by rw [hq, List.length_map]; exact hl)]; exact h
theorem rdel_count (R : RHub) (c : Nat) (m : List UInt8) : (rdel R c m).count = R.count ∧ (rdel R c m).subs = R.subs := by unfold rdel; split <;> exact ⟨rfl, rfl⟩
/-- the answers are the same, the hubs belong together, few deliveries were counted -/
def BothR {α : Type} (R : RHub) (x : α × HubL) (y : α × RHub) : Prop := x.1 = y.1 ∧ HubLink x.2 y.2 ∧ y.2.count ≤ R.count + 8
theorem BothR.stay {α : Type} {H : HubL} {R : RHub} (h : HubLink H R) (v : α) : BothR R (v, H) (v, R) := ⟨rfl, h, by simp⟩
theorem link_connect {H : HubL} {R : RHub} (h : HubLink H R) (c : Int) : BothR R (connectH H c) (rconnect R c) := by
  unfold connectH rconnect
  by_cases hc : cliB c = true
  · rw [if_pos hc, if_pos hc]
    refine ⟨rfl, ⟨?_, ?_, h.q, h.kept, h.rise, h.subs⟩, by simp [rcome]⟩
    · show updF H.on _ _ = updF R.on _ _; rw [h.on]
    · show updF H.known _ _ = updF R.known _ _; rw [h.known]
  · rw [if_neg hc, if_neg hc]; exact BothR.stay h _
theorem link_leave {H : HubL} {R : RHub} (h : HubLink H R) (c : Int) : BothR R (leaveH H c) (rleave R c) := by
  unfold leaveH rleave
  by_cases hc : cliB c = true
  · rw [if_pos hc, if_pos hc, h.on]
    by_cases ho : R.on c.toNat = true
    · rw [if_pos ho, if_pos ho]
      refine ⟨rfl, ⟨?_, h.known, h.q, h.kept, h.rise, h.subs⟩, by simp [rgo]⟩
      show updF H.on _ _ = updF R.on _ _; rw [h.on]
    · rw [if_neg ho, if_neg ho]; exact BothR.stay h _
  · rw [if_neg hc, if_neg hc]; exact BothR.stay h _
theorem link_take {H : HubL} {R : RHub} (h : HubLink H R) (c : Int) : BothR R (takeQ H c) (rtake R c) := by
  unfold takeQ rtake
  by_cases hc : cliB c = true
  · rw [if_pos hc, if_pos hc, h.on]
    by_cases ho : R.on c.toNat = true
    · rw [if_pos ho, if_pos ho, h.q]
      cases hq : H.q c.toNat with
      | nil => exact BothR.stay h _
      | cons m r =>
        refine ⟨rfl, ⟨rfl, h.known, fun k => ?_, h.kept, h.rise, h.subs⟩, by simp⟩
        show updF R.q c.toNat (r.map joinM) k = (updF H.q c.toNat r k).map joinM
        by_cases e : k = c.toNat
        · subst e; rw [updF_same, updF_same]
        · rw [updF_other _ _ e, updF_other _ _ e]; exact h.q k
    · rw [if_neg ho, if_neg ho]; exact BothR.stay h _
  · rw [if_neg hc, if_neg hc]; exact BothR.stay h _
/-- both lists keep the same keys -/
theorem SubsLink.filt {L : List SubL} {D : List RSub} {cnt N : Nat} {l a : KeyL → Nat} (h : SubsLink L D cnt l a N) (p : KeyL → Bool) : SubsLink (L.filter (fun s => p (keyH s))) (D.filter (fun s => p (keyD s))) cnt l a N := by
  have e1 : (L.filter (fun s => p (keyH s))).map keyH = (L.map keyH).filter p := by rw [List.filter_map]; rfl
  have e2 : (D.filter (fun s => p (keyD s))).map keyD = (D.map keyD).filter p := by rw [List.filter_map]; rfl
  refine ⟨by rw [e1, e2]; exact h.perm.filter p, fun s hs => h.last s (List.mem_filter.1 hs).1, fun s hs => h.had s (List.mem_filter.1 hs).1, ?_, h.ord.sublist List.filter_sublist, ?_, ?_⟩
  · rw [e2]; exact h.age.sublist List.filter_sublist
  · rw [e2]; exact fun k hk => h.bndN k (List.mem_filter.1 hk).1
  · rw [e2]; exact fun k hk => h.bndC k (List.mem_filter.1 hk).1
theorem SubsLink.more {L : List SubL} {D : List RSub} {cnt N : Nat} {l a : KeyL → Nat} (h : SubsLink L D cnt l a N) (x : SubL) (y : RSub) (hx : x.had = false) (hy : y.last = 0) (hk : keyH x = keyD y) (hn : keyD y ∉ D.map keyD) :
    SubsLink (L ++ [x]) (D ++ [y]) cnt (fun k => if k = keyD y then 0 else l k) (fun k => if k = keyD y then N else a k) (N + 1) := by
  have hD : ∀ s ∈ D, keyD s ≠ keyD y := fun s hs e => hn (List.mem_map.2 ⟨s, hs, e⟩)
  have hL : ∀ s ∈ L, keyH s ≠ keyD y := fun s hs e => hn (h.perm.mem_iff.1 (List.mem_map.2 ⟨s, hs, e⟩))
  refine ⟨?_, ?_, ?_, ?_, ?_, ?_, ?_⟩
  · rw [List.map_append, List.map_append]
    refine h.perm.append ?_
    simp [hk]
  · intro s hs
    rcases List.mem_append.1 hs with hs | hs
    · simp only [if_neg (hD s hs)]; exact h.last s hs
    · rw [List.mem_singleton.1 hs, if_pos rfl]; exact hy
  · intro s hs
    rcases List.mem_append.1 hs with hs | hs
    · simp only [if_neg (hL s hs)]; exact h.had s hs
    · rw [List.mem_singleton.1 hs, if_pos hk]; exact hx
  · rw [List.map_append, List.pairwise_append]
    refine ⟨?_, by simp, ?_⟩
    · refine List.Pairwise.imp_of_mem ?_ h.age
      intro u v hu hv huv
      rw [if_neg (fun e => hn (by rw [← e]; exact hu)), if_neg (fun e => hn (by rw [← e]; exact hv))]; exact huv
    · intro u hu v hv
      rw [show v = keyD y by simpa using hv, if_pos rfl, if_neg (fun e => hn (by rw [← e]; exact hu))]
      exact h.bndN u hu
  · rw [List.pairwise_append]
    refine ⟨?_, by simp, ?_⟩
    · refine List.Pairwise.imp_of_mem ?_ h.ord
      intro u v hu hv huv e1 e2 e3
      have := huv e1 e2 e3
      unfold lexK at this ⊢
      simp only [if_neg (hL u hu), if_neg (hL v hv)]; exact this
    · intro u hu v hv e1 e2 e3
      rw [List.mem_singleton.1 hv] at e3 ⊢
      rw [hx, h.had u hu] at e3
      have h0 := of_decide_eq_false e3
      right
      simp only [if_neg (hL u hu), if_pos hk]
      exact ⟨by omega, h.bndN _ (h.perm.mem_iff.1 (List.mem_map.2 ⟨u, hu, rfl⟩))⟩
  · intro k hk'
    by_cases e : k = keyD y
    · rw [if_pos e]; omega
    · rw [if_neg e]
      rw [List.map_append, List.mem_append] at hk'
      rcases hk' with hk' | hk'
      · have := h.bndN k hk'; omega
      · exact absurd (by simpa using hk') e
  · intro k hk'
    by_cases e : k = keyD y
    · rw [if_pos e]; omega
    · rw [if_neg e]
      rw [List.map_append, List.mem_append] at hk'
      rcases hk' with hk' | hk'
      · exact h.bndC k hk'
      · exact absurd (by simpa using hk') e
theorem link_forget {H : HubL} {R : RHub} (h : HubLink H R) (c : Int) : BothR R (forgetH H c) (rforget R c) := by
  unfold forgetH rforget
  by_cases hc : cliB c = true
  · rw [if_pos hc, if_pos hc, h.known]
    by_cases ho : R.known c.toNat = true
    · rw [if_pos ho, if_pos ho]
      obtain ⟨l, a, N, hs⟩ := h.subs
      refine ⟨rfl, ⟨?_, ?_, fun k => ?_, h.kept, h.rise, l, a, N, hs.filt (fun k => !decide (k.1 = c.toNat))⟩, by simp [rclear]⟩
      · show updF H.on _ _ = updF R.on _ _; rw [h.on]
      · show updF H.known _ _ = updF R.known _ _; rw [h.known]
      · show updF R.q c.toNat [] k = (updF H.q c.toNat [] k).map joinM
        by_cases e : k = c.toNat
        · subst e; rw [updF_same, updF_same]; rfl
        · rw [updF_other _ _ e, updF_other _ _ e]; exact h.q k
    · rw [if_neg ho, if_neg ho]; exact BothR.stay h _
  · rw [if_neg hc, if_neg hc]; exact BothR.stay h _

theorem seekS_shift (p : SubL → Bool) (L : List SubL) : ∀ i, seekS p i L = i + seekS p 0 L := by
  induction L with
  | nil => intro i; simp [seekS]
  | cons s L ih =>
    intro i
    simp only [seekS]
    split
    · rfl
    · rw [ih (i + 1), ih (0 + 1)]; omega
theorem seekR_shift (p : RSub → Bool) (L : List RSub) : ∀ i, seekR p i L = i + seekR p 0 L := by
  induction L with
  | nil => intro i; simp [seekR]
  | cons s L ih =>
    intro i
    simp only [seekR]
    split
    · rfl
    · rw [ih (i + 1), ih (0 + 1)]; omega
theorem seekS_has (p : SubL → Bool) (L : List SubL) : (seekS p 0 L < L.length ↔ ∃ s ∈ L, p s = true) ∧ seekS p 0 L ≤ L.length := by
  induction L with
  | nil => simp [seekS]
  | cons s L ih =>
    simp only [seekS, List.length_cons]
    by_cases h : p s = true
    · rw [if_pos h]; exact ⟨⟨fun _ => ⟨s, by simp, h⟩, fun _ => by omega⟩, by omega⟩
    · rw [if_neg h, seekS_shift]
      refine ⟨⟨fun q => ?_, ?_⟩, by omega⟩
      · obtain ⟨u, hu, hp⟩ := ih.1.1 (by omega); exact ⟨u, by simp [hu], hp⟩
      · rintro ⟨u, hu, hp⟩
        rcases List.mem_cons.1 hu with rfl | hu
        · exact absurd hp h
        · have := ih.1.2 ⟨u, hu, hp⟩; omega
theorem seekR_has (p : RSub → Bool) (L : List RSub) : (seekR p 0 L < L.length ↔ ∃ s ∈ L, p s = true) ∧ seekR p 0 L ≤ L.length := by
  induction L with
  | nil => simp [seekR]
  | cons s L ih =>
    simp only [seekR, List.length_cons]
    by_cases h : p s = true
    · rw [if_pos h]; exact ⟨⟨fun _ => ⟨s, by simp, h⟩, fun _ => by omega⟩, by omega⟩
    · rw [if_neg h, seekR_shift]
      refine ⟨⟨fun q => ?_, ?_⟩, by omega⟩
      · obtain ⟨u, hu, hp⟩ := ih.1.1 (by omega); exact ⟨u, by simp [hu], hp⟩
      · rintro ⟨u, hu, hp⟩
        rcases List.mem_cons.1 hu with rfl | hu
        · exact absurd hp h
        · have := ih.1.2 ⟨u, hu, hp⟩; omega
theorem eraseS_seek (p : SubL → Bool) (L : List SubL) (h : L.Pairwise (fun x y => p x = true → p y = true → False)) : L.eraseIdx (seekS p 0 L) = L.filter (fun s => !p s) := by
  induction L with
  | nil => rfl
  | cons s L ih =>
    obtain ⟨h1, h2⟩ := List.pairwise_cons.1 h
    simp only [seekS]
    by_cases hp : p s = true
    · rw [if_pos hp, List.eraseIdx_cons_zero, List.filter_cons, if_neg (by simp [hp])]
      exact (filter_all _ L (fun u hu => by cases e : p u; rfl; exact (h1 u hu hp e).elim)).symm
    · rw [if_neg hp, seekS_shift, Nat.zero_add, Nat.add_comm 1, List.eraseIdx_cons_succ, ih h2, List.filter_cons, if_pos (by simp [hp])]
theorem eraseR_seek (p : RSub → Bool) (L : List RSub) (h : L.Pairwise (fun x y => p x = true → p y = true → False)) : L.eraseIdx (seekR p 0 L) = L.filter (fun s => !p s) := by
  induction L with
  | nil => rfl
  | cons s L ih =>
    obtain ⟨h1, h2⟩ := List.pairwise_cons.1 h
    simp only [seekR]
    by_cases hp : p s = true
    · rw [if_pos hp, List.eraseIdx_cons_zero, List.filter_cons, if_neg (by simp [hp])]
      exact (filter_all _ L (fun u hu => by cases e : p u; rfl; exact (h1 u hu hp e).elim)).symm
    · rw [if_neg hp, seekR_shift, Nat.zero_add, Nat.add_comm 1, List.eraseIdx_cons_succ, ih h2, List.filter_cons, if_pos (by simp [hp])]
def isK (k j : KeyL) : Bool := decide (j = k)
theorem sameS_key (n : Nat) (g f : List UInt8) : sameS n g f = fun s => isK (n, g, f) (keyH s) := by
  funext s; unfold sameS isK keyH; rw [Bool.eq_iff_iff]; simp
theorem sameR_key (n : Nat) (g f : List UInt8) : sameR n g f = fun s => isK (n, g, f) (keyD s) := by
  funext s; unfold sameR isK keyD; rw [Bool.eq_iff_iff]; simp
theorem link_seek {H : HubL} {R : RHub} (h : HubLink H R) (n : Nat) (s : List UInt8) : (seekN H n s < H.subs.length ↔ (n, (partS s).1, (partS s).2) ∈ R.subs.map keyD) ∧ (rseek R n s < R.subs.length ↔ (n, (partS s).1, (partS s).2) ∈ R.subs.map keyD) ∧ seekN H n s ≤ H.subs.length ∧ rseek R n s ≤ R.subs.length := by
  obtain ⟨l, a, N, hs⟩ := h.subs
  unfold seekN rseek
  rw [sameS_key, sameR_key]
  refine ⟨?_, ?_, (seekS_has _ _).2, (seekR_has _ _).2⟩
  · rw [(seekS_has _ _).1, ← hs.perm.mem_iff, List.mem_map]
    constructor
    · rintro ⟨u, hu, hk⟩; exact ⟨u, hu, of_decide_eq_true hk⟩
    · rintro ⟨u, hu, hk⟩; exact ⟨u, hu, decide_eq_true hk⟩
  · rw [(seekR_has _ _).1, List.mem_map]
    constructor
    · rintro ⟨u, hu, hk⟩; exact ⟨u, hu, of_decide_eq_true hk⟩
    · rintro ⟨u, hu, hk⟩; exact ⟨u, hu, decide_eq_true hk⟩
theorem link_check {H : HubL} {R : RHub} (h : HubLink H R) (c : Int) (s : List UInt8) : checkS H c s = rcheck R c s := by unfold rcheck checkS; rw [h.on]
theorem link_unsub {H : HubL} {R : RHub} (h : HubLink H R) (c : Int) (s : List UInt8) : BothR R (unsubH H c s) (runsub R c s) := by
  unfold unsubH runsub
  rw [link_check h]
  by_cases hc : (rcheck R c s).1 ≠ 0
  · rw [if_pos hc, if_pos hc]; exact BothR.stay h _
  · rw [if_neg hc, if_neg hc]
    obtain ⟨k1, k2, k3, k4⟩ := link_seek h c.toNat s
    by_cases hk : (c.toNat, (partS s).1, (partS s).2) ∈ R.subs.map keyD
    · have h1 := k1.2 hk
      have h2 := k2.2 hk
      rw [if_neg (by omega), if_neg (by omega)]
      obtain ⟨l, a, N, hs⟩ := h.subs
      refine ⟨rfl, ⟨h.on, h.known, h.q, h.kept, h.rise, l, a, N, ?_⟩, by simp⟩
      show SubsLink (H.subs.eraseIdx (seekN H c.toNat s)) (R.subs.eraseIdx (rseek R c.toNat s)) R.count l a N
      unfold seekN rseek
      rw [sameS_key, sameR_key, eraseS_seek, eraseR_seek]
      · exact hs.filt (fun k => !isK (c.toNat, (partS s).1, (partS s).2) k)
      · refine (List.pairwise_map.1 (List.nodup_iff_pairwise_ne.1 hs.nodupD)).imp ?_
        intro x y hxy e1 e2
        exact hxy ((of_decide_eq_true e1).trans (of_decide_eq_true e2).symm)
      · refine (List.pairwise_map.1 (List.nodup_iff_pairwise_ne.1 hs.nodupH)).imp ?_
        intro x y hxy e1 e2
        exact hxy ((of_decide_eq_true e1).trans (of_decide_eq_true e2).symm)
    · have h1 : ¬ seekN H c.toNat s < H.subs.length := fun q => hk (k1.1 q)
      have h2 : ¬ rseek R c.toNat s < R.subs.length := fun q => hk (k2.1 q)
      rw [if_pos (by omega), if_pos (by omega)]; exact BothR.stay h _
theorem tell_shared (n : Nat) (g f : List UInt8) (hg : g ≠ []) (K : List MsgL) : ∀ R, K.foldl (tellS n g f) R = R := by
  induction K with
  | nil => intro R; rfl
  | cons m K ih => intro R; rw [List.foldl_cons, show tellS n g f R m = R by unfold tellS; rw [if_neg (by simp [hg])], ih]
theorem tell_link (n : Nat) (f : List UInt8) (K : List MsgL) : ∀ H R, HubLink H R → HubLink (delK n f H K) (K.foldl (tellS n [] f) R) ∧ (K.foldl (tellS n [] f) R).count = R.count := by
  induction K with
  | nil => intro H R h; exact ⟨h, rfl⟩
  | cons m K ih =>
    intro H R h
    rw [List.foldl_cons]
    show HubLink (delK n f (if matchB f m.1 = true then delH H n m else H) K) _ ∧ _
    by_cases hm : matchB f m.1 = true
    · rw [if_pos hm, show tellS n [] f R m = rdel R n (m.1 ++ 61 :: m.2) by unfold tellS; rw [if_pos (by simp [hm])]]
      have := ih _ _ (h.del n m)
      exact ⟨this.1, this.2.trans (rdel_count _ _ _).1⟩
    · rw [if_neg hm, show tellS n [] f R m = R by unfold tellS; rw [if_neg (by simp [hm])]]
      exact ih _ _ h
theorem link_sub {H : HubL} {R : RHub} (h : HubLink H R) (c : Int) (s : List UInt8) : BothR R (subH H c s) (rsub R c s) := by
  unfold subH rsub
  rw [link_check h]
  obtain ⟨l, a, N, hs⟩ := h.subs
  by_cases hc : (rcheck R c s).1 ≠ 0
  · rw [if_pos hc, if_pos hc]; exact BothR.stay h _
  · rw [if_neg hc, if_neg hc]
    obtain ⟨k1, k2, k3, k4⟩ := link_seek h c.toNat s
    by_cases hk : (c.toNat, (partS s).1, (partS s).2) ∈ R.subs.map keyD
    · rw [if_pos (k1.2 hk), if_pos (k2.2 hk)]; exact BothR.stay h _
    · rw [if_neg (fun q => hk (k1.1 q)), if_neg (fun q => hk (k2.1 q)), hs.len]
      by_cases h8 : 8 ≤ R.subs.length
      · rw [if_pos h8, if_pos h8]; exact BothR.stay h _
      · rw [if_neg h8, if_neg h8]
        have hm : HubLink (addS H c.toNat s) (moreR R (newR c.toNat (partS s).1 (partS s).2)) :=
          ⟨h.on, h.known, h.q, h.kept, h.rise, _, _, _, hs.more (newS c.toNat s) (newR c.toNat (partS s).1 (partS s).2) rfl rfl rfl hk⟩
        have hK := h.kept
        unfold tellF
        rw [List.take_length]
        by_cases hg : (partS s).1 = []
        · rw [if_pos hg, hK]
          have ht := tell_link c.toNat (partS s).2 H.kept _ _ hm
          rw [← hg] at ht
          refine ⟨rfl, ht.1, ?_⟩
          show (H.kept.foldl (tellS c.toNat (partS s).1 (partS s).2) (moreR R (newR c.toNat (partS s).1 (partS s).2))).count ≤ _
          rw [ht.2]; show R.count ≤ _; omega
        · rw [if_neg hg, tell_shared _ _ _ hg]
          refine ⟨rfl, hm, ?_⟩
          show R.count ≤ _; omega
end Go.Proofs.YtchhmojnoiephabGreatDoor

/- Plain mathematics: Publish: the document's and the program's. -/
namespace Go.Proofs.YtchhmojnoiephabGreatDoor
set_option linter.unusedVariables false

/-- one more delivery to client n, in the document's hub -/
def rspAdd (m : MsgL) (n : Nat) (x : List Int × RHub) : List Int × RHub := (x.1 ++ [(n : Int)], rdel x.2 n (m.1 ++ 61 :: m.2))
def rspN (m : MsgL) (n : Nat) (x : List Int × RHub) : Nat → List Int × RHub
  | 0 => x
  | k + 1 => rspAdd m n (rspN m n x k)
def rspTo (m : MsgL) (v : Nat → Nat) (x : List Int × RHub) : Nat → List Int × RHub
  | 0 => x
  | c + 1 => rspN m c (rspTo m v x c) (v c)
noncomputable def rspread (R : RHub) (m : MsgL) : List Int × RHub := rspTo m (servF R m.1 R.subs.length).2 ([], (servF R m.1 R.subs.length).1) 6
noncomputable def rpub (R : RHub) (t p : List UInt8) (keep : Bool) : (List Int × Int × Int) × RHub :=
  if (topicR t).1 ≠ 0 then (([], (topicR t).1, (topicR t).2), R)
  else if 8 < p.length then (([], 10, 0), R)
  else if keep = true then (if (rkept R t p).1 = true then (((rspread (rkept R t p).2 (t, p)).1, 0, 0), (rspread (rkept R t p).2 (t, p)).2) else (([], 7, 0), R))
  else (((rspread R (t, p)).1, 0, 0), (rspread R (t, p)).2)

def spN (m : MsgL) (n : Nat) (x : List Int × HubL) : Nat → List Int × HubL
  | 0 => x
  | k + 1 => spAdd m n (spN m n x k)
theorem spN_first (m : MsgL) (n : Nat) (x : List Int × HubL) : ∀ k, spN m n (spAdd m n x) k = spN m n x (k + 1) := by
  intro k
  induction k with
  | zero => rfl
  | succ k ih => rw [spN, ih]; rfl
theorem spTurn_N (m : MsgL) (n : Nat) (T : List Int) : ∀ x, spTurn m n x T = spN m n x (T.count (n : Int)) := by
  induction T with
  | nil => intro x; rfl
  | cons o T ih =>
    intro x
    simp only [spTurn]
    by_cases h : o = (n : Int)
    · subst h; rw [if_pos rfl, ih, spN_first, List.count_cons_self]
    · rw [if_neg h, ih, List.count_cons_of_ne h]
theorem spOne_N (m : MsgL) (T : List Int) (n : Nat) (x : List Int × HubL) : spOne m T n x = spN m n x ((if reachB x.2.subs n m.1 = true then 1 else 0) + T.count (n : Int)) := by
  unfold spOne
  rw [spTurn_N]
  by_cases h : reachB x.2.subs n m.1 = true
  · rw [if_pos h, if_pos h, spN_first, Nat.add_comm 1]
  · rw [if_neg h, if_neg h, Nat.zero_add]
theorem reach_link {L : List SubL} {D : List RSub} (h : (L.map keyH).Perm (D.map keyD)) (n : Nat) (t : List UInt8) : reachB L n t = rwantB D n t := by
  rw [Bool.eq_iff_iff]
  unfold reachB rwantB
  rw [List.any_eq_true, List.any_eq_true]
  constructor
  · rintro ⟨s, hs, hw⟩
    obtain ⟨u, hu, he⟩ := List.mem_map.1 (h.mem_iff.1 (List.mem_map.2 ⟨s, hs, rfl⟩))
    simp only [keyD, keyH, Prod.mk.injEq] at he
    refine ⟨u, hu, ?_⟩
    unfold wantS at hw; unfold rwantS; rw [he.1, he.2.1, he.2.2]; exact hw
  · rintro ⟨s, hs, hw⟩
    obtain ⟨u, hu, he⟩ := List.mem_map.1 (h.mem_iff.2 (List.mem_map.2 ⟨s, hs, rfl⟩))
    simp only [keyD, keyH, Prod.mk.injEq] at he
    refine ⟨u, hu, ?_⟩
    unfold rwantS at hw; unfold wantS; rw [he.1, he.2.1, he.2.2]; exact hw
/-- the answers so far are the same, the hubs belong together; the subscriptions and the count stay -/
structure SpL (S0 : List SubL) (n0 : Nat) (x : List Int × HubL) (y : List Int × RHub) : Prop where
  ans : x.1 = y.1
  link : HubLink x.2 y.2
  subs : x.2.subs = S0
  count : y.2.count = n0
theorem SpL.add {S0 : List SubL} {n0 : Nat} {x : List Int × HubL} {y : List Int × RHub} (h : SpL S0 n0 x y) (m : MsgL) (n : Nat) : SpL S0 n0 (spAdd m n x) (rspAdd m n y) :=
  ⟨by unfold spAdd rspAdd; rw [h.ans], h.link.del n m, (del_subs _ _ _).1.trans h.subs, (rdel_count _ _ _).1.trans h.count⟩
theorem SpL.addN {S0 : List SubL} {n0 : Nat} {x : List Int × HubL} {y : List Int × RHub} (h : SpL S0 n0 x y) (m : MsgL) (n : Nat) : ∀ k, SpL S0 n0 (spN m n x k) (rspN m n y k) := by
  intro k
  induction k with
  | zero => exact h
  | succ k ih => exact ih.add m n
theorem SpL.to {S0 : List SubL} {n0 : Nat} {x : List Int × HubL} {y : List Int × RHub} (h : SpL S0 n0 x y) (m : MsgL) (T : List Int) (v : Nat → Nat) (hv : ∀ c : Nat, v c = (if reachB S0 c m.1 = true then 1 else 0) + T.count (c : Int)) : ∀ n, SpL S0 n0 (spTo m T x n) (rspTo m v y n) := by
  intro n
  induction n with
  | zero => exact h
  | succ n ih =>
    rw [spTo, rspTo, spOne_N, ih.subs, hv]
    exact ih.addN m n _
theorem spread_link {H : HubL} {R : RHub} (h : HubLink H R) (hl : R.subs.length ≤ 8) (m : MsgL) : BothR R (spreadH H m) (rspread R m) := by
  obtain ⟨l, a, N, hs⟩ := h.subs
  obtain ⟨⟨l', hs'⟩, hn, r1, r2, r3, r4, hc, hk⟩ := take_link hs h.on m.1
  have h0 : HubLink (takeH H m.1).2 (servR R m.1).1 :=
    ⟨h.on.trans r1.symm, h.known.trans r2.symm, fun c => by rw [r3]; exact h.q c, r4.trans h.kept, h.rise, _, _, _, hs'⟩
  have h1 : SpL (takeH H m.1).2.subs (servR R m.1).1.count ([], (takeH H m.1).2) ([], (servR R m.1).1) := ⟨rfl, h0, rfl, rfl⟩
  have hv : ∀ c : Nat, (servR R m.1).2 c = (if reachB (takeH H m.1).2.subs c m.1 = true then 1 else 0) + (takeH H m.1).1.count (c : Int) := by
    intro c
    rw [hn c, reach_link (D := R.subs) (hk ▸ hs'.perm) c m.1]
    rfl
  have h2 := h1.to m (takeH H m.1).1 (servR R m.1).2 hv 6
  refine ⟨h2.ans, h2.link, ?_⟩
  have := h2.count
  show (rspTo m (servR R m.1).2 ([], (servR R m.1).1) 6).2.count ≤ _
  omega
theorem link_pub {H : HubL} {R : RHub} (h : HubLink H R) (hl : R.subs.length ≤ 8) (h4 : H.kept.length ≤ 4) (t p : List UInt8) (keep : Bool) : BothR R (pubH H t p keep) (rpub R t p keep) := by
  unfold pubH rpub
  by_cases hc : (topicR t).1 ≠ 0
  · rw [if_pos hc, if_pos hc]; exact BothR.stay h _
  · rw [if_neg hc, if_neg hc]
    by_cases h8 : 8 < p.length
    · rw [if_pos h8, if_pos h8]; exact BothR.stay h _
    · rw [if_neg h8, if_neg h8]
      by_cases hk : keep = true
      · rw [if_pos hk, if_pos hk]
        have hr := room_iff H.kept (t, p) h.rise h4
        have hkl : keepL t p R.kept = putK H.kept (t, p) := by rw [h.kept, keepL_putK t p H.kept h.rise]
        by_cases hroom : roomB H.kept (t, p) = true
        · have h5 : ¬ 4 < (putK H.kept (t, p)).length := by
            rw [hroom] at hr
            intro h5; rw [decide_eq_true h5] at hr; cases hr
          have hrk : rkept R t p = (true, { R with kept := putK H.kept (t, p) }) := by unfold rkept; rw [hkl, if_neg h5]
          rw [if_pos hroom, hrk]
          simp only [if_true]
          have h1 : HubLink { H with kept := putK H.kept (t, p) } { R with kept := putK H.kept (t, p) } := ⟨h.on, h.known, h.q, rfl, putK_rise _ _ h.rise, h.subs⟩
          have h2 := spread_link h1 hl (t, p)
          exact ⟨by rw [h2.1], h2.2.1, h2.2.2⟩
        · have h5 : 4 < (putK H.kept (t, p)).length := by
            by_cases h5 : 4 < (putK H.kept (t, p)).length
            · exact h5
            · rw [decide_eq_false h5] at hr; exact absurd hr hroom
          have hrk : rkept R t p = (false, R) := by unfold rkept; rw [hkl, if_pos h5]
          rw [if_neg hroom, hrk]
          exact BothR.stay h _
      · rw [if_neg hk, if_neg hk]
        have h2 := spread_link h hl (t, p)
        exact ⟨by rw [h2.1], h2.2.1, h2.2.2⟩
end Go.Proofs.YtchhmojnoiephabGreatDoor
