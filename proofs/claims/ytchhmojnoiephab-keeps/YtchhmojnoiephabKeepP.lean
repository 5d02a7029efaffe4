import Derived.Test.YtchhmojnoiephabHubO
/- Plain mathematics: what Keeps asks of the hub. -/
namespace Go.Proofs.Ytchhmojnoiephab

/-- no subscription: nothing is delivered -/
theorem spTo_none (m : MsgL) (x : List Int × HubL) (h : x.2.subs = []) : ∀ n, spTo m [] x n = x := by
  intro n
  induction n with
  | zero => rfl
  | succ n ih =>
    simp only [spTo, spOne, spTurn]
    rw [ih, h]
    rfl
theorem spread_none (H : HubL) (m : MsgL) (h : H.subs = []) : spreadH H m = ([], H) := by
  have ht : takeH H m.1 = ([], H) := by
    unfold takeH
    rw [h]
    show (([] : List Int), { H with subs := ([] : List SubL) ++ [] }) = ([], H)
    cases H
    simp only at h
    subst h
    rfl
  unfold spreadH
  rw [ht]
  exact spTo_none m ([], H) h 6

/-- one subscription of client 0, not shared: client 1's queue stays -/
structure OneS (H : HubL) (s : SubL) (on : Nat → Bool) (K : List MsgL) : Prop where
  subs : H.subs = [s]
  on : H.on = on
  kept : H.kept = K
  q : H.q 1 = []
theorem del_one {H : HubL} {s : SubL} {on : Nat → Bool} {K : List MsgL} (h : OneS H s on K) (n : Nat) (hn : n ≠ 1) (m : MsgL) : OneS (delH H n m) s on K := by
  obtain ⟨h1, h2, h3, h4⟩ := del_subs H n m
  refine ⟨h1.trans h.subs, h3.trans h.on, h2.trans h.kept, ?_⟩
  unfold delH
  split
  · show updF H.q n _ 1 = []
    rw [updF_other _ _ (fun e => hn e.symm)]; exact h.q
  · exact h.q
theorem spTo_one {s : SubL} {on : Nat → Bool} {K : List MsgL} (hw : s.who = 0) (m : MsgL) (x : List Int × HubL) (h : OneS x.2 s on K) : ∀ n, OneS (spTo m [] x n).2 s on K := by
  intro n
  induction n with
  | zero => exact h
  | succ n ih =>
    simp only [spTo, spOne, spTurn]
    split
    · rename_i hr
      refine del_one ih n (fun e => ?_) m
      subst e
      rw [ih.subs] at hr
      simp [reachB, wantS, hw] at hr
    · exact ih
theorem take_one {H : HubL} {s : SubL} (h : H.subs = [s]) (hg : s.grp = []) (t : List UInt8) : takeH H t = ([], H) := by
  have hp : pickT H t 1 = ([], [s], []) := by
    have hk : (0 : Nat) < H.subs.length := by rw [h]; simp
    have h0 : H.subs[0] = s := by simp [h]
    have := pickT_no H t 0 hk (by unfold pickB; rw [h0, hg]; simp)
    rw [this, h0]
    rfl
  unfold takeH
  rw [h]
  show ((pickT H t 1).1, { H with subs := (pickT H t 1).2.1 ++ (pickT H t 1).2.2 }) = ([], H)
  rw [hp]
  cases H
  simp only at h
  subst h
  rfl
theorem spread_one {H : HubL} {s : SubL} {on : Nat → Bool} {K : List MsgL} (h : OneS H s on K) (hg : s.grp = []) (hw : s.who = 0) (m : MsgL) : OneS (spreadH H m).2 s on K := by
  unfold spreadH
  rw [take_one h.subs hg]
  exact spTo_one hw m ([], H) h 6

theorem putK_nil (t p : List UInt8) : putK [] (t, p) = if p = [] then [] else [(t, p)] := by
  unfold putK; by_cases h : p = [] <;> simp [h]
theorem putK_clear (t p : List UInt8) : putK (if p = [] then [] else [(t, p)]) (t, []) = [] := by
  unfold putK
  have h1 : ltL t t = false := less_irr t
  have h2 : gtL t t = false := by unfold gtL; simp
  by_cases h : p = [] <;> simp [h, h1, h2]

section
variable (t f p q : List UInt8) (ht : (topicR t).1 = 0) (hf : (filterR f).1 = 0) (hp : p.length ≤ 8) (hq : q.length ≤ 8) (hs : ¬ f.take 7 = shareL)
def kA : HubL := comeH (comeH hub0 0) 1
def kK : List MsgL := if p = [] then [] else [(t, p)]
def kB : HubL := { kA with kept := kK t p }
def kC : HubL := delK 0 f (addS (kB t p) 0 f) (kK t p)
include ht hp in
theorem keep1 : pubH kA t p true = (([], 0, 0), kB t p) := by
  have hr : roomB kA.kept (t, p) = true := by unfold roomB; simp [kA, comeH, hub0]
  have hk : putK kA.kept (t, p) = kK t p := putK_nil t p
  have hn := spread_none { kA with kept := putK kA.kept (t, p) } (t, p) rfl
  unfold pubH
  rw [if_neg (by simp [ht]), if_neg (by omega), if_pos rfl, if_pos hr, hn, hk]
  rfl
include ht hq in
theorem keep2 : pubH (kB t p) t q false = (([], 0, 0), kB t p) := by
  unfold pubH
  rw [if_neg (by simp [ht]), if_neg (by omega), if_neg (by simp), spread_none (kB t p) (t, q) rfl]
include hf hs in
theorem keep3 : subH (kB t p) 0 f = ((0, 0), kC t f p) := by
  have hl := (filterR_len f hf).1
  have hps := part_none f hs
  have hc : checkS (kB t p) 0 f = (0, 0) := by
    unfold checkS
    rw [if_pos (by rfl), if_neg (by omega), hps, if_neg (by simp [hf]), if_pos (by rfl)]
  unfold subH
  rw [hc, if_neg (by simp), hps]
  have hz : seekN (kB t p) (0 : Int).toNat f = 0 := rfl
  rw [hz]
  rfl
theorem kC_zero : OneS (addS (kB t p) 0 f) (newS 0 f) kA.on (kK t p) := ⟨rfl, rfl, rfl, rfl⟩
theorem kC_none (h : p = []) : kC t f p = addS (kB t p) 0 f := by unfold kC kK; rw [if_pos h]; rfl
theorem kC_some (h : p ≠ []) : kC t f p = if matchB f t = true then delH (addS (kB t p) 0 f) 0 (t, p) else addS (kB t p) 0 f := by unfold kC; rw [show kK t p = [(t, p)] from if_neg h]; rfl
theorem kC_one : OneS (kC t f p) (newS 0 f) kA.on (kK t p) := by
  by_cases h : p = []
  · rw [kC_none t f p h]; exact kC_zero t f p
  · rw [kC_some t f p h]
    split
    · exact del_one (kC_zero t f p) 0 (by decide) _
    · exact kC_zero t f p
theorem keep4n (h : p = [] ∨ matchB f t = false) : takeQ (kC t f p) 0 = (([], 6), kC t f p) := by
  have hc : kC t f p = addS (kB t p) 0 f := by
    by_cases hp : p = []
    · exact kC_none t f p hp
    · rw [kC_some t f p hp, if_neg (by rcases h with h | h; exact absurd h hp; simp [h])]
  rw [hc]
  rfl
theorem keep4y (h : p ≠ []) (hm : matchB f t = true) : takeQ (kC t f p) 0 = ((t ++ 61 :: p, 0), { kC t f p with q := updF (kC t f p).q 0 [] }) := by
  have hc : kC t f p = { addS (kB t p) 0 f with q := updF (addS (kB t p) 0 f).q 0 [(t, p)] } := by
    rw [kC_some t f p h, if_pos hm]; rfl
  rw [hc]
  rfl
theorem one_take {H : HubL} {s : SubL} {on : Nat → Bool} {K : List MsgL} (h : OneS H s on K) : OneS { H with q := updF H.q 0 [] } s on K := ⟨h.subs, h.on, h.kept, by show updF H.q 0 [] 1 = []; rw [updF_other _ _ (by decide)]; exact h.q⟩
include ht hs in
theorem keep5 {H : HubL} (h : OneS H (newS 0 f) kA.on (kK t p)) : OneS (pubH H t [] true).2 (newS 0 f) kA.on [] := by
  have hr : roomB H.kept (t, []) = true := by unfold roomB; simp
  have hk : putK H.kept (t, []) = [] := by rw [h.kept]; exact putK_clear t p
  have h1 : OneS { H with kept := putK H.kept (t, []) } (newS 0 f) kA.on [] := ⟨h.subs, h.on, hk, h.q⟩
  unfold pubH
  rw [if_neg (by simp [ht]), if_neg (by simp), if_pos rfl, if_pos hr]
  exact spread_one h1 (by show (partS f).1 = []; rw [part_none f hs]) rfl _
include hf hs in
theorem keep6 {H : HubL} (h : OneS H (newS 0 f) kA.on []) : subH H 1 f = ((0, 0), addS H 1 f) := by
  have hl := (filterR_len f hf).1
  have hps := part_none f hs
  have hc : checkS H 1 f = (0, 0) := by
    unfold checkS
    rw [if_pos (by rfl), if_neg (by omega), hps, if_neg (by simp [hf]), h.on, if_pos (by rfl)]
  have hz : seekN H (1 : Int).toNat f = 1 := by
    unfold seekN
    rw [h.subs]
    simp [seekS, sameS, newS]
  unfold subH
  rw [hc, if_neg (by simp), hz, h.subs, if_neg (by simp), if_neg (by simp), hps, if_pos rfl, h.kept]
  rfl
theorem keep7 {H : HubL} (h : OneS H (newS 0 f) kA.on []) : takeQ (addS H 1 f) 1 = (([], 6), addS H 1 f) := by
  unfold takeQ
  rw [if_pos (by rfl)]
  have h1 : (addS H 1 f).on (1 : Int).toNat = true := by show H.on 1 = true; rw [h.on]; rfl
  have h2 : (addS H 1 f).q (1 : Int).toNat = [] := h.q
  rw [if_pos h1, h2]
end

end Go.Proofs.Ytchhmojnoiephab
