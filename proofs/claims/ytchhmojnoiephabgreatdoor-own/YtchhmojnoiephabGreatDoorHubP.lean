import Derived.Test.YtchhmojnoiephabGreatDoorPureB
/- Plain mathematics: the program's hub, as lists. -/
namespace Go.Proofs.YtchhmojnoiephabGreatDoor

abbrev MsgL := List UInt8 × List UInt8
structure SubL where
  who : Nat
  grp : List UInt8
  fil : List UInt8
  had : Bool
structure HubL where
  on : Nat → Bool
  known : Nat → Bool
  q : Nat → List MsgL
  subs : List SubL
  kept : List MsgL

def updF {α : Type} (f : Nat → α) (c : Nat) (v : α) : Nat → α := fun k => if k = c then v else f k
theorem updF_same {α : Type} (f : Nat → α) (c : Nat) (v : α) : updF f c v c = v := by unfold updF; rw [if_pos rfl]
theorem updF_other {α : Type} (f : Nat → α) {c k : Nat} (v : α) (h : k ≠ c) : updF f c v k = f k := by unfold updF; rw [if_neg h]

def smallM (m : MsgL) : Prop := m.1.length ≤ 24 ∧ m.2.length ≤ 8
structure goodH (H : HubL) : Prop where
  queue : ∀ c, (H.q c).length ≤ 3 ∧ ∀ m ∈ H.q c, smallM m
  subs : H.subs.length ≤ 8 ∧ ∀ s ∈ H.subs, s.who < 6 ∧ s.grp.length ≤ 24 ∧ s.fil.length ≤ 24
  kept : H.kept.length ≤ 4 ∧ ∀ m ∈ H.kept, smallM m

def hub0 : HubL := ⟨fun _ => false, fun _ => false, fun _ => [], [], []⟩
theorem good0 : goodH hub0 := ⟨fun _ => ⟨by simp [hub0], fun m h => by simp [hub0] at h⟩, ⟨by simp [hub0], fun s h => by simp [hub0] at h⟩, ⟨by simp [hub0], fun m h => by simp [hub0] at h⟩⟩

/-- Connect, of a client that there is -/
def comeH (H : HubL) (c : Nat) : HubL := { H with on := updF H.on c true, known := updF H.known c true }
theorem come_good {H : HubL} (h : goodH H) (c : Nat) : goodH (comeH H c) := ⟨h.queue, h.subs, h.kept⟩
def goH (H : HubL) (c : Nat) : HubL := { H with on := updF H.on c false }
theorem go_good {H : HubL} (h : goodH H) (c : Nat) : goodH (goH H c) := ⟨h.queue, h.subs, h.kept⟩
/-- a message behind a client's queue, or lost -/
def delH (H : HubL) (c : Nat) (m : MsgL) : HubL := if (H.q c).length < 3 then { H with q := updF H.q c (H.q c ++ [m]) } else H
theorem del_good {H : HubL} (h : goodH H) (c : Nat) (m : MsgL) (hm : smallM m) : goodH (delH H c m) := by
  unfold delH
  split
  · rename_i hl
    refine ⟨fun k => ?_, h.subs, h.kept⟩
    by_cases hk : k = c
    · subst hk
      rw [show ({ H with q := updF H.q k (H.q k ++ [m]) } : HubL).q k = H.q k ++ [m] from updF_same _ _ _]
      refine ⟨by simp; omega, fun x hx => ?_⟩
      rcases List.mem_append.1 hx with hx | hx
      · exact (h.queue k).2 x hx
      · rw [List.mem_singleton.1 hx]; exact hm
    · rw [show ({ H with q := updF H.q c (H.q c ++ [m]) } : HubL).q k = H.q k from updF_other _ _ hk]
      exact h.queue k
  · exact h
theorem del_subs (H : HubL) (c : Nat) (m : MsgL) : (delH H c m).subs = H.subs ∧ (delH H c m).kept = H.kept ∧ (delH H c m).on = H.on ∧ (delH H c m).known = H.known := by
  unfold delH; split <;> exact ⟨rfl, rfl, rfl, rfl⟩

/-- a text's group and filter -/
def lowB (b : UInt8) : Bool := decide (97 ≤ b.toNat) && decide (b.toNat ≤ 122)
def shareL : List UInt8 := [36, 115, 104, 97, 114, 101, 47]
def partS (s : List UInt8) : List UInt8 × List UInt8 :=
  if s.take 7 = shareL then
    match (s.drop 7).takeWhile lowB, (s.drop 7).dropWhile lowB with
    | [], _ => ([], s)
    | _ :: _, [] => ([], s)
    | a :: g, b :: r => if b = 47 then (a :: g, r) else ([], s)
  else ([], s)

/-- where a subscription stands, from place i on -/
def sameS (c : Nat) (g f : List UInt8) (s : SubL) : Bool := decide (s.who = c) && (decide (s.grp = g) && decide (s.fil = f))
def seekS (p : SubL → Bool) : Nat → List SubL → Nat
  | i, [] => i
  | i, s :: L => if p s = true then i else seekS p (i + 1) L
theorem seekS_hit (p : SubL → Bool) (i k : Nat) (L : List SubL) (h : k < L.length) (he : p L[k] = true) : seekS p i (L.drop k) = i := by
  rw [List.drop_eq_getElem_cons h]; simp only [seekS]; rw [if_pos he]
theorem seekS_miss (p : SubL → Bool) (i k : Nat) (L : List SubL) (h : k < L.length) (he : p L[k] = false) : seekS p i (L.drop k) = seekS p (i + 1) (L.drop (k + 1)) := by
  rw [List.drop_eq_getElem_cons h]; simp only [seekS]; rw [if_neg (by simp [he])]
theorem seekS_end (p : SubL → Bool) (i k : Nat) (L : List SubL) (h : ¬ k < L.length) : seekS p i (L.drop k) = i := by
  rw [List.drop_eq_nil_of_le (by omega)]; rfl

end Go.Proofs.YtchhmojnoiephabGreatDoor
