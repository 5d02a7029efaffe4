import Derived.Test.YtchhmojnoiephabHubE
/- The program's hub: taking turns. -/
namespace Go.Proofs.Ytchhmojnoiephab
open Go.ChangeShapes Go.WideShapes Go.ChangeAt Go.RowKit
set_option linter.unusedVariables false

def pickB (H : HubL) (t : List UInt8) (k : Nat) (s : SubL) : Bool := !decide (s.grp = []) && (matchB s.fil t && decide (turnH H s.grp s.fil = k))
def hadS (s : SubL) : SubL := { s with had := true }
/-- behind k subscriptions: whose turn it was; the others; those that were served -/
def pickT (H : HubL) (t : List UInt8) : Nat → List Int × List SubL × List SubL
  | 0 => ([], [], [])
  | k + 1 => match H.subs[k]? with
    | none => pickT H t k
    | some s => if pickB H t k s = true then ((pickT H t k).1 ++ [(s.who : Int)], (pickT H t k).2.1, (pickT H t k).2.2 ++ [hadS s]) else ((pickT H t k).1, (pickT H t k).2.1 ++ [s], (pickT H t k).2.2)
theorem pickT_yes (H : HubL) (t : List UInt8) (k : Nat) (h : k < H.subs.length) (hp : pickB H t k H.subs[k] = true) : pickT H t (k + 1) = ((pickT H t k).1 ++ [(H.subs[k].who : Int)], (pickT H t k).2.1, (pickT H t k).2.2 ++ [hadS H.subs[k]]) := by
  simp only [pickT]; rw [List.getElem?_eq_getElem h]; simp only; rw [if_pos hp]
theorem pickT_no (H : HubL) (t : List UInt8) (k : Nat) (h : k < H.subs.length) (hp : pickB H t k H.subs[k] = false) : pickT H t (k + 1) = ((pickT H t k).1, (pickT H t k).2.1 ++ [H.subs[k]], (pickT H t k).2.2) := by
  simp only [pickT]; rw [List.getElem?_eq_getElem h]; simp only; rw [if_neg (by simp [hp])]
def okSub (s : SubL) : Prop := s.who < 6 ∧ s.grp.length ≤ 24 ∧ s.fil.length ≤ 24
theorem pickT_good (H : HubL) (t : List UInt8) (hg : goodH H) : ∀ k, (pickT H t k).2.1.length + (pickT H t k).2.2.length ≤ k ∧ (pickT H t k).1.length ≤ k ∧ (∀ s ∈ (pickT H t k).2.1, okSub s) ∧ (∀ s ∈ (pickT H t k).2.2, okSub s) ∧ ∀ x ∈ (pickT H t k).1, ∃ n : Nat, x = n ∧ n < 6 := by
  intro k
  induction k with
  | zero => simp [pickT]
  | succ k ih =>
    obtain ⟨h1, h2, h3, h4, h5⟩ := ih
    by_cases hk : k < H.subs.length
    · have ho : okSub H.subs[k] := hg.subs.2 _ (List.getElem_mem hk)
      cases hp : pickB H t k H.subs[k] with
      | true =>
        rw [pickT_yes H t k hk hp]
        refine ⟨by simp; omega, by simp; omega, h3, fun s hs => ?_, fun x hx => ?_⟩
        · rcases List.mem_append.1 hs with h | h
          · exact h4 s h
          · rw [List.mem_singleton.1 h]; exact ho
        · rcases List.mem_append.1 hx with h | h
          · exact h5 x h
          · exact ⟨_, List.mem_singleton.1 h, ho.1⟩
      | false =>
        rw [pickT_no H t k hk hp]
        refine ⟨by simp; omega, by simp; omega, fun s hs => ?_, h4, h5⟩
        rcases List.mem_append.1 hs with h | h
        · exact h3 s h
        · rw [List.mem_singleton.1 h]; exact ho
    · have : pickT H t (k + 1) = pickT H t k := by simp only [pickT]; rw [List.getElem?_eq_none (by omega)]
      rw [this]
      exact ⟨by omega, by omega, h3, h4, h5⟩
def takeH (H : HubL) (t : List UInt8) : List Int × HubL := ((pickT H t H.subs.length).1, { H with subs := (pickT H t H.subs.length).2.1 ++ (pickT H t H.subs.length).2.2 })
theorem take_good {H : HubL} (t : List UInt8) (hg : goodH H) : goodH (takeH H t).2 := by
  obtain ⟨h1, h2, h3, h4, h5⟩ := pickT_good H t hg H.subs.length
  refine ⟨hg.queue, ⟨?_, fun s hs => ?_⟩, hg.kept⟩
  · have := hg.subs.1
    show ((pickT H t H.subs.length).2.1 ++ (pickT H t H.subs.length).2.2).length ≤ 8
    rw [List.length_append]; omega
  · rcases List.mem_append.1 hs with h | h
    · exact h3 s h
    · exact h4 s h

theorem info_sub : (Try.prog.info? 66).map (fun i => (i.zero, i.size, i.bytes)) = some (some (.agg #[.int .i64 0, .string ByteArray.empty, .string ByteArray.empty, .bool false]), 4, 48) := by kernel_rfl

theorem own_apart {w : World} {B B' e e' sz sz' n n' : Nat} {v v' : Value} {xs xs' : List Value} (h : w.ownsRow B e sz v n xs) (h' : w.ownsRow B' e' sz' v' n' xs') (hne : e ≠ e') : ∀ k, v.ownBlock = some k → v'.ownBlock ≠ some k := by
  intro k hk hk'
  obtain ⟨_, ⟨h0, _⟩ | ⟨g, cap, cur, hv, _, hg, _⟩⟩ := h
  · rw [h0] at hk; cases hk
  · rw [hv] at hk; simp [Value.ownBlock] at hk; subst hk
    exact own_notA h' hg (fun e => hne e.symm) hk'

/-- the three lists of takeTurns -/
structure Rows3 (w wr : World) (tv av sv : Value) (T : List Int) (R V : List SubL) : Prop where
  t : wr.ownsRow 0 3 1 tv T.length (T.map (Value.int .i64))
  a : wr.ownsRow 0 66 4 av R.length (subCells R)
  s : wr.ownsRow 0 66 4 sv V.length (subCells V)
  ap : ∀ k, av.ownBlock = some k → sv.ownBlock ≠ some k
  ge : ∀ k, tv.ownBlock = some k ∨ av.ownBlock = some k ∨ sv.ownBlock = some k → w.heap.size ≤ k
  bel : Below w.heap.size w wr
theorem Rows3.start (w : World) : Rows3 w w (.slice none 0 0) (.slice none 0 0) (.slice none 0 0) [] [] [] :=
  ⟨World.ownsRow_nil _ _ _ _, World.ownsRow_nil _ _ _ _, World.ownsRow_nil _ _ _ _, (fun k h => by cases h), (fun k h => by rcases h with h | h | h <;> cases h), Below.refl _ _⟩
theorem Rows3.on {w wr w2 : World} {tv av sv : Value} {T : List Int} {R V : List SubL} (h : Rows3 w wr tv av sv T R V) (hb : Below wr.heap.size wr w2) : Rows3 w w2 tv av sv T R V :=
  ⟨own_below h.t hb, own_below h.a hb, own_below h.s hb, h.ap, h.ge, h.bel.trans (hb.mono h.bel.size)⟩
theorem grown_below {w w2 w3 : World} {v : Value} (hb : Below w.heap.size w w2) (hgrow : w2.grownBy w3 v.ownBlock) (hge : ∀ k, v.ownBlock = some k → w.heap.size ≤ k) : Below w.heap.size w w3 :=
  ⟨hgrow.os.trans hb.os, hgrow.tape.trans hb.tape, hgrow.output.trans hb.output, Nat.le_trans hb.size hgrow.size, fun k hk => by
    have := hb.size
    rw [hgrow.block k (by omega) (fun e => by have := hge k e.symm; omega)]; exact hb.block k hk⟩
theorem keep_row {w2 w3 : World} {v u : Value} {B e sz n : Nat} {xs : List Value} (h : w2.ownsRow B e sz u n xs) (hgrow : w2.grownBy w3 v.ownBlock) (hne : ∀ k, u.ownBlock = some k → v.ownBlock ≠ some k) : w3.ownsRow B e sz u n xs :=
  own_same h (fun k hk => hgrow.block k (h.lt k hk).2 (fun e => hne k hk e.symm))
theorem Rows3.pushT {w wr w3 : World} {tv av sv v' : Value} {T : List Int} {R V : List SubL} {x : Int} (h : Rows3 w wr tv av sv T R V) (hown : w3.ownsRow 0 3 1 v' (T.length + 1) (T.map (Value.int .i64) ++ [.int .i64 x])) (hgrow : wr.grownBy w3 tv.ownBlock)
    (hmv : ∀ k, v'.ownBlock = some k → tv.ownBlock = some k ∨ wr.heap.size ≤ k) : Rows3 w w3 v' av sv (T ++ [x]) R V := by
  have hs := h.bel.size
  refine ⟨by rw [List.length_append, List.map_append]; exact hown, keep_row h.a hgrow (own_apart h.a h.t (by decide)), keep_row h.s hgrow (own_apart h.s h.t (by decide)), h.ap, fun k hk => ?_, grown_below h.bel hgrow (fun k hk => h.ge k (Or.inl hk))⟩
  rcases hk with hk | hk
  · rcases hmv k hk with h1 | h1
    · exact h.ge k (Or.inl h1)
    · omega
  · exact h.ge k (Or.inr hk)
theorem Rows3.pushA {w wr w3 : World} {tv av sv v' : Value} {T : List Int} {R V : List SubL} {x : SubL} (h : Rows3 w wr tv av sv T R V) (hown : w3.ownsRow 0 66 4 v' (R.length + 1) (subCells R ++ [.int .i64 (x.who : Int), strV x.grp, strV x.fil, .bool x.had])) (hgrow : wr.grownBy w3 av.ownBlock)
    (hmv : ∀ k, v'.ownBlock = some k → av.ownBlock = some k ∨ wr.heap.size ≤ k) : Rows3 w w3 tv v' sv T (R ++ [x]) V := by
  have hs := h.bel.size
  refine ⟨keep_row h.t hgrow (own_apart h.t h.a (by decide)), by rw [List.length_append, subCells_snoc]; exact hown, keep_row h.s hgrow (fun k hk hk2 => h.ap k hk2 hk), fun k hk hk2 => ?_, fun k hk => ?_, grown_below h.bel hgrow (fun k hk => h.ge k (Or.inr (Or.inl hk)))⟩
  · rcases hmv k hk with h1 | h1
    · exact h.ap k h1 hk2
    · have := (h.s.lt k hk2).2; omega
  · rcases hk with hk | hk | hk
    · exact h.ge k (Or.inl hk)
    · rcases hmv k hk with h1 | h1
      · exact h.ge k (Or.inr (Or.inl h1))
      · omega
    · exact h.ge k (Or.inr (Or.inr hk))
theorem Rows3.pushS {w wr w3 : World} {tv av sv v' : Value} {T : List Int} {R V : List SubL} {x : SubL} (h : Rows3 w wr tv av sv T R V) (hown : w3.ownsRow 0 66 4 v' (V.length + 1) (subCells V ++ [.int .i64 (x.who : Int), strV x.grp, strV x.fil, .bool x.had])) (hgrow : wr.grownBy w3 sv.ownBlock)
    (hmv : ∀ k, v'.ownBlock = some k → sv.ownBlock = some k ∨ wr.heap.size ≤ k) : Rows3 w w3 tv av v' T R (V ++ [x]) := by
  have hs := h.bel.size
  refine ⟨keep_row h.t hgrow (own_apart h.t h.s (by decide)), keep_row h.a hgrow h.ap, by rw [List.length_append, subCells_snoc]; exact hown, fun k hk hk2 => ?_, fun k hk => ?_, grown_below h.bel hgrow (fun k hk => h.ge k (Or.inr (Or.inr hk)))⟩
  · rcases hmv k hk2 with h1 | h1
    · exact h.ap k hk h1
    · have := (h.a.lt k hk).2; omega
  · rcases hk with hk | hk | hk
    · exact h.ge k (Or.inl hk)
    · exact h.ge k (Or.inr (Or.inl hk))
    · rcases hmv k hk with h1 | h1
      · exact h.ge k (Or.inr (Or.inr h1))
      · omega
theorem Rows3.cell {w wr : World} {tv av sv : Value} {T : List Int} {R V : List SubL} (h : Rows3 w wr tv av sv T R V) {X i : Nat} (v : Value) (hX : ∀ k, tv.ownBlock = some k ∨ av.ownBlock = some k ∨ sv.ownBlock = some k → k ≠ X) (hB : w.heap.size ≤ X) : Rows3 w (wr.setCell ⟨X, i, none⟩ v) tv av sv T R V :=
  ⟨ownsRow_setCell_other h.t (fun e => hX X (Or.inl e) rfl) _, ownsRow_setCell_other h.a (fun e => hX X (Or.inr (Or.inl e)) rfl) _, ownsRow_setCell_other h.s (fun e => hX X (Or.inr (Or.inr e)) rfl) _, h.ap, h.ge, h.bel.setCell hB _⟩

end Go.Proofs.Ytchhmojnoiephab
