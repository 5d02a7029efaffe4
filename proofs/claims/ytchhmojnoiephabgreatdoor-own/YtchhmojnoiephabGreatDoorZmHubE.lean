import Derived.Test.YtchhmojnoiephabGreatDoorZmHubC
/- The program's hub: whose turn it is. -/
namespace Go.Proofs.YtchhmojnoiephabGreatDoor
open Go.ChangeShapes Go.WideShapes Go.ChangeAt Go.RowKit
set_option linter.unusedVariables false

def mateB (H : HubL) (g f : List UInt8) (s : SubL) : Bool := decide (s.grp = g) && (decide (s.fil = f) && H.on s.who)
def turnGo (H : HubL) (g f : List UInt8) : Nat → Nat → List SubL → Nat
  | _, turn, [] => turn
  | i, turn, s :: L => if mateB H g f s = true then (if s.had = true then turnGo H g f (i + 1) (if turn = H.subs.length then i else turn) L else i) else turnGo H g f (i + 1) turn L
def turnH (H : HubL) (g f : List UInt8) : Nat := turnGo H g f 0 H.subs.length H.subs
theorem turnGo_miss (H : HubL) (g f : List UInt8) (i turn k : Nat) (h : k < H.subs.length) (hm : mateB H g f H.subs[k] = false) : turnGo H g f i turn (H.subs.drop k) = turnGo H g f (i + 1) turn (H.subs.drop (k + 1)) := by
  rw [List.drop_eq_getElem_cons h]; simp only [turnGo]; rw [if_neg (by simp [hm])]
theorem turnGo_new (H : HubL) (g f : List UInt8) (i turn k : Nat) (h : k < H.subs.length) (hm : mateB H g f H.subs[k] = true) (hh : H.subs[k].had = false) : turnGo H g f i turn (H.subs.drop k) = i := by
  rw [List.drop_eq_getElem_cons h]; simp only [turnGo]; rw [if_pos hm, if_neg (by simp [hh])]
theorem turnGo_had (H : HubL) (g f : List UInt8) (i turn k : Nat) (h : k < H.subs.length) (hm : mateB H g f H.subs[k] = true) (hh : H.subs[k].had = true) : turnGo H g f i turn (H.subs.drop k) = turnGo H g f (i + 1) (if turn = H.subs.length then i else turn) (H.subs.drop (k + 1)) := by
  rw [List.drop_eq_getElem_cons h]; simp only [turnGo]; rw [if_pos hm, if_pos hh]
theorem turnGo_end (H : HubL) (g f : List UInt8) (i turn k : Nat) (h : ¬ k < H.subs.length) : turnGo H g f i turn (H.subs.drop k) = turn := by
  rw [List.drop_eq_nil_of_le (by omega)]; rfl
theorem hereB_of (H : HubL) (n : Nat) (h : n < 6) : hereB H (n : Int) = H.on n := by unfold hereB; rw [cliB_of n h]; simp

set_option maxHeartbeats 2000000 in
theorem turnOf_any (p : Nat) (S : Nat → Prop) (H : HubL) (g f : ByteArray) (w : World) (h : HubAt w p S H) :
    Calls Tryz.prog 96 #[.pointer (some ⟨p, 0, none⟩), .string g, .string f] w fun e w' => e = .returned (.int .i64 ((turnH H g.data.toList f.data.toList : Nat) : Int)) ∧ Below w.heap.size w w' := by
  obtain ⟨a, c, c0, hp, hl8, hat⟩ := h.subsAt
  have HAT := hide hat
  have HHERE := hide (fun (x : World) (hb : Below w.heap.size w x) (n : Nat) => isHere_any p S H (n : Int) x (h.below hb))
  clear h hat
  have HT : Hid (turnH H g.data.toList f.data.toList = turnGo H g.data.toList f.data.toList 0 H.subs.length (H.subs.drop 0)) := by unfold Hid turnH; rw [List.drop_zero]
  obtain ⟨ln, hLe⟩ : ∃ ln, ln = H.subs.length := ⟨_, rfl⟩
  rw [← hLe] at c0 hl8 HT
  have HLE := hide hLe
  have HLT : Hid (∀ k, k < ln → k < H.subs.length) := fun k hk => by rw [← hLe]; exact hk
  have HGE : Hid (∀ k, ¬ k < ln → ¬ k < H.subs.length) := fun k hk => by rw [← hLe]; exact hk
  clear hLe
  go_enter Tryz.func96, Tryz.ntmps96
  go_wp2_with fail
  go_loopg [7, 8, 9, 20] ln (fun gk tv _ _ i wr => ∃ k turn : Nat, k ≤ ln ∧ gk = ln - k ∧ i = .int .i64 k ∧ tv = .int .i64 turn ∧ turn ≤ ln ∧ Hid (Below w.heap.size w wr) ∧ Hid (turnH H g.data.toList f.data.toList = turnGo H g.data.toList f.data.toList k turn (H.subs.drop k)))
  case atStart => exact ⟨0, ln, by omega, by omega, rfl, rfl, by omega, Below.refl _ _, HT⟩
  case round =>
    clear HT
    obtain ⟨k, turn, hk, rfl, rfl, rfl, htl, HB, HA⟩ := hrel
    have hbs := (unhide HB).size
    have c1 : wr.cell? ⟨p, 18, none⟩ = some (.slice a ln c) := ((unhide HB).cell (p := ⟨p, 18, none⟩) hp).trans c0
    have hpr : p < wr.heap.size := by omega
    have c2 : ∀ o, (wr.alloc o).cell? ⟨p, 18, none⟩ = some (.slice a ln c) := fun o => (((Below.refl _ wr).alloc (Nat.le_refl _) o).cell (p := ⟨p, 18, none⟩) hpr).trans c1
    clear c0
    by_cases hlt : k < ln
    · have hlt' := unhide HLT k hlt
      obtain ⟨b, rfl, hc1, hc2, hw6, hf24, hcs⟩ := unhide HAT k hlt'
      obtain ⟨e1, e2, e3, e4⟩ := hcs wr (unhide HB)
      clear hcs
      have q2 := strNe H.subs[k].grp g
      have q3 := strNe H.subs[k].fil f
      have r2 := strEq H.subs[k].grp g
      have r3 := strEq H.subs[k].fil f
      have HMISS := hide (turnGo_miss H g.data.toList f.data.toList k turn k hlt')
      have HNEW := hide (turnGo_new H g.data.toList f.data.toList k turn k hlt')
      have HHAD := hide (turnGo_had H g.data.toList f.data.toList k turn k hlt')
      have HHR := hide (fun (x : World) (hb : Below w.heap.size w x) => unhide HHERE x hb H.subs[k].who)
      rw [hereB_of H H.subs[k].who hw6] at HHR
      rw [← unhide HLE] at HHAD hc1
      unfold mateB at HMISS HNEW HHAD
      clear hf24 hw6
      generalize H.on H.subs[k].who = d1 at *
      generalize H.subs[k].who = who at *
      generalize H.subs[k].had = had at *
      generalize (⟨H.subs[k].grp.toArray⟩ : ByteArray) = gs at *
      generalize (⟨H.subs[k].fil.toArray⟩ : ByteArray) = fs at *
      generalize decide (H.subs[k].grp = g.data.toList) = d2 at *
      generalize decide (H.subs[k].fil = f.data.toList) = d3 at *
      cases d2
      · replace q2 : (gs.toList != g.toList) = true := q2
        have HZ := hide ((unhide HA).trans (unhide HMISS rfl))
        go_wp2_with fail
        go_roundg (ln - (k + 1))
        case measure => omega
        case rel => exact ⟨k + 1, turn, by omega, rfl, by go_num, rfl, htl, (unhide HB).alloc hbs _, HZ⟩
      · replace q2 : (gs.toList != g.toList) = false := q2
        cases d3
        · replace q3 : (fs.toList != f.toList) = true := q3
          have HZ := hide ((unhide HA).trans (unhide HMISS rfl))
          go_wp2_with fail
          go_roundg (ln - (k + 1))
          case measure => omega
          case rel => exact ⟨k + 1, turn, by omega, rfl, by go_num, rfl, htl, (unhide HB).alloc hbs _, HZ⟩
        · replace q3 : (fs.toList != f.toList) = false := q3
          cases d1
          · have HZ := hide ((unhide HA).trans (unhide HMISS rfl))
            go_wp2_with fail
            refine (unhide HHR _ ((unhide HB).alloc hbs _)).mono ?_
            rintro e w4 ⟨rfl, rfl⟩
            go_wp2_with fail
            go_roundg (ln - (k + 1))
            case measure => omega
            case rel => exact ⟨k + 1, turn, by omega, rfl, by go_num, rfl, htl, (unhide HB).alloc hbs _, HZ⟩
          · cases had
            · have HZ := hide ((unhide HA).trans (unhide HNEW rfl rfl))
              go_wp2_with fail
              refine (unhide HHR _ ((unhide HB).alloc hbs _)).mono ?_
              rintro e w4 ⟨rfl, rfl⟩
              go_wp2_with fail
              go_ret
              exact ⟨ret_int (by rw [unhide HZ]), (unhide HB).alloc hbs _⟩
            · have HZ := hide ((unhide HA).trans (unhide HHAD rfl rfl))
              by_cases hte : turn = ln
              · have q5 : ((turn : Int) == (ln : Int)) = true := by simp [hte]
                rw [if_pos hte] at HZ
                go_wp2_with fail
                refine (unhide HHR _ ((unhide HB).alloc hbs _)).mono ?_
                rintro e w4 ⟨rfl, rfl⟩
                go_wp2_with fail
                go_roundg (ln - (k + 1))
                case measure => omega
                case rel => exact ⟨k + 1, k, by omega, rfl, by go_num, rfl, by omega, (unhide HB).alloc hbs _, HZ⟩
              · have q5 : ((turn : Int) == (ln : Int)) = false := by simp; omega
                rw [if_neg hte] at HZ
                go_wp2_with fail
                refine (unhide HHR _ ((unhide HB).alloc hbs _)).mono ?_
                rintro e w4 ⟨rfl, rfl⟩
                go_wp2_with fail
                go_roundg (ln - (k + 1))
                case measure => omega
                case rel => exact ⟨k + 1, turn, by omega, rfl, by go_num, rfl, htl, (unhide HB).alloc hbs _, HZ⟩
    · have HZ := hide ((unhide HA).trans (turnGo_end H g.data.toList f.data.toList k turn k (unhide HGE k hlt)))
      go_wp2_with fail
      go_ret
      exact ⟨ret_int (by rw [unhide HZ]), unhide HB⟩

end Go.Proofs.YtchhmojnoiephabGreatDoor

/- The program's hub: taking turns. -/
namespace Go.Proofs.YtchhmojnoiephabGreatDoor
open Go.ChangeShapes Go.WideShapes Go.ChangeAt Go.RowKit
set_option linter.unusedVariables false

def pickB (H : HubL) (t : List UInt8) (k : Nat) (s : SubL) : Bool := !decide (s.grp = []) && (matchB s.fil t && decide (turnH H s.grp s.fil = k))
def hadS (s : SubL) : SubL := { s with had := true }
/-- behind k subscriptions: whose turn it was; the others; those that were served -/
def pickT (H : HubL) (t : List UInt8) : Nat → List Int × List SubL × List SubL
  | 0 => ([], [], [])
  | k + 1 => match H.subs[k]? with
    | none => pickT H t k
    | some s => if pickB H t k s = true then ((pickT H t k).1 ++ [(s.who : Int)], (pickT H t k).2.1, (pickT H t k).2.2 ++ [hadS s]) else ((pickT H t k).1, (pickT H t k).2.1 ++ [s], (pickT H t k).2.2)
theorem pickT_yes (H : HubL) (t : List UInt8) (k : Nat) (h : k < H.subs.length) (hp : pickB H t k H.subs[k] = true) : pickT H t (k + 1) = ((pickT H t k).1 ++ [(H.subs[k].who : Int)], (pickT H t k).2.1, (pickT H t k).2.2 ++ [hadS H.subs[k]]) := by
  simp only [pickT]; rw [List.getElem?_eq_getElem h]; simp only; rw [if_pos hp]
theorem pickT_no (H : HubL) (t : List UInt8) (k : Nat) (h : k < H.subs.length) (hp : pickB H t k H.subs[k] = false) : pickT H t (k + 1) = ((pickT H t k).1, (pickT H t k).2.1 ++ [H.subs[k]], (pickT H t k).2.2) := by
  simp only [pickT]; rw [List.getElem?_eq_getElem h]; simp only; rw [if_neg (by simp [hp])]
def okSub (s : SubL) : Prop := s.who < 6 ∧ s.grp.length ≤ 24 ∧ s.fil.length ≤ 24
theorem pickT_good (H : HubL) (t : List UInt8) (hg : goodH H) : ∀ k, (pickT H t k).2.1.length + (pickT H t k).2.2.length ≤ k ∧ (pickT H t k).1.length ≤ k ∧ (∀ s ∈ (pickT H t k).2.1, okSub s) ∧ (∀ s ∈ (pickT H t k).2.2, okSub s) ∧ ∀ x ∈ (pickT H t k).1, ∃ n : Nat, x = n ∧ n < 6 := by
  intro k
  induction k with
  | zero => simp [pickT]
  | succ k ih =>
    obtain ⟨h1, h2, h3, h4, h5⟩ := ih
    by_cases hk : k < H.subs.length
    · have ho : okSub H.subs[k] := hg.subs.2 _ (List.getElem_mem hk)
      cases hp : pickB H t k H.subs[k] with
      | true =>
        rw [pickT_yes H t k hk hp]
        refine ⟨by simp; omega, by simp; omega, h3, fun s hs => ?_, fun x hx => ?_⟩
        · rcases List.mem_append.1 hs with h | h
          · exact h4 s h
          · rw [List.mem_singleton.1 h]; exact ho
        · rcases List.mem_append.1 hx with h | h
          · exact h5 x h
          · exact ⟨_, List.mem_singleton.1 h, ho.1⟩
      | false =>
        rw [pickT_no H t k hk hp]
        refine ⟨by simp; omega, by simp; omega, fun s hs => ?_, h4, h5⟩
        rcases List.mem_append.1 hs with h | h
        · exact h3 s h
        · rw [List.mem_singleton.1 h]; exact ho
    · have : pickT H t (k + 1) = pickT H t k := by simp only [pickT]; rw [List.getElem?_eq_none (by omega)]
      rw [this]
      exact ⟨by omega, by omega, h3, h4, h5⟩
def takeH (H : HubL) (t : List UInt8) : List Int × HubL := ((pickT H t H.subs.length).1, { H with subs := (pickT H t H.subs.length).2.1 ++ (pickT H t H.subs.length).2.2 })
theorem take_good {H : HubL} (t : List UInt8) (hg : goodH H) : goodH (takeH H t).2 := by
  obtain ⟨h1, h2, h3, h4, h5⟩ := pickT_good H t hg H.subs.length
  refine ⟨hg.queue, ⟨?_, fun s hs => ?_⟩, hg.kept⟩
  · have := hg.subs.1
    show ((pickT H t H.subs.length).2.1 ++ (pickT H t H.subs.length).2.2).length ≤ 8
    rw [List.length_append]; omega
  · rcases List.mem_append.1 hs with h | h
    · exact h3 s h
    · exact h4 s h

theorem info_sub : (Tryz.prog.info? 129).map (fun i => (i.zero, i.size, i.bytes)) = some (some (.agg #[.int .i64 0, .string ByteArray.empty, .string ByteArray.empty, .bool false]), 4, 48) := by kernel_rfl

theorem rows_apart {w : World} {B B' e e' sz sz' n n' : Nat} {v v' : Value} {xs xs' : List Value} (h : w.ownsRow B e sz v n xs) (h' : w.ownsRow B' e' sz' v' n' xs') (hne : e ≠ e') : ∀ k, v.ownBlock = some k → v'.ownBlock ≠ some k := by
  intro k hk hk'
  obtain ⟨_, ⟨h0, _⟩ | ⟨g, cap, cur, hv, _, hg, _⟩⟩ := h
  · rw [h0] at hk; cases hk
  · rw [hv] at hk; simp [Value.ownBlock] at hk; subst hk
    exact own_notA h' hg (fun e => hne e.symm) hk'

/-- the three lists of takeTurns -/
structure Rows3 (w wr : World) (tv av sv : Value) (T : List Int) (R V : List SubL) : Prop where
  t : wr.ownsRow 0 3 1 tv T.length (T.map (Value.int .i64))
  a : wr.ownsRow 0 129 4 av R.length (subCells R)
  s : wr.ownsRow 0 129 4 sv V.length (subCells V)
  ap : ∀ k, av.ownBlock = some k → sv.ownBlock ≠ some k
  ge : ∀ k, tv.ownBlock = some k ∨ av.ownBlock = some k ∨ sv.ownBlock = some k → w.heap.size ≤ k
  bel : Below w.heap.size w wr
theorem Rows3.start (w : World) : Rows3 w w (.slice none 0 0) (.slice none 0 0) (.slice none 0 0) [] [] [] :=
  ⟨World.ownsRow_nil _ _ _ _, World.ownsRow_nil _ _ _ _, World.ownsRow_nil _ _ _ _, (fun k h => by cases h), (fun k h => by rcases h with h | h | h <;> cases h), Below.refl _ _⟩
theorem Rows3.on {w wr w2 : World} {tv av sv : Value} {T : List Int} {R V : List SubL} (h : Rows3 w wr tv av sv T R V) (hb : Below wr.heap.size wr w2) : Rows3 w w2 tv av sv T R V :=
  ⟨own_below h.t hb, own_below h.a hb, own_below h.s hb, h.ap, h.ge, h.bel.trans (hb.mono h.bel.size)⟩
theorem grown_below {w w2 w3 : World} {v : Value} (hb : Below w.heap.size w w2) (hgrow : w2.grownBy w3 v.ownBlock) (hge : ∀ k, v.ownBlock = some k → w.heap.size ≤ k) : Below w.heap.size w w3 :=
  ⟨hgrow.os.trans hb.os, hgrow.tape.trans hb.tape, hgrow.output.trans hb.output, Nat.le_trans hb.size hgrow.size, fun k hk => by
    have := hb.size
    rw [hgrow.block k (by omega) (fun e => by have := hge k e.symm; omega)]; exact hb.block k hk⟩
theorem keep_row {w2 w3 : World} {v u : Value} {B e sz n : Nat} {xs : List Value} (h : w2.ownsRow B e sz u n xs) (hgrow : w2.grownBy w3 v.ownBlock) (hne : ∀ k, u.ownBlock = some k → v.ownBlock ≠ some k) : w3.ownsRow B e sz u n xs :=
  own_same h (fun k hk => hgrow.block k (h.lt k hk).2 (fun e => hne k hk e.symm))
theorem Rows3.pushT {w wr w3 : World} {tv av sv v' : Value} {T : List Int} {R V : List SubL} {x : Int} (h : Rows3 w wr tv av sv T R V) (hown : w3.ownsRow 0 3 1 v' (T.length + 1) (T.map (Value.int .i64) ++ [.int .i64 x])) (hgrow : wr.grownBy w3 tv.ownBlock)
    (hmv : ∀ k, v'.ownBlock = some k → tv.ownBlock = some k ∨ wr.heap.size ≤ k) : Rows3 w w3 v' av sv (T ++ [x]) R V := by
  have hs := h.bel.size
  refine ⟨by rw [List.length_append, List.map_append]; exact hown, keep_row h.a hgrow (rows_apart h.a h.t (by decide)), keep_row h.s hgrow (rows_apart h.s h.t (by decide)), h.ap, fun k hk => ?_, grown_below h.bel hgrow (fun k hk => h.ge k (Or.inl hk))⟩
  rcases hk with hk | hk
  · rcases hmv k hk with h1 | h1
    · exact h.ge k (Or.inl h1)
    · omega
  · exact h.ge k (Or.inr hk)
theorem Rows3.pushA {w wr w3 : World} {tv av sv v' : Value} {T : List Int} {R V : List SubL} {x : SubL} (h : Rows3 w wr tv av sv T R V) (hown : w3.ownsRow 0 129 4 v' (R.length + 1) (subCells R ++ [.int .i64 (x.who : Int), strV x.grp, strV x.fil, .bool x.had])) (hgrow : wr.grownBy w3 av.ownBlock)
    (hmv : ∀ k, v'.ownBlock = some k → av.ownBlock = some k ∨ wr.heap.size ≤ k) : Rows3 w w3 tv v' sv T (R ++ [x]) V := by
  have hs := h.bel.size
  refine ⟨keep_row h.t hgrow (rows_apart h.t h.a (by decide)), by rw [List.length_append, subCells_snoc]; exact hown, keep_row h.s hgrow (fun k hk hk2 => h.ap k hk2 hk), fun k hk hk2 => ?_, fun k hk => ?_, grown_below h.bel hgrow (fun k hk => h.ge k (Or.inr (Or.inl hk)))⟩
  · rcases hmv k hk with h1 | h1
    · exact h.ap k h1 hk2
    · have := (h.s.lt k hk2).2; omega
  · rcases hk with hk | hk | hk
    · exact h.ge k (Or.inl hk)
    · rcases hmv k hk with h1 | h1
      · exact h.ge k (Or.inr (Or.inl h1))
      · omega
    · exact h.ge k (Or.inr (Or.inr hk))
theorem Rows3.pushS {w wr w3 : World} {tv av sv v' : Value} {T : List Int} {R V : List SubL} {x : SubL} (h : Rows3 w wr tv av sv T R V) (hown : w3.ownsRow 0 129 4 v' (V.length + 1) (subCells V ++ [.int .i64 (x.who : Int), strV x.grp, strV x.fil, .bool x.had])) (hgrow : wr.grownBy w3 sv.ownBlock)
    (hmv : ∀ k, v'.ownBlock = some k → sv.ownBlock = some k ∨ wr.heap.size ≤ k) : Rows3 w w3 tv av v' T R (V ++ [x]) := by
  have hs := h.bel.size
  refine ⟨keep_row h.t hgrow (rows_apart h.t h.s (by decide)), keep_row h.a hgrow h.ap, by rw [List.length_append, subCells_snoc]; exact hown, fun k hk hk2 => ?_, fun k hk => ?_, grown_below h.bel hgrow (fun k hk => h.ge k (Or.inr (Or.inr hk)))⟩
  · rcases hmv k hk2 with h1 | h1
    · exact h.ap k hk h1
    · have := (h.a.lt k hk).2; omega
  · rcases hk with hk | hk | hk
    · exact h.ge k (Or.inl hk)
    · exact h.ge k (Or.inr (Or.inl hk))
    · rcases hmv k hk with h1 | h1
      · exact h.ge k (Or.inr (Or.inr h1))
      · omega
theorem Rows3.cell {w wr : World} {tv av sv : Value} {T : List Int} {R V : List SubL} (h : Rows3 w wr tv av sv T R V) {X i : Nat} (v : Value) (hX : ∀ k, tv.ownBlock = some k ∨ av.ownBlock = some k ∨ sv.ownBlock = some k → k ≠ X) (hB : w.heap.size ≤ X) : Rows3 w (wr.setCell ⟨X, i, none⟩ v) tv av sv T R V :=
  ⟨ownsRow_setCell_other h.t (fun e => hX X (Or.inl e) rfl) _, ownsRow_setCell_other h.a (fun e => hX X (Or.inr (Or.inl e)) rfl) _, ownsRow_setCell_other h.s (fun e => hX X (Or.inr (Or.inr e)) rfl) _, h.ap, h.ge, h.bel.setCell hB _⟩

end Go.Proofs.YtchhmojnoiephabGreatDoor

/- The program's hub: taking turns, the walk. -/
namespace Go.Proofs.YtchhmojnoiephabGreatDoor
open Go.ChangeShapes Go.WideShapes Go.ChangeAt Go.RowKit
set_option linter.unusedVariables false

/-- what takeTurns answers -/
def TurnPost (w : World) (p : Nat) (S : Nat → Prop) (H : HubL) (t : List UInt8) (e : Ending) (w' : World) : Prop :=
  ∃ tv S', e = .returned tv ∧ w'.ownsRow w.heap.size 3 1 tv (takeH H t).1.length ((takeH H t).1.map (Value.int .i64)) ∧ (∀ k, tv.ownBlock = some k → ¬ S' k) ∧ HubAt w' p S' (takeH H t).2 ∧ Fr S w w' S'

/-- the hub's list is the new one now -/
theorem turn_end {w wr : World} {p : Nat} {A : Array Value} {qv : Nat → Value} {sv kv tv av uv : Value} {H : HubL} (t : List UInt8) (hw : HubW w p A qv sv kv H) (hg : goodH H) {V : List SubL}
    (h : Rows3 w wr tv av uv (takeH H t).1 (takeH H t).2.subs V) : (wr.cell? ⟨p, 18, none⟩ = some sv ∧ wr.frozen? ⟨p, 18, none⟩ = false) ∧ TurnPost w p (blkS p qv sv kv) H t (.returned tv) (wr.setCell ⟨p, 18, none⟩ av) := by
  have hp3 : wr.heap[p]? = some (.cells A 73 (0, 0)) := by rw [h.bel.block p hw.lt]; exact hw.blk
  refine ⟨⟨cell_block hp3 hw.subc, free_block hp3⟩, ?_⟩
  obtain ⟨S', h1, h2⟩ := hub_setS hw h.bel.os h.bel.tape h.bel.output h.bel.size (fun k hk _ => h.bel.block k hk) h.a (fun k hk => Or.inr (h.ge k (Or.inr (Or.inl hk)))) (take_good t hg)
  have hte : tv.ownBlock ≠ some p := fun e => by have := h.ge p (Or.inl e); have := hw.lt; omega
  have hto : (wr.setCell ⟨p, 18, none⟩ av).ownsRow 0 3 1 tv (takeH H t).1.length ((takeH H t).1.map (Value.int .i64)) := ownsRow_setCell_other h.t hte _
  refine ⟨tv, S', rfl, ?_, fun k hk hs => ?_, h1, h2⟩
  · obtain ⟨x1, x2 | ⟨g, cap, cur, rfl, x3, x4⟩⟩ := hto
    · exact ⟨x1, Or.inl x2⟩
    · exact ⟨x1, Or.inr ⟨g, cap, cur, rfl, h.ge g (Or.inl rfl), x4⟩⟩
  · obtain ⟨A', qv', sv', kv', hw', rfl⟩ := h1.body
    rcases hs with rfl | ⟨c, hc, hs⟩ | hs | hs
    · exact hte hk
    · exact rows_apart hto (hw'.qown c hc) (by decide) k hk hs
    · exact rows_apart hto hw'.sown (by decide) k hk hs
    · exact rows_apart hto hw'.kown (by decide) k hk hs

set_option maxHeartbeats 8000000 in
set_option maxRecDepth 1000000 in
theorem takeTurns_any (p : Nat) (S : Nat → Prop) (H : HubL) (t : ByteArray) (ht : t.size ≤ 24) (w : World) (h : HubAt w p S H) :
    Calls Tryz.prog 58 #[.pointer (some ⟨p, 0, none⟩), .string t] w (TurnPost w p S H t.data.toList) := by
  obtain ⟨i0, hi, hz0, hz1, hz2⟩ := info_parts info_sub
  obtain ⟨j0, hj, hy0, hy1, hy2⟩ := info_parts info_int
  obtain ⟨a, c, c0, hp, hl8, hat⟩ := h.subsAt
  obtain ⟨A, qv, sv0, kv, hw, rfl⟩ := h.body
  obtain ⟨a0, l0, cc0, hsv⟩ := own_slice hw.sown
  subst hsv
  have HAT := hide hat
  have HTO := hide (fun (x : World) (hb : Below w.heap.size w x) (g f : ByteArray) => turnOf_any p _ H g f x (h.below hb))
  have HEND := hide (fun wr tv av uv V => turn_end (wr := wr) (tv := tv) (av := av) (uv := uv) (V := V) t.data.toList hw h.good)
  have HGD := hide (pickT_good H t.data.toList h.good)
  have HPY := hide (pickT_yes H t.data.toList)
  have HPN := hide (pickT_no H t.data.toList)
  have HFIN : Hid ((takeH H t.data.toList).1 = (pickT H t.data.toList H.subs.length).1 ∧ (takeH H t.data.toList).2.subs = (pickT H t.data.toList H.subs.length).2.1 ++ (pickT H t.data.toList H.subs.length).2.2) := ⟨rfl, rfl⟩
  clear h hat hw
  obtain ⟨ln, hLe⟩ : ∃ ln, ln = H.subs.length := ⟨_, rfl⟩
  rw [← hLe] at c0 hl8 HFIN
  have HLE := hide hLe
  have HLT : Hid (∀ k, k < ln → k < H.subs.length) := fun k hk => by rw [← hLe]; exact hk
  clear hLe
  go_enter Tryz.func58, Tryz.ntmps58
  go_wp2_with fail
  go_loopg [5, 6, 7, 8, 9, 17] ln (fun gk tv av sv _ _ i wr => ∃ k : Nat, k ≤ ln ∧ gk = ln - k ∧ i = .int .i64 k ∧ Hid (Rows3 w wr tv av sv (pickT H t.data.toList k).1 (pickT H t.data.toList k).2.1 (pickT H t.data.toList k).2.2))
  case atStart => exact ⟨0, by omega, by omega, rfl, Rows3.start _⟩
  case round =>
    obtain ⟨k, hk, rfl, rfl, HR⟩ := hrel
    have hbs := (unhide HR).bel.size
    obtain ⟨g1, g2, _, _, _⟩ := unhide HGD k
    clear c0
    obtain ⟨at1, lt1, ct1, rfl⟩ := own_slice (unhide HR).t
    obtain ⟨aa1, la1, ca1, rfl⟩ := own_slice (unhide HR).a
    obtain ⟨as1, ls1, cs1, rfl⟩ := own_slice (unhide HR).s
    by_cases hlt : k < ln
    · have hlt' := unhide HLT k hlt
      obtain ⟨b, rfl, hc1, hc2, hw6, hf24, hcs⟩ := unhide HAT k hlt'
      obtain ⟨e1, e2, e3, e4⟩ := hcs wr (unhide HR).bel
      clear hcs
      rw [← unhide HLE] at hc1
      have q2 := strNnil H.subs[k].grp
      have r2 := strNil H.subs[k].grp
      have HM := hide (fun w => match_str H.subs[k].fil t w hf24 ht)
      have HY := hide (unhide HPY k hlt')
      have HN := hide (unhide HPN k hlt')
      have HTK := hide (fun (x : World) (hb : Below w.heap.size w x) => unhide HTO x hb (⟨H.subs[k].grp.toArray⟩ : ByteArray) (⟨H.subs[k].fil.toArray⟩ : ByteArray))
      have q4 := natEq (turnH H (⟨H.subs[k].grp.toArray⟩ : ByteArray).data.toList (⟨H.subs[k].fil.toArray⟩ : ByteArray).data.toList) k
      have hdd : ∀ l : List UInt8, (⟨l.toArray⟩ : ByteArray).data.toList = l := fun l => by simp
      rw [hdd, hdd] at q4 HTK
      have HS1 : Hid (strV H.subs[k].grp = .string ⟨H.subs[k].grp.toArray⟩ ∧ strV H.subs[k].fil = .string ⟨H.subs[k].fil.toArray⟩) := ⟨rfl, rfl⟩
      have HWH : Hid ((hadS H.subs[k]).who = H.subs[k].who ∧ (hadS H.subs[k]).grp = H.subs[k].grp ∧ (hadS H.subs[k]).fil = H.subs[k].fil ∧ (hadS H.subs[k]).had = true) := ⟨rfl, rfl, rfl, rfl⟩
      unfold pickB at HY HN
      clear hdd hf24 hw6
      generalize turnH H H.subs[k].grp H.subs[k].fil = tn at *
      generalize H.subs[k] = x at *
      generalize decide (x.grp = []) = d2 at *
      generalize matchB x.fil t.data.toList = d3 at *
      generalize (⟨x.grp.toArray⟩ : ByteArray) = gs at *
      generalize (⟨x.fil.toArray⟩ : ByteArray) = fs at *
      generalize decide (tn = k) = d4 at *
      go_upto_region 7 with fail
      go_cut [40] (fun c wc => c = .bool (!d2 && (d3 && d4)) ∧ Below wr.heap.size wr wc ∧ wc.heap[wr.heap.size]? = some (.cells #[.int .i64 (x.who : Int), .string gs, .string fs, .bool x.had] 129 (0, 0)))
      case first =>
        have HBA := hide ((Below.refl _ wr).alloc (Nat.le_refl _) (.cells #[.int .i64 (x.who : Int), .string gs, .string fs, .bool x.had] 129))
        have HSB := hide (MapKept.heap_alloc wr (.cells #[.int .i64 (x.who : Int), .string gs, .string fs, .bool x.had] 129)).1
        have HB0 := hide ((unhide HR).bel.alloc hbs (.cells #[.int .i64 (x.who : Int), .string gs, .string fs, .bool x.had] 129))
        cases d2
        · replace q2 : (gs.toList != []) = true := q2
          cases d3
          · go_wp2_with fail
            refine (unhide HM _).mono ?_
            rintro e w4 ⟨rfl, rfl⟩
            go_wp2_with fail
            go_meet
            exact ⟨rfl, unhide HBA, unhide HSB⟩
          · go_wp2_with fail
            refine (unhide HM _).mono ?_
            rintro e w4 ⟨rfl, rfl⟩
            go_wp2_with fail
            refine (unhide HTK _ (unhide HB0)).mono ?_
            rintro e w5 ⟨rfl, hb5⟩
            have HB5 := hide ((unhide HBA).trans (hb5.mono (unhide HBA).size))
            have HSB5 := hide ((hb5.block wr.heap.size (by simp)).trans (unhide HSB))
            clear hb5
            go_wp2_with fail
            go_meet
            exact ⟨by simp, unhide HB5, unhide HSB5⟩
        · replace q2 : (gs.toList != []) = false := q2
          go_wp2_with fail
          go_meet
          exact ⟨rfl, unhide HBA, unhide HSB⟩
      case rest =>
        obtain ⟨rfl, hbc, hsb⟩ := hcut
        have hR2 := (unhide HR).on hbc
        have hXc := heap_lt hsb
        have s0 := cell_block (i := 0) hsb rfl
        have s1 := cell_block (i := 1) hsb rfl
        have s2 := cell_block (i := 2) hsb rfl
        have s3 := cell_block (i := 3) hsb rfl
        have hXlt : ∀ k, (Value.slice at1 lt1 ct1).ownBlock = some k ∨ (Value.slice aa1 la1 ca1).ownBlock = some k ∨ (Value.slice as1 ls1 cs1).ownBlock = some k → k < wr.heap.size := by
          intro k hk
          rcases hk with hk | hk | hk
          · exact ((unhide HR).t.lt k hk).2
          · exact ((unhide HR).a.lt k hk).2
          · exact ((unhide HR).s.lt k hk).2
        have HX := hide hXlt
        have HR2 := hide hR2
        have HSB := hide hsb
        clear hbc hsb hR2 hXlt HR e1 e2 e3 e4 HM HTK q2 r2 q4
        cases hpk : (!d2 && (d3 && d4))
        · have hrr := unhide HN hpk
          clear hpk HY HN
          have HRA := hide ((unhide HR2).on ((Below.refl _ wc).alloc (Nat.le_refl _) (.cells #[.int .i64 (x.who : Int), .string gs, .string fs, .bool x.had] 129)))
          go_wp2_with (at_builtin; refine wpList_append_moves _ rfl _ _ 71 rfl 129 i0 (.agg #[.int .i64 0, .string ByteArray.empty, .string ByteArray.empty, .bool false]) 4 48 Tryz.underlying71 hi hz0 hz1 hz2 rfl (by decide) _ _ _ rfl (unhide HRA).a ⟨wc.heap.size, 0, none⟩ 1 1 [.int .i64 (x.who : Int), .string gs, .string fs, .bool x.had] rfl rfl ?c1 ?c2 ?c3 ?c4 ?_)
          first
            | (case c1 =>
                intro j u hj
                match j, hj with
                | 0, hj => simp at hj; subst hj; simp [Addr.add]
                | 1, hj => simp at hj; subst hj; simp [Addr.add]
                | 2, hj => simp at hj; subst hj; simp [Addr.add]
                | 3, hj => simp at hj; subst hj; simp [Addr.add])
            | skip
          case c2 => first | rfl | (intro u hu; simp at hu; first | (rcases hu with rfl | rfl | rfl | rfl <;> rfl) | (subst hu; rfl))
          case c3 => unfold maxLen; omega
          case c4 => omega
          intro v' w3 hown' hgrow hmv
          have HR3 := hide ((unhide HRA).pushA (x := x) (by rw [(unhide HS1).1, (unhide HS1).2]; exact hown') hgrow (by simpa using hmv))
          clear hown' hgrow hmv
          go_wp2_with fail
          go_roundg (ln - (k + 1))
          case measure => omega
          case rel => exact ⟨k + 1, by omega, rfl, by go_num, by rw [hrr]; exact HR3⟩
        · have hrr := unhide HY hpk
          clear hpk HY HN
          have HRT := hide ((unhide HR2).on ((Below.refl _ wc).alloc (Nat.le_refl _) (.cells #[.int .i64 (x.who : Int)] 3)))
          go_upto_region 9 with (at_builtin; refine wpList_append_moves _ rfl _ _ 26 rfl 3 j0 (.int .i64 0) 1 8 Tryz.underlying26 hj hy0 hy1 hy2 rfl (by decide) _ _ _ rfl (unhide HRT).t ⟨wc.heap.size, 0, none⟩ 1 1 [.int .i64 (x.who : Int)] rfl rfl ?c1 ?c2 ?c3 ?c4 ?_)
          first
            | (case c1 =>
                intro j u hj
                match j, hj with
                | 0, hj => simp at hj; subst hj; simp [Addr.add])
            | skip
          case c2 => first | rfl | (intro u hu; simp at hu; first | (rcases hu with rfl | rfl | rfl | rfl <;> rfl) | (subst hu; rfl))
          case c3 => unfold maxLen; omega
          case c4 => omega
          intro v' w3 hown' hgrow hmv
          have hnt : (Value.slice at1 lt1 ct1).ownBlock ≠ some wr.heap.size := fun e => by have := unhide HX _ (Or.inl e); omega
          have hsb3 : w3.heap[wr.heap.size]? = some (.cells #[.int .i64 (x.who : Int), .string gs, .string fs, .bool x.had] 129 (0, 0)) := by
            rw [hgrow.block wr.heap.size (by simp; omega) (fun e => hnt e.symm), Below.heap_alloc _ _ _ hXc]; exact unhide HSB
          have hnv : v'.ownBlock ≠ some wr.heap.size := fun e => by
            rcases hmv _ e with h1 | h1
            · exact hnt h1
            · first | omega | (simp at h1; omega)
          have hR3 := (unhide HRT).pushT (x := (x.who : Int)) hown' hgrow (by simpa using hmv)
          have hsz3 : wc.heap.size ≤ w3.heap.size := by have := hgrow.size; simp at this; omega
          have hX2 : ∀ k, v'.ownBlock = some k ∨ (Value.slice aa1 la1 ca1).ownBlock = some k ∨ (Value.slice as1 ls1 cs1).ownBlock = some k → k ≠ wr.heap.size := by
            intro k hk e
            subst e
            rcases hk with hk | hk
            · exact hnv hk
            · have := unhide HX _ (Or.inr hk); omega
          have HR4 := hide (hR3.cell (X := wr.heap.size) (i := 3) (.bool true) hX2 hbs)
          have hsb4 := blk_set (i := 3) hsb3 (.bool true)
          have f3 := free_block (i := 3) hsb3
          have u3 := cell_block (i := 3) hsb3 rfl
          have y0 := cell_block (i := 0) hsb4 rfl
          have y1 := cell_block (i := 1) hsb4 rfl
          have y2 := cell_block (i := 2) hsb4 rfl
          have y3 := cell_block (i := 3) hsb4 rfl
          obtain ⟨at2, lt2, ct2, rfl⟩ := own_slice hR3.t
          have hX4 : wr.heap.size < (w3.setCell ⟨wr.heap.size, 3, none⟩ (.bool true)).heap.size := by simp; omega
          clear hown' hgrow hmv hsb3 hsb4 hR3 hX2 hnv hnt s0 s1 s2 s3
          obtain ⟨w7, hw7⟩ : ∃ w7, w7 = w3.setCell ⟨wr.heap.size, 3, none⟩ (.bool true) := ⟨_, rfl⟩
          rw [← hw7] at HR4 y0 y1 y2 y3 hX4
          go_upto_region 10 with fail
          rw [← hw7]
          clear hw7 f3 u3
          have HRS := hide ((unhide HR4).on ((Below.refl _ w7).alloc (Nat.le_refl _) (.cells #[.int .i64 (x.who : Int), .string gs, .string fs, .bool true] 129)))
          go_wp2_with (at_builtin; refine wpList_append_moves _ rfl _ _ 71 rfl 129 i0 (.agg #[.int .i64 0, .string ByteArray.empty, .string ByteArray.empty, .bool false]) 4 48 Tryz.underlying71 hi hz0 hz1 hz2 rfl (by decide) _ _ _ rfl (unhide HRS).s ⟨w7.heap.size, 0, none⟩ 1 1 [.int .i64 (x.who : Int), .string gs, .string fs, .bool true] rfl rfl ?c1 ?c2 ?c3 ?c4 ?_)
          first
            | (case c1 =>
                intro j u hj
                match j, hj with
                | 0, hj => simp at hj; subst hj; simp [Addr.add]
                | 1, hj => simp at hj; subst hj; simp [Addr.add]
                | 2, hj => simp at hj; subst hj; simp [Addr.add]
                | 3, hj => simp at hj; subst hj; simp [Addr.add])
            | skip
          case c2 => first | rfl | (intro u hu; simp at hu; first | (rcases hu with rfl | rfl | rfl | rfl <;> rfl) | (subst hu; rfl))
          case c3 => unfold maxLen; omega
          case c4 => omega
          intro v'' w8 hown' hgrow hmv
          have HR5 := hide ((unhide HRS).pushS (x := hadS x) (by rw [(unhide HWH).1, (unhide HWH).2.1, (unhide HWH).2.2.1, (unhide HWH).2.2.2, (unhide HS1).1, (unhide HS1).2]; exact hown') hgrow (by simpa using hmv))
          clear hown' hgrow hmv
          go_wp2_with fail
          go_roundg (ln - (k + 1))
          case measure => omega
          case rel => exact ⟨k + 1, by omega, rfl, by go_num, by rw [hrr]; exact HR5⟩
    · obtain rfl : k = ln := by omega
      clear HAT HTO HPY HPN HGD
      generalize (pickT H t.data.toList k).1 = T at *
      generalize (pickT H t.data.toList k).2.1 = R at *
      generalize (pickT H t.data.toList k).2.2 = V at *
      have hls1 : ls1 = V.length := own_len (unhide HR).s
      subst hls1
      have HS0 := hide (unhide HR).s
      go_wp2_with fail
      go_loopg [6, 11, 58] V.length (fun gk av _ i wr => ∃ j : Nat, j ≤ V.length ∧ gk = V.length - j ∧ i = .int .i64 j ∧ Hid (Rows3 w wr (.slice at1 lt1 ct1) av (.slice as1 V.length cs1) T (R ++ V.take j) V))
      case atStart => exact ⟨0, by omega, by omega, rfl, by rw [List.take_zero, List.append_nil]; exact HR⟩
      case round =>
        clear HR hbs
        obtain ⟨j, hj, rfl, rfl, HR⟩ := hrel
        have hbs := (unhide HR).bel.size
        obtain ⟨aa2, la2, ca2, rfl⟩ := own_slice (unhide HR).a
        by_cases hlj : j < V.length
        · obtain ⟨gg, cap, hv⟩ := own_form (unhide HR).s (by omega)
          simp only [Value.slice.injEq] at hv
          obtain ⟨rfl, _, rfl⟩ := hv
          have hcc := own_cap (unhide HR).s
          unfold maxLen at hcc
          obtain ⟨hcc1, hcc2⟩ := hcc
          obtain ⟨e1, e2, e3, e4⟩ := own_sub (unhide HR).s hlj
          have HNX : Hid (R ++ V.take (j + 1) = (R ++ V.take j) ++ [V[j]]) := by unfold Hid; rw [List.take_succ_eq_append_getElem hlj, List.append_assoc]
          have hrl : (R ++ V.take j).length ≤ 8 := by rw [List.length_append, List.length_take]; omega
          have HS1 : Hid (strV V[j].grp = .string ⟨V[j].grp.toArray⟩ ∧ strV V[j].fil = .string ⟨V[j].fil.toArray⟩) := ⟨rfl, rfl⟩
          generalize R ++ V.take j = RV at *
          generalize V[j] = x at *
          generalize (⟨x.grp.toArray⟩ : ByteArray) = gs at *
          generalize (⟨x.fil.toArray⟩ : ByteArray) = fs at *
          have HRA := hide (((unhide HR).on ((Below.refl _ wr).alloc (Nat.le_refl _) (.cells #[.int .i64 (x.who : Int), .string gs, .string fs, .bool x.had] 129))).on ((Below.refl _ _).alloc (Nat.le_refl _) (.cells #[.int .i64 (x.who : Int), .string gs, .string fs, .bool x.had] 129)))
          go_wp2_with (at_builtin; refine wpList_append_moves _ rfl _ _ 71 rfl 129 i0 (.agg #[.int .i64 0, .string ByteArray.empty, .string ByteArray.empty, .bool false]) 4 48 Tryz.underlying71 hi hz0 hz1 hz2 rfl (by decide) _ _ _ rfl (unhide HRA).a ⟨wr.heap.size + 1, 0, none⟩ 1 1 [.int .i64 (x.who : Int), .string gs, .string fs, .bool x.had] rfl rfl ?c1 ?c2 ?c3 ?c4 ?_)
          first
            | (case c1 =>
                intro j u hj
                match j, hj with
                | 0, hj => simp at hj; subst hj; simp [Addr.add]
                | 1, hj => simp at hj; subst hj; simp [Addr.add]
                | 2, hj => simp at hj; subst hj; simp [Addr.add]
                | 3, hj => simp at hj; subst hj; simp [Addr.add])
            | skip
          case c2 => first | rfl | (intro u hu; simp at hu; first | (rcases hu with rfl | rfl | rfl | rfl <;> rfl) | (subst hu; rfl))
          case c3 => unfold maxLen; omega
          case c4 => omega
          intro v' w3 hown' hgrow hmv
          have HR3 := hide ((unhide HRA).pushA (x := x) (by rw [(unhide HS1).1, (unhide HS1).2]; exact hown') hgrow (by simpa using hmv))
          clear hown' hgrow hmv
          go_wp2_with fail
          go_roundg (V.length - (j + 1))
          case measure => omega
          case rel => exact ⟨j + 1, by omega, rfl, by go_num, by rw [unhide HNX]; exact HR3⟩
        · rw [List.take_of_length_le (by omega), ← (unhide HFIN).2, ← (unhide HFIN).1] at HR
          obtain ⟨⟨z1, f1⟩, hst⟩ := unhide HEND _ _ _ _ _ (unhide HR)
          have HST := hide hst
          clear hst
          go_wp2_with fail
          go_ret
          exact unhide HST

end Go.Proofs.YtchhmojnoiephabGreatDoor
