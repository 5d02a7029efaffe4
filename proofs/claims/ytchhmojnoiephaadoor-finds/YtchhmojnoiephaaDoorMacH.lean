import Derived.Test.YtchhmojnoiephaaDoorMacF
/- The program's machine is built: the edges of a state, and its number. -/
namespace Go.Proofs.YtchhmojnoiephaaDoor
open Go.ChangeShapes Go.WideShapes Go.ChangeAt Go.RowKit
set_option linter.unusedVariables false

/-- a row of threads of the call's own, apart from the machine's blocks -/
structure ThrRow (w : World) (Q : Nat → Prop) (v : Value) (T : List ThrC) : Prop where
  own : w.ownsRow 0 66 3 v T.length (thrCells T)
  no : ∀ k, v.ownBlock = some k → ¬ Q k
  ok : ∀ c ∈ T, okC c
  few : T.length ≤ 6
theorem ThrRow.below {w w' : World} {Q : Nat → Prop} {v : Value} {T : List ThrC} (h : ThrRow w Q v T) (hb : Below w.heap.size w w') : ThrRow w' Q v T := ⟨own_below h.own hb, h.no, h.ok, h.few⟩
theorem ThrRow.fr {w w' : World} {Q Q' : Nat → Prop} {v : Value} {T : List ThrC} (h : ThrRow w Q v T) (hf : Fr Q w w' Q') : ThrRow w' Q' v T :=
  ⟨own_same h.own (fun k hk => hf.keep k (h.own.lt k hk).2 (h.no k hk)), fun k hk hq => by
    rcases hf.new k hq with h1 | h1
    · exact h.no k hk h1
    · have := (h.own.lt k hk).2; omega, h.ok, h.few⟩

/-- a row of levels of the call's own, apart from the machine's blocks -/
structure LevRow (w : World) (Q : Nat → Prop) (v : Value) (ls : List (List UInt8)) : Prop where
  own : w.ownsRow 0 9 1 v ls.length (ls.map strV)
  no : ∀ k, v.ownBlock = some k → ¬ Q k
theorem LevRow.below {w w' : World} {Q : Nat → Prop} {v : Value} {ls : List (List UInt8)} (h : LevRow w Q v ls) (hb : Below w.heap.size w w') : LevRow w' Q v ls := ⟨own_below h.own hb, h.no⟩
theorem LevRow.fr {w w' : World} {Q Q' : Nat → Prop} {v : Value} {ls : List (List UInt8)} (h : LevRow w Q v ls) (hf : Fr Q w w' Q') : LevRow w' Q' v ls :=
  ⟨own_same h.own (fun k hk => hf.keep k (h.own.lt k hk).2 (h.no k hk)), fun k hk hq => by
    rcases hf.new k hq with h1 | h1
    · exact h.no k hk h1
    · have := (h.own.lt k hk).2; omega⟩

/-- what the program's number must do -/
def NumC (C : List Thr → Prop) (n : Nat) (num : NumF) : Prop := ∀ (T : List ThrC) (v : Value) (M : Nat) (Q : Nat → Prop) (S : List St) (w : World), C (T.map absT) → (∀ t ∈ T.map absT, gT t) → (∀ t ∈ T.map absT, depT t ≤ n) → Inv C S →
  Mac w M Q S → PowQ w Q → ThrRow w Q v T → Calls Tryd.prog 63 #[.pointer (some ⟨M, 0, none⟩), v] w (NumPost w M Q (num (T.map absT) S))

/-- a text is answered; the machine has these states -/
def EdgPost (w : World) (M : Nat) (Q : Nat → Prop) (r : List (List UInt8 × Int) × Int × List St) (e : Ending) (w' : World) : Prop :=
  e = .returned (strV (rEdges r.1 ++ rStar r.2.1)) ∧ ∃ Q', Mac w' M Q' r.2.2 ∧ Fr Q w w' Q'

/-- the first k levels have been met -/
structure EdgTo (C : List Thr → Prop) (T : List Thr) (st : Int) (k : Nat) (r : List (List UInt8 × Int) × List St) : Prop where
  inv : Inv C r.2
  len : (rEdges (cutTo st r.1)).length ≤ 29 * k
  tow : ∀ e ∈ r.1, 2 ≤ e.2 ∧ e.2 < 900

theorem edg_to {C : List Thr → Prop} (hcount : ∀ S, Inv C S → S.length ≤ 900) {n : Nat} {num : NumF} (hnum : NumOK C n num) (T : List Thr) (hT : ∀ t ∈ T, gT t) (hd : ∀ t ∈ T, depT t ≤ n + 1) (hC : ∀ m, metL m → C (meetL m T)) (S : List St) (hS : Inv C S) (st : Int) (k : Nat) :
    EdgTo C T st k (edgF num T ((levsT T).take k) S) := by
  obtain ⟨R, e, i, f, a, r⟩ := edgF_spec hnum T hT hd hC ((levsT T).take k) S (fun l hl => ⟨(lev_met T hT l (List.mem_of_mem_take hl)).1, (lev_met T hT l (List.mem_of_mem_take hl)).2.2⟩) hS
  have hi : Inv C (edgF num T ((levsT T).take k) S).2 := by rw [e]; exact i
  have h9 := hcount _ hi
  refine ⟨hi, ?_, fun x hx => ?_⟩
  · have hl : ∀ x ∈ cutTo st (edgF num T ((levsT T).take k) S).1, x.1.length ≤ 24 := by
      intro x hx
      have hm : x.1 ∈ (levsT T).take k := by rw [← f]; exact List.mem_map_of_mem (cut_mem.1 hx).1
      exact (lev_met T hT x.1 (List.mem_of_mem_take hm)).2.1
    have h1 := rEdges_len _ hl
    have h2 : (cutTo st (edgF num T ((levsT T).take k) S).1).length ≤ (edgF num T ((levsT T).take k) S).1.length := List.length_filter_le _ _
    have h3 : (edgF num T ((levsT T).take k) S).1.length ≤ k := by
      have hh := congrArg List.length f
      rw [List.length_map, List.length_take] at hh
      omega
    omega
  · have := a x hx
    rw [← e] at this
    omega

theorem edg_succ (num : NumF) (T : List Thr) (S : List St) (k : Nat) (h : k < (levsT T).length) :
    edgF num T ((levsT T).take (k + 1)) S = ((edgF num T ((levsT T).take k) S).1 ++ [((levsT T)[k], (num (meetL (levsT T)[k] T) (edgF num T ((levsT T).take k) S).2).1)], (num (meetL (levsT T)[k] T) (edgF num T ((levsT T).take k) S).2).2) := by
  rw [List.take_succ_eq_append_getElem h, edgF_snoc]
theorem cut_snoc (st : Int) (F : List (List UInt8 × Int)) (e : List UInt8 × Int) : cutTo st (F ++ [e]) = if e.2 = st then cutTo st F else cutTo st F ++ [e] := by
  unfold cutTo
  rw [List.filter_append]
  by_cases h : e.2 = st <;> simp [h]
theorem rEdges_snoc (F : List (List UInt8 × Int)) (e : List UInt8 × Int) : rEdges (F ++ [e]) = rEdges F ++ rEdge e := by
  unfold rEdges; simp

/-- the text of an edge put behind -/
theorem edge_text (t l : List UInt8) (k : Int) : (⟨t.toArray⟩ : ByteArray) ++ (⟨#[44]⟩ : ByteArray) ++ (⟨l.toArray⟩ : ByteArray) ++ (⟨#[62]⟩ : ByteArray) ++ (⟨(three k).toArray⟩ : ByteArray) = ⟨(t ++ rEdge (l, k)).toArray⟩ := by
  have e1 : (⟨#[44]⟩ : ByteArray) = ⟨[44].toArray⟩ := rfl
  have e2 : (⟨#[62]⟩ : ByteArray) = ⟨[62].toArray⟩ := rfl
  rw [e1, e2, app_arr, app_arr, app_arr, app_arr]
  simp [rEdge]
theorem star_text (t : List UInt8) (k : Int) (h : ¬ k = -1) : (⟨t.toArray⟩ : ByteArray) ++ (⟨#[42]⟩ : ByteArray) ++ (⟨(three k).toArray⟩ : ByteArray) = ⟨(t ++ rStar k).toArray⟩ := by
  have e1 : (⟨#[42]⟩ : ByteArray) = ⟨[42].toArray⟩ := rfl
  rw [e1, app_arr, app_arr]
  simp [rStar, h]

theorem thr_new {w w' : World} {M : Nat} {Q : Nat → Prop} {S : List St} {v : Value} {T : List ThrC} (hm : Mac w M Q S) (h : w'.ownsRow w.heap.size 66 3 v T.length (thrCells T)) (hok : ∀ c ∈ T, okC c) (hf : T.length ≤ 6) : ThrRow w' Q v T :=
  ⟨own_mono h (Nat.zero_le _), fun k hk hq => by have := (h.lt k hk).1; have := hm.lt k hq; omega, hok, hf⟩
theorem lev_new {w w' : World} {M : Nat} {Q : Nat → Prop} {S : List St} {v : Value} {ls : List (List UInt8)} (hm : Mac w M Q S) (h : w'.ownsRow w.heap.size 9 1 v ls.length (ls.map strV)) : LevRow w' Q v ls :=
  ⟨own_mono h (Nat.zero_le _), fun k hk hq => by have := (h.lt k hk).1; have := hm.lt k hq; omega⟩

theorem sz_arr (l : List UInt8) (n : Nat) (h : l.length ≤ n) : (⟨l.toArray⟩ : ByteArray).size ≤ n := by rw [arr_size]; exact h

end Go.Proofs.YtchhmojnoiephaaDoor
