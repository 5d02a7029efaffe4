import Derived.Test.YtchhmojnoiephabGreatDoorHubP
import Derived.Test.YtchhmojnoiephabGreatDoorMemB
import Derived.OneCell
import Derived.Deep.RegionLaw
/- The program's own hub in memory. -/
namespace Go.Proofs.YtchhmojnoiephabGreatDoor
open Go.ChangeShapes Go.WideShapes Go.ChangeAt Go.RowKit
set_option linter.unusedVariables false

def msgCells (L : List MsgL) : List Value := L.flatMap fun m => [strV m.1, strV m.2]
theorem msgCells_snoc (L : List MsgL) (m : MsgL) : msgCells (L ++ [m]) = msgCells L ++ [strV m.1, strV m.2] := by simp [msgCells]
def subCells (L : List SubL) : List Value := L.flatMap fun s => [.int .i64 (s.who : Int), strV s.grp, strV s.fil, .bool s.had]
theorem subCells_snoc (L : List SubL) (s : SubL) : subCells (L ++ [s]) = subCells L ++ [.int .i64 (s.who : Int), strV s.grp, strV s.fil, .bool s.had] := by simp [subCells]
theorem msgCells_at (L : List MsgL) (k : Nat) (h : k < L.length) : (msgCells L)[k * 2]? = some (strV L[k].1) ∧ (msgCells L)[k * 2 + 1]? = some (strV L[k].2) := by
  induction L generalizing k with
  | nil => simp at h
  | cons e L ih =>
    cases k with
    | zero => simp [msgCells]
    | succ k =>
      obtain ⟨h1, h2⟩ := ih k (by simpa using h)
      have e1 : msgCells (e :: L) = strV e.1 :: strV e.2 :: msgCells L := by simp [msgCells]
      rw [e1, show (k + 1) * 2 = k * 2 + 1 + 1 from by omega, show k * 2 + 1 + 1 + 1 = (k * 2 + 1) + 1 + 1 from by omega]
      simp only [List.getElem?_cons_succ, List.getElem_cons_succ]
      exact ⟨h1, h2⟩
theorem subCells_at (L : List SubL) (k : Nat) (h : k < L.length) : (subCells L)[k * 4]? = some (.int .i64 (L[k].who : Int)) ∧ (subCells L)[k * 4 + 1]? = some (strV L[k].grp) ∧ (subCells L)[k * 4 + 2]? = some (strV L[k].fil) ∧ (subCells L)[k * 4 + 3]? = some (.bool L[k].had) := by
  induction L generalizing k with
  | nil => simp at h
  | cons e L ih =>
    cases k with
    | zero => simp [subCells]
    | succ k =>
      obtain ⟨h1, h2, h3, h4⟩ := ih k (by simpa using h)
      have e1 : subCells (e :: L) = .int .i64 (e.who : Int) :: strV e.grp :: strV e.fil :: .bool e.had :: subCells L := by simp [subCells]
      rw [e1, show (k + 1) * 4 = k * 4 + 1 + 1 + 1 + 1 from by omega, show k * 4 + 1 + 1 + 1 + 1 + 1 = (k * 4 + 1) + 1 + 1 + 1 + 1 from by omega, show k * 4 + 1 + 1 + 1 + 1 + 2 = (k * 4 + 2) + 1 + 1 + 1 + 1 from by omega, show k * 4 + 1 + 1 + 1 + 1 + 3 = (k * 4 + 3) + 1 + 1 + 1 + 1 from by omega]
      simp only [List.getElem?_cons_succ, List.getElem_cons_succ]
      exact ⟨h1, h2, h3, h4⟩

theorem addr_at (g k : Nat) : (⟨g, 0, none⟩ : Addr).add k = ⟨g, k, none⟩ := by
  cases k with
  | zero => simp [Addr.add]
  | succ k => simp [Addr.add]
theorem own_msg {w : World} {B e g n cap k : Nat} {L : List MsgL} (h : w.ownsRow B e 2 (.slice (some ⟨g, 0, none⟩) n cap) n (msgCells L)) (hk : k < L.length) :
    w.cell? ⟨g, k * 2, none⟩ = some (.string ⟨L[k].1.toArray⟩) ∧ w.cell? ⟨g, k * 2 + 1, none⟩ = some (.string ⟨L[k].2.toArray⟩) := by
  have h1 := h.cells (g := g) rfl _ _ (msgCells_at L k hk).1
  have h2 := h.cells (g := g) rfl _ _ (msgCells_at L k hk).2
  rw [addr_at] at h1 h2
  exact ⟨h1, h2⟩
theorem own_sub {w : World} {B e g n cap k : Nat} {L : List SubL} (h : w.ownsRow B e 4 (.slice (some ⟨g, 0, none⟩) n cap) n (subCells L)) (hk : k < L.length) :
    w.cell? ⟨g, k * 4, none⟩ = some (.int .i64 (L[k].who : Int)) ∧ w.cell? ⟨g, k * 4 + 1, none⟩ = some (.string ⟨L[k].grp.toArray⟩) ∧ w.cell? ⟨g, k * 4 + 2, none⟩ = some (.string ⟨L[k].fil.toArray⟩) ∧ w.cell? ⟨g, k * 4 + 3, none⟩ = some (.bool L[k].had) := by
  obtain ⟨a1, a2, a3, a4⟩ := subCells_at L k hk
  have h1 := h.cells (g := g) rfl _ _ a1
  have h2 := h.cells (g := g) rfl _ _ a2
  have h3 := h.cells (g := g) rfl _ _ a3
  have h4 := h.cells (g := g) rfl _ _ a4
  rw [addr_at] at h1 h2 h3 h4
  exact ⟨h1, h2, h3, h4⟩
theorem own_notA {w : World} {B e sz n p t : Nat} {v : Value} {cs : Array Value} {xs : List Value} (h : w.ownsRow B e sz v n xs) (hp : w.heap[p]? = some (.cells cs t (0, 0))) (hne : e ≠ t) : v.ownBlock ≠ some p := by
  intro he
  obtain ⟨_, ⟨rfl, _⟩ | ⟨g, cap, cur, rfl, _, h4, _⟩⟩ := h
  · cases he
  · simp [Value.ownBlock] at he
    subst he
    rw [h4] at hp
    simp at hp
    exact hne hp.2

/-- the hub's block and its rows -/
structure HubW (w : World) (p : Nat) (A : Array Value) (qv : Nat → Value) (sv kv : Value) (H : HubL) : Prop where
  blk : w.heap[p]? = some (.cells A 73 (0, 0))
  size : A.size = 20
  cli : ∀ c, c < 6 → A[c * 3]? = some (.bool (H.on c)) ∧ A[c * 3 + 1]? = some (.bool (H.known c)) ∧ A[c * 3 + 2]? = some (qv c)
  subc : A[18]? = some sv
  keptc : A[19]? = some kv
  qown : ∀ c, c < 6 → w.ownsRow 0 82 2 (qv c) (H.q c).length (msgCells (H.q c))
  sown : w.ownsRow 0 129 4 sv H.subs.length (subCells H.subs)
  kown : w.ownsRow 0 82 2 kv H.kept.length (msgCells H.kept)
  qq : ∀ c d, c < 6 → d < 6 → c ≠ d → ∀ k, (qv c).ownBlock = some k → (qv d).ownBlock ≠ some k
  qk : ∀ c, c < 6 → ∀ k, (qv c).ownBlock = some k → kv.ownBlock ≠ some k

/-- the hub's blocks -/
def blkS (p : Nat) (qv : Nat → Value) (sv kv : Value) (k : Nat) : Prop := k = p ∨ (∃ c, c < 6 ∧ (qv c).ownBlock = some k) ∨ sv.ownBlock = some k ∨ kv.ownBlock = some k
structure HubAt (w : World) (p : Nat) (S : Nat → Prop) (H : HubL) : Prop where
  body : ∃ A qv sv kv, HubW w p A qv sv kv H ∧ S = blkS p qv sv kv
  good : goodH H

theorem HubW.ltS {w : World} {p : Nat} {A : Array Value} {qv : Nat → Value} {sv kv : Value} {H : HubL} (h : HubW w p A qv sv kv H) {k : Nat} (hk : blkS p qv sv kv k) : k < w.heap.size := by
  rcases hk with rfl | ⟨c, hc, hk⟩ | hk | hk
  · exact heap_lt h.blk
  · exact ((h.qown c hc).lt k hk).2
  · exact (h.sown.lt k hk).2
  · exact (h.kown.lt k hk).2
theorem HubAt.lt {w : World} {p : Nat} {S : Nat → Prop} {H : HubL} (h : HubAt w p S H) {k : Nat} (hk : S k) : k < w.heap.size := by
  obtain ⟨A, qv, sv, kv, hw, rfl⟩ := h.body
  exact hw.ltS hk
theorem HubW.same {w w' : World} {p : Nat} {A : Array Value} {qv : Nat → Value} {sv kv : Value} {H : HubL} (hw : HubW w p A qv sv kv H) (hk : ∀ k, blkS p qv sv kv k → w'.heap[k]? = w.heap[k]?) : HubW w' p A qv sv kv H :=
  ⟨by rw [hk p (Or.inl rfl)]; exact hw.blk, hw.size, hw.cli, hw.subc, hw.keptc, fun c hc => own_same (hw.qown c hc) (fun k e => hk k (Or.inr (Or.inl ⟨c, hc, e⟩))), own_same hw.sown (fun k e => hk k (Or.inr (Or.inr (Or.inl e)))), own_same hw.kown (fun k e => hk k (Or.inr (Or.inr (Or.inr e)))), hw.qq, hw.qk⟩
theorem HubW.below {w w' : World} {p : Nat} {A : Array Value} {qv : Nat → Value} {sv kv : Value} {H : HubL} (hw : HubW w p A qv sv kv H) (hb : Below w.heap.size w w') : HubW w' p A qv sv kv H := hw.same (fun k hk => hb.block k (hw.ltS hk))
theorem HubAt.kept {w w' : World} {p : Nat} {S T T' : Nat → Prop} {H : HubL} (h : HubAt w p S H) (hf : Fr T w w' T') (hd : ∀ k, S k → ¬ T k) : HubAt w' p S H := by
  obtain ⟨A, qv, sv, kv, hw, rfl⟩ := h.body
  exact ⟨⟨A, qv, sv, kv, hw.same (fun k hk => hf.keep k (hw.ltS hk) (hd k hk)), rfl⟩, h.good⟩
theorem HubAt.below {w w' : World} {p : Nat} {S : Nat → Prop} {H : HubL} (h : HubAt w p S H) (hb : Below w.heap.size w w') : HubAt w' p S H :=
  h.kept (Fr.of_below (S := fun _ => False) hb) (fun _ _ h => h)

/-- a call's answer, and the hub behind it -/
def HubPost (w : World) (p : Nat) (S : Nat → Prop) (v : Value) (H : HubL) (e : Ending) (w' : World) : Prop :=
  e = .returned v ∧ ∃ S', HubAt w' p S' H ∧ Fr S w w' S'
theorem HubPost.same {w w' : World} {p : Nat} {S : Nat → Prop} {v : Value} {H : HubL} (h : HubAt w p S H) (hb : Below w.heap.size w w') : HubPost w p S v H (.returned v) w' := ⟨rfl, S, h.below hb, Fr.of_below hb⟩
theorem HubPost.stay {w : World} {p : Nat} {S : Nat → Prop} {v : Value} {H : HubL} (h : HubAt w p S H) : HubPost w p S v H (.returned v) w := .same h (Below.refl _ _)

/-- the world behind a call that changes the hub: rows that stay in their blocks or move, then one cell of the hub -/
theorem HubW.lt {w : World} {p : Nat} {A : Array Value} {qv : Nat → Value} {sv kv : Value} {H : HubL} (h : HubW w p A qv sv kv H) : p < w.heap.size := heap_lt h.blk
theorem HubW.np {w : World} {p : Nat} {A : Array Value} {qv : Nat → Value} {sv kv : Value} {H : HubL} (h : HubW w p A qv sv kv H) : (∀ c, c < 6 → (qv c).ownBlock ≠ some p) ∧ sv.ownBlock ≠ some p ∧ kv.ownBlock ≠ some p :=
  ⟨fun c hc => own_notA (h.qown c hc) h.blk (by decide), own_notA h.sown h.blk (by decide), own_notA h.kown h.blk (by decide)⟩

theorem set_at (A : Array Value) (i j : Nat) (v : Value) (h : i ≠ j) : (A.setIfInBounds i v)[j]? = A[j]? := by
  rw [Array.getElem?_setIfInBounds]; rw [if_neg h]
theorem set_here (A : Array Value) (i : Nat) (v : Value) (h : i < A.size) : (A.setIfInBounds i v)[i]? = some v := by
  rw [Array.getElem?_setIfInBounds]; simp [h]
theorem blk_set {w : World} {p i : Nat} {A : Array Value} {t : TypeId} (h : w.heap[p]? = some (.cells A t (0, 0))) (v : Value) : (w.setCell ⟨p, i, none⟩ v).heap[p]? = some (.cells (A.setIfInBounds i v) t (0, 0)) :=
  heap_setCell_same w p i _ _ v h

/-- the queue of client c is another one now -/
theorem HubW.setQ {w w2 : World} {p : Nat} {A : Array Value} {qv : Nat → Value} {sv kv : Value} {H : HubL} (h : HubW w p A qv sv kv H) {c : Nat} (hc : c < 6) {v' : Value} {Q : List MsgL}
    (hkeep : ∀ k, k < w.heap.size → (qv c).ownBlock ≠ some k → w2.heap[k]? = w.heap[k]?) (hown : w2.ownsRow 0 82 2 v' Q.length (msgCells Q)) (hmv : ∀ k, v'.ownBlock = some k → (qv c).ownBlock = some k ∨ w.heap.size ≤ k) :
    HubW (w2.setCell ⟨p, c * 3 + 2, none⟩ v') p (A.setIfInBounds (c * 3 + 2) v') (updF qv c v') sv kv { H with q := updF H.q c Q } := by
  obtain ⟨n1, n2, n3⟩ := h.np
  have hp2 : w2.heap[p]? = some (.cells A 73 (0, 0)) := by rw [hkeep p h.lt (n1 c hc)]; exact h.blk
  have hrow : ∀ {e sz n v xs}, w.ownsRow 0 e sz v n xs → v.ownBlock ≠ some p → (∀ k, v.ownBlock = some k → (qv c).ownBlock ≠ some k) → (w2.setCell ⟨p, c * 3 + 2, none⟩ v').ownsRow 0 e sz v n xs := by
    intro e sz n v xs ho hnp hnc
    exact ownsRow_setCell_other (own_same ho (fun k hk => hkeep k (ho.lt k hk).2 (hnc k hk))) hnp _
  have hnp' : v'.ownBlock ≠ some p := own_notA hown hp2 (by decide)
  have hnew : ∀ {e sz n v xs}, w.ownsRow 0 e sz v n xs → (∀ k, v.ownBlock = some k → (qv c).ownBlock ≠ some k) → ∀ k, v'.ownBlock = some k → v.ownBlock ≠ some k := by
    intro e sz n v xs ho hnc k hk hk2
    rcases hmv k hk with h1 | h1
    · exact hnc k hk2 h1
    · have := (ho.lt k hk2).2; omega
  have hqc : ∀ d, d < 6 → d ≠ c → ∀ k, (qv d).ownBlock = some k → (qv c).ownBlock ≠ some k := fun d hd hdc k hk hk2 => h.qq d c hd hc hdc k hk hk2
  have hsc : ∀ k, sv.ownBlock = some k → (qv c).ownBlock ≠ some k := by
    intro k hk hk2
    obtain ⟨_, ⟨h0, _⟩ | ⟨g, cap, cur, hv, _, hg, _⟩⟩ := h.qown c hc
    · rw [h0] at hk2; cases hk2
    · rw [hv] at hk2; simp [Value.ownBlock] at hk2; subst hk2
      exact own_notA h.sown hg (by decide) hk
  have hkc : ∀ k, kv.ownBlock = some k → (qv c).ownBlock ≠ some k := fun k hk hk2 => h.qk c hc k hk2 hk
  refine ⟨blk_set hp2 v', by simp [h.size], fun d hd => ?_, ?_, ?_, fun d hd => ?_, hrow h.sown n2 hsc, hrow h.kown n3 hkc, fun d e hd he hde k hk => ?_, fun d hd k hk => ?_⟩
  · obtain ⟨c1, c2, c3⟩ := h.cli d hd
    refine ⟨by rw [set_at _ _ _ _ (by omega)]; exact c1, by rw [set_at _ _ _ _ (by omega)]; exact c2, ?_⟩
    by_cases hdc : d = c
    · subst hdc; rw [set_here _ _ _ (by rw [h.size]; omega), updF_same]
    · rw [set_at _ _ _ _ (by omega), updF_other _ _ hdc]; exact c3
  · rw [set_at _ _ _ _ (by omega)]; exact h.subc
  · rw [set_at _ _ _ _ (by omega)]; exact h.keptc
  · by_cases hdc : d = c
    · subst hdc
      show World.ownsRow _ 0 _ 2 (updF qv d v' d) (updF H.q d Q d).length (msgCells (updF H.q d Q d))
      rw [updF_same, updF_same]
      exact ownsRow_setCell_other hown hnp' _
    · show World.ownsRow _ 0 _ 2 (updF qv c v' d) (updF H.q c Q d).length (msgCells (updF H.q c Q d))
      rw [updF_other _ _ hdc, updF_other _ _ hdc]
      exact hrow (h.qown d hd) (n1 d hd) (hqc d hd hdc)
  · by_cases hdc : d = c
    · subst hdc
      rw [updF_same] at hk
      rw [updF_other _ _ (fun e => hde e.symm)]
      exact hnew (h.qown e he) (hqc e he (fun e => hde e.symm)) k hk
    · rw [updF_other _ _ hdc] at hk
      by_cases hec : e = c
      · subst hec
        rw [updF_same]
        intro hk2
        exact hnew (h.qown d hd) (hqc d hd hdc) k hk2 hk
      · rw [updF_other _ _ hec]
        exact h.qq d e hd he hde k hk
  · by_cases hdc : d = c
    · subst hdc
      rw [updF_same] at hk
      exact hnew h.kown hkc k hk
    · rw [updF_other _ _ hdc] at hk
      exact h.qk d hd k hk

/-- the subscriptions are others now -/
theorem HubW.setS {w w2 : World} {p : Nat} {A : Array Value} {qv : Nat → Value} {sv kv : Value} {H : HubL} (h : HubW w p A qv sv kv H) {v' : Value} {L : List SubL}
    (hkeep : ∀ k, k < w.heap.size → sv.ownBlock ≠ some k → w2.heap[k]? = w.heap[k]?) (hown : w2.ownsRow 0 129 4 v' L.length (subCells L)) :
    HubW (w2.setCell ⟨p, 18, none⟩ v') p (A.setIfInBounds 18 v') qv v' kv { H with subs := L } := by
  obtain ⟨n1, n2, n3⟩ := h.np
  have hp2 : w2.heap[p]? = some (.cells A 73 (0, 0)) := by rw [hkeep p h.lt n2]; exact h.blk
  have hms : ∀ {n v xs}, w.ownsRow 0 82 2 v n xs → ∀ k, v.ownBlock = some k → sv.ownBlock ≠ some k := by
    intro n v xs ho k hk hk2
    obtain ⟨_, ⟨h0, _⟩ | ⟨g, cap, cur, hv, _, hg, _⟩⟩ := h.sown
    · rw [h0] at hk2; cases hk2
    · rw [hv] at hk2; simp [Value.ownBlock] at hk2; subst hk2
      exact own_notA ho hg (by decide) hk
  have hrow : ∀ {n v xs}, w.ownsRow 0 82 2 v n xs → v.ownBlock ≠ some p → (w2.setCell ⟨p, 18, none⟩ v').ownsRow 0 82 2 v n xs := by
    intro n v xs ho hnp
    exact ownsRow_setCell_other (own_same ho (fun k hk => hkeep k (ho.lt k hk).2 (hms ho k hk))) hnp _
  have hnp' : v'.ownBlock ≠ some p := own_notA hown hp2 (by decide)
  refine ⟨blk_set hp2 v', by simp [h.size], fun d hd => ?_, ?_, ?_, fun d hd => hrow (h.qown d hd) (n1 d hd), ownsRow_setCell_other hown hnp' _, hrow h.kown n3, h.qq, h.qk⟩
  · obtain ⟨c1, c2, c3⟩ := h.cli d hd
    exact ⟨by rw [set_at _ _ _ _ (by omega)]; exact c1, by rw [set_at _ _ _ _ (by omega)]; exact c2, by rw [set_at _ _ _ _ (by omega)]; exact c3⟩
  · rw [set_here _ _ _ (by rw [h.size]; omega)]
  · rw [set_at _ _ _ _ (by omega)]; exact h.keptc

/-- what is kept is other now, in a block of its own -/
theorem HubW.setK {w w2 : World} {p : Nat} {A : Array Value} {qv : Nat → Value} {sv kv : Value} {H : HubL} (h : HubW w p A qv sv kv H) {v' : Value} {L : List MsgL}
    (hkeep : ∀ k, k < w.heap.size → w2.heap[k]? = w.heap[k]?) (hown : w2.ownsRow w.heap.size 82 2 v' L.length (msgCells L)) :
    HubW (w2.setCell ⟨p, 19, none⟩ v') p (A.setIfInBounds 19 v') qv sv v' { H with kept := L } := by
  obtain ⟨n1, n2, n3⟩ := h.np
  have hp2 : w2.heap[p]? = some (.cells A 73 (0, 0)) := by rw [hkeep p h.lt]; exact h.blk
  have hrow : ∀ {e sz n v xs}, w.ownsRow 0 e sz v n xs → v.ownBlock ≠ some p → (w2.setCell ⟨p, 19, none⟩ v').ownsRow 0 e sz v n xs := by
    intro e sz n v xs ho hnp
    exact ownsRow_setCell_other (own_same ho (fun k hk => hkeep k (ho.lt k hk).2)) hnp _
  have hnp' : v'.ownBlock ≠ some p := own_notA hown hp2 (by decide)
  refine ⟨blk_set hp2 v', by simp [h.size], fun d hd => ?_, ?_, ?_, fun d hd => hrow (h.qown d hd) (n1 d hd), hrow h.sown n2, ownsRow_setCell_other (own_mono hown (Nat.zero_le _)) hnp' _, h.qq, fun d hd k hk hk2 => ?_⟩
  · obtain ⟨c1, c2, c3⟩ := h.cli d hd
    exact ⟨by rw [set_at _ _ _ _ (by omega)]; exact c1, by rw [set_at _ _ _ _ (by omega)]; exact c2, by rw [set_at _ _ _ _ (by omega)]; exact c3⟩
  · rw [set_at _ _ _ _ (by omega)]; exact h.subc
  · rw [set_here _ _ _ (by rw [h.size]; omega)]
  · have h1 := ((h.qown d hd).lt k hk).2
    have h2 := (hown.lt k hk2).1
    omega

/-- one of the hub's flags -/
theorem HubW.setOn {w : World} {p : Nat} {A : Array Value} {qv : Nat → Value} {sv kv : Value} {H : HubL} (h : HubW w p A qv sv kv H) {c : Nat} (hc : c < 6) (a : Bool) :
    HubW (w.setCell ⟨p, c * 3, none⟩ (.bool a)) p (A.setIfInBounds (c * 3) (.bool a)) qv sv kv { H with on := updF H.on c a } := by
  obtain ⟨n1, n2, n3⟩ := h.np
  refine ⟨blk_set h.blk _, by simp [h.size], fun d hd => ?_, ?_, ?_, fun d hd => ownsRow_setCell_other (h.qown d hd) (n1 d hd) _, ownsRow_setCell_other h.sown n2 _, ownsRow_setCell_other h.kown n3 _, h.qq, h.qk⟩
  · obtain ⟨c1, c2, c3⟩ := h.cli d hd
    refine ⟨?_, by rw [set_at _ _ _ _ (by omega)]; exact c2, by rw [set_at _ _ _ _ (by omega)]; exact c3⟩
    by_cases hdc : d = c
    · subst hdc; rw [set_here _ _ _ (by rw [h.size]; omega)]; simp [updF]
    · rw [set_at _ _ _ _ (by omega)]; simp only [updF, if_neg hdc]; exact c1
  · rw [set_at _ _ _ _ (by omega)]; exact h.subc
  · rw [set_at _ _ _ _ (by omega)]; exact h.keptc
theorem HubW.setKnown {w : World} {p : Nat} {A : Array Value} {qv : Nat → Value} {sv kv : Value} {H : HubL} (h : HubW w p A qv sv kv H) {c : Nat} (hc : c < 6) (a : Bool) :
    HubW (w.setCell ⟨p, c * 3 + 1, none⟩ (.bool a)) p (A.setIfInBounds (c * 3 + 1) (.bool a)) qv sv kv { H with known := updF H.known c a } := by
  obtain ⟨n1, n2, n3⟩ := h.np
  refine ⟨blk_set h.blk _, by simp [h.size], fun d hd => ?_, ?_, ?_, fun d hd => ownsRow_setCell_other (h.qown d hd) (n1 d hd) _, ownsRow_setCell_other h.sown n2 _, ownsRow_setCell_other h.kown n3 _, h.qq, h.qk⟩
  · obtain ⟨c1, c2, c3⟩ := h.cli d hd
    refine ⟨by rw [set_at _ _ _ _ (by omega)]; exact c1, ?_, by rw [set_at _ _ _ _ (by omega)]; exact c3⟩
    by_cases hdc : d = c
    · subst hdc; rw [set_here _ _ _ (by rw [h.size]; omega)]; simp [updF]
    · rw [set_at _ _ _ _ (by omega)]; simp only [updF, if_neg hdc]; exact c2
  · rw [set_at _ _ _ _ (by omega)]; exact h.subc
  · rw [set_at _ _ _ _ (by omega)]; exact h.keptc

/-- a cell of the hub is another one -/
theorem fr_cell {w : World} {p i : Nat} {qv : Nat → Value} {sv kv : Value} (v : Value) : Fr (blkS p qv sv kv) w (w.setCell ⟨p, i, none⟩ v) (blkS p qv sv kv) :=
  ⟨rfl, rfl, rfl, by simp, fun k _ hn => Below.heap_setCell _ _ _ _ (fun e => hn (Or.inl e)), fun _ h => Or.inl h⟩

theorem hub_setQw {w w2 : World} {p : Nat} {A : Array Value} {qv : Nat → Value} {sv kv : Value} {H : HubL} (h : HubW w p A qv sv kv H) {c : Nat} (hc : c < 6) {v' : Value} {Q : List MsgL} (hos : w2.os = w.os) (htp : w2.tape = w.tape) (hou : w2.output = w.output) (hsz : w.heap.size ≤ w2.heap.size)
    (hkeep : ∀ k, k < w.heap.size → (qv c).ownBlock ≠ some k → w2.heap[k]? = w.heap[k]?) (hown : w2.ownsRow 0 82 2 v' Q.length (msgCells Q)) (hmv : ∀ k, v'.ownBlock = some k → (qv c).ownBlock = some k ∨ w.heap.size ≤ k) :
    HubW (w2.setCell ⟨p, c * 3 + 2, none⟩ v') p (A.setIfInBounds (c * 3 + 2) v') (updF qv c v') sv kv { H with q := updF H.q c Q } ∧ Fr (blkS p qv sv kv) w (w2.setCell ⟨p, c * 3 + 2, none⟩ v') (blkS p (updF qv c v') sv kv) := by
  refine ⟨h.setQ hc hkeep hown hmv, ⟨hos, htp, hou, by simpa using hsz, fun k hk hn => ?_, fun k hk => ?_⟩⟩
  · rw [Below.heap_setCell _ _ _ _ (fun e => hn (Or.inl e))]
    exact hkeep k hk (fun e => hn (Or.inr (Or.inl ⟨c, hc, e⟩)))
  · rcases hk with rfl | ⟨d, hd, hk⟩ | hk | hk
    · exact Or.inl (Or.inl rfl)
    · by_cases hdc : d = c
      · subst hdc
        rw [updF_same] at hk
        rcases hmv k hk with h1 | h1
        · exact Or.inl (Or.inr (Or.inl ⟨d, hd, h1⟩))
        · exact Or.inr h1
      · rw [updF_other _ _ hdc] at hk
        exact Or.inl (Or.inr (Or.inl ⟨d, hd, hk⟩))
    · exact Or.inl (Or.inr (Or.inr (Or.inl hk)))
    · exact Or.inl (Or.inr (Or.inr (Or.inr hk)))
theorem hub_setS {w w2 : World} {p : Nat} {A : Array Value} {qv : Nat → Value} {sv kv : Value} {H : HubL} (h : HubW w p A qv sv kv H) {v' : Value} {L : List SubL} (hos : w2.os = w.os) (htp : w2.tape = w.tape) (hou : w2.output = w.output) (hsz : w.heap.size ≤ w2.heap.size)
    (hkeep : ∀ k, k < w.heap.size → sv.ownBlock ≠ some k → w2.heap[k]? = w.heap[k]?) (hown : w2.ownsRow 0 129 4 v' L.length (subCells L)) (hmv : ∀ k, v'.ownBlock = some k → sv.ownBlock = some k ∨ w.heap.size ≤ k) (hg : goodH { H with subs := L }) :
    ∃ S', HubAt (w2.setCell ⟨p, 18, none⟩ v') p S' { H with subs := L } ∧ Fr (blkS p qv sv kv) w (w2.setCell ⟨p, 18, none⟩ v') S' := by
  refine ⟨_, ⟨⟨_, _, _, _, h.setS hkeep hown, rfl⟩, hg⟩, ⟨hos, htp, hou, by simpa using hsz, fun k hk hn => ?_, fun k hk => ?_⟩⟩
  · rw [Below.heap_setCell _ _ _ _ (fun e => hn (Or.inl e))]
    exact hkeep k hk (fun e => hn (Or.inr (Or.inr (Or.inl e))))
  · rcases hk with rfl | hk | hk | hk
    · exact Or.inl (Or.inl rfl)
    · exact Or.inl (Or.inr (Or.inl hk))
    · rcases hmv k hk with h1 | h1
      · exact Or.inl (Or.inr (Or.inr (Or.inl h1)))
      · exact Or.inr h1
    · exact Or.inl (Or.inr (Or.inr (Or.inr hk)))
theorem hub_setK {w w2 : World} {p : Nat} {A : Array Value} {qv : Nat → Value} {sv kv : Value} {H : HubL} (h : HubW w p A qv sv kv H) {v' : Value} {L : List MsgL} (hb : Below w.heap.size w w2) (hown : w2.ownsRow w.heap.size 82 2 v' L.length (msgCells L)) (hg : goodH { H with kept := L }) :
    ∃ S', HubAt (w2.setCell ⟨p, 19, none⟩ v') p S' { H with kept := L } ∧ Fr (blkS p qv sv kv) w (w2.setCell ⟨p, 19, none⟩ v') S' := by
  refine ⟨_, ⟨⟨_, _, _, _, h.setK (fun k hk => hb.block k hk) hown, rfl⟩, hg⟩, ⟨hb.os, hb.tape, hb.output, by simpa using hb.size, fun k hk hn => ?_, fun k hk => ?_⟩⟩
  · rw [Below.heap_setCell _ _ _ _ (fun e => hn (Or.inl e))]
    exact hb.block k hk
  · rcases hk with rfl | hk | hk | hk
    · exact Or.inl (Or.inl rfl)
    · exact Or.inl (Or.inr (Or.inl hk))
    · exact Or.inl (Or.inr (Or.inr (Or.inl hk)))
    · exact Or.inr (hown.lt k hk).1

end Go.Proofs.YtchhmojnoiephabGreatDoor

/- The program's hub: clients, and delivering. -/
namespace Go.Proofs.YtchhmojnoiephabGreatDoor
open Go.ChangeShapes Go.WideShapes Go.ChangeAt Go.RowKit
set_option linter.unusedVariables false

/-- append as a step of a region that draws: the row stays in its block, or it moves -/
theorem step_append_moves {P : Program} {ops : Array Oper} {o : Oper} {a : Act} {w : World} {K : Act → World → Prop} {Q : Exit → Act → World → Prop} {E : Prop}
    (hg : o.guard = none) (s x : Operand) (t : TypeId) (hop : o.op = Op.call { callee := Callee.builtin Builtin.append, args := #[s, x], argTypes := #[t, t] })
    (e : TypeId) (i : TypeInfo) (z : Value) (size bytes : Nat) (h1 : P.underlying t = some (.slice e)) (h2 : P.info? e = some i) (h3 : i.zero = some z) (h4 : i.size = size) (h5 : i.bytes = bytes) (h6 : z.cells.size = size) (h7 : 0 < size)
    (v : Value) (n : Nat) (xs : List Value) (hs : a.eval s = v) (hown : w.ownsRow 0 e size v n xs)
    (ad : Addr) (m c : Nat) (news : List Value) (hx : a.eval x = .slice (some ad) m c) (hn : news.length = m * size) (hc : ∀ j u, news[j]? = some u → w.cell? (ad.add j) = some u) (h1c : ∀ u ∈ news, u.oneCell' = true)
    (b1 : n + m ≤ maxLen) (b2 : (n + m) * bytes ≤ 140737488355328)
    (hK : ∀ v' w', w'.ownsRow 0 e size v' (n + m) (xs ++ news) → w.grownBy w' v.ownBlock → (∀ k, v'.ownBlock = some k → v.ownBlock = some k ∨ w.heap.size ≤ k) → K (a.put o.dst v') w') :
    if Region.wanted o (yielded ops a.tmps) = true then Oper.wp P o a w K Q else E := by
  have hw : Region.wanted o (yielded ops a.tmps) = true := by simp [Region.wanted, hg]
  rw [if_pos hw]
  obtain ⟨v', w', hrun, r1, r2, r3⟩ := run_append_moves (P := P) w t o.type e i z size bytes h1 h2 h3 h4 h5 h6 h7 v n xs hown ad m c news hn hc h1c b1 b2
  unfold Oper.wp
  simp [execOp, hop, resolve, invoke, builtin, hs, hx, hrun, Result.andThen]
  exact hK v' w' r1 r2 r3

def cliB (c : Int) : Bool := decide (0 ≤ c) && decide (c < 6)
theorem cliB_nat {c : Int} (h : cliB c = true) : ∃ n : Nat, c = n ∧ n < 6 := by
  unfold cliB at h
  simp at h
  exact ⟨c.toNat, by omega, by omega⟩
theorem cliB_of (n : Nat) (h : n < 6) : cliB (n : Int) = true := by unfold cliB; simp; omega

set_option maxHeartbeats 400000 in
theorem isClient_any (c : Int) (w : World) : Calls Tryz.prog 97 #[.int .i64 c] w fun e w' => e = .returned (.bool (cliB c)) ∧ w' = w := by
  by_cases h0 : 0 ≤ c
  · have hd : decide (0 ≤ c) = true := by simpa using h0
    have HR : Hid (cliB c = decide (c < 6)) := by unfold Hid cliB; rw [hd]; rfl
    go_enter Tryz.func97, Tryz.ntmps97
    go_wp2_with fail
    go_ret
    exact ⟨ret_bool (unhide HR).symm, rfl⟩
  · have hd : decide (0 ≤ c) = false := by simpa using h0
    have HR : Hid (cliB c = false) := by unfold Hid cliB; rw [hd]; rfl
    go_enter Tryz.func97, Tryz.ntmps97
    go_wp2_with fail
    go_ret
    exact ⟨ret_bool (unhide HR).symm, rfl⟩

/-- a hub's cells of a client -/
theorem HubAt.cells {w : World} {p : Nat} {S : Nat → Prop} {H : HubL} (h : HubAt w p S H) {n : Nat} (hn : n < 6) : w.cell? ⟨p, n * 3, none⟩ = some (.bool (H.on n)) ∧ w.cell? ⟨p, n * 3 + 1, none⟩ = some (.bool (H.known n)) := by
  obtain ⟨A, qv, sv, kv, hw, rfl⟩ := h.body
  obtain ⟨c1, c2, c3⟩ := hw.cli n hn
  exact ⟨cell_block hw.blk c1, cell_block hw.blk c2⟩

def hereB (H : HubL) (c : Int) : Bool := cliB c && H.on c.toNat
theorem hereB_nat {H : HubL} {c : Int} (h : hereB H c = true) : ∃ n : Nat, c = n ∧ n < 6 ∧ H.on n = true := by
  unfold hereB at h
  rw [Bool.and_eq_true] at h
  obtain ⟨n, rfl, hn⟩ := cliB_nat h.1
  exact ⟨n, rfl, hn, by simpa using h.2⟩

set_option maxHeartbeats 400000 in
theorem isHere_any (p : Nat) (S : Nat → Prop) (H : HubL) (c : Int) (w : World) (h : HubAt w p S H) : Calls Tryz.prog 100 #[.pointer (some ⟨p, 0, none⟩), .int .i64 c] w fun e w' => e = .returned (.bool (hereB H c)) ∧ w' = w := by
  cases hc : cliB c with
  | false =>
    have HR : Hid (hereB H c = false) := by unfold Hid hereB; rw [hc]; rfl
    go_enter Tryz.func100, Tryz.ntmps100
    go_wp2_with (go_at_call 97; refine (isClient_any _ _).mono ?_; rintro e w' ⟨rfl, rfl⟩)
    go_ret
    exact ⟨ret_bool (unhide HR).symm, rfl⟩
  | true =>
    obtain ⟨n, rfl, hn⟩ := cliB_nat hc
    have HR : Hid (hereB H n = H.on n) := by unfold Hid hereB; rw [hc]; simp
    obtain ⟨c1, c2⟩ := h.cells hn
    clear h
    go_enter Tryz.func100, Tryz.ntmps100
    go_wp2_with (go_at_call 97; refine (isClient_any _ _).mono ?_; rintro e w' ⟨rfl, rfl⟩)
    go_ret
    exact ⟨ret_bool (unhide HR).symm, rfl⟩

set_option maxHeartbeats 400000 in
theorem newHub_any (w : World) : Calls Tryz.prog 9 #[] w fun e w' => e = .returned (.pointer (some ⟨w.heap.size, 0, none⟩)) ∧ (∃ S, HubAt w' w.heap.size S hub0 ∧ ∀ k, S k → k = w.heap.size) ∧ Below w.heap.size w w' := by
  go_enter Tryz.func9, Tryz.ntmps9
  go_wp2_with fail
  go_ret
  refine ⟨rfl, ⟨_, ⟨⟨_, fun _ => .slice none 0 0, .slice none 0 0, .slice none 0 0, ⟨(MapKept.heap_alloc w _).1, rfl, ?_, rfl, rfl, fun c _ => World.ownsRow_nil _ _ _ _, World.ownsRow_nil _ _ _ _, World.ownsRow_nil _ _ _ _, (fun c d _ _ _ k hk => by cases hk), (fun c _ k hk => by cases hk)⟩, rfl⟩, good0⟩, ?_⟩, (Below.refl _ w).alloc (Nat.le_refl _) _⟩
  · intro c hc
    match c, hc with
    | 0, _ => exact ⟨rfl, rfl, rfl⟩
    | 1, _ => exact ⟨rfl, rfl, rfl⟩
    | 2, _ => exact ⟨rfl, rfl, rfl⟩
    | 3, _ => exact ⟨rfl, rfl, rfl⟩
    | 4, _ => exact ⟨rfl, rfl, rfl⟩
    | 5, _ => exact ⟨rfl, rfl, rfl⟩
  · rintro k (rfl | ⟨c, hc, hk⟩ | hk | hk)
    · rfl
    · cases hk
    · cases hk
    · cases hk

/-- Connect -/
def connectH (H : HubL) (c : Int) : Int × HubL := if cliB c = true then (0, comeH H c.toNat) else (4, H)

set_option maxHeartbeats 1000000 in
theorem connect_any (p : Nat) (S : Nat → Prop) (H : HubL) (c : Int) (w : World) (h : HubAt w p S H) : Calls Tryz.prog 72 #[.pointer (some ⟨p, 0, none⟩), .int .i64 c] w (HubPost w p S (.int .i64 (connectH H c).1) (connectH H c).2) := by
  cases hc : cliB c with
  | false =>
    have HR : Hid (connectH H c = (4, H)) := by unfold Hid connectH; rw [hc]; rfl
    rw [unhide HR]
    have HH := hide h
    clear h
    go_enter Tryz.func72, Tryz.ntmps72
    go_wp2_with (go_at_call 97; refine (isClient_any _ _).mono ?_; rintro e w' ⟨rfl, rfl⟩)
    go_ret
    exact HubPost.stay (unhide HH)
  | true =>
    obtain ⟨n, rfl, hn⟩ := cliB_nat hc
    have HR : Hid (connectH H n = (0, comeH H n)) := by unfold Hid connectH; rw [hc]; simp
    rw [unhide HR]
    obtain ⟨A, qv, sv, kv, hw, rfl⟩ := h.body
    obtain ⟨c1, c2, c3⟩ := hw.cli n hn
    have z1 := cell_block hw.blk c1
    have f1 := free_block (i := n * 3) hw.blk
    have hw1 := hw.setOn hn true
    obtain ⟨d1, d2, d3⟩ := hw1.cli n hn
    have z2 := cell_block hw1.blk d2
    have f2 := free_block (i := n * 3 + 1) hw1.blk
    have HW := hide (hw1.setKnown hn true)
    have HG := hide (come_good h.good n)
    clear h hw hw1 c1 c2 c3 d1 d2 d3
    go_enter Tryz.func72, Tryz.ntmps72
    go_wp2_with (go_at_call 97; refine (isClient_any _ _).mono ?_; rintro e w' ⟨rfl, rfl⟩)
    go_ret
    exact ⟨rfl, _, ⟨⟨_, _, _, _, unhide HW, rfl⟩, unhide HG⟩, (fr_cell _).trans (fr_cell _)⟩

end Go.Proofs.YtchhmojnoiephabGreatDoor
