import Derived.Test.YtchhmojnoiephabHubP
import Derived.Test.YtchhmojnoiephabMemB
import Derived.OneCell
/- The program's own hub in memory. -/
namespace Go.Proofs.Ytchhmojnoiephab
open Go.ChangeShapes Go.WideShapes Go.ChangeAt Go.RowKit
set_option linter.unusedVariables false

def msgCells (L : List MsgL) : List Value := L.flatMap fun m => [strV m.1, strV m.2]
theorem msgCells_snoc (L : List MsgL) (m : MsgL) : msgCells (L ++ [m]) = msgCells L ++ [strV m.1, strV m.2] := by simp [msgCells]
def subCells (L : List SubL) : List Value := L.flatMap fun s => [.int .i64 (s.who : Int), strV s.grp, strV s.fil, .bool s.had]
theorem subCells_snoc (L : List SubL) (s : SubL) : subCells (L ++ [s]) = subCells L ++ [.int .i64 (s.who : Int), strV s.grp, strV s.fil, .bool s.had] := by simp [subCells]
theorem msgCells_at (L : List MsgL) (k : Nat) (h : k < L.length) : (msgCells L)[k * 2]? = some (strV L[k].1) ∧ (msgCells L)[k * 2 + 1]? = some (strV L[k].2) := by
  induction L generalizing k with
  | nil => simp at h
  | cons e L ih =>
    cases k with
    | zero => simp [msgCells]
    | succ k =>
      obtain ⟨h1, h2⟩ := ih k (by simpa using h)
      have e1 : msgCells (e :: L) = strV e.1 :: strV e.2 :: msgCells L := by simp [msgCells]
      rw [e1, show (k + 1) * 2 = k * 2 + 1 + 1 from by omega, show k * 2 + 1 + 1 + 1 = (k * 2 + 1) + 1 + 1 from by omega]
      simp only [List.getElem?_cons_succ, List.getElem_cons_succ]
      exact ⟨h1, h2⟩
theorem subCells_at (L : List SubL) (k : Nat) (h : k < L.length) : (subCells L)[k * 4]? = some (.int .i64 (L[k].who : Int)) ∧ (subCells L)[k * 4 + 1]? = some (strV L[k].grp) ∧ (subCells L)[k * 4 + 2]? = some (strV L[k].fil) ∧ (subCells L)[k * 4 + 3]? = some (.bool L[k].had) := by
  induction L generalizing k with
  | nil => simp at h
  | cons e L ih =>
    cases k with
    | zero => simp [subCells]
    | succ k =>
      obtain ⟨h1, h2, h3, h4⟩ := ih k (by simpa using h)
      have e1 : subCells (e :: L) = .int .i64 (e.who : Int) :: strV e.grp :: strV e.fil :: .bool e.had :: subCells L := by simp [subCells]
      rw [e1, show (k + 1) * 4 = k * 4 + 1 + 1 + 1 + 1 from by omega, show k * 4 + 1 + 1 + 1 + 1 + 1 = (k * 4 + 1) + 1 + 1 + 1 + 1 from by omega, show k * 4 + 1 + 1 + 1 + 1 + 2 = (k * 4 + 2) + 1 + 1 + 1 + 1 from by omega, show k * 4 + 1 + 1 + 1 + 1 + 3 = (k * 4 + 3) + 1 + 1 + 1 + 1 from by omega]
      simp only [List.getElem?_cons_succ, List.getElem_cons_succ]
      exact ⟨h1, h2, h3, h4⟩

theorem addr_at (g k : Nat) : (⟨g, 0, none⟩ : Addr).add k = ⟨g, k, none⟩ := by
  cases k with
  | zero => simp [Addr.add]
  | succ k => simp [Addr.add]
theorem own_msg {w : World} {B e g n cap k : Nat} {L : List MsgL} (h : w.ownsRow B e 2 (.slice (some ⟨g, 0, none⟩) n cap) n (msgCells L)) (hk : k < L.length) :
    w.cell? ⟨g, k * 2, none⟩ = some (.string ⟨L[k].1.toArray⟩) ∧ w.cell? ⟨g, k * 2 + 1, none⟩ = some (.string ⟨L[k].2.toArray⟩) := by
  have h1 := h.cells (g := g) rfl _ _ (msgCells_at L k hk).1
  have h2 := h.cells (g := g) rfl _ _ (msgCells_at L k hk).2
  rw [addr_at] at h1 h2
  exact ⟨h1, h2⟩
theorem own_sub {w : World} {B e g n cap k : Nat} {L : List SubL} (h : w.ownsRow B e 4 (.slice (some ⟨g, 0, none⟩) n cap) n (subCells L)) (hk : k < L.length) :
    w.cell? ⟨g, k * 4, none⟩ = some (.int .i64 (L[k].who : Int)) ∧ w.cell? ⟨g, k * 4 + 1, none⟩ = some (.string ⟨L[k].grp.toArray⟩) ∧ w.cell? ⟨g, k * 4 + 2, none⟩ = some (.string ⟨L[k].fil.toArray⟩) ∧ w.cell? ⟨g, k * 4 + 3, none⟩ = some (.bool L[k].had) := by
  obtain ⟨a1, a2, a3, a4⟩ := subCells_at L k hk
  have h1 := h.cells (g := g) rfl _ _ a1
  have h2 := h.cells (g := g) rfl _ _ a2
  have h3 := h.cells (g := g) rfl _ _ a3
  have h4 := h.cells (g := g) rfl _ _ a4
  rw [addr_at] at h1 h2 h3 h4
  exact ⟨h1, h2, h3, h4⟩
theorem own_notA {w : World} {B e sz n p t : Nat} {v : Value} {cs : Array Value} {xs : List Value} (h : w.ownsRow B e sz v n xs) (hp : w.heap[p]? = some (.cells cs t (0, 0))) (hne : e ≠ t) : v.ownBlock ≠ some p := by
  intro he
  obtain ⟨_, ⟨rfl, _⟩ | ⟨g, cap, cur, rfl, _, h4, _⟩⟩ := h
  · cases he
  · simp [Value.ownBlock] at he
    subst he
    rw [h4] at hp
    simp at hp
    exact hne hp.2

/-- the hub's block and its rows -/
structure HubW (w : World) (p : Nat) (A : Array Value) (qv : Nat → Value) (sv kv : Value) (H : HubL) : Prop where
  blk : w.heap[p]? = some (.cells A 61 (0, 0))
  size : A.size = 20
  cli : ∀ c, c < 6 → A[c * 3]? = some (.bool (H.on c)) ∧ A[c * 3 + 1]? = some (.bool (H.known c)) ∧ A[c * 3 + 2]? = some (qv c)
  subc : A[18]? = some sv
  keptc : A[19]? = some kv
  qown : ∀ c, c < 6 → w.ownsRow 0 48 2 (qv c) (H.q c).length (msgCells (H.q c))
  sown : w.ownsRow 0 66 4 sv H.subs.length (subCells H.subs)
  kown : w.ownsRow 0 48 2 kv H.kept.length (msgCells H.kept)
  qq : ∀ c d, c < 6 → d < 6 → c ≠ d → ∀ k, (qv c).ownBlock = some k → (qv d).ownBlock ≠ some k
  qk : ∀ c, c < 6 → ∀ k, (qv c).ownBlock = some k → kv.ownBlock ≠ some k

/-- the hub's blocks -/
def blkS (p : Nat) (qv : Nat → Value) (sv kv : Value) (k : Nat) : Prop := k = p ∨ (∃ c, c < 6 ∧ (qv c).ownBlock = some k) ∨ sv.ownBlock = some k ∨ kv.ownBlock = some k
structure HubAt (w : World) (p : Nat) (S : Nat → Prop) (H : HubL) : Prop where
  body : ∃ A qv sv kv, HubW w p A qv sv kv H ∧ S = blkS p qv sv kv
  good : goodH H

theorem HubW.ltS {w : World} {p : Nat} {A : Array Value} {qv : Nat → Value} {sv kv : Value} {H : HubL} (h : HubW w p A qv sv kv H) {k : Nat} (hk : blkS p qv sv kv k) : k < w.heap.size := by
  rcases hk with rfl | ⟨c, hc, hk⟩ | hk | hk
  · exact heap_lt h.blk
  · exact ((h.qown c hc).lt k hk).2
  · exact (h.sown.lt k hk).2
  · exact (h.kown.lt k hk).2
theorem HubAt.lt {w : World} {p : Nat} {S : Nat → Prop} {H : HubL} (h : HubAt w p S H) {k : Nat} (hk : S k) : k < w.heap.size := by
  obtain ⟨A, qv, sv, kv, hw, rfl⟩ := h.body
  exact hw.ltS hk
theorem HubW.same {w w' : World} {p : Nat} {A : Array Value} {qv : Nat → Value} {sv kv : Value} {H : HubL} (hw : HubW w p A qv sv kv H) (hk : ∀ k, blkS p qv sv kv k → w'.heap[k]? = w.heap[k]?) : HubW w' p A qv sv kv H :=
  ⟨by rw [hk p (Or.inl rfl)]; exact hw.blk, hw.size, hw.cli, hw.subc, hw.keptc, fun c hc => own_same (hw.qown c hc) (fun k e => hk k (Or.inr (Or.inl ⟨c, hc, e⟩))), own_same hw.sown (fun k e => hk k (Or.inr (Or.inr (Or.inl e)))), own_same hw.kown (fun k e => hk k (Or.inr (Or.inr (Or.inr e)))), hw.qq, hw.qk⟩
theorem HubW.below {w w' : World} {p : Nat} {A : Array Value} {qv : Nat → Value} {sv kv : Value} {H : HubL} (hw : HubW w p A qv sv kv H) (hb : Below w.heap.size w w') : HubW w' p A qv sv kv H := hw.same (fun k hk => hb.block k (hw.ltS hk))
theorem HubAt.kept {w w' : World} {p : Nat} {S T T' : Nat → Prop} {H : HubL} (h : HubAt w p S H) (hf : Fr T w w' T') (hd : ∀ k, S k → ¬ T k) : HubAt w' p S H := by
  obtain ⟨A, qv, sv, kv, hw, rfl⟩ := h.body
  exact ⟨⟨A, qv, sv, kv, hw.same (fun k hk => hf.keep k (hw.ltS hk) (hd k hk)), rfl⟩, h.good⟩
theorem HubAt.below {w w' : World} {p : Nat} {S : Nat → Prop} {H : HubL} (h : HubAt w p S H) (hb : Below w.heap.size w w') : HubAt w' p S H :=
  h.kept (Fr.of_below (S := fun _ => False) hb) (fun _ _ h => h)

/-- a call's answer, and the hub behind it -/
def HubPost (w : World) (p : Nat) (S : Nat → Prop) (v : Value) (H : HubL) (e : Ending) (w' : World) : Prop :=
  e = .returned v ∧ ∃ S', HubAt w' p S' H ∧ Fr S w w' S'
theorem HubPost.same {w w' : World} {p : Nat} {S : Nat → Prop} {v : Value} {H : HubL} (h : HubAt w p S H) (hb : Below w.heap.size w w') : HubPost w p S v H (.returned v) w' := ⟨rfl, S, h.below hb, Fr.of_below hb⟩
theorem HubPost.stay {w : World} {p : Nat} {S : Nat → Prop} {v : Value} {H : HubL} (h : HubAt w p S H) : HubPost w p S v H (.returned v) w := .same h (Below.refl _ _)

/-- the world behind a call that changes the hub: rows that stay in their blocks or move, then one cell of the hub -/
theorem HubW.lt {w : World} {p : Nat} {A : Array Value} {qv : Nat → Value} {sv kv : Value} {H : HubL} (h : HubW w p A qv sv kv H) : p < w.heap.size := heap_lt h.blk
theorem HubW.np {w : World} {p : Nat} {A : Array Value} {qv : Nat → Value} {sv kv : Value} {H : HubL} (h : HubW w p A qv sv kv H) : (∀ c, c < 6 → (qv c).ownBlock ≠ some p) ∧ sv.ownBlock ≠ some p ∧ kv.ownBlock ≠ some p :=
  ⟨fun c hc => own_notA (h.qown c hc) h.blk (by decide), own_notA h.sown h.blk (by decide), own_notA h.kown h.blk (by decide)⟩

theorem set_at (A : Array Value) (i j : Nat) (v : Value) (h : i ≠ j) : (A.setIfInBounds i v)[j]? = A[j]? := by
  rw [Array.getElem?_setIfInBounds]; rw [if_neg h]
theorem set_here (A : Array Value) (i : Nat) (v : Value) (h : i < A.size) : (A.setIfInBounds i v)[i]? = some v := by
  rw [Array.getElem?_setIfInBounds]; simp [h]
theorem blk_set {w : World} {p i : Nat} {A : Array Value} {t : TypeId} (h : w.heap[p]? = some (.cells A t (0, 0))) (v : Value) : (w.setCell ⟨p, i, none⟩ v).heap[p]? = some (.cells (A.setIfInBounds i v) t (0, 0)) :=
  heap_setCell_same w p i _ _ v h

/-- the queue of client c is another one now -/
theorem HubW.setQ {w w2 : World} {p : Nat} {A : Array Value} {qv : Nat → Value} {sv kv : Value} {H : HubL} (h : HubW w p A qv sv kv H) {c : Nat} (hc : c < 6) {v' : Value} {Q : List MsgL}
    (hkeep : ∀ k, k < w.heap.size → (qv c).ownBlock ≠ some k → w2.heap[k]? = w.heap[k]?) (hown : w2.ownsRow 0 48 2 v' Q.length (msgCells Q)) (hmv : ∀ k, v'.ownBlock = some k → (qv c).ownBlock = some k ∨ w.heap.size ≤ k) :
    HubW (w2.setCell ⟨p, c * 3 + 2, none⟩ v') p (A.setIfInBounds (c * 3 + 2) v') (updF qv c v') sv kv { H with q := updF H.q c Q } := by
  obtain ⟨n1, n2, n3⟩ := h.np
  have hp2 : w2.heap[p]? = some (.cells A 61 (0, 0)) := by rw [hkeep p h.lt (n1 c hc)]; exact h.blk
  have hrow : ∀ {e sz n v xs}, w.ownsRow 0 e sz v n xs → v.ownBlock ≠ some p → (∀ k, v.ownBlock = some k → (qv c).ownBlock ≠ some k) → (w2.setCell ⟨p, c * 3 + 2, none⟩ v').ownsRow 0 e sz v n xs := by
    intro e sz n v xs ho hnp hnc
    exact ownsRow_setCell_other (own_same ho (fun k hk => hkeep k (ho.lt k hk).2 (hnc k hk))) hnp _
  have hnp' : v'.ownBlock ≠ some p := own_notA hown hp2 (by decide)
  have hnew : ∀ {e sz n v xs}, w.ownsRow 0 e sz v n xs → (∀ k, v.ownBlock = some k → (qv c).ownBlock ≠ some k) → ∀ k, v'.ownBlock = some k → v.ownBlock ≠ some k := by
    intro e sz n v xs ho hnc k hk hk2
    rcases hmv k hk with h1 | h1
    · exact hnc k hk2 h1
    · have := (ho.lt k hk2).2; omega
  have hqc : ∀ d, d < 6 → d ≠ c → ∀ k, (qv d).ownBlock = some k → (qv c).ownBlock ≠ some k := fun d hd hdc k hk hk2 => h.qq d c hd hc hdc k hk hk2
  have hsc : ∀ k, sv.ownBlock = some k → (qv c).ownBlock ≠ some k := by
    intro k hk hk2
    obtain ⟨_, ⟨h0, _⟩ | ⟨g, cap, cur, hv, _, hg, _⟩⟩ := h.qown c hc
    · rw [h0] at hk2; cases hk2
    · rw [hv] at hk2; simp [Value.ownBlock] at hk2; subst hk2
      exact own_notA h.sown hg (by decide) hk
  have hkc : ∀ k, kv.ownBlock = some k → (qv c).ownBlock ≠ some k := fun k hk hk2 => h.qk c hc k hk2 hk
  refine ⟨blk_set hp2 v', by simp [h.size], fun d hd => ?_, ?_, ?_, fun d hd => ?_, hrow h.sown n2 hsc, hrow h.kown n3 hkc, fun d e hd he hde k hk => ?_, fun d hd k hk => ?_⟩
  · obtain ⟨c1, c2, c3⟩ := h.cli d hd
    refine ⟨by rw [set_at _ _ _ _ (by omega)]; exact c1, by rw [set_at _ _ _ _ (by omega)]; exact c2, ?_⟩
    by_cases hdc : d = c
    · subst hdc; rw [set_here _ _ _ (by rw [h.size]; omega), updF_same]
    · rw [set_at _ _ _ _ (by omega), updF_other _ _ hdc]; exact c3
  · rw [set_at _ _ _ _ (by omega)]; exact h.subc
  · rw [set_at _ _ _ _ (by omega)]; exact h.keptc
  · by_cases hdc : d = c
    · subst hdc
      show World.ownsRow _ 0 _ 2 (updF qv d v' d) (updF H.q d Q d).length (msgCells (updF H.q d Q d))
      rw [updF_same, updF_same]
      exact ownsRow_setCell_other hown hnp' _
    · show World.ownsRow _ 0 _ 2 (updF qv c v' d) (updF H.q c Q d).length (msgCells (updF H.q c Q d))
      rw [updF_other _ _ hdc, updF_other _ _ hdc]
      exact hrow (h.qown d hd) (n1 d hd) (hqc d hd hdc)
  · by_cases hdc : d = c
    · subst hdc
      rw [updF_same] at hk
      rw [updF_other _ _ (fun e => hde e.symm)]
      exact hnew (h.qown e he) (hqc e he (fun e => hde e.symm)) k hk
    · rw [updF_other _ _ hdc] at hk
      by_cases hec : e = c
      · subst hec
        rw [updF_same]
        intro hk2
        exact hnew (h.qown d hd) (hqc d hd hdc) k hk2 hk
      · rw [updF_other _ _ hec]
        exact h.qq d e hd he hde k hk
  · by_cases hdc : d = c
    · subst hdc
      rw [updF_same] at hk
      exact hnew h.kown hkc k hk
    · rw [updF_other _ _ hdc] at hk
      exact h.qk d hd k hk

/-- the subscriptions are others now -/
theorem HubW.setS {w w2 : World} {p : Nat} {A : Array Value} {qv : Nat → Value} {sv kv : Value} {H : HubL} (h : HubW w p A qv sv kv H) {v' : Value} {L : List SubL}
    (hkeep : ∀ k, k < w.heap.size → sv.ownBlock ≠ some k → w2.heap[k]? = w.heap[k]?) (hown : w2.ownsRow 0 66 4 v' L.length (subCells L)) :
    HubW (w2.setCell ⟨p, 18, none⟩ v') p (A.setIfInBounds 18 v') qv v' kv { H with subs := L } := by
  obtain ⟨n1, n2, n3⟩ := h.np
  have hp2 : w2.heap[p]? = some (.cells A 61 (0, 0)) := by rw [hkeep p h.lt n2]; exact h.blk
  have hms : ∀ {n v xs}, w.ownsRow 0 48 2 v n xs → ∀ k, v.ownBlock = some k → sv.ownBlock ≠ some k := by
    intro n v xs ho k hk hk2
    obtain ⟨_, ⟨h0, _⟩ | ⟨g, cap, cur, hv, _, hg, _⟩⟩ := h.sown
    · rw [h0] at hk2; cases hk2
    · rw [hv] at hk2; simp [Value.ownBlock] at hk2; subst hk2
      exact own_notA ho hg (by decide) hk
  have hrow : ∀ {n v xs}, w.ownsRow 0 48 2 v n xs → v.ownBlock ≠ some p → (w2.setCell ⟨p, 18, none⟩ v').ownsRow 0 48 2 v n xs := by
    intro n v xs ho hnp
    exact ownsRow_setCell_other (own_same ho (fun k hk => hkeep k (ho.lt k hk).2 (hms ho k hk))) hnp _
  have hnp' : v'.ownBlock ≠ some p := own_notA hown hp2 (by decide)
  refine ⟨blk_set hp2 v', by simp [h.size], fun d hd => ?_, ?_, ?_, fun d hd => hrow (h.qown d hd) (n1 d hd), ownsRow_setCell_other hown hnp' _, hrow h.kown n3, h.qq, h.qk⟩
  · obtain ⟨c1, c2, c3⟩ := h.cli d hd
    exact ⟨by rw [set_at _ _ _ _ (by omega)]; exact c1, by rw [set_at _ _ _ _ (by omega)]; exact c2, by rw [set_at _ _ _ _ (by omega)]; exact c3⟩
  · rw [set_here _ _ _ (by rw [h.size]; omega)]
  · rw [set_at _ _ _ _ (by omega)]; exact h.keptc

/-- what is kept is other now, in a block of its own -/
theorem HubW.setK {w w2 : World} {p : Nat} {A : Array Value} {qv : Nat → Value} {sv kv : Value} {H : HubL} (h : HubW w p A qv sv kv H) {v' : Value} {L : List MsgL}
    (hkeep : ∀ k, k < w.heap.size → w2.heap[k]? = w.heap[k]?) (hown : w2.ownsRow w.heap.size 48 2 v' L.length (msgCells L)) :
    HubW (w2.setCell ⟨p, 19, none⟩ v') p (A.setIfInBounds 19 v') qv sv v' { H with kept := L } := by
  obtain ⟨n1, n2, n3⟩ := h.np
  have hp2 : w2.heap[p]? = some (.cells A 61 (0, 0)) := by rw [hkeep p h.lt]; exact h.blk
  have hrow : ∀ {e sz n v xs}, w.ownsRow 0 e sz v n xs → v.ownBlock ≠ some p → (w2.setCell ⟨p, 19, none⟩ v').ownsRow 0 e sz v n xs := by
    intro e sz n v xs ho hnp
    exact ownsRow_setCell_other (own_same ho (fun k hk => hkeep k (ho.lt k hk).2)) hnp _
  have hnp' : v'.ownBlock ≠ some p := own_notA hown hp2 (by decide)
  refine ⟨blk_set hp2 v', by simp [h.size], fun d hd => ?_, ?_, ?_, fun d hd => hrow (h.qown d hd) (n1 d hd), hrow h.sown n2, ownsRow_setCell_other (own_mono hown (Nat.zero_le _)) hnp' _, h.qq, fun d hd k hk hk2 => ?_⟩
  · obtain ⟨c1, c2, c3⟩ := h.cli d hd
    exact ⟨by rw [set_at _ _ _ _ (by omega)]; exact c1, by rw [set_at _ _ _ _ (by omega)]; exact c2, by rw [set_at _ _ _ _ (by omega)]; exact c3⟩
  · rw [set_at _ _ _ _ (by omega)]; exact h.subc
  · rw [set_here _ _ _ (by rw [h.size]; omega)]
  · have h1 := ((h.qown d hd).lt k hk).2
    have h2 := (hown.lt k hk2).1
    omega

/-- one of the hub's flags -/
theorem HubW.setOn {w : World} {p : Nat} {A : Array Value} {qv : Nat → Value} {sv kv : Value} {H : HubL} (h : HubW w p A qv sv kv H) {c : Nat} (hc : c < 6) (a : Bool) :
    HubW (w.setCell ⟨p, c * 3, none⟩ (.bool a)) p (A.setIfInBounds (c * 3) (.bool a)) qv sv kv { H with on := updF H.on c a } := by
  obtain ⟨n1, n2, n3⟩ := h.np
  refine ⟨blk_set h.blk _, by simp [h.size], fun d hd => ?_, ?_, ?_, fun d hd => ownsRow_setCell_other (h.qown d hd) (n1 d hd) _, ownsRow_setCell_other h.sown n2 _, ownsRow_setCell_other h.kown n3 _, h.qq, h.qk⟩
  · obtain ⟨c1, c2, c3⟩ := h.cli d hd
    refine ⟨?_, by rw [set_at _ _ _ _ (by omega)]; exact c2, by rw [set_at _ _ _ _ (by omega)]; exact c3⟩
    by_cases hdc : d = c
    · subst hdc; rw [set_here _ _ _ (by rw [h.size]; omega)]; simp [updF]
    · rw [set_at _ _ _ _ (by omega)]; simp only [updF, if_neg hdc]; exact c1
  · rw [set_at _ _ _ _ (by omega)]; exact h.subc
  · rw [set_at _ _ _ _ (by omega)]; exact h.keptc
theorem HubW.setKnown {w : World} {p : Nat} {A : Array Value} {qv : Nat → Value} {sv kv : Value} {H : HubL} (h : HubW w p A qv sv kv H) {c : Nat} (hc : c < 6) (a : Bool) :
    HubW (w.setCell ⟨p, c * 3 + 1, none⟩ (.bool a)) p (A.setIfInBounds (c * 3 + 1) (.bool a)) qv sv kv { H with known := updF H.known c a } := by
  obtain ⟨n1, n2, n3⟩ := h.np
  refine ⟨blk_set h.blk _, by simp [h.size], fun d hd => ?_, ?_, ?_, fun d hd => ownsRow_setCell_other (h.qown d hd) (n1 d hd) _, ownsRow_setCell_other h.sown n2 _, ownsRow_setCell_other h.kown n3 _, h.qq, h.qk⟩
  · obtain ⟨c1, c2, c3⟩ := h.cli d hd
    refine ⟨by rw [set_at _ _ _ _ (by omega)]; exact c1, ?_, by rw [set_at _ _ _ _ (by omega)]; exact c3⟩
    by_cases hdc : d = c
    · subst hdc; rw [set_here _ _ _ (by rw [h.size]; omega)]; simp [updF]
    · rw [set_at _ _ _ _ (by omega)]; simp only [updF, if_neg hdc]; exact c2
  · rw [set_at _ _ _ _ (by omega)]; exact h.subc
  · rw [set_at _ _ _ _ (by omega)]; exact h.keptc

/-- a cell of the hub is another one -/
theorem fr_cell {w : World} {p i : Nat} {qv : Nat → Value} {sv kv : Value} (v : Value) : Fr (blkS p qv sv kv) w (w.setCell ⟨p, i, none⟩ v) (blkS p qv sv kv) :=
  ⟨rfl, rfl, rfl, by simp, fun k _ hn => Below.heap_setCell _ _ _ _ (fun e => hn (Or.inl e)), fun _ h => Or.inl h⟩

theorem hub_setQw {w w2 : World} {p : Nat} {A : Array Value} {qv : Nat → Value} {sv kv : Value} {H : HubL} (h : HubW w p A qv sv kv H) {c : Nat} (hc : c < 6) {v' : Value} {Q : List MsgL} (hos : w2.os = w.os) (htp : w2.tape = w.tape) (hou : w2.output = w.output) (hsz : w.heap.size ≤ w2.heap.size)
    (hkeep : ∀ k, k < w.heap.size → (qv c).ownBlock ≠ some k → w2.heap[k]? = w.heap[k]?) (hown : w2.ownsRow 0 48 2 v' Q.length (msgCells Q)) (hmv : ∀ k, v'.ownBlock = some k → (qv c).ownBlock = some k ∨ w.heap.size ≤ k) :
    HubW (w2.setCell ⟨p, c * 3 + 2, none⟩ v') p (A.setIfInBounds (c * 3 + 2) v') (updF qv c v') sv kv { H with q := updF H.q c Q } ∧ Fr (blkS p qv sv kv) w (w2.setCell ⟨p, c * 3 + 2, none⟩ v') (blkS p (updF qv c v') sv kv) := by
  refine ⟨h.setQ hc hkeep hown hmv, ⟨hos, htp, hou, by simpa using hsz, fun k hk hn => ?_, fun k hk => ?_⟩⟩
  · rw [Below.heap_setCell _ _ _ _ (fun e => hn (Or.inl e))]
    exact hkeep k hk (fun e => hn (Or.inr (Or.inl ⟨c, hc, e⟩)))
  · rcases hk with rfl | ⟨d, hd, hk⟩ | hk | hk
    · exact Or.inl (Or.inl rfl)
    · by_cases hdc : d = c
      · subst hdc
        rw [updF_same] at hk
        rcases hmv k hk with h1 | h1
        · exact Or.inl (Or.inr (Or.inl ⟨d, hd, h1⟩))
        · exact Or.inr h1
      · rw [updF_other _ _ hdc] at hk
        exact Or.inl (Or.inr (Or.inl ⟨d, hd, hk⟩))
    · exact Or.inl (Or.inr (Or.inr (Or.inl hk)))
    · exact Or.inl (Or.inr (Or.inr (Or.inr hk)))
theorem hub_setS {w w2 : World} {p : Nat} {A : Array Value} {qv : Nat → Value} {sv kv : Value} {H : HubL} (h : HubW w p A qv sv kv H) {v' : Value} {L : List SubL} (hos : w2.os = w.os) (htp : w2.tape = w.tape) (hou : w2.output = w.output) (hsz : w.heap.size ≤ w2.heap.size)
    (hkeep : ∀ k, k < w.heap.size → sv.ownBlock ≠ some k → w2.heap[k]? = w.heap[k]?) (hown : w2.ownsRow 0 66 4 v' L.length (subCells L)) (hmv : ∀ k, v'.ownBlock = some k → sv.ownBlock = some k ∨ w.heap.size ≤ k) (hg : goodH { H with subs := L }) :
    ∃ S', HubAt (w2.setCell ⟨p, 18, none⟩ v') p S' { H with subs := L } ∧ Fr (blkS p qv sv kv) w (w2.setCell ⟨p, 18, none⟩ v') S' := by
  refine ⟨_, ⟨⟨_, _, _, _, h.setS hkeep hown, rfl⟩, hg⟩, ⟨hos, htp, hou, by simpa using hsz, fun k hk hn => ?_, fun k hk => ?_⟩⟩
  · rw [Below.heap_setCell _ _ _ _ (fun e => hn (Or.inl e))]
    exact hkeep k hk (fun e => hn (Or.inr (Or.inr (Or.inl e))))
  · rcases hk with rfl | hk | hk | hk
    · exact Or.inl (Or.inl rfl)
    · exact Or.inl (Or.inr (Or.inl hk))
    · rcases hmv k hk with h1 | h1
      · exact Or.inl (Or.inr (Or.inr (Or.inl h1)))
      · exact Or.inr h1
    · exact Or.inl (Or.inr (Or.inr (Or.inr hk)))
theorem hub_setK {w w2 : World} {p : Nat} {A : Array Value} {qv : Nat → Value} {sv kv : Value} {H : HubL} (h : HubW w p A qv sv kv H) {v' : Value} {L : List MsgL} (hb : Below w.heap.size w w2) (hown : w2.ownsRow w.heap.size 48 2 v' L.length (msgCells L)) (hg : goodH { H with kept := L }) :
    ∃ S', HubAt (w2.setCell ⟨p, 19, none⟩ v') p S' { H with kept := L } ∧ Fr (blkS p qv sv kv) w (w2.setCell ⟨p, 19, none⟩ v') S' := by
  refine ⟨_, ⟨⟨_, _, _, _, h.setK (fun k hk => hb.block k hk) hown, rfl⟩, hg⟩, ⟨hb.os, hb.tape, hb.output, by simpa using hb.size, fun k hk hn => ?_, fun k hk => ?_⟩⟩
  · rw [Below.heap_setCell _ _ _ _ (fun e => hn (Or.inl e))]
    exact hb.block k hk
  · rcases hk with rfl | hk | hk | hk
    · exact Or.inl (Or.inl rfl)
    · exact Or.inl (Or.inr (Or.inl hk))
    · exact Or.inl (Or.inr (Or.inr (Or.inl hk)))
    · exact Or.inr (hown.lt k hk).1

end Go.Proofs.Ytchhmojnoiephab
