import Derived.Test.YtchhmojnoiephabGreatDoorHubP
import Derived.Test.YtchhmojnoiephabGreatDoorZmHubE
import Derived.ArgAppend
/- Plain mathematics: the document's hub, as lists. -/
namespace Go.Proofs.YtchhmojnoiephabGreatDoor

structure RSub where
  who : Nat
  grp : List UInt8
  fil : List UInt8
  last : Nat
structure RHub where
  on : Nat → Bool
  known : Nat → Bool
  q : Nat → List (List UInt8)
  subs : List RSub
  kept : List MsgL
  count : Nat
def okR (s : RSub) : Prop := s.who < 6 ∧ s.grp.length ≤ 24 ∧ s.fil.length ≤ 24 ∧ 0 < s.fil.length
structure goodR (R : RHub) : Prop where
  queue : ∀ c, (R.q c).length ≤ 3 ∧ ∀ m ∈ R.q c, m.length ≤ 40
  subs : R.subs.length ≤ 8 ∧ ∀ s ∈ R.subs, okR s
  kept : R.kept.length ≤ 4 ∧ ∀ m ∈ R.kept, smallM m ∧ 0 < m.1.length
def ref0 : RHub := ⟨fun _ => false, fun _ => false, fun _ => [], [], [], 0⟩
theorem goodR0 : goodR ref0 := ⟨fun _ => ⟨by simp [ref0], fun m h => by simp [ref0] at h⟩, ⟨by simp [ref0], fun s h => by simp [ref0] at h⟩, ⟨by simp [ref0], fun m h => by simp [ref0] at h⟩⟩

end Go.Proofs.YtchhmojnoiephabGreatDoor

/- The document's hub in memory. -/
namespace Go.Proofs.YtchhmojnoiephabGreatDoor
open Go.ChangeShapes Go.WideShapes Go.ChangeAt Go.RowKit
set_option linter.unusedVariables false

/-- a queue of texts: a row that may begin anywhere in its block -/
def QRow (w : World) (v : Value) (q : List (List UInt8)) : Prop :=
  (v = .slice none 0 0 ∧ q = []) ∨ ∃ g off cap cur, v = .slice (some ⟨g, off, none⟩) q.length cap ∧ w.heap[g]? = some (.cells cur 9 (0, 0)) ∧ q.length ≤ cap ∧ cap ≤ maxLen ∧ off + cap ≤ cur.size ∧ ∀ j (hj : j < q.length), cur[off + j]? = some (strV q[j])
theorem QRow.lt {w : World} {v : Value} {q : List (List UInt8)} (h : QRow w v q) : ∀ k, v.ownBlock = some k → k < w.heap.size := by
  intro k hk
  rcases h with ⟨rfl, _⟩ | ⟨g, off, cap, cur, rfl, hg, _⟩
  · cases hk
  · simp [Value.ownBlock] at hk; subst hk; exact heap_lt hg
theorem QRow.same {w w' : World} {v : Value} {q : List (List UInt8)} (h : QRow w v q) (hs : ∀ k, v.ownBlock = some k → w'.heap[k]? = w.heap[k]?) : QRow w' v q := by
  rcases h with h | ⟨g, off, cap, cur, rfl, hg, h⟩
  · exact Or.inl h
  · exact Or.inr ⟨g, off, cap, cur, rfl, by rw [hs g rfl]; exact hg, h⟩
theorem QRow.form {w : World} {v : Value} {q : List (List UInt8)} (h : QRow w v q) : ∃ a c, v = .slice a q.length c := by
  rcases h with ⟨rfl, rfl⟩ | ⟨g, off, cap, cur, rfl, _⟩
  · exact ⟨none, 0, rfl⟩
  · exact ⟨_, _, rfl⟩
theorem QRow.of_own {w : World} {B : Nat} {v : Value} {q : List (List UInt8)} (h : w.ownsRow B 9 1 v q.length (q.map strV)) : QRow w v q := by
  obtain ⟨_, ⟨rfl, hn⟩ | ⟨g, cap, cur, rfl, _, hg, h1, h2, h3, h4⟩⟩ := h
  · exact Or.inl ⟨rfl, List.eq_nil_of_length_eq_zero hn⟩
  · refine Or.inr ⟨g, 0, cap, cur, rfl, hg, h1, h2, by omega, fun j hj => ?_⟩
    rw [Nat.mul_one] at h4
    have h5 : (cur.toList.take q.length)[j]? = (q.map strV)[j]? := by rw [h4]
    rw [List.getElem?_take_of_lt hj, List.getElem?_map, List.getElem?_eq_getElem hj] at h5
    rw [Nat.zero_add]
    simpa using h5
theorem q_not {w : World} {v : Value} {q : List (List UInt8)} {p t : Nat} {cs : Array Value} (h : QRow w v q) (hp : w.heap[p]? = some (.cells cs t (0, 0))) (hne : 9 ≠ t) : v.ownBlock ≠ some p := by
  intro he
  rcases h with ⟨rfl, _⟩ | ⟨g, off, cap, cur, rfl, hg, _⟩
  · cases he
  · simp [Value.ownBlock] at he
    subst he
    rw [hg] at hp
    simp at hp
    exact hne hp.2
theorem q_apart {w : World} {v v' : Value} {q : List (List UInt8)} {B e sz n : Nat} {xs : List Value} (h : QRow w v q) (h' : w.ownsRow B e sz v' n xs) (hne : e ≠ 9) : ∀ k, v.ownBlock = some k → v'.ownBlock ≠ some k := by
  intro k hk
  rcases h with ⟨rfl, _⟩ | ⟨g, off, cap, cur, rfl, hg, _⟩
  · cases hk
  · simp [Value.ownBlock] at hk; subst hk
    exact own_notA h' hg hne

/-- append: the queue's row stays in its block, or it moves to a new one -/
theorem run_append_q {P : Program} (w : World) (t ty : TypeId) (i : TypeInfo) (ht : P.underlying t = some (.slice 9)) (hi : P.info? 9 = some i) (hz : i.zero = some (.string ByteArray.empty)) (hsize : i.size = 1) (hby : i.bytes = 16)
    (v : Value) (q : List (List UInt8)) (s : List UInt8) (h : QRow w v q) (hq : q.length ≤ 3) (a : Addr) (c : Nat) (ha : w.cell? a = some (strV s)) :
    ∃ v' w', (Builtin.append_ #[t, t] ty #[v, .slice (some a) 1 c]).run P w = .ok v' w' ∧ QRow w' v' (q ++ [s]) ∧ w.grownBy w' v.ownBlock ∧ ∀ k, v'.ownBlock = some k → v.ownBlock = some k ∨ w.heap.size ≤ k := by
  have hnews : ∀ j u, [strV s][j]? = some u → w.cell? (a.add j) = some u := by
    intro j u hj
    match j, hj with
    | 0, hj => simp at hj; subst hj; simpa [Addr.add] using ha
  have h1c : ∀ u ∈ [strV s], u.oneCell' = true := by intro u hu; rw [List.mem_singleton.1 hu]; rfl
  rcases h with ⟨rfl, rfl⟩ | ⟨g, off, cap, cur, rfl, hg, hnc, hcm, hcs, hcell⟩
  · obtain ⟨v', w', hr, ho, hgr, _⟩ := run_append_own (P := P) w w.heap.size t ty 9 i (.string ByteArray.empty) 1 16 ht hi hz hsize hby rfl (by decide) (.slice none 0 0) 0 [] (World.ownsRow_nil w _ _ _) a 1 c [strV s] rfl hnews h1c (by unfold maxLen; omega) (by omega) (Nat.le_refl _)
    exact ⟨v', w', hr, QRow.of_own (q := [s]) ho, hgr, fun k hk => Or.inr (ho.lt k hk).1⟩
  · by_cases hroom : q.length + 1 ≤ cap
    · have hlt : off + q.length < cur.size := by omega
      have hr := run_append_room_cells (P := P) w t ty 9 i ht hi g off q.length cap a 1 c [strV s] (by rw [hsize]; rfl) hnews h1c hroom
        (by intro j hj; simp at hj; subst hj; rw [hsize]; simp [World.cell?, hg, hlt]) (by intro j hj; rw [hsize]; exact free_block hg)
      rw [hsize, Nat.mul_one] at hr
      have hsc : w.setCells g (off + q.length) [strV s] = w.setCell ⟨g, off + q.length, none⟩ (strV s) := rfl
      rw [hsc] at hr
      refine ⟨_, _, hr, Or.inr ⟨g, off, cap, cur.setIfInBounds (off + q.length) (strV s), by simp, blk_set hg _, by simpa using hroom, hcm, by simpa using hcs, fun j hj => ?_⟩, ⟨rfl, rfl, rfl, by simp, fun k hk hne => Below.heap_setCell _ _ _ _ (fun e => hne (by rw [e]; rfl))⟩, fun k hk => Or.inl hk⟩
      by_cases hjq : j < q.length
      · rw [set_at _ _ _ _ (by omega), hcell j hjq, List.getElem_append_left hjq]
      · have hje : j = q.length := by simp at hj; omega
        subst hje
        rw [set_here _ _ _ hlt]; simp
    · obtain ⟨v', w', hr, ho, hgr⟩ := run_append_arg_grows (P := P) w t ty 9 i (.string ByteArray.empty) 1 16 ht hi hz hsize hby rfl (by decide) ⟨g, off, none⟩ q.length cap (q.map strV) (by simp) (fun j u hj => by
          rw [List.getElem?_map] at hj
          have hjl : j < q.length := by
            refine Nat.lt_of_not_le fun hn => ?_
            rw [List.getElem?_eq_none hn] at hj; cases hj
          rw [List.getElem?_eq_getElem hjl] at hj
          simp at hj
          subst hj
          have : (⟨g, off, none⟩ : Addr).add j = ⟨g, off + j, none⟩ := by cases j <;> simp [Addr.add]
          rw [this]
          exact cell_block hg (hcell j hjl)) a 1 c [strV s] rfl hnews (by omega) (by unfold maxLen; omega) (by omega)
      refine ⟨v', w', hr, QRow.of_own (q := q ++ [s]) (B := w.heap.size) (by rw [List.length_append, List.map_append]; exact ho), ⟨hgr.os, hgr.tape, hgr.output, hgr.size, fun k hk _ => hgr.block k hk (fun e => by cases e)⟩, fun k hk => Or.inr (ho.lt k hk).1⟩

end Go.Proofs.YtchhmojnoiephabGreatDoor

/- The document's hub in memory: its blocks, and what a store does. -/
namespace Go.Proofs.YtchhmojnoiephabGreatDoor
open Go.ChangeShapes Go.WideShapes Go.ChangeAt Go.RowKit
set_option linter.unusedVariables false

def rsubCells (L : List RSub) : List Value := L.flatMap fun s => [.int .i64 (s.who : Int), strV s.grp, strV s.fil, .int .i64 (s.last : Int)]
theorem rsubCells_snoc (L : List RSub) (s : RSub) : rsubCells (L ++ [s]) = rsubCells L ++ [.int .i64 (s.who : Int), strV s.grp, strV s.fil, .int .i64 (s.last : Int)] := by simp [rsubCells]
theorem rsubCells_at (L : List RSub) (k : Nat) (h : k < L.length) : (rsubCells L)[k * 4]? = some (.int .i64 (L[k].who : Int)) ∧ (rsubCells L)[k * 4 + 1]? = some (strV L[k].grp) ∧ (rsubCells L)[k * 4 + 2]? = some (strV L[k].fil) ∧ (rsubCells L)[k * 4 + 3]? = some (.int .i64 (L[k].last : Int)) := by
  induction L generalizing k with
  | nil => simp at h
  | cons e L ih =>
    cases k with
    | zero => simp [rsubCells]
    | succ k =>
      obtain ⟨h1, h2, h3, h4⟩ := ih k (by simpa using h)
      have e1 : rsubCells (e :: L) = .int .i64 (e.who : Int) :: strV e.grp :: strV e.fil :: .int .i64 (e.last : Int) :: rsubCells L := by simp [rsubCells]
      rw [e1, show (k + 1) * 4 = k * 4 + 1 + 1 + 1 + 1 from by omega, show k * 4 + 1 + 1 + 1 + 1 + 1 = (k * 4 + 1) + 1 + 1 + 1 + 1 from by omega, show k * 4 + 1 + 1 + 1 + 1 + 2 = (k * 4 + 2) + 1 + 1 + 1 + 1 from by omega, show k * 4 + 1 + 1 + 1 + 1 + 3 = (k * 4 + 3) + 1 + 1 + 1 + 1 from by omega]
      simp only [List.getElem?_cons_succ, List.getElem_cons_succ]
      exact ⟨h1, h2, h3, h4⟩
def lastS (s : RSub) (n : Nat) : RSub := { s with last := n }
theorem rsubCells_set (L : List RSub) (k n : Nat) (h : k < L.length) : (rsubCells L).set (k * 4 + 3) (.int .i64 (n : Int)) = rsubCells (L.set k (lastS L[k] n)) := by
  induction L generalizing k with
  | nil => simp at h
  | cons e L ih =>
    have e1 : ∀ x (M : List RSub), rsubCells (x :: M) = .int .i64 (x.who : Int) :: strV x.grp :: strV x.fil :: .int .i64 (x.last : Int) :: rsubCells M := fun x M => by simp [rsubCells]
    cases k with
    | zero => rw [e1, List.set_cons_zero, e1]; rfl
    | succ k =>
      rw [List.set_cons_succ, e1, e1, show (k + 1) * 4 + 3 = (k * 4 + 3) + 1 + 1 + 1 + 1 from by omega]
      simp only [List.set_cons_succ, List.getElem_cons_succ]
      rw [ih k (by simpa using h)]
theorem own_rsub {w : World} {B e g n cap k : Nat} {L : List RSub} (h : w.ownsRow B e 4 (.slice (some ⟨g, 0, none⟩) n cap) n (rsubCells L)) (hk : k < L.length) :
    w.cell? ⟨g, k * 4, none⟩ = some (.int .i64 (L[k].who : Int)) ∧ w.cell? ⟨g, k * 4 + 1, none⟩ = some (.string ⟨L[k].grp.toArray⟩) ∧ w.cell? ⟨g, k * 4 + 2, none⟩ = some (.string ⟨L[k].fil.toArray⟩) ∧ w.cell? ⟨g, k * 4 + 3, none⟩ = some (.int .i64 (L[k].last : Int)) := by
  obtain ⟨a1, a2, a3, a4⟩ := rsubCells_at L k hk
  have h1 := h.cells (g := g) rfl _ _ a1
  have h2 := h.cells (g := g) rfl _ _ a2
  have h3 := h.cells (g := g) rfl _ _ a3
  have h4 := h.cells (g := g) rfl _ _ a4
  rw [addr_at] at h1 h2 h3 h4
  exact ⟨h1, h2, h3, h4⟩

structure RefW (w : World) (d cb : Nat) (A : Array Value) (qv : Nat → Value) (sv kv : Value) (R : RHub) : Prop where
  blk : w.heap[d]? = some (.cells #[.slice (some ⟨cb, 0, none⟩) 6 6, sv, kv, .int .i64 (R.count : Int)] 78 (0, 0))
  cs : w.heap[cb]? = some (.cells A 124 (0, 0))
  size : A.size = 18
  cli : ∀ c, c < 6 → A[c * 3]? = some (.bool (R.on c)) ∧ A[c * 3 + 1]? = some (.bool (R.known c)) ∧ A[c * 3 + 2]? = some (qv c)
  qown : ∀ c, c < 6 → QRow w (qv c) (R.q c)
  sown : w.ownsRow 0 121 4 sv R.subs.length (rsubCells R.subs)
  kown : w.ownsRow 0 118 2 kv R.kept.length (msgCells R.kept)
  qq : ∀ c e, c < 6 → e < 6 → c ≠ e → ∀ k, (qv c).ownBlock = some k → (qv e).ownBlock ≠ some k

def blkR (d cb : Nat) (qv : Nat → Value) (sv kv : Value) (k : Nat) : Prop := k = d ∨ k = cb ∨ (∃ c, c < 6 ∧ (qv c).ownBlock = some k) ∨ sv.ownBlock = some k ∨ kv.ownBlock = some k
structure RefAt (w : World) (d : Nat) (S : Nat → Prop) (R : RHub) : Prop where
  body : ∃ cb A qv sv kv, RefW w d cb A qv sv kv R ∧ S = blkR d cb qv sv kv
  good : goodR R
theorem RefW.ltS {w : World} {d cb : Nat} {A : Array Value} {qv : Nat → Value} {sv kv : Value} {R : RHub} (h : RefW w d cb A qv sv kv R) {k : Nat} (hk : blkR d cb qv sv kv k) : k < w.heap.size := by
  rcases hk with rfl | rfl | ⟨c, hc, hk⟩ | hk | hk
  · exact heap_lt h.blk
  · exact heap_lt h.cs
  · exact (h.qown c hc).lt k hk
  · exact (h.sown.lt k hk).2
  · exact (h.kown.lt k hk).2
theorem RefAt.lt {w : World} {d : Nat} {S : Nat → Prop} {R : RHub} (h : RefAt w d S R) {k : Nat} (hk : S k) : k < w.heap.size := by
  obtain ⟨cb, A, qv, sv, kv, hw, rfl⟩ := h.body
  exact hw.ltS hk
theorem RefW.same {w w' : World} {d cb : Nat} {A : Array Value} {qv : Nat → Value} {sv kv : Value} {R : RHub} (hw : RefW w d cb A qv sv kv R) (hk : ∀ k, blkR d cb qv sv kv k → w'.heap[k]? = w.heap[k]?) : RefW w' d cb A qv sv kv R :=
  ⟨by rw [hk d (Or.inl rfl)]; exact hw.blk, by rw [hk cb (Or.inr (Or.inl rfl))]; exact hw.cs, hw.size, hw.cli, fun c hc => (hw.qown c hc).same (fun k e => hk k (Or.inr (Or.inr (Or.inl ⟨c, hc, e⟩)))), own_same hw.sown (fun k e => hk k (Or.inr (Or.inr (Or.inr (Or.inl e))))), own_same hw.kown (fun k e => hk k (Or.inr (Or.inr (Or.inr (Or.inr e))))), hw.qq⟩
theorem RefW.below {w w' : World} {d cb : Nat} {A : Array Value} {qv : Nat → Value} {sv kv : Value} {R : RHub} (hw : RefW w d cb A qv sv kv R) (hb : Below w.heap.size w w') : RefW w' d cb A qv sv kv R := hw.same (fun k hk => hb.block k (hw.ltS hk))
theorem RefAt.kept {w w' : World} {d : Nat} {S T T' : Nat → Prop} {R : RHub} (h : RefAt w d S R) (hf : Fr T w w' T') (hd : ∀ k, S k → ¬ T k) : RefAt w' d S R := by
  obtain ⟨cb, A, qv, sv, kv, hw, rfl⟩ := h.body
  exact ⟨⟨cb, A, qv, sv, kv, hw.same (fun k hk => hf.keep k (hw.ltS hk) (hd k hk)), rfl⟩, h.good⟩
theorem RefAt.below {w w' : World} {d : Nat} {S : Nat → Prop} {R : RHub} (h : RefAt w d S R) (hb : Below w.heap.size w w') : RefAt w' d S R :=
  h.kept (Fr.of_below (S := fun _ => False) hb) (fun _ _ h => h)
def RefPost (w : World) (d : Nat) (S : Nat → Prop) (v : Value) (R : RHub) (e : Ending) (w' : World) : Prop := e = .returned v ∧ ∃ S', RefAt w' d S' R ∧ Fr S w w' S'
theorem RefPost.same {w w' : World} {d : Nat} {S : Nat → Prop} {v : Value} {R : RHub} (h : RefAt w d S R) (hb : Below w.heap.size w w') : RefPost w d S v R (.returned v) w' := ⟨rfl, S, h.below hb, Fr.of_below hb⟩
theorem RefPost.stay {w : World} {d : Nat} {S : Nat → Prop} {v : Value} {R : RHub} (h : RefAt w d S R) : RefPost w d S v R (.returned v) w := .same h (Below.refl _ _)
def RefDone (w : World) (d : Nat) (S : Nat → Prop) (R : RHub) (e : Ending) (w' : World) : Prop := (∃ v, e = .returned v) ∧ ∃ S', RefAt w' d S' R ∧ Fr S w w' S'

theorem RefW.nd {w : World} {d cb : Nat} {A : Array Value} {qv : Nat → Value} {sv kv : Value} {R : RHub} (h : RefW w d cb A qv sv kv R) : (∀ c, c < 6 → (qv c).ownBlock ≠ some d ∧ (qv c).ownBlock ≠ some cb) ∧ (sv.ownBlock ≠ some d ∧ sv.ownBlock ≠ some cb) ∧ (kv.ownBlock ≠ some d ∧ kv.ownBlock ≠ some cb) ∧ d ≠ cb := by
  refine ⟨fun c hc => ⟨q_not (h.qown c hc) h.blk (by decide), q_not (h.qown c hc) h.cs (by decide)⟩, ⟨own_notA h.sown h.blk (by decide), own_notA h.sown h.cs (by decide)⟩, ⟨own_notA h.kown h.blk (by decide), own_notA h.kown h.cs (by decide)⟩, fun e => ?_⟩
  have h1 := h.blk
  rw [e, h.cs] at h1
  simp at h1
theorem q_cell {w : World} {v : Value} {q : List (List UInt8)} (h : QRow w v q) {X i : Nat} (u : Value) (hne : v.ownBlock ≠ some X) : QRow (w.setCell ⟨X, i, none⟩ u) v q :=
  h.same (fun k hk => Below.heap_setCell _ _ _ _ (fun e => hne (by rw [hk, e])))
theorem fr_cellR {w : World} {d cb X i : Nat} {qv : Nat → Value} {sv kv : Value} (v : Value) (hX : blkR d cb qv sv kv X) : Fr (blkR d cb qv sv kv) w (w.setCell ⟨X, i, none⟩ v) (blkR d cb qv sv kv) :=
  ⟨rfl, rfl, rfl, by simp, fun k _ hn => Below.heap_setCell _ _ _ _ (fun e => hn (by subst e; exact hX)), fun _ h => Or.inl h⟩

theorem RefW.setOn {w : World} {d cb : Nat} {A : Array Value} {qv : Nat → Value} {sv kv : Value} {R : RHub} (h : RefW w d cb A qv sv kv R) {c : Nat} (hc : c < 6) (a : Bool) :
    RefW (w.setCell ⟨cb, c * 3, none⟩ (.bool a)) d cb (A.setIfInBounds (c * 3) (.bool a)) qv sv kv { R with on := updF R.on c a } := by
  obtain ⟨n1, n2, n3, n4⟩ := h.nd
  refine ⟨by rw [Below.heap_setCell _ _ _ _ n4]; exact h.blk, blk_set h.cs _, by simp [h.size], fun e he => ?_, fun e he => q_cell (h.qown e he) _ (n1 e he).2, ownsRow_setCell_other h.sown n2.2 _, ownsRow_setCell_other h.kown n3.2 _, h.qq⟩
  obtain ⟨c1, c2, c3⟩ := h.cli e he
  refine ⟨?_, by rw [set_at _ _ _ _ (by omega)]; exact c2, by rw [set_at _ _ _ _ (by omega)]; exact c3⟩
  by_cases hec : e = c
  · subst hec; rw [set_here _ _ _ (by rw [h.size]; omega)]; simp [updF]
  · rw [set_at _ _ _ _ (by omega)]; simp only [updF, if_neg hec]; exact c1
theorem RefW.setKnown {w : World} {d cb : Nat} {A : Array Value} {qv : Nat → Value} {sv kv : Value} {R : RHub} (h : RefW w d cb A qv sv kv R) {c : Nat} (hc : c < 6) (a : Bool) :
    RefW (w.setCell ⟨cb, c * 3 + 1, none⟩ (.bool a)) d cb (A.setIfInBounds (c * 3 + 1) (.bool a)) qv sv kv { R with known := updF R.known c a } := by
  obtain ⟨n1, n2, n3, n4⟩ := h.nd
  refine ⟨by rw [Below.heap_setCell _ _ _ _ n4]; exact h.blk, blk_set h.cs _, by simp [h.size], fun e he => ?_, fun e he => q_cell (h.qown e he) _ (n1 e he).2, ownsRow_setCell_other h.sown n2.2 _, ownsRow_setCell_other h.kown n3.2 _, h.qq⟩
  obtain ⟨c1, c2, c3⟩ := h.cli e he
  refine ⟨by rw [set_at _ _ _ _ (by omega)]; exact c1, ?_, by rw [set_at _ _ _ _ (by omega)]; exact c3⟩
  by_cases hec : e = c
  · subst hec; rw [set_here _ _ _ (by rw [h.size]; omega)]; simp [updF]
  · rw [set_at _ _ _ _ (by omega)]; simp only [updF, if_neg hec]; exact c2
/-- the queue of client c is another one now -/
theorem RefW.setQ {w w2 : World} {d cb : Nat} {A : Array Value} {qv : Nat → Value} {sv kv : Value} {R : RHub} (h : RefW w d cb A qv sv kv R) {c : Nat} (hc : c < 6) {v' : Value} {Q : List (List UInt8)} (hos : w2.os = w.os) (htp : w2.tape = w.tape) (hou : w2.output = w.output) (hsz : w.heap.size ≤ w2.heap.size)
    (hkeep : ∀ k, k < w.heap.size → (qv c).ownBlock ≠ some k → w2.heap[k]? = w.heap[k]?) (hown : QRow w2 v' Q) (hmv : ∀ k, v'.ownBlock = some k → (qv c).ownBlock = some k ∨ w.heap.size ≤ k) :
    RefW (w2.setCell ⟨cb, c * 3 + 2, none⟩ v') d cb (A.setIfInBounds (c * 3 + 2) v') (updF qv c v') sv kv { R with q := updF R.q c Q } ∧ Fr (blkR d cb qv sv kv) w (w2.setCell ⟨cb, c * 3 + 2, none⟩ v') (blkR d cb (updF qv c v') sv kv) := by
  obtain ⟨n1, n2, n3, n4⟩ := h.nd
  have hcb2 : w2.heap[cb]? = some (.cells A 124 (0, 0)) := by rw [hkeep cb (heap_lt h.cs) (n1 c hc).2]; exact h.cs
  have hd2 : w2.heap[d]? = _ := (hkeep d (heap_lt h.blk) (n1 c hc).1).trans h.blk
  have hncb : v'.ownBlock ≠ some cb := q_not hown hcb2 (by decide)
  have hsc : ∀ {e sz n v xs}, w.ownsRow 0 e sz v n xs → e ≠ 9 → v.ownBlock ≠ some cb → (w2.setCell ⟨cb, c * 3 + 2, none⟩ v').ownsRow 0 e sz v n xs := by
    intro e sz n v xs ho hne hncb
    exact ownsRow_setCell_other (own_same ho (fun k hk => hkeep k (ho.lt k hk).2 (fun hk2 => q_apart (h.qown c hc) ho hne k hk2 hk))) hncb _
  have hqn : ∀ e, e < 6 → e ≠ c → ∀ k, v'.ownBlock = some k → (qv e).ownBlock ≠ some k := fun e he hec k hk hk2 => by
    rcases hmv k hk with h1 | h1
    · exact h.qq c e hc he (fun x => hec x.symm) k h1 hk2
    · have := (h.qown e he).lt k hk2; omega
  refine ⟨⟨by rw [Below.heap_setCell _ _ _ _ n4]; exact hd2, blk_set hcb2 v', by simp [h.size], fun e he => ?_, fun e he => ?_, hsc h.sown (by decide) n2.2, hsc h.kown (by decide) n3.2, fun e f he hf hef k hk => ?_⟩, ⟨hos, htp, hou, by simpa using hsz, fun k hk hn => ?_, fun k hk => ?_⟩⟩
  · obtain ⟨c1, c2, c3⟩ := h.cli e he
    refine ⟨by rw [set_at _ _ _ _ (by omega)]; exact c1, by rw [set_at _ _ _ _ (by omega)]; exact c2, ?_⟩
    by_cases hec : e = c
    · subst hec; rw [set_here _ _ _ (by rw [h.size]; omega), updF_same]
    · rw [set_at _ _ _ _ (by omega), updF_other _ _ hec]; exact c3
  · by_cases hec : e = c
    · subst hec
      show QRow _ (updF qv e v' e) (updF R.q e Q e)
      rw [updF_same, updF_same]
      exact q_cell hown _ hncb
    · show QRow _ (updF qv c v' e) (updF R.q c Q e)
      rw [updF_other _ _ hec, updF_other _ _ hec]
      exact q_cell ((h.qown e he).same (fun k hk => hkeep k ((h.qown e he).lt k hk) (fun hk2 => h.qq e c he hc hec k hk hk2))) _ (n1 e he).2
  · by_cases hec : e = c
    · subst hec
      rw [updF_same] at hk
      rw [updF_other _ _ (fun x => hef x.symm)]
      exact hqn f hf (fun x => hef x.symm) k hk
    · rw [updF_other _ _ hec] at hk
      by_cases hfc : f = c
      · subst hfc
        rw [updF_same]
        exact fun hk2 => hqn e he hec k hk2 hk
      · rw [updF_other _ _ hfc]
        exact h.qq e f he hf hef k hk
  · rw [Below.heap_setCell _ _ _ _ (fun e => hn (Or.inr (Or.inl e)))]
    exact hkeep k hk (fun e => hn (Or.inr (Or.inr (Or.inl ⟨c, hc, e⟩))))
  · rcases hk with hk | hk | ⟨e, he, hk⟩ | hk
    · exact Or.inl (Or.inl hk)
    · exact Or.inl (Or.inr (Or.inl hk))
    · by_cases hec : e = c
      · subst hec
        rw [updF_same] at hk
        rcases hmv k hk with h1 | h1
        · exact Or.inl (Or.inr (Or.inr (Or.inl ⟨e, he, h1⟩)))
        · exact Or.inr h1
      · rw [updF_other _ _ hec] at hk
        exact Or.inl (Or.inr (Or.inr (Or.inl ⟨e, he, hk⟩)))
    · exact Or.inl (Or.inr (Or.inr (Or.inr hk)))

theorem blkR_cases {d cb : Nat} {qv : Nat → Value} {sv kv sv' kv' : Value} {k n : Nat} (hs : sv'.ownBlock = some k → sv.ownBlock = some k ∨ n ≤ k) (hk' : kv'.ownBlock = some k → kv.ownBlock = some k ∨ n ≤ k) (hk : blkR d cb qv sv' kv' k) : blkR d cb qv sv kv k ∨ n ≤ k := by
  rcases hk with hk | hk | hk | hk | hk
  · exact Or.inl (Or.inl hk)
  · exact Or.inl (Or.inr (Or.inl hk))
  · exact Or.inl (Or.inr (Or.inr (Or.inl hk)))
  · rcases hs hk with x | x
    · exact Or.inl (Or.inr (Or.inr (Or.inr (Or.inl x))))
    · exact Or.inr x
  · rcases hk' hk with x | x
    · exact Or.inl (Or.inr (Or.inr (Or.inr (Or.inr x))))
    · exact Or.inr x
/-- the subscriptions are others now -/
theorem RefW.setS {w w2 : World} {d cb : Nat} {A : Array Value} {qv : Nat → Value} {sv kv : Value} {R : RHub} (h : RefW w d cb A qv sv kv R) {v' : Value} {L : List RSub} (hos : w2.os = w.os) (htp : w2.tape = w.tape) (hou : w2.output = w.output) (hsz : w.heap.size ≤ w2.heap.size)
    (hkeep : ∀ k, k < w.heap.size → sv.ownBlock ≠ some k → w2.heap[k]? = w.heap[k]?) (hown : w2.ownsRow 0 121 4 v' L.length (rsubCells L)) (hmv : ∀ k, v'.ownBlock = some k → sv.ownBlock = some k ∨ w.heap.size ≤ k) :
    RefW (w2.setCell ⟨d, 1, none⟩ v') d cb A qv v' kv { R with subs := L } ∧ Fr (blkR d cb qv sv kv) w (w2.setCell ⟨d, 1, none⟩ v') (blkR d cb qv v' kv) := by
  obtain ⟨n1, n2, n3, n4⟩ := h.nd
  have hcb2 : w2.heap[cb]? = some (.cells A 124 (0, 0)) := by rw [hkeep cb (heap_lt h.cs) n2.2]; exact h.cs
  have hd2 : w2.heap[d]? = _ := (hkeep d (heap_lt h.blk) n2.1).trans h.blk
  have hnd : v'.ownBlock ≠ some d := own_notA hown hd2 (by decide)
  have hb := blk_set (i := 1) hd2 v'
  refine ⟨⟨hb, by rw [Below.heap_setCell _ _ _ _ (fun e => n4 e.symm)]; exact hcb2, h.size, h.cli, fun e he => q_cell ((h.qown e he).same (fun k hk => hkeep k ((h.qown e he).lt k hk) (q_apart (h.qown e he) h.sown (by decide) k hk))) _ (n1 e he).1, ownsRow_setCell_other hown hnd _, ownsRow_setCell_other (own_same h.kown (fun k hk => hkeep k (h.kown.lt k hk).2 (rows_apart h.kown h.sown (by decide) k hk))) n3.1 _, h.qq⟩, ⟨hos, htp, hou, by simpa using hsz, fun k hk hn => ?_, fun k hk => blkR_cases (hmv k) (fun x => Or.inl x) hk⟩⟩
  rw [Below.heap_setCell _ _ _ _ (fun e => hn (Or.inl e))]
  exact hkeep k hk (fun e => hn (Or.inr (Or.inr (Or.inr (Or.inl e)))))
/-- what is kept is other now, in a block of its own -/
theorem RefW.setK {w w2 : World} {d cb : Nat} {A : Array Value} {qv : Nat → Value} {sv kv : Value} {R : RHub} (h : RefW w d cb A qv sv kv R) {v' : Value} {L : List MsgL} (hb : Below w.heap.size w w2) (hown : w2.ownsRow w.heap.size 118 2 v' L.length (msgCells L)) :
    RefW (w2.setCell ⟨d, 2, none⟩ v') d cb A qv sv v' { R with kept := L } ∧ Fr (blkR d cb qv sv kv) w (w2.setCell ⟨d, 2, none⟩ v') (blkR d cb qv sv v') := by
  obtain ⟨n1, n2, n3, n4⟩ := h.nd
  have hw2 := h.below hb
  have hnd : v'.ownBlock ≠ some d := own_notA hown hw2.blk (by decide)
  have hbk := blk_set (i := 2) hw2.blk v'
  refine ⟨⟨hbk, by rw [Below.heap_setCell _ _ _ _ (fun e => n4 e.symm)]; exact hw2.cs, h.size, h.cli, fun e he => q_cell (hw2.qown e he) _ (n1 e he).1, ownsRow_setCell_other hw2.sown n2.1 _, ownsRow_setCell_other (own_mono hown (Nat.zero_le _)) hnd _, h.qq⟩, ⟨hb.os, hb.tape, hb.output, by simpa using hb.size, fun k hk hn => ?_, fun k hk => blkR_cases (fun x => Or.inl x) (fun x => Or.inr (hown.lt k x).1) hk⟩⟩
  rw [Below.heap_setCell _ _ _ _ (fun e => hn (Or.inl e))]
  exact hb.block k hk
theorem RefW.setCount {w : World} {d cb : Nat} {A : Array Value} {qv : Nat → Value} {sv kv : Value} {R : RHub} (h : RefW w d cb A qv sv kv R) (n : Nat) : RefW (w.setCell ⟨d, 3, none⟩ (.int .i64 (n : Int))) d cb A qv sv kv { R with count := n } := by
  obtain ⟨n1, n2, n3, n4⟩ := h.nd
  exact ⟨blk_set (i := 3) h.blk _, by rw [Below.heap_setCell _ _ _ _ (fun e => n4 e.symm)]; exact h.cs, h.size, h.cli, fun e he => q_cell (h.qown e he) _ (n1 e he).1, ownsRow_setCell_other h.sown n2.1 _, ownsRow_setCell_other h.kown n3.1 _, h.qq⟩
theorem RefW.setLast {w : World} {d cb g cap : Nat} {A : Array Value} {qv : Nat → Value} {kv : Value} {R : RHub} (h : RefW w d cb A qv (.slice (some ⟨g, 0, none⟩) R.subs.length cap) kv R) {k : Nat} (hk : k < R.subs.length) (n : Nat) :
    RefW (w.setCell ⟨g, k * 4 + 3, none⟩ (.int .i64 (n : Int))) d cb A qv (.slice (some ⟨g, 0, none⟩) R.subs.length cap) kv { R with subs := R.subs.set k (lastS R.subs[k] n) } := by
  obtain ⟨n1, n2, n3, n4⟩ := h.nd
  have hgd : g ≠ d := fun e => n2.1 (by rw [e]; rfl)
  have hgc : g ≠ cb := fun e => n2.2 (by rw [e]; rfl)
  refine ⟨by rw [Below.heap_setCell _ _ _ _ (fun e => hgd e.symm)]; exact h.blk, by rw [Below.heap_setCell _ _ _ _ (fun e => hgc e.symm)]; exact h.cs, h.size, h.cli, fun e he => q_cell (h.qown e he) _ (fun x => q_apart (h.qown e he) h.sown (by decide) g x rfl), ?_, ownsRow_setCell_other h.kown (fun x => rows_apart h.kown h.sown (by decide) g x rfl) _, h.qq⟩
  have h1 := (h.sown.stored (k * 4 + 3) (.int .i64 (n : Int))).1
  rw [rsubCells_set _ _ _ hk] at h1
  show World.ownsRow _ 0 _ 4 _ (R.subs.set k (lastS R.subs[k] n)).length _
  rw [List.length_set]
  exact h1

end Go.Proofs.YtchhmojnoiephabGreatDoor
