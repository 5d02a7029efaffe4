import Derived.Test.YtchhmojnoiephaaDoorWalkU
import Derived.Test.YtchhmojnoiephaaDoorWalkD
/- The program's own walk through code. -/
namespace Go.Proofs.YtchhmojnoiephaaDoor
open Go.ChangeShapes Go.WideShapes Go.ChangeAt Go.RowKit
set_option linter.unusedVariables false

/-- the state of that number, as the program reads it -/
def stRd (P : List (List UInt8)) (k : Int) : St := if k < 0 then deadS else match P[k.toNat]? with
  | none => deadS
  | some p => (stateP 1000 p).getD deadS

theorem stRd_out (P : List (List UInt8)) (k : Int) (h : k < 0 ∨ (P.length : Int) ≤ k) : stRd P k = deadS := by
  unfold stRd
  split
  · rfl
  · rw [List.getElem?_eq_none (by omega)]
theorem stRd_in (P : List (List UInt8)) (k : Nat) (h : k < P.length) : stRd P (k : Int) = (stateP 1000 P[k]).getD deadS := by
  unfold stRd; rw [if_neg (by omega), Int.toNat_natCast, List.getElem?_eq_getElem h]

theorem statesR_at (n : Int) (P : List (List UInt8)) : ∀ (i : Nat) (xs : List St), statesR n i P = .ok xs → ∀ (j : Nat) (h : j < P.length), ∃ h' : j < xs.length, stateP n P[j] = some xs[j] := by
  induction P with
  | nil => intro i xs h j hj; simp at hj
  | cons p r ih =>
    intro i xs h j hj
    simp only [statesR] at h
    split at h
    · cases h
    · cases hs : stateP n p with
      | none => rw [hs] at h; cases h
      | some x =>
        rw [hs] at h; simp only [] at h
        cases hr : statesR n (i + 1) r with
        | error k => rw [hr] at h; cases h
        | ok ys =>
          rw [hr] at h; simp only [Except.ok.injEq] at h
          subst h
          cases j with
          | zero => exact ⟨by simp, by simpa using hs⟩
          | succ j =>
            obtain ⟨h1, h2⟩ := ih _ _ hr j (by simpa using hj)
            exact ⟨by simpa using h1, by simpa using h2⟩

/-- the program's states are the code's -/
theorem stRd_xs (L : List UInt8) (xs : List St) (h : codeP L = .ok xs) (k : Int) : stRd (pcs L) k = stAt xs k := by
  have hl : xs.length = (pcs L).length := by
    unfold codeP at h
    split at h
    · cases h
    · exact (statesR_good _ (by omega) _ _ _ h).1
  by_cases hk : k < 0 ∨ ((pcs L).length : Int) ≤ k
  · rw [stRd_out _ _ hk]
    unfold stAt
    split
    · rfl
    · rw [List.getElem?_eq_none (by omega)]; rfl
  · obtain ⟨n, rfl⟩ := Int.eq_ofNat_of_zero_le (by omega : 0 ≤ k)
    have hn : n < (pcs L).length := by omega
    rw [stRd_in _ n hn]
    unfold codeP at h
    split at h
    · cases h
    · obtain ⟨h1, h2⟩ := statesR_at _ _ _ _ h n hn
      rw [stateP_up _ (by omega) _ _ h2]
      unfold stAt
      rw [if_neg (by omega)]
      simp [List.getElem?_eq_getElem h1]

/-- what 'stateAt' answers -/
def SaPost (w : World) (x : St) (e : Ending) (w' : World) : Prop :=
  ∃ (a : ByteArray) (av : Option Addr) (lv cv : Nat) (st : Int), e = .returned (.agg #[.string a, .slice av lv cv, .int .i64 st]) ∧ a.data.toList = x.ans ∧ st = x.star ∧ w'.ownsRow w.heap.size 101 2 (.slice av lv cv) x.edges.length (edgeCells x.edges) ∧ Below w.heap.size w w'

theorem SaPost.dead {w w' : World} {x : St} (h : x = deadS) (hb : Below w.heap.size w w') : SaPost w x (.returned (.agg #[.string ⟨#[]⟩, .slice none 0 0, .int .i64 (-1)])) w' := by
  subst h; exact ⟨_, _, _, _, _, rfl, rfl, rfl, World.ownsRow_nil _ _ _ _, hb⟩

theorem put_stored {w w1 : World} {c0 c1 c2 : Value} {ty : TypeId} (hr : w1.heap[w.heap.size]? = some (.cells #[c0, c1, c2] ty (0, 0))) (hb : Below w.heap.size w w1) (a : ByteArray) (v : Value) (st : Int) :
    (putSt w w1 a v st).heap[w.heap.size]? = some (.cells #[.string a, v, .int .i64 st] ty (0, 0)) ∧ Below w.heap.size w (putSt w w1 a v st) ∧ ∀ k, k ≠ w.heap.size → (putSt w w1 a v st).heap[k]? = w1.heap[k]? := by
  unfold putSt
  refine ⟨?_, ((hb.setCell (Nat.le_refl _) _).setCell (Nat.le_refl _) _).setCell (Nat.le_refl _) _, fun k hk => ?_⟩
  · rw [heap_setCell_same _ _ 2 _ _ _ (heap_setCell_same _ _ 1 _ _ _ (heap_setCell_same _ _ 0 _ _ _ hr))]; rfl
  · rw [Below.heap_setCell _ _ _ _ hk, Below.heap_setCell _ _ _ _ hk, Below.heap_setCell _ _ _ _ hk]

set_option maxHeartbeats 4000000 in
set_option maxRecDepth 1000000 in
theorem stateAt_any (P : List (List UInt8)) (v : Value) (k : Int) (B : Nat) (w : World) (hrow : w.ownsRow B 9 1 v P.length (P.map strV)) (hP : ∀ p ∈ P, p.length ≤ 1000000) :
    Calls Tryd.prog 33 #[v, .int .i64 k] w (SaPost w (stRd P k)) := by
  obtain ⟨av, lv, cv, rfl⟩ := own_slice hrow
  have hlv : lv = P.length := own_len hrow
  subst hlv
  have hb0 : Below w.heap.size w (w.alloc (.cells #[.string ⟨#[]⟩, .slice none 0 0, .int .i64 0] 72)) := (Below.refl _ w).alloc (Nat.le_refl _) _
  have hbd : Below w.heap.size w (w.alloc (.cells #[.string ⟨#[]⟩, .slice none 0 0, .int .i64 (-1)] 72)) := (Below.refl _ w).alloc (Nat.le_refl _) _
  by_cases hk0 : k < 0
  · have HZ := hide (stRd_out P k (Or.inl hk0))
    have HBD := hide hbd
    clear hrow hP hb0 hbd
    go_enter Tryd.func33, Tryd.ntmps33
    go_wp2_with fail
    refine bodyPost_ret (v := .agg #[.string ⟨#[]⟩, .slice none 0 0, .int .i64 (-1)]) ?_ rfl (SaPost.dead (unhide HZ) (unhide HBD))
    simp [results, Tryd.results33, go_sem]
  · by_cases hkl : (P.length : Int) ≤ k
    · have HZ := hide (stRd_out P k (Or.inr hkl))
      have HBD := hide hbd
      clear hrow hP hb0 hbd
      go_enter Tryd.func33, Tryd.ntmps33
      go_wp2_with fail
      refine bodyPost_ret (v := .agg #[.string ⟨#[]⟩, .slice none 0 0, .int .i64 (-1)]) ?_ rfl (SaPost.dead (unhide HZ) (unhide HBD))
      simp [results, Tryd.results33, go_sem]
    · obtain ⟨n, rfl⟩ := Int.eq_ofNat_of_zero_le (by omega : 0 ≤ k)
      have hn : n < P.length := by omega
      obtain ⟨g, cap, hv⟩ := own_form hrow (by omega)
      simp only [Value.slice.injEq] at hv
      obtain ⟨rfl, _, rfl⟩ := hv
      have hcc := own_cap hrow
      unfold maxLen at hcc
      obtain ⟨hcap, hcap2⟩ := hcc
      have hcell := own_str_at hrow hn
      have hg := own_block hrow
      have hsz : (⟨P[n].toArray⟩ : ByteArray).size ≤ 1000000 := by
        have := hP P[n] (List.getElem_mem hn)
        rw [Lib.size_eq]; simp; omega
      have HZ := hide (stRd_in P n hn)
      have hRD := readState_any (⟨P[n].toArray⟩ : ByteArray)
      rw [show (⟨P[n].toArray⟩ : ByteArray).data.toList = P[n] from by simp] at hRD
      have HRD := hide hRD
      have HB0 := hide hb0
      have hng : ¬ g = w.heap.size := by omega
      generalize (⟨P[n].toArray⟩ : ByteArray) = es at *
      generalize P[n] = pn at *
      clear hrow hP hb0 hbd hRD
      go_enter Tryd.func33, Tryd.ntmps33
      go_wp2_with fail
      refine (unhide HRD _ hsz).mono ?_
      rintro e w1 ⟨a, ao, lo, co, st, ok, rfl, hb1, hcase⟩
      have hr1 : w1.heap[w.heap.size]? = some (.cells #[.string ⟨#[]⟩, .slice none 0 0, .int .i64 0] 72 (0, 0)) := by
        rw [hb1.block _ (by simp)]; exact (MapKept.heap_alloc w _).1
      have hbs := hb1.size
      simp at hbs
      have n6 : w.heap.size < w1.heap.size := by omega
      have n3 : ¬ w1.heap.size = w.heap.size := by omega
      have n4 : ¬ w.heap.size = w1.heap.size := by omega
      have f0 := free_block (i := 0) hr1
      have f1 := free_block (i := 1) hr1
      have f2 := free_block (i := 2) hr1
      have q0 := cell_block (i := 0) hr1 rfl
      have q1 := cell_block (i := 1) hr1 rfl
      have q2 := cell_block (i := 2) hr1 rfl
      have HB1 := hide ((unhide HB0).trans (hb1.mono (by simp)))
      have HR1 := hide hr1
      clear hb1 hr1 hcell HRD
      rcases hcase with ⟨rfl, hst⟩ | ⟨rfl, x, hst, ha, hsx, hoe⟩
      · have HD : Hid (stRd P (n : Int) = deadS) := (unhide HZ).trans (by rw [hst]; rfl)
        clear hst
        go_wp2_with fail
        have hst := put_stored (unhide HR1) (unhide HB1) ⟨#[]⟩ (.slice none 0 0) (-1)
        refine bodyPost_ret (v := .agg #[.string ⟨#[]⟩, .slice none 0 0, .int .i64 (-1)]) ?_ rfl (SaPost.dead (unhide HD) (hst.2.1.alloc hst.2.1.size _))
        have g0 := cell_block (i := 0) hst.1 rfl
        have g1 := cell_block (i := 1) hst.1 rfl
        have g2 := cell_block (i := 2) hst.1 rfl
        unfold putSt at g0 g1 g2
        simp [results, Tryd.results33, go_sem, g0, g1, g2, n6]
      · have HD : Hid (stRd P (n : Int) = x) := (unhide HZ).trans (by rw [hst]; rfl)
        have HOE := hide hoe
        have HA := hide ha
        have HS := hide hsx
        clear hst hoe ha hsx
        go_wp2_with fail
        have hst := put_stored (unhide HR1) (unhide HB1) a (.slice ao lo co) st
        refine bodyPost_ret (v := .agg #[.string a, .slice ao lo co, .int .i64 st]) ?_ rfl ⟨_, _, _, _, _, rfl, by rw [unhide HD]; exact unhide HA, by rw [unhide HD]; exact unhide HS, ?_, hst.2.1.alloc hst.2.1.size _⟩
        · have g0 := cell_block (i := 0) hst.1 rfl
          have g1 := cell_block (i := 1) hst.1 rfl
          have g2 := cell_block (i := 2) hst.1 rfl
          unfold putSt at g0 g1 g2
          simp [results, Tryd.results33, go_sem, g0, g1, g2, n6]
        · rw [unhide HD]
          have ho := unhide HOE
          have ho2 : (putSt w w1 a (.slice ao lo co) st).ownsRow w.heap.size 101 2 (.slice ao lo co) x.edges.length (edgeCells x.edges) :=
            own_mono (own_same ho (fun k hk => hst.2.2 k (by have := (ho.lt k hk).1; simp at this; omega))) (by simp)
          exact own_below ho2 ((Below.refl _ _).alloc (Nat.le_refl _) _)

/-- the state that a walk is in, in memory at block X; the pieces and the levels beside it -/
structure WkW (w wr : World) (X : Nat) (x : St) (a : ByteArray) (av : Option Addr) (lv cv : Nat) (st : Int) : Prop where
  at' : wr.heap[X]? = some (.cells #[.string a, .slice av lv cv, .int .i64 st] 72 (0, 0))
  ans : a.data.toList = x.ans
  star : st = x.star
  own : wr.ownsRow w.heap.size 101 2 (.slice av lv cv) x.edges.length (edgeCells x.edges)
  old : w.heap.size ≤ X
  below : Below w.heap.size w wr

theorem own_not3 {w : World} {B e sz n p t : Nat} {v : Value} {cs : Array Value} {xs : List Value} (h : w.ownsRow B e sz v n xs) (hp : w.heap[p]? = some (.cells cs t (0, 0))) (hne : e ≠ t) : v.ownBlock ≠ some p := by
  intro he
  obtain ⟨_, ⟨rfl, _⟩ | ⟨g, cap, cur, rfl, _, h4, _⟩⟩ := h
  · cases he
  · simp [Value.ownBlock] at he
    subst he
    rw [h4] at hp
    simp only [Option.some.injEq, Obj.cells.injEq] at hp
    exact hne hp.2.1

theorem own_set3 {w : World} {B e sz n p t i : Nat} {v u : Value} {cs : Array Value} {xs : List Value} (h : w.ownsRow B e sz v n xs) (hp : w.heap[p]? = some (.cells cs t (0, 0))) (hne : e ≠ t) : (w.setCell ⟨p, i, none⟩ u).ownsRow B e sz v n xs :=
  own_same h (fun k hk => Below.heap_setCell _ _ _ _ (fun he => own_not3 h hp hne (by rw [hk, he])))

/-- the world behind 's = ..' -/
def putX (X : Nat) (wr : World) (a : ByteArray) (v : Value) (st : Int) : World :=
  ((wr.setCell ⟨X, 0, none⟩ (.string a)).setCell ⟨X, 1, none⟩ v).setCell ⟨X, 2, none⟩ (.int .i64 st)

theorem putX_heap {X : Nat} {wr : World} {c0 c1 c2 : Value} {ty : TypeId} (hr : wr.heap[X]? = some (.cells #[c0, c1, c2] ty (0, 0))) (a : ByteArray) (v : Value) (st : Int) :
    (putX X wr a v st).heap[X]? = some (.cells #[.string a, v, .int .i64 st] ty (0, 0)) ∧ ∀ k, k ≠ X → (putX X wr a v st).heap[k]? = wr.heap[k]? := by
  unfold putX
  refine ⟨?_, fun k hk => ?_⟩
  · rw [heap_setCell_same _ _ 2 _ _ _ (heap_setCell_same _ _ 1 _ _ _ (heap_setCell_same _ _ 0 _ _ _ hr))]; rfl
  · rw [Below.heap_setCell _ _ _ _ hk, Below.heap_setCell _ _ _ _ hk, Below.heap_setCell _ _ _ _ hk]
theorem putX_below {X B : Nat} {w wr : World} (h : Below B w wr) (hX : B ≤ X) (a : ByteArray) (v : Value) (st : Int) : Below B w (putX X wr a v st) := by
  unfold putX; exact ((h.setCell hX _).setCell hX _).setCell hX _
theorem own_putX {X : Nat} {wr : World} {B e sz n : Nat} {c0 c1 c2 v0 : Value} {ty : TypeId} {xs : List Value} (hr : wr.heap[X]? = some (.cells #[c0, c1, c2] ty (0, 0))) (h : wr.ownsRow B e sz v0 n xs) (hne : e ≠ ty) (a : ByteArray) (v : Value) (st : Int) : (putX X wr a v st).ownsRow B e sz v0 n xs :=
  own_same h (fun k hk => (putX_heap hr a v st).2 k (fun he => own_not3 h hr hne (by rw [hk, he])))

/-- the state's place is written anew -/
theorem WkW.put {w wr w1 : World} {X : Nat} {x y : St} {a a' : ByteArray} {av av' : Option Addr} {lv cv lv' cv' : Nat} {st st' : Int} (h : WkW w wr X x a av lv cv st) (hb : Below wr.heap.size wr w1)
    (ha : a'.data.toList = y.ans) (hs : st' = y.star) (ho : w1.ownsRow wr.heap.size 101 2 (.slice av' lv' cv') y.edges.length (edgeCells y.edges)) : WkW w (putX X w1 a' (.slice av' lv' cv') st') X y a' av' lv' cv' st' := by
  have hx : w1.heap[X]? = some (.cells #[.string a, .slice av lv cv, .int .i64 st] 72 (0, 0)) := by rw [hb.block X (heap_lt h.at')]; exact h.at'
  exact ⟨(putX_heap hx _ _ _).1, ha, hs, own_mono (own_putX hx ho (by decide) _ _ _) h.below.size, h.old, putX_below (h.below.trans (hb.mono h.below.size)) h.old _ _ _⟩
theorem WkW.on {w wr w1 : World} {X : Nat} {x : St} {a : ByteArray} {av : Option Addr} {lv cv : Nat} {st : Int} (h : WkW w wr X x a av lv cv st) (hb : Below wr.heap.size wr w1) : WkW w w1 X x a av lv cv st :=
  ⟨by rw [hb.block X (heap_lt h.at')]; exact h.at', h.ans, h.star, own_below h.own hb, h.old, h.below.trans (hb.mono h.below.size)⟩


theorem stAt_len (xs : List St) (k : Int) (h : ∀ x ∈ xs, goodSt (xs.length : Int) x) : (stAt xs k).ans.length ≤ 80 := by
  unfold stAt
  split
  · simp [deadS]
  · cases hx : xs[k.toNat]? with
    | none => simp [deadS]
    | some x => exact (h x (List.mem_of_getElem? hx)).2.2.2.1

theorem walkS_on (xs : List St) (x : St) (T : List (List UInt8)) (n : Nat) (h : n < T.length) : walkS xs x (T.drop n) = walkS xs (stAt xs (followE x.edges x.star T[n])) (T.drop (n + 1)) := by
  rw [List.drop_eq_getElem_cons h]; rfl
theorem walkS_end (xs : List St) (x : St) (T : List (List UInt8)) (n : Nat) (h : ¬ n < T.length) : walkS xs x (T.drop n) = x := by
  rw [List.drop_eq_nil_of_le (by omega)]; rfl

/-- P8 in the program's words -/
theorem walkR_S (c t : ByteArray) (xs : List St) (h : c.size ≤ 40000) (h' : t.size ≤ 24) (hf : (codeR c.data.toList).1 = 0) (ht : (topicR t.data.toList).1 = 0) (hc : codeP c.data.toList = .ok xs) :
    walkR c.data.toList t.data.toList = (intsOf (walkS xs (stAt xs (if headI t.data.toList = 36 then 1 else 0)) (levs t.data.toList)).ans, 0, 0) := by
  rw [walkR_good c t xs h h' hf ht hc]
  obtain ⟨h2, hg⟩ := codeP_good _ _ hc
  rcases walkS_K xs (levs t.data.toList) (if headI t.data.toList = 36 then 1 else 0) (by split <;> omega) with hw | ⟨x, hx, hn⟩
  · rw [hw, stAt_ans]; rfl
  · exact absurd (hg x hx) hn

theorem pcs_le (c : ByteArray) (h : c.size ≤ 40000) : ∀ p ∈ pcs c.data.toList, p.length ≤ 1000000 := by
  intro p hp
  have := (pcs_len c.data.toList).1 p hp
  rw [len_list] at this; omega


set_option maxHeartbeats 8000000 in
set_option maxRecDepth 1000000 in
theorem hubWalk_good (c t : ByteArray) (w : World) (hc : c.size ≤ maxLen) (ht : t.size ≤ maxLen) (h1 : c.size ≤ 40000) (h2 : t.size ≤ 24) (h3 : (codeR c.data.toList).1 = 0) (h4 : (topicR t.data.toList).1 = 0) :
    Calls Tryd.prog 13 #[.string c, .string t] w (IntsPost w (walkR c.data.toList t.data.toList)) := by
  have b3 : ((codeR c.data.toList).1 != 0) = false := by simp [h3]
  have b4 : ((topicR t.data.toList).1 != 0) = false := by simp [h4]
  obtain ⟨_, xs, hxs⟩ := codeR_zero _ h3
  have HR := hide (walkR_S c t xs h1 h2 h3 h4 hxs)
  have HG := hide (codeP_good _ _ hxs).2
  have HRD := hide (stRd_xs _ _ hxs)
  have HPL := hide (pcs_le c h1)
  have HSP := hide (split_any 59 (by omega) c)
  rw [show ((59 : Nat) : Int) = 59 from rfl, ← pcs_split] at HSP
  generalize pcs c.data.toList = P at *
  have hlp := List.length_pos_iff.2 (levs_ne t.data.toList)
  have hlt := levs_count t.data.toList
  rw [len_list] at hlt
  clear h3 h4 hxs
  cases hd : (headI t.data.toList == 36)
  · rw [if_neg (by simpa using hd)] at HR
    go_enter Tryd.func13, Tryd.ntmps13
    go_wp2_with fail
    refine (hubCode_any c _ hc).mono ?_
    rintro e w1 ⟨rfl, hb1⟩
    go_wp2_with fail
    refine (hubTopic_any t _ ht).mono ?_
    rintro e w1' ⟨rfl, rfl⟩
    go_wp2_with fail
    refine (unhide HSP _ (by omega)).mono ?_
    rintro e w2 ⟨pv, rfl, hown2, hb2⟩
    have HB2 := hide (hb1.trans (hb2.mono hb1.size))
    have HP := hide (own_mono hown2 hb1.size)
    obtain ⟨pa, pl, pc, rfl⟩ := own_slice hown2
    clear hb1 hb2 hown2 HSP
    go_wp2_with fail
    refine (stateAt_any P _ 0 w.heap.size _ (unhide HP) (unhide HPL)).mono ?_
    rintro e w3 ⟨a, av, lv, cv, st, rfl, ha, hsx, hoe, hb3⟩
    rw [unhide HRD 0] at ha hsx hoe
    have hbx : Below w2.heap.size w2 (w3.alloc (.cells #[.string a, .slice av lv cv, .int .i64 st] 72)) := hb3.alloc hb3.size _
    have HWK : Hid (WkW w (w3.alloc (.cells #[.string a, .slice av lv cv, .int .i64 st] 72)) w3.heap.size (stAt xs 0) a av lv cv st) :=
      ⟨(MapKept.heap_alloc w3 _).1, ha, hsx, own_mono (own_below hoe ((Below.refl _ w3).alloc (Nat.le_refl _) _)) (unhide HB2).size, Nat.le_trans (unhide HB2).size hb3.size, (unhide HB2).trans (hbx.mono (unhide HB2).size)⟩
    replace HP := hide (own_below (unhide HP) hbx)
    clear ha hsx hoe hb3 hbx HB2
    go_wp2_with fail
    refine (begins_any t 36 _ ht (by omega)).mono ?_
    rintro e w4 ⟨rfl, rfl⟩
    rw [hd]
    generalize w3.alloc (.cells #[.string a, .slice av lv cv, .int .i64 st] 72) = wx at *
    generalize w3.heap.size = X at *
    have HT := hide (split_any 47 (by omega) t)
    rw [show ((47 : Nat) : Int) = 47 from rfl, ← levs_split] at HT
    generalize levs t.data.toList = T at *
    go_wp2_with fail
    refine (unhide HT _ (by omega)).mono ?_
    rintro e w5 ⟨tv, rfl, hown5, hb5⟩
    obtain ⟨gt, capt, rfl⟩ := own_form hown5 hlp
    have hcc := own_cap hown5
    unfold maxLen at hcc
    obtain ⟨hcap, hcap2⟩ := hcc
    have HT5 := hide (own_mono hown5 (unhide HWK).below.size)
    replace HWK := hide ((unhide HWK).on (by exact hb5))
    replace HP := hide (own_below (unhide HP) (by exact hb5))
    clear hown5 hb5 HT
    go_wp2_with fail
    go_loopg [12, 13, 51] T.length (fun gk _ _ i wr => ∃ (n : Nat) (x : St) (a : ByteArray) (av : Option Addr) (lv cv : Nat) (st : Int), n ≤ T.length ∧ gk = T.length - n ∧ i = .int .i64 n ∧ WkW w wr X x a av lv cv st ∧ x.ans.length ≤ 80 ∧ wr.ownsRow w.heap.size 9 1 (.slice pa pl pc) P.length (P.map strV) ∧ wr.ownsRow w.heap.size 9 1 (.slice (some ⟨gt, 0, none⟩) T.length capt) T.length (T.map strV) ∧ Hid (walkS xs (stAt xs 0) T = walkS xs x (T.drop n)))
    case atStart => exact ⟨0, _, _, _, _, _, _, by omega, by omega, rfl, unhide HWK, stAt_len xs _ (unhide HG), unhide HP, unhide HT5, hide rfl⟩
    case round =>
      obtain ⟨n, x, a, av, lv, cv, st, hn, rfl, rfl, hwk, hx80, hP, hT, HS⟩ := hrel
      clear HWK HP HT5
      have hxx := hwk.at'
      have f0 := free_block (i := 0) hxx
      have f1 := free_block (i := 1) hxx
      have f2 := free_block (i := 2) hxx
      have c0 := cell_block (i := 0) hxx rfl
      have c1 := cell_block (i := 1) hxx rfl
      have c2 := cell_block (i := 2) hxx rfl
      by_cases hnt : n < T.length
      · have hcell := own_str_at hT hnt
        have HSN := hide ((unhide HS).trans (walkS_on xs x T n hnt))
        have hes : (⟨T[n].toArray⟩ : ByteArray).data.toList = T[n] := by simp
        have HFO := hide (hubFollow_any a (.slice av lv cv) st ⟨T[n].toArray⟩ x.edges w.heap.size wr hwk.own)
        rw [hes, hwk.star] at HFO
        rw [← hwk.star] at HFO
        have HWK := hide hwk
        have HP := hide hP
        have HT := hide hT
        clear hwk hP hT hxx hes
        generalize (⟨T[n].toArray⟩ : ByteArray) = es at *
        go_wp2_with fail
        refine (unhide HFO).mono ?_
        rintro e w6 ⟨rfl, hb6⟩
        replace HWK := hide ((unhide HWK).on hb6)
        replace HP := hide (own_below (unhide HP) hb6)
        replace HT := hide (own_below (unhide HT) hb6)
        clear hb6 HFO f0 f1 f2 c0 c1 c2 hcell
        go_wp2_with fail
        refine (stateAt_any P _ _ w.heap.size _ (unhide HP) (unhide HPL)).mono ?_
        rintro e w7 ⟨a', av', lv', cv', st', rfl, ha, hsx, hoe, hb7⟩
        rw [unhide HRD _] at ha hsx hoe
        have hx7 := ((unhide HWK).on hb7).at'
        have f0 := free_block (i := 0) hx7
        have f1 := free_block (i := 1) hx7
        have f2 := free_block (i := 2) hx7
        have c0 := cell_block (i := 0) hx7 rfl
        have c1 := cell_block (i := 1) hx7 rfl
        have c2 := cell_block (i := 2) hx7 rfl
        have HWK2 := hide ((unhide HWK).put hb7 ha hsx hoe)
        replace HP := hide (own_putX hx7 (own_below (unhide HP) hb7) (by decide) a' (.slice av' lv' cv') st')
        replace HT := hide (own_putX hx7 (own_below (unhide HT) hb7) (by decide) a' (.slice av' lv' cv') st')
        rw [(unhide HWK).star] at HWK2
        clear ha hsx hoe hb7 hx7
        go_wp2_with fail
        go_roundg (T.length - (n + 1))
        case measure => omega
        case rel => exact ⟨n + 1, _, a', av', lv', cv', st', by omega, rfl, by go_num, unhide HWK2, stAt_len xs _ (unhide HG), unhide HP, unhide HT, HSN⟩
      · have HSN := hide ((unhide HS).trans (walkS_end xs x T n hnt))
        have HWK := hide hwk
        have hsz : a.size ≤ 1000 := by
          have := hwk.ans
          rw [← len_list, this]; omega
        clear hwk hP hT hxx
        go_wp2_with fail
        refine (whoOf_any a _ hsz).mono ?_
        rintro e w8 ⟨v, rfl, hown8, hb8⟩
        have hwb := (unhide HWK).below
        have HI : Hid (IntsPost w (walkR c.data.toList t.data.toList) (.returned (.tuple #[v, .int .i64 0, .int .i64 0])) w8) := by
          unfold Hid
          rw [unhide HR, unhide HSN, ← (unhide HWK).ans]
          exact ⟨v, rfl, own_mono (by simpa [intsOf] using hown8) hwb.size, hwb.trans (hb8.mono hwb.size)⟩
        clear hown8 hb8 hwb
        go_wp2_with fail
        go_ret3
        exact unhide HI
  · rw [if_pos (by simpa using hd)] at HR
    go_enter Tryd.func13, Tryd.ntmps13
    go_wp2_with fail
    refine (hubCode_any c _ hc).mono ?_
    rintro e w1 ⟨rfl, hb1⟩
    go_wp2_with fail
    refine (hubTopic_any t _ ht).mono ?_
    rintro e w1' ⟨rfl, rfl⟩
    go_wp2_with fail
    refine (unhide HSP _ (by omega)).mono ?_
    rintro e w2 ⟨pv, rfl, hown2, hb2⟩
    have HB2 := hide (hb1.trans (hb2.mono hb1.size))
    have HP := hide (own_mono hown2 hb1.size)
    obtain ⟨pa, pl, pc, rfl⟩ := own_slice hown2
    clear hb1 hb2 hown2 HSP
    go_wp2_with fail
    refine (stateAt_any P _ 0 w.heap.size _ (unhide HP) (unhide HPL)).mono ?_
    rintro e w3 ⟨a, av, lv, cv, st, rfl, ha, hsx, hoe, hb3⟩
    rw [unhide HRD 0] at ha hsx hoe
    have hbx : Below w2.heap.size w2 (w3.alloc (.cells #[.string a, .slice av lv cv, .int .i64 st] 72)) := hb3.alloc hb3.size _
    have HWK : Hid (WkW w (w3.alloc (.cells #[.string a, .slice av lv cv, .int .i64 st] 72)) w3.heap.size (stAt xs 0) a av lv cv st) :=
      ⟨(MapKept.heap_alloc w3 _).1, ha, hsx, own_mono (own_below hoe ((Below.refl _ w3).alloc (Nat.le_refl _) _)) (unhide HB2).size, Nat.le_trans (unhide HB2).size hb3.size, (unhide HB2).trans (hbx.mono (unhide HB2).size)⟩
    replace HP := hide (own_below (unhide HP) hbx)
    clear ha hsx hoe hb3 hbx HB2
    go_wp2_with fail
    refine (begins_any t 36 _ ht (by omega)).mono ?_
    rintro e w4 ⟨rfl, rfl⟩
    rw [hd]
    generalize w3.alloc (.cells #[.string a, .slice av lv cv, .int .i64 st] 72) = wx at *
    generalize w3.heap.size = X at *
    go_wp2_with fail
    refine (stateAt_any P _ 1 w.heap.size _ (unhide HP) (unhide HPL)).mono ?_
    rintro e w4 ⟨a', av', lv', cv', st', rfl, ha, hsx, hoe, hb4⟩
    rw [unhide HRD 1] at ha hsx hoe
    have hx4 := ((unhide HWK).on hb4).at'
    have f0 := free_block (i := 0) hx4
    have f1 := free_block (i := 1) hx4
    have f2 := free_block (i := 2) hx4
    have c0 := cell_block (i := 0) hx4 rfl
    have c1 := cell_block (i := 1) hx4 rfl
    have c2 := cell_block (i := 2) hx4 rfl
    have HWK2 := hide ((unhide HWK).put hb4 ha hsx hoe)
    replace HP := hide (own_putX hx4 (own_below (unhide HP) hb4) (by decide) a' (.slice av' lv' cv') st')
    clear ha hsx hoe hb4 HWK hx4
    have HT := hide (split_any 47 (by omega) t)
    rw [show ((47 : Nat) : Int) = 47 from rfl, ← levs_split] at HT
    generalize levs t.data.toList = T at *
    go_wp2_with fail
    refine (unhide HT _ (by omega)).mono ?_
    rintro e w5 ⟨tv, rfl, hown5, hb5⟩
    obtain ⟨gt, capt, rfl⟩ := own_form hown5 hlp
    have hcc := own_cap hown5
    unfold maxLen at hcc
    obtain ⟨hcap, hcap2⟩ := hcc
    have HT5 := hide (own_mono hown5 (unhide HWK2).below.size)
    have HWK := hide ((unhide HWK2).on (by exact hb5))
    replace HP := hide (own_below (unhide HP) (by exact hb5))
    clear hown5 hb5 HT
    go_wp2_with fail
    go_loopg [12, 13, 51] T.length (fun gk _ _ i wr => ∃ (n : Nat) (x : St) (a : ByteArray) (av : Option Addr) (lv cv : Nat) (st : Int), n ≤ T.length ∧ gk = T.length - n ∧ i = .int .i64 n ∧ WkW w wr X x a av lv cv st ∧ x.ans.length ≤ 80 ∧ wr.ownsRow w.heap.size 9 1 (.slice pa pl pc) P.length (P.map strV) ∧ wr.ownsRow w.heap.size 9 1 (.slice (some ⟨gt, 0, none⟩) T.length capt) T.length (T.map strV) ∧ Hid (walkS xs (stAt xs 1) T = walkS xs x (T.drop n)))
    case atStart => exact ⟨0, _, _, _, _, _, _, by omega, by omega, rfl, unhide HWK, stAt_len xs _ (unhide HG), unhide HP, unhide HT5, hide rfl⟩
    case round =>
      obtain ⟨n, x, a, av, lv, cv, st, hn, rfl, rfl, hwk, hx80, hP, hT, HS⟩ := hrel
      clear HWK HP HT5 HWK2 f0 f1 f2 c0 c1 c2
      have hxx := hwk.at'
      have f0 := free_block (i := 0) hxx
      have f1 := free_block (i := 1) hxx
      have f2 := free_block (i := 2) hxx
      have c0 := cell_block (i := 0) hxx rfl
      have c1 := cell_block (i := 1) hxx rfl
      have c2 := cell_block (i := 2) hxx rfl
      by_cases hnt : n < T.length
      · have hcell := own_str_at hT hnt
        have HSN := hide ((unhide HS).trans (walkS_on xs x T n hnt))
        have hes : (⟨T[n].toArray⟩ : ByteArray).data.toList = T[n] := by simp
        have HFO := hide (hubFollow_any a (.slice av lv cv) st ⟨T[n].toArray⟩ x.edges w.heap.size wr hwk.own)
        rw [hes, hwk.star] at HFO
        rw [← hwk.star] at HFO
        have HWK := hide hwk
        have HP := hide hP
        have HT := hide hT
        clear hwk hP hT hxx hes
        generalize (⟨T[n].toArray⟩ : ByteArray) = es at *
        go_wp2_with fail
        refine (unhide HFO).mono ?_
        rintro e w6 ⟨rfl, hb6⟩
        replace HWK := hide ((unhide HWK).on hb6)
        replace HP := hide (own_below (unhide HP) hb6)
        replace HT := hide (own_below (unhide HT) hb6)
        clear hb6 HFO f0 f1 f2 c0 c1 c2 hcell
        go_wp2_with fail
        refine (stateAt_any P _ _ w.heap.size _ (unhide HP) (unhide HPL)).mono ?_
        rintro e w7 ⟨a', av', lv', cv', st', rfl, ha, hsx, hoe, hb7⟩
        rw [unhide HRD _] at ha hsx hoe
        have hx7 := ((unhide HWK).on hb7).at'
        have f0 := free_block (i := 0) hx7
        have f1 := free_block (i := 1) hx7
        have f2 := free_block (i := 2) hx7
        have c0 := cell_block (i := 0) hx7 rfl
        have c1 := cell_block (i := 1) hx7 rfl
        have c2 := cell_block (i := 2) hx7 rfl
        have HWK2 := hide ((unhide HWK).put hb7 ha hsx hoe)
        replace HP := hide (own_putX hx7 (own_below (unhide HP) hb7) (by decide) a' (.slice av' lv' cv') st')
        replace HT := hide (own_putX hx7 (own_below (unhide HT) hb7) (by decide) a' (.slice av' lv' cv') st')
        rw [(unhide HWK).star] at HWK2
        clear ha hsx hoe hb7 hx7
        go_wp2_with fail
        go_roundg (T.length - (n + 1))
        case measure => omega
        case rel => exact ⟨n + 1, _, a', av', lv', cv', st', by omega, rfl, by go_num, unhide HWK2, stAt_len xs _ (unhide HG), unhide HP, unhide HT, HSN⟩
      · have HSN := hide ((unhide HS).trans (walkS_end xs x T n hnt))
        have HWK := hide hwk
        have hsz : a.size ≤ 1000 := by
          have := hwk.ans
          rw [← len_list, this]; omega
        clear hwk hP hT hxx
        go_wp2_with fail
        refine (whoOf_any a _ hsz).mono ?_
        rintro e w8 ⟨v, rfl, hown8, hb8⟩
        have hwb := (unhide HWK).below
        have HI : Hid (IntsPost w (walkR c.data.toList t.data.toList) (.returned (.tuple #[v, .int .i64 0, .int .i64 0])) w8) := by
          unfold Hid
          rw [unhide HR, unhide HSN, ← (unhide HWK).ans]
          exact ⟨v, rfl, own_mono (by simpa [intsOf] using hown8) hwb.size, hwb.trans (hb8.mono hwb.size)⟩
        clear hown8 hb8 hwb
        go_wp2_with fail
        go_ret3
        exact unhide HI

end Go.Proofs.YtchhmojnoiephaaDoor
