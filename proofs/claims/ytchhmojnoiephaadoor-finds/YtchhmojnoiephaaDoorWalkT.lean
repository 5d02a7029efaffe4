import Derived.Test.YtchhmojnoiephaaDoorWalkS
import Derived.Test.YtchhmojnoiephaaDoorWalkL
/- The program's own reading of a state. -/
namespace Go.Proofs.YtchhmojnoiephaaDoor
open Go.ChangeShapes Go.WideShapes Go.ChangeAt Go.RowKit
set_option linter.unusedVariables false

/-- the two variables of 'readState' in memory: the result, not yet written, and s -/
structure StH (w wr : World) (a : ByteArray) (v : Value) (st : Int) : Prop where
  res : wr.heap[w.heap.size]? = some (.cells #[.string ⟨#[]⟩, .slice none 0 0, .int .i64 0] 72 (0, 0))
  x : wr.heap[w.heap.size + 1]? = some (.cells #[.string a, v, .int .i64 st] 72 (0, 0))
  size : w.heap.size + 2 ≤ wr.heap.size
  below : Below w.heap.size w wr

theorem StH.start (w : World) : StH w ((w.alloc (.cells #[.string ⟨#[]⟩, .slice none 0 0, .int .i64 0] 72)).alloc (.cells #[.string ⟨#[]⟩, .slice none 0 0, .int .i64 (-1)] 72)) ⟨#[]⟩ (.slice none 0 0) (-1) := by
  refine ⟨?_, ?_, by simp, ((Below.refl _ w).alloc (Nat.le_refl _) _).alloc (by simp) _⟩
  · rw [Below.heap_alloc _ _ _ (by simp)]; exact (MapKept.heap_alloc w _).1
  · have := (MapKept.heap_alloc (w.alloc (.cells #[.string ⟨#[]⟩, .slice none 0 0, .int .i64 0] 72)) (.cells #[.string ⟨#[]⟩, .slice none 0 0, .int .i64 (-1)] 72)).1
    simpa using this

theorem StH.set {w wr : World} {a a' : ByteArray} {v v' : Value} {st st' : Int} (h : StH w wr a v st) (i : Nat) (u : Value) (he : (#[.string a, v, .int .i64 st] : Array Value).setIfInBounds i u = #[.string a', v', .int .i64 st']) :
    StH w (wr.setCell ⟨w.heap.size + 1, i, none⟩ u) a' v' st' := by
  refine ⟨?_, ?_, by simpa using h.size, h.below.setCell (by simp) u⟩
  · rw [Below.heap_setCell _ _ _ _ (by simp)]; exact h.res
  · rw [heap_setCell_same wr _ i _ _ u h.x, he]

theorem StH.on {w wr w1 : World} {a : ByteArray} {v : Value} {st : Int} (h : StH w wr a v st) (hb : Below wr.heap.size wr w1) : StH w w1 a v st := by
  have hsz := h.size
  exact ⟨by rw [hb.block _ (by omega)]; exact h.res, by rw [hb.block _ (by omega)]; exact h.x, Nat.le_trans hsz hb.size, h.below.trans (hb.mono (by omega))⟩

theorem StH.append {w wr w1 : World} {a : ByteArray} {v : Value} {st : Int} {e sz n : Nat} {xs : List Value} {o : Obj} (h : StH w wr a v st) (hown : wr.ownsRow (w.heap.size + 2) e sz v n xs) (hg : (wr.alloc o).grownBy w1 v.ownBlock) : StH w w1 a v st := by
  have hsz := h.size
  refine ⟨?_, ?_, ?_, (h.below.alloc (by omega) o).grown hg (by simp; omega) (fun k hk => by have := (hown.lt k hk).1; omega)⟩
  · rw [hg.block _ (by simp; omega) (own_ne hown _ (by omega)), Below.heap_alloc _ _ _ (by omega)]; exact h.res
  · rw [hg.block _ (by simp; omega) (own_ne hown _ (by omega)), Below.heap_alloc _ _ _ (by omega)]; exact h.x
  · have := hg.size; simp at this; omega

/-- what 'readState' answers: a state and true; or whatever, and false -/
def RdPost (w : World) (L : List UInt8) (e : Ending) (w' : World) : Prop :=
  ∃ (a : ByteArray) (av : Option Addr) (lv cv : Nat) (st : Int) (ok : Bool), e = .returned (.tuple #[.agg #[.string a, .slice av lv cv, .int .i64 st], .bool ok]) ∧ Below w.heap.size w w' ∧
    ((ok = false ∧ stateP 1000 L = none) ∨ (ok = true ∧ ∃ x, stateP 1000 L = some x ∧ a.data.toList = x.ans ∧ st = x.star ∧ w'.ownsRow w.heap.size 101 2 (.slice av lv cv) x.edges.length (edgeCells x.edges)))

theorem RdPost.no {w w' : World} {L : List UInt8} {a : ByteArray} {av : Option Addr} {lv cv : Nat} {st : Int} (hb : Below w.heap.size w w') (h : stateP 1000 L = none) :
    RdPost w L (.returned (.tuple #[.agg #[.string a, .slice av lv cv, .int .i64 st], .bool false])) w' := ⟨a, av, lv, cv, st, false, rfl, hb, Or.inl ⟨rfl, h⟩⟩

theorem StH.stored {w wr : World} {a : ByteArray} {v : Value} {st : Int} (h : StH w wr a v st) :
    (putSt w wr a v st).heap[w.heap.size]? = some (.cells #[.string a, v, .int .i64 st] 72 (0, 0)) ∧ Below w.heap.size w (putSt w wr a v st) ∧ ∀ k, k ≠ w.heap.size → (putSt w wr a v st).heap[k]? = wr.heap[k]? := by
  unfold putSt
  refine ⟨?_, ((h.below.setCell (Nat.le_refl _) _).setCell (Nat.le_refl _) _).setCell (Nat.le_refl _) _, fun k hk => ?_⟩
  · rw [heap_setCell_same _ _ 2 _ _ _ (heap_setCell_same _ _ 1 _ _ _ (heap_setCell_same _ _ 0 _ _ _ h.res))]; rfl
  · rw [Below.heap_setCell _ _ _ _ hk, Below.heap_setCell _ _ _ _ hk, Below.heap_setCell _ _ _ _ hk]

theorem own_putH {w wr : World} {e sz n : Nat} {v v0 : Value} {xs : List Value} {a : ByteArray} {st : Int} (hw : StH w wr a v0 st) (h : wr.ownsRow (w.heap.size + 2) e sz v n xs) : (putSt w wr a v0 st).ownsRow w.heap.size e sz v n xs := by
  obtain ⟨h1, ⟨rfl, h2⟩ | ⟨g, cap, cur, rfl, h2, h3, h4⟩⟩ := h
  · exact ⟨h1, Or.inl ⟨rfl, h2⟩⟩
  · exact ⟨h1, Or.inr ⟨g, cap, cur, rfl, by omega, by rw [hw.stored.2.2 g (by omega)]; exact h3, h4⟩⟩

theorem info_hedge : (Tryd.prog.info? 101).map (fun i => (i.zero, i.size, i.bytes)) = some (some (.agg #[.string ByteArray.empty, .int .i64 0]), 2, 24) := by kernel_rfl

theorem lev_less (a b : ByteArray) (x y : List UInt8) (ha : a.data.toList = x) (hb : b.data.toList = y) : Go.Op.bytesLess a.toList b.toList = Go.Op.bytesLess x y := by
  rw [Lib.toList_data, Lib.toList_data, ha, hb]

set_option maxHeartbeats 1000000 in
theorem isAbove_any (l : ByteArray) (v : Value) (G : List (List UInt8 × Int)) (B : Nat) (w : World) (hG : G.length ≤ 1000000) (hown : w.ownsRow B 101 2 v G.length (edgeCells G)) :
    Calls Tryd.prog 52 #[.string l, v] w fun e w' => e = .returned (.bool (risesB G l.data.toList)) ∧ Below w.heap.size w w' := by
  rcases List.eq_nil_or_concat G with rfl | ⟨G', e, rfl⟩
  · obtain ⟨av, lv, cv, rfl⟩ := own_slice hown
    have hlv : lv = 0 := by
      obtain ⟨_, ⟨h0, _⟩ | ⟨g', cap', cur, he, _⟩⟩ := hown
      · simp only [Value.slice.injEq] at h0; exact h0.2.1
      · simp only [Value.slice.injEq] at he; simpa using he.2.1
    subst hlv
    clear hown
    go_enter Tryd.func52, Tryd.ntmps52
    go_wp2_with fail
    go_ret
    exact ⟨rfl, Below.refl _ _⟩
  · rw [List.concat_eq_append] at *
    obtain ⟨g, cap, rfl, hcap, hcap2, le, hlast, hle⟩ := last_level hown
    have hrs := risesB_snoc G' e l.data.toList
    have hbl := lev_less le l e.1 l.data.toList hle rfl
    unfold maxLen at hcap2
    simp only [List.length_append, List.length_singleton] at hG
    have hwl := wrap_small (G'.length : Int) (by omega) (by omega)
    rw [← hbl] at hrs
    have HR := hide hrs
    clear hown hrs hle hbl
    go_enter Tryd.func52, Tryd.ntmps52
    go_wp2_with fail
    go_ret
    exact ⟨ret_bool (by rw [unhide HR]; first | rfl | simp), Below.refl _ _⟩


/-- the world behind 'e := edge{level: ..}' and 'e.to = ..' -/
theorem below_edge (wr : World) (c : Array Value) (t : TypeId) (u : Value) : Below wr.heap.size wr ((wr.alloc (.cells c t)).setCell ⟨wr.heap.size, 1, none⟩ u) :=
  ((Below.refl _ wr).alloc (Nat.le_refl _) _).setCell (by simp) u

theorem rd_ans (s : ByteArray) (h : ansN 0 s.data.toList = none ∧ 65 ≤ headI (s.data.toList.drop (ansE 64 s.data.toList)) ∧ headI (s.data.toList.drop (ansE 64 s.data.toList)) ≤ 80) :
    ∃ hk : ansE 64 s.data.toList < s.size, 65 ≤ (s[ansE 64 s.data.toList].toNat : Int) ∧ (s[ansE 64 s.data.toList].toNat : Int) ≤ 80 := by
  have hk : ansE 64 s.data.toList < s.size := by
    refine Nat.lt_of_not_le fun hn => ?_
    have := head_end s (ansE 64 s.data.toList) (by omega)
    omega
  refine ⟨hk, ?_⟩
  rw [head_at s _ hk] at h
  exact h.2

set_option maxHeartbeats 4000000 in
set_option maxRecDepth 1000000 in
/-- letters that do not rise -/
theorem readState_no (s : ByteArray) (w : World) (hs : s.size ≤ 1000000) (hn : ansN 0 s.data.toList = none ∧ 65 ≤ headI (s.data.toList.drop (ansE 64 s.data.toList)) ∧ headI (s.data.toList.drop (ansE 64 s.data.toList)) ≤ 80) :
    Calls Tryd.prog 30 #[.string s] w (RdPost w s.data.toList) := by
  obtain ⟨hk, hc1, hc2⟩ := rd_ans s hn
  have HN := hide (stP_ans 1000 _ hn.1)
  have HAE := hide (answerEnd_any s)
  have HNB := hide (numB_no s _ 42 hk (by omega))
  generalize ansE 64 s.data.toList = k at *
  have b44 : ((s[k].toNat : Int) == 44) = false := by simp; omega
  have hpe : ((k : Int) == (s.size : Int)) = false := by simp; omega
  have hst := StH.start w
  clear hn hc1 hc2
  go_enter Tryd.func30, Tryd.ntmps30
  go_wp2_with fail
  refine (unhide HAE _ hs).mono ?_
  rintro e w1 ⟨rfl, rfl⟩
  generalize hW : ((w.alloc (.cells #[.string ⟨#[]⟩, .slice none 0 0, .int .i64 0] 72)).alloc (.cells #[.string ⟨#[]⟩, .slice none 0 0, .int .i64 (-1)] 72)) = wr at *
  have f0 := free_block (i := 0) hst.x
  have c0 := cell_block (i := 0) hst.x rfl
  have HST := hide hst
  clear hst hW
  go_wp2_with fail
  go_loopg [5, 6, 7] 0 (fun g a _ _ wl => a = .int .i64 k ∧ StH w wl (s.extract 0 k) (.slice none 0 0) (-1))
  case atStart => exact ⟨rfl, (unhide HST).set 0 _ rfl⟩
  case round =>
    obtain ⟨rfl, hw⟩ := hrel
    clear f0 c0 HST
    have f0 := free_block (i := 0) hw.x
    have f1 := free_block (i := 1) hw.x
    have f2 := free_block (i := 2) hw.x
    have c0 := cell_block (i := 0) hw.x rfl
    have c1 := cell_block (i := 1) hw.x rfl
    have c2 := cell_block (i := 2) hw.x rfl
    have r0 := free_block (i := 0) hw.res
    have r1 := free_block (i := 1) hw.res
    have r2 := free_block (i := 2) hw.res
    have q0 := cell_block (i := 0) hw.res rfl
    have q1 := cell_block (i := 1) hw.res rfl
    have q2 := cell_block (i := 2) hw.res rfl
    have HW := hide hw
    clear hw
    go_wp2_with fail
    refine (numberBehind_any s k 42 _ hs (by omega) (by omega)).mono ?_
    rintro e w2 ⟨rfl, rfl⟩
    rw [show ((42 : Nat) : Int) = 42 from rfl, unhide HNB]
    go_wp2_with fail
    have hst := ((unhide HW).set 2 (.int .i64 (-1)) rfl).stored
    refine bodyPost_ret (v := .tuple #[.agg #[.string (s.extract 0 k), .slice none 0 0, .int .i64 (-1)], .bool false]) ?_ rfl (RdPost.no hst.2.1 (unhide HN))
    have g0 := cell_block (i := 0) hst.1 rfl
    have g1 := cell_block (i := 1) hst.1 rfl
    have g2 := cell_block (i := 2) hst.1 rfl
    unfold putSt at g0 g1 g2
    simp [results, Tryd.results30, go_sem, g0, g1, g2]


theorem numB_off (s : ByteArray) (k : Nat) (m : Int) (hm : 0 ≤ m) (h : ∀ hk : k < s.size, ¬ (s[k].toNat : Int) = m) : numB (s.data.toList.drop k) m = -1 := by
  by_cases hk : k < s.size
  · exact numB_no s k m hk (h hk)
  · unfold numB; rw [if_neg (by rw [head_end s k hk]; omega)]
theorem numB_low (l : List UInt8) (m : Int) : -1 ≤ numB l m ∧ numB l m ≤ 999 := by
  unfold numB
  split
  · by_cases h : 0 ≤ dig3 l.tail
    · have := dig3_len _ h; omega
    · refine ⟨?_, by omega⟩
      unfold dig3 at h ⊢
      generalize l.tail = r at h ⊢
      match r with
      | [] => simp [digFrom]
      | [a] => simp only [digFrom]; split <;> simp
      | [a, b] => simp only [digFrom]; split <;> (try split) <;> simp
      | a :: b :: c :: r =>
        simp only [digFrom] at h ⊢
        split
        · split
          · split
            · omega
            · omega
          · omega
        · omega
  · omega

/-- one edge, in the program's words -/
theorem edges_step (f : Nat) (G : List (List UInt8 × Int)) (s : ByteArray) (p m : Nat) (hp : p < s.size) (h44 : (s[p].toNat : Int) = 44) (hf : s.size ≤ p + f) (hm : signLen (s.data.toList.drop (p + 1)) = m) :
    ∃ f', f = f' + 1 ∧ edgesP 1000 f G (s.data.toList.drop p) = if numB (s.data.toList.drop (p + 1 + m)) 62 = -1 then none else if risesB G ((s.data.toList.drop (p + 1)).take m) = true then edgesP 1000 f' (G ++ [((s.data.toList.drop (p + 1)).take m, numB (s.data.toList.drop (p + 1 + m)) 62)]) (s.data.toList.drop (p + m + 5)) else none := by
  obtain ⟨f', hf', he⟩ := edgesP_step 1000 f G s.data.toList p m (by rw [head_at s p hp]; exact h44) (by rw [len_list]; exact hf) hm
  refine ⟨f', hf', he.trans ?_⟩
  have hlow := numB_low (s.data.toList.drop (p + 1 + m)) 62
  unfold numB at hlow ⊢
  rw [List.tail_drop] at hlow ⊢
  by_cases h62 : headI (s.data.toList.drop (p + 1 + m)) = 62
  · rw [if_pos h62] at hlow
    simp only [if_pos h62]
    generalize dig3 (s.data.toList.drop (p + 1 + m + 1)) = d at *
    by_cases hd : d = -1
    · rw [if_pos hd, if_neg (by omega)]
    · rw [if_neg hd]
      by_cases hr : risesB G ((s.data.toList.drop (p + 1)).take m) = true
      · rw [if_pos ⟨by omega, by omega, hr⟩, if_pos hr]
      · rw [if_neg (fun h => hr h.2.2), if_neg hr]
  · simp only [if_neg h62]; rfl

/-- behind the edges, in the program's words -/
theorem star_read (s : ByteArray) (p : Nat) (hp : p ≤ s.size) : starP 1000 (s.data.toList.drop p) =
    if (if numB (s.data.toList.drop p) 42 = -1 then p else p + 4) = s.size then some (numB (s.data.toList.drop p) 42) else none := by
  have hlow := numB_low (s.data.toList.drop p) 42
  unfold starP
  unfold numB at hlow ⊢
  rw [List.length_drop, len_list]
  by_cases h42 : headI (s.data.toList.drop p) = 42
  · rw [if_pos h42] at hlow
    simp only [if_pos h42]
    have hpl : p < s.size := by
      refine Nat.lt_of_not_le fun hn => ?_
      rw [head_end s p (by omega)] at h42; omega
    generalize dig3 (s.data.toList.drop p).tail = d at *
    by_cases hd : d = -1
    · rw [if_neg (by omega), if_pos hd, if_neg (by omega)]
    · by_cases h4 : s.size - p = 4
      · rw [if_pos ⟨by omega, by omega, h4⟩, if_neg hd, if_pos (by omega)]
      · rw [if_neg (fun h => h4 h.2.2), if_neg hd, if_neg (by omega)]
  · simp only [if_neg h42]
    simp only [if_true]
    by_cases h0 : s.size - p = 0
    · rw [if_pos h0, if_pos (by omega)]
    · rw [if_neg h0, if_neg (by omega)]

set_option maxHeartbeats 8000000 in
set_option maxRecDepth 1000000 in
/-- letters that rise -/
theorem readState_yes (s : ByteArray) (w : World) (hs : s.size ≤ 1000000) (hn : ansN 0 s.data.toList = some (ansE 64 s.data.toList)) :
    Calls Tryd.prog 30 #[.string s] w (RdPost w s.data.toList) := by
  obtain ⟨i0, hi, hz0, hz1, hz2⟩ := info_parts info_hedge
  have HAN := hide hn
  have HAE := hide (answerEnd_any s)
  have hk := ansE_le 64 s.data.toList
  rw [len_list] at hk
  clear hn
  generalize ansE 64 s.data.toList = k at *
  have hst := StH.start w
  go_enter Tryd.func30, Tryd.ntmps30
  go_wp2_with fail
  refine (unhide HAE _ hs).mono ?_
  rintro e w1 ⟨rfl, rfl⟩
  generalize hW : ((w.alloc (.cells #[.string ⟨#[]⟩, .slice none 0 0, .int .i64 0] 72)).alloc (.cells #[.string ⟨#[]⟩, .slice none 0 0, .int .i64 (-1)] 72)) = wr at *
  have f0 := free_block (i := 0) hst.x
  have c0 := cell_block (i := 0) hst.x rfl
  have HST := hide hst
  clear hst hW HAE
  go_wp2_with fail
  go_loopg [5, 6, 7] (s.size - k) (fun g i _ _ wl => ∃ (p f : Nat) (G : List (List UInt8 × Int)) (v : Value), p ≤ s.size ∧ g = s.size - p ∧ i = .int .i64 p ∧ StH w wl (s.extract 0 k) v (-1) ∧ wl.ownsRow (w.heap.size + 2) 101 2 v G.length (edgeCells G) ∧ s.size ≤ p + f ∧ G.length ≤ p ∧ Hid (edgesP 1000 s.size [] (s.data.toList.drop k) = edgesP 1000 f G (s.data.toList.drop p)))
  case atStart => exact ⟨k, s.size, [], .slice none 0 0, hk, rfl, rfl, (unhide HST).set 0 _ rfl, own_set (World.ownsRow_nil _ _ _ _), by omega, by simp, hide rfl⟩
  case round =>
    obtain ⟨p, f, G, v, hp, rfl, rfl, hw, hown, hf, hG, HE⟩ := hrel
    clear f0 c0 HST
    obtain ⟨av, lv, cv, rfl⟩ := own_slice hown
    have f0 := free_block (i := 0) hw.x
    have f1 := free_block (i := 1) hw.x
    have f2 := free_block (i := 2) hw.x
    have c0 := cell_block (i := 0) hw.x rfl
    have c1 := cell_block (i := 1) hw.x rfl
    have c2 := cell_block (i := 2) hw.x rfl
    have r0 := free_block (i := 0) hw.res
    have r1 := free_block (i := 1) hw.res
    have r2 := free_block (i := 2) hw.res
    have q0 := cell_block (i := 0) hw.res rfl
    have q1 := cell_block (i := 1) hw.res rfl
    have q2 := cell_block (i := 2) hw.res rfl
    have hwsz := hw.size
    have HW := hide hw
    have HO := hide hown
    clear hw hown
    by_cases h44 : ∃ hlt : p < s.size, (s[p].toNat : Int) = 44
    · obtain ⟨hlt, h44⟩ := h44
      have b44 : ((s[p].toNat : Int) == 44) = true := by simp [h44]
      obtain ⟨f', hf', hstep⟩ := edges_step f G s p _ hlt h44 hf rfl
      have HF' : Hid (s.size ≤ p + 1 + f') := by unfold Hid; omega
      have hml := sgn_le s (p + 1) (by omega)
      have HSE := hide (signsEnd_any s (p + 1))
      generalize signLen (s.data.toList.drop (p + 1)) = m at *
      have HS := hide hstep
      have hnl := numB_low (s.data.toList.drop (p + 1 + m)) 62
      have HSH := hide (numB_short s (p + 1 + m) 62)
      have HNB := hide (numberBehind_any s (p + 1 + m) 62)
      rw [show ((62 : Nat) : Int) = 62 from rfl] at HNB
      generalize numB (s.data.toList.drop (p + 1 + m)) 62 = d at *
      have HLV := hide (lev_strV s p m)
      clear hstep h44 hf' hf
      go_wp2_with fail
      refine (unhide HSE _ hs (by omega)).mono ?_
      rintro e w2 ⟨rfl, rfl⟩
      go_wp2_with fail
      refine (unhide HNB _ hs (by omega) (by omega)).mono ?_
      rintro e w3 ⟨rfl, rfl⟩
      have HBE := hide ((Below.refl w2.heap.size w2).alloc (Nat.le_refl _) (.cells #[.string (s.extract (p + 1) (p + 1 + m)), .int .i64 d] 101))
      have n1 : ¬ w2.heap.size = w.heap.size + 1 := by omega
      have n2 : ¬ w.heap.size + 1 = w2.heap.size := by omega
      have n3 : ¬ w2.heap.size = w.heap.size := by omega
      have n4 : ¬ w.heap.size = w2.heap.size := by omega
      have n5 : w.heap.size + 1 < w2.heap.size := by omega
      have n6 : w.heap.size < w2.heap.size := by omega
      by_cases hd : d = -1
      · have HF : Hid (edgesP 1000 s.size [] (s.data.toList.drop k) = none) := (unhide HE).trans ((unhide HS).trans (by rw [if_pos hd]))
        subst hd
        go_wp2_with fail
        have hst := (unhide HW).stored
        refine bodyPost_ret (v := .tuple #[.agg #[.string (s.extract 0 k), .slice av lv cv, .int .i64 (-1)], .bool false]) ?_ rfl (RdPost.no (hst.2.1.alloc hst.2.1.size _) (stP_edge 1000 _ s.size k (by rw [len_list]) (unhide HAN) (unhide HF)))
        have g0 := cell_block (i := 0) hst.1 rfl
        have g1 := cell_block (i := 1) hst.1 rfl
        have g2 := cell_block (i := 2) hst.1 rfl
        unfold putSt at g0 g1 g2
        simp [results, Tryd.results30, go_sem, g0, g1, g2, n6]
      · have bd : (d == -1) = false := by simpa using hd
        replace HS := hide ((unhide HS).trans (by rw [if_neg hd]))
        have hd0 : 0 ≤ d := by omega
        have hsz5 : p + 1 + m + 4 ≤ s.size := by
          refine Nat.le_of_not_lt fun hn => hd (unhide HSH (by omega))
        clear hd
        go_wp2_with fail
        refine (isAbove_any _ _ G (w.heap.size + 2) _ (by omega) (own_below (unhide HO) (by exact unhide HBE))).mono ?_
        rintro e w4 ⟨rfl, hb4⟩
        rw [lev_eq']
        have e0 : w4.cell? ⟨w2.heap.size, 0, none⟩ = some (.string (s.extract (p + 1) (p + 1 + m))) := (hb4.cell (p := ⟨w2.heap.size, 0, none⟩) (by simp)).trans (by simp)
        have e1 : w4.cell? ⟨w2.heap.size, 1, none⟩ = some (.int .i64 d) := (hb4.cell (p := ⟨w2.heap.size, 1, none⟩) (by simp)).trans (by simp)
        have hb4s := hb4.size
        have hw24 : w2.heap.size < w4.heap.size := by simp at hb4s; omega
        replace HW := hide ((unhide HW).on ((unhide HBE).trans (hb4.mono (by simp))))
        replace HO := hide (own_below (unhide HO) ((unhide HBE).trans (hb4.mono (by simp))))
        have hw4 := unhide HW
        clear hb4 hb4s HBE n1 n2 n3 n4 n5 n6 f0 f1 f2 c0 c1 c2 r0 r1 r2 q0 q1 q2
        have f0 := free_block (i := 0) hw4.x
        have f1 := free_block (i := 1) hw4.x
        have f2 := free_block (i := 2) hw4.x
        have c0 := cell_block (i := 0) hw4.x rfl
        have c1 := cell_block (i := 1) hw4.x rfl
        have c2 := cell_block (i := 2) hw4.x rfl
        have r0 := free_block (i := 0) hw4.res
        have r1 := free_block (i := 1) hw4.res
        have r2 := free_block (i := 2) hw4.res
        have q0 := cell_block (i := 0) hw4.res rfl
        have q1 := cell_block (i := 1) hw4.res rfl
        have q2 := cell_block (i := 2) hw4.res rfl
        clear hw4
        cases hrs : risesB G ((s.data.toList.drop (p + 1)).take m)
        · have HF : Hid (edgesP 1000 s.size [] (s.data.toList.drop k) = none) := (unhide HE).trans ((unhide HS).trans (by rw [if_neg (by rw [hrs]; simp)]))
          go_wp2_with fail
          have hst := (unhide HW).stored
          refine bodyPost_ret (v := .tuple #[.agg #[.string (s.extract 0 k), .slice av lv cv, .int .i64 (-1)], .bool false]) ?_ rfl (RdPost.no hst.2.1 (stP_edge 1000 _ s.size k (by rw [len_list]) (unhide HAN) (unhide HF)))
          have g0 := cell_block (i := 0) hst.1 rfl
          have g1 := cell_block (i := 1) hst.1 rfl
          have g2 := cell_block (i := 2) hst.1 rfl
          unfold putSt at g0 g1 g2
          simp [results, Tryd.results30, go_sem, g0, g1, g2]
        · replace HS := hide ((unhide HS).trans (by rw [if_pos hrs]))
          go_wp2_with (at_builtin; refine wpList_append_own _ rfl _ _ 70 rfl (w.heap.size + 2) 101 i0 (.agg #[.string ByteArray.empty, .int .i64 0]) 2 24 Tryd.underlying70 hi hz0 hz1 hz2 rfl (by decide) _ _ _ rfl ((unhide HO).alloc _) ⟨w4.heap.size, 0, none⟩ 1 1 [.string (s.extract (p + 1) (p + 1 + m)), .int .i64 d] rfl rfl ?c1 ?c2 ?c3 ?c4 ?c5 ?_)
          case c1 =>
            intro j u hj
            match j, hj with
            | 0, hj => simp at hj; subst hj; simp [Addr.add]
            | 1, hj => simp at hj; subst hj; simp [Addr.add]
          case c2 => intro u hu; simp at hu; rcases hu with rfl | rfl <;> rfl
          case c3 => unfold maxLen; omega
          case c4 => omega
          case c5 => have := (unhide HW).size; simp; omega
          intro v' w5 hown' hgrow _
          have hw5 := (unhide HW).append (unhide HO) hgrow
          have hown5 : w5.ownsRow (w.heap.size + 2) 101 2 v' (G ++ [((s.data.toList.drop (p + 1)).take m, d)]).length (edgeCells (G ++ [((s.data.toList.drop (p + 1)).take m, d)])) := by
            rw [edgeCells_snoc, ← unhide HLV, List.length_append]; exact hown'
          clear hown' hgrow HO f0 f1 f2 c0 c1 c2 r0 r1 r2 q0 q1 q2 e0 e1
          have f1 := free_block (i := 1) hw5.x
          have c1 := cell_block (i := 1) hw5.x rfl
          generalize hN1 : (G ++ [((s.data.toList.drop (p + 1)).take m, d)]).length = N1 at hown5
          have HN1 := hide hN1
          clear hN1
          obtain ⟨g1, cap1, rfl⟩ := own_form hown5 (by have := unhide HN1; rw [List.length_append, List.length_singleton] at this; omega)
          have HW5 := hide hw5
          have HO5 := hide hown5
          clear hw5 hown5 HW
          go_wp2_with fail
          go_roundg (s.size - (p + m + 5))
          case measure => omega
          case rel => exact ⟨p + m + 5, f', G ++ [((s.data.toList.drop (p + 1)).take m, d)], _, by omega, rfl, by go_num, (unhide HW5).set 1 _ rfl, own_set (by rw [unhide HN1]; exact unhide HO5), by have := unhide HF'; omega, by rw [List.length_append, List.length_singleton]; omega, hide ((unhide HE).trans (unhide HS))⟩
    · have HEN : Hid (edgesP 1000 s.size [] (s.data.toList.drop k) = some (G, s.data.toList.drop p)) := (unhide HE).trans (edgesP_stop 1000 f G s.data.toList p (fun hh => h44 (by
        have hlt : p < s.size := Nat.lt_of_not_le fun hn => by rw [head_end s p (by omega)] at hh; omega
        rw [head_at s p hlt] at hh; exact ⟨hlt, hh⟩)) (by rw [len_list]; exact hf))
      have hsr := star_read s p hp
      have hnl := numB_low (s.data.toList.drop p) 42
      have HNB := hide (numberBehind_any s p 42)
      rw [show ((42 : Nat) : Int) = 42 from rfl] at HNB
      generalize numB (s.data.toList.drop p) 42 = d at *
      have HSR := hide hsr
      have hwd := wrap_small ((p : Int) + 4) (by omega) (by omega)
      clear hsr hf
      by_cases hlt : p < s.size
      · have b44 : ((s[p].toNat : Int) == 44) = false := by simp; exact fun h => h44 ⟨hlt, by omega⟩
        clear h44
        by_cases hd : d = -1
        · have hpe : ((p : Int) == (s.size : Int)) = false := by simp; omega
          have HF : Hid (stateP 1000 s.data.toList = none) := stP_star 1000 _ s.size k G _ (by rw [len_list]) (unhide HAN) (unhide HEN) ((unhide HSR).trans (by rw [if_pos hd, if_neg (by omega)]))
          subst hd
          go_wp2_with fail
          refine (unhide HNB _ hs (by omega) (by omega)).mono ?_
          rintro e w3 ⟨rfl, rfl⟩
          go_wp2_with fail
          have hst := ((unhide HW).set 2 (.int .i64 (-1)) rfl).stored
          refine bodyPost_ret (v := .tuple #[.agg #[.string (s.extract 0 k), .slice av lv cv, .int .i64 (-1)], .bool false]) ?_ rfl (RdPost.no hst.2.1 (unhide HF))
          have g0 := cell_block (i := 0) hst.1 rfl
          have g1 := cell_block (i := 1) hst.1 rfl
          have g2 := cell_block (i := 2) hst.1 rfl
          unfold putSt at g0 g1 g2
          simp [results, Tryd.results30, go_sem, g0, g1, g2]
        · have bd : (d != -1) = true := by simpa using hd
          by_cases he : p + 4 = s.size
          · have hpe : ((p : Int) + 4 == (s.size : Int)) = true := by simp; omega
            have HF : Hid (stateP 1000 s.data.toList = some ⟨s.data.toList.take k, G, d⟩) := stP_yes 1000 _ s.size k G _ d (by rw [len_list]) (unhide HAN) (unhide HEN) ((unhide HSR).trans (by rw [if_neg hd, if_pos he]))
            clear hd
            go_wp2_with fail
            refine (unhide HNB _ hs (by omega) (by omega)).mono ?_
            rintro e w3 ⟨rfl, rfl⟩
            go_wp2_with fail
            have hst := ((unhide HW).set 2 (.int .i64 d) rfl).stored
            refine bodyPost_ret (v := .tuple #[.agg #[.string (s.extract 0 k), .slice av lv cv, .int .i64 (d)], .bool true]) ?_ rfl (⟨_, _, _, _, _, _, rfl, hst.2.1, Or.inr ⟨rfl, _, unhide HF, cut_zero s k, rfl, own_putH ((unhide HW).set 2 (.int .i64 d) rfl) (own_set (unhide HO))⟩⟩)
            have g0 := cell_block (i := 0) hst.1 rfl
            have g1 := cell_block (i := 1) hst.1 rfl
            have g2 := cell_block (i := 2) hst.1 rfl
            unfold putSt at g0 g1 g2
            simp [results, Tryd.results30, go_sem, g0, g1, g2]
          · have hpe : ((p : Int) + 4 == (s.size : Int)) = false := by simp; omega
            have HF : Hid (stateP 1000 s.data.toList = none) := stP_star 1000 _ s.size k G _ (by rw [len_list]) (unhide HAN) (unhide HEN) ((unhide HSR).trans (by rw [if_neg hd, if_neg he]))
            clear hd
            go_wp2_with fail
            refine (unhide HNB _ hs (by omega) (by omega)).mono ?_
            rintro e w3 ⟨rfl, rfl⟩
            go_wp2_with fail
            have hst := ((unhide HW).set 2 (.int .i64 d) rfl).stored
            refine bodyPost_ret (v := .tuple #[.agg #[.string (s.extract 0 k), .slice av lv cv, .int .i64 (d)], .bool false]) ?_ rfl (RdPost.no hst.2.1 (unhide HF))
            have g0 := cell_block (i := 0) hst.1 rfl
            have g1 := cell_block (i := 1) hst.1 rfl
            have g2 := cell_block (i := 2) hst.1 rfl
            unfold putSt at g0 g1 g2
            simp [results, Tryd.results30, go_sem, g0, g1, g2]
      · have hpe : p = s.size := by omega
        clear h44
        have hd : d = -1 := by
          refine Classical.byContradiction fun hd => ?_
          have h := unhide HSR
          rw [if_neg hd, if_neg (by omega), List.drop_eq_nil_of_le (by rw [len_list]; omega)] at h
          simp [starP, headI] at h
        have HF : Hid (stateP 1000 s.data.toList = some ⟨s.data.toList.take k, G, -1⟩) := stP_yes 1000 _ s.size k G _ (-1) (by rw [len_list]) (unhide HAN) (unhide HEN) ((unhide HSR).trans (by rw [if_pos hd, if_pos (by omega), hd]))
        subst hd
        subst hpe
        go_wp2_with fail
        refine (unhide HNB _ hs (by omega) (by omega)).mono ?_
        rintro e w3 ⟨rfl, rfl⟩
        go_wp2_with fail
        have hst := ((unhide HW).set 2 (.int .i64 (-1)) rfl).stored
        refine bodyPost_ret (v := .tuple #[.agg #[.string (s.extract 0 k), .slice av lv cv, .int .i64 (-1)], .bool true]) ?_ rfl (⟨_, _, _, _, _, _, rfl, hst.2.1, Or.inr ⟨rfl, _, unhide HF, cut_zero s k, rfl, own_putH ((unhide HW).set 2 (.int .i64 (-1)) rfl) (own_set (unhide HO))⟩⟩)
        have g0 := cell_block (i := 0) hst.1 rfl
        have g1 := cell_block (i := 1) hst.1 rfl
        have g2 := cell_block (i := 2) hst.1 rfl
        unfold putSt at g0 g1 g2
        simp [results, Tryd.results30, go_sem, g0, g1, g2]

theorem readState_any (s : ByteArray) (w : World) (hs : s.size ≤ 1000000) : Calls Tryd.prog 30 #[.string s] w (RdPost w s.data.toList) := by
  rcases ans_read s.data.toList with h | h
  · exact readState_yes s w hs h
  · exact readState_no s w hs h

end Go.Proofs.YtchhmojnoiephaaDoor
