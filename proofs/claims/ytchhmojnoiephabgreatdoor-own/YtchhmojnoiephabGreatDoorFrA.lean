import Derived.Test.YtchhmojnoiephabGreatDoorWalkN
import Derived.Test.YtchhmojnoiephabGreatDoorPureG
/- Frames of a heap, rows that move, lists of numbers. -/
namespace Go.Proofs.YtchhmojnoiephabGreatDoor
open Go.ChangeShapes Go.WideShapes Go.ChangeAt Go.RowKit
set_option linter.unusedVariables false

theorem blk_lt {w : World} {a : Addr} {v : Value} (h : w.cell? a = some v) : a.block < w.heap.size := by
  refine Nat.lt_of_not_le fun hn => ?_
  unfold World.cell? at h
  rw [Array.getElem?_eq_none hn] at h
  simp at h

/-- a call has touched the blocks S alone; S' are those that are its object's behind it -/
structure Fr (S : Nat → Prop) (w w' : World) (S' : Nat → Prop) : Prop where
  os : w'.os = w.os
  tape : w'.tape = w.tape
  output : w'.output = w.output
  size : w.heap.size ≤ w'.heap.size
  keep : ∀ k, k < w.heap.size → ¬ S k → w'.heap[k]? = w.heap[k]?
  new : ∀ k, S' k → S k ∨ w.heap.size ≤ k

theorem Fr.of_below {S : Nat → Prop} {w w' : World} (h : Below w.heap.size w w') : Fr S w w' S := ⟨h.os, h.tape, h.output, h.size, fun k hk _ => h.block k hk, fun _ h => Or.inl h⟩
theorem Fr.trans {S S1 S2 : Nat → Prop} {w w1 w2 : World} (h : Fr S w w1 S1) (k : Fr S1 w1 w2 S2) : Fr S w w2 S2 :=
  ⟨k.os.trans h.os, k.tape.trans h.tape, k.output.trans h.output, Nat.le_trans h.size k.size,
   fun j hj hn => (k.keep j (Nat.lt_of_lt_of_le hj h.size) (fun hs => by rcases h.new j hs with h1 | h1; exact hn h1; omega)).trans (h.keep j hj hn),
   fun j hj => by rcases k.new j hj with h1 | h1; exact h.new j h1; exact Or.inr (Nat.le_trans h.size h1)⟩

theorem heap_lt {w : World} {k : Nat} {o : Obj} (h : w.heap[k]? = some o) : k < w.heap.size := by
  refine Nat.lt_of_not_le fun hn => ?_
  rw [Array.getElem?_eq_none hn] at h; cases h

theorem own_same {w w' : World} {B e sz n : Nat} {v : Value} {xs : List Value} (h : w.ownsRow B e sz v n xs) (hs : ∀ k, v.ownBlock = some k → w'.heap[k]? = w.heap[k]?) : w'.ownsRow B e sz v n xs := by
  obtain ⟨h1, h2 | ⟨g, cap, cur, rfl, h3, h4, h5⟩⟩ := h
  · exact ⟨h1, Or.inl h2⟩
  · exact ⟨h1, Or.inr ⟨g, cap, cur, rfl, h3, by rw [hs g rfl]; exact h4, h5⟩⟩

/-- append: the row stays in its block, or it moves to a new one -/
theorem run_append_moves {P : Program} (w : World) (t ty e : TypeId) (i : TypeInfo) (z : Value) (size bytes : Nat) (ht : P.underlying t = some (.slice e)) (hi : P.info? e = some i) (hz : i.zero = some z)
    (hsize : i.size = size) (hby : i.bytes = bytes) (hzs : z.cells.size = size) (hsz : 0 < size)
    (v : Value) (n : Nat) (xs : List Value) (hown : w.ownsRow 0 e size v n xs)
    (a : Addr) (m c : Nat) (news : List Value) (hl : news.length = m * size) (hnews : ∀ j u, news[j]? = some u → w.cell? (a.add j) = some u) (h1 : ∀ u ∈ news, u.oneCell' = true)
    (h63 : n + m ≤ maxLen) (hbytes : (n + m) * bytes ≤ 140737488355328) :
    ∃ v' w', (Builtin.append_ #[t, t] ty #[v, .slice (some a) m c]).run P w = .ok v' w' ∧ w'.ownsRow 0 e size v' (n + m) (xs ++ news) ∧ w.grownBy w' v.ownBlock ∧
      ∀ k, v'.ownBlock = some k → v.ownBlock = some k ∨ w.heap.size ≤ k := by
  obtain ⟨v', w', hr, ho, hg, _⟩ := run_append_own (P := P) w 0 t ty e i z size bytes ht hi hz hsize hby hzs hsz v n xs hown a m c news hl hnews h1 h63 hbytes (Nat.zero_le _)
  refine ⟨v', w', hr, ho, hg, fun k hk => ?_⟩
  rcases hown.2 with ⟨rfl, rfl⟩ | ⟨g, cap, cur, rfl, hbg, hgh, hnc, hcm, hcs, htake⟩
  · have hx : xs = [] := List.eq_nil_of_length_eq_zero (by simpa using hown.1)
    subst hx
    obtain ⟨v2, w2, hr2, ho2, _, _⟩ := run_append_own (P := P) w w.heap.size t ty e i z size bytes ht hi hz hsize hby hzs hsz _ 0 [] (World.ownsRow_nil w _ e size) a m c news hl hnews h1 h63 hbytes (Nat.le_refl _)
    rw [hr] at hr2
    cases hr2
    exact Or.inr (ho2.lt k hk).1
  · subst hsize
    subst hby
    by_cases hroom : n + m ≤ cap
    · have hfit : n * i.size + news.length ≤ cur.size := by rw [hl, hcs, ← Nat.add_mul]; exact Nat.mul_le_mul_right _ hroom
      have hr2 := run_append_room (P := P) w t ty e i ht hi g n cap cur hgh a m c news hl hnews h1 hroom hfit
      rw [hr] at hr2
      cases hr2
      exact Or.inl hk
    · have holds : ∀ j u, xs[j]? = some u → w.cell? ((⟨g, 0, none⟩ : Addr).add j) = some u := hown.cells (g := g) rfl
      have hr2 := run_append_grow (P := P) w t ty e i z ht hi hz ⟨g, 0, none⟩ n cap xs hown.1 holds a m c news hl hnews (by omega) (by simp only [maxLen] at h63; omega) (growslice_fits (by omega) hbytes)
      rw [hr] at hr2
      cases hr2
      refine Or.inr ?_
      simp [Value.ownBlock] at hk
      omega

theorem wpList_append_moves {P : Program} (w : World) {ops : Array Oper} {rest : List Oper} {o : Oper} {a : Act} {Q : Exit → Act → World → Prop} (hgd : o.guard = none) (s x : Operand) (t : TypeId)
    (ho : o.op = .call { callee := .builtin .append, args := #[s, x], argTypes := #[t, t] })
    (e : TypeId) (i : TypeInfo) (z : Value) (size bytes : Nat) (ht : P.underlying t = some (.slice e)) (hi : P.info? e = some i) (hz : i.zero = some z)
    (hsize : i.size = size) (hby : i.bytes = bytes) (hzs : z.cells.size = size) (hsz : 0 < size)
    (v : Value) (n : Nat) (xs : List Value) (hs : a.eval s = v) (hown : w.ownsRow 0 e size v n xs)
    (ad : Addr) (m c : Nat) (news : List Value) (hx : a.eval x = .slice (some ad) m c) (hl : news.length = m * size) (hnews : ∀ j u, news[j]? = some u → w.cell? (ad.add j) = some u) (h1 : ∀ u ∈ news, u.oneCell' = true)
    (h63 : n + m ≤ maxLen) (hbytes : (n + m) * bytes ≤ 140737488355328)
    (h : ∀ v' w', w'.ownsRow 0 e size v' (n + m) (xs ++ news) → w.grownBy w' v.ownBlock → (∀ k, v'.ownBlock = some k → v.ownBlock = some k ∨ w.heap.size ≤ k) → wpList P ops Q rest (a.put o.dst v') w') : wpList P ops Q (o :: rest) a w := by
  refine wpList_plain hgd fun K hK' => ?_
  obtain ⟨v', w', hrun, r1, r2, r3⟩ := run_append_moves (P := P) w t o.type e i z size bytes ht hi hz hsize hby hzs hsz v n xs hown ad m c news hl hnews h1 h63 hbytes
  unfold Oper.wp
  simp [execOp, ho, resolve, invoke, builtin, hs, hx, hrun, Result.andThen]
  exact hK' _ _ (h v' w' r1 r2 r3)

theorem own_len {w : World} {B e sz n l c : Nat} {a : Option Addr} {xs : List Value} (h : w.ownsRow B e sz (.slice a l c) n xs) : l = n := by
  obtain ⟨_, ⟨h0, hn⟩ | ⟨g', cap', cur, he, _⟩⟩ := h
  · simp only [Value.slice.injEq] at h0; omega
  · simp only [Value.slice.injEq] at he; exact he.2.1

theorem own_not {w : World} {B e sz n p t : Nat} {v u : Value} {xs : List Value} (h : w.ownsRow B e sz v n xs) (hp : w.heap[p]? = some (.cells #[u] t (0, 0))) (hne : e ≠ t) : v.ownBlock ≠ some p := by
  intro he
  obtain ⟨_, ⟨rfl, _⟩ | ⟨g, cap, cur, rfl, _, h4, _⟩⟩ := h
  · cases he
  · simp [Value.ownBlock] at he
    subst he
    rw [h4] at hp
    simp only [Option.some.injEq, Obj.cells.injEq] at hp
    exact hne hp.2.1

theorem addR_1 {L : List PairL} {f : List UInt8} {who : Int} (h : ¬ (askR f who).1 = 0) : addR L f who = (askR f who, L) := by unfold addR; rw [if_pos h]
theorem addR_2 {L : List PairL} {f : List UInt8} {who : Int} (h : (askR f who).1 = 0) (hm : (f, who) ∈ L) : addR L f who = ((5, 0), L) := by unfold addR; rw [if_neg (by simp [h]), if_pos hm]
theorem addR_3 {L : List PairL} {f : List UInt8} {who : Int} (h : (askR f who).1 = 0) (hm : (f, who) ∉ L) (hl : 6 ≤ L.length) : addR L f who = ((7, 0), L) := by unfold addR; rw [if_neg (by simp [h]), if_neg hm, if_pos hl]
theorem addR_4 {L : List PairL} {f : List UInt8} {who : Int} (h : (askR f who).1 = 0) (hm : (f, who) ∉ L) (hl : ¬ 6 ≤ L.length) : addR L f who = ((0, 0), L ++ [(f, who)]) := by unfold addR; rw [if_neg (by simp [h]), if_neg hm, if_neg hl]

theorem dropR_1 {L : List PairL} {f : List UInt8} {who : Int} (h : ¬ (askR f who).1 = 0) : dropR L f who = (askR f who, L) := by unfold dropR; rw [if_pos h]
theorem dropR_2 {L : List PairL} {f : List UInt8} {who : Int} (h : (askR f who).1 = 0) (hm : (f, who) ∉ L) : dropR L f who = ((6, 0), L) := by unfold dropR; rw [if_neg (by simp [h]), if_neg hm]
theorem dropR_3 {L : List PairL} {f : List UInt8} {who : Int} (h : (askR f who).1 = 0) (hm : (f, who) ∈ L) : dropR L f who = ((0, 0), L.erase (f, who)) := by unfold dropR; rw [if_neg (by simp [h]), if_pos hm]

/-- of the first k all but number i -/
def keepTo (L : List PairL) (i k : Nat) : List PairL := (L.take k).eraseIdx i
theorem keepTo_hit (L : List PairL) (i : Nat) (h : i < L.length) : keepTo L i (i + 1) = keepTo L i i := by
  unfold keepTo
  rw [List.take_succ_eq_append_getElem h, List.eraseIdx_append_of_length_le (by simp; omega), List.eraseIdx_of_length_le (l := L.take i) (by simp; omega)]
  simp
  omega
theorem keepTo_other (L : List PairL) (i k : Nat) (h : k < L.length) (hk : ¬ k = i) : keepTo L i (k + 1) = keepTo L i k ++ [L[k]] := by
  unfold keepTo
  rw [List.take_succ_eq_append_getElem h]
  by_cases hlt : i < k
  · rw [List.eraseIdx_append_of_lt_length (by simp; omega)]
  · rw [List.eraseIdx_of_length_le (by simp; omega), List.eraseIdx_of_length_le (by simp; omega)]
theorem keepTo_all (L : List PairL) (i : Nat) : keepTo L i L.length = L.eraseIdx i := by unfold keepTo; rw [List.take_length]
theorem keepTo_len (L : List PairL) (i k : Nat) : (keepTo L i k).length ≤ L.length := by
  unfold keepTo
  exact Nat.le_trans (List.length_eraseIdx_le _ _) (by simp; omega)

theorem hasW_step (L : List PairL) (t : List UInt8) (n : Int) (k : Nat) (h : k < L.length) : hasW (L.take (k + 1)) t n = (hasW (L.take k) t n || (L[k].2 == n && matchB L[k].1 t)) := by
  unfold hasW; rw [List.take_succ_eq_append_getElem h, List.any_append]; simp

def routeTo (L : List PairL) (t : List UInt8) (n : Nat) : List Int := ((List.range n).map (fun n : Nat => (n : Int))).filter (hasW L t)
theorem routeTo_succ (L : List PairL) (t : List UInt8) (n : Nat) : routeTo L t (n + 1) = if hasW L t (n : Int) then routeTo L t n ++ [(n : Int)] else routeTo L t n := by
  unfold routeTo; rw [List.range_succ, List.map_append, List.filter_append]
  cases hw : hasW L t (n : Int) <;> simp [hw]
theorem routeTo_len (L : List PairL) (t : List UInt8) (n : Nat) : (routeTo L t n).length ≤ n := by
  unfold routeTo; exact Nat.le_trans (List.length_filter_le _ _) (by simp)

theorem routeL_to (L : List PairL) (t : List UInt8) : routeL L t = routeTo L t 16 := rfl

/-- a slice of numbers that is read -/
def IntsAt (w : World) (v : Value) (xs : List Int) : Prop :=
  (v = .slice none 0 0 ∧ xs = []) ∨ ∃ b off cap, v = .slice (some ⟨b, off, none⟩) xs.length cap ∧ xs.length ≤ cap ∧ cap ≤ maxLen ∧ ∀ i (h : i < xs.length), w.cell? ⟨b, off + i, none⟩ = some (.int .i64 xs[i])

theorem IntsAt.of_own {w : World} {B e n : Nat} {v : Value} {xs : List Int} (h : w.ownsRow B e 1 v n (xs.map (Value.int .i64))) : IntsAt w v xs := by
  have hn : xs.length = n := by have := h.1; simpa using this
  subst hn
  have hc : ∀ g, v.ownBlock = some g → ∀ j u, (xs.map (Value.int .i64))[j]? = some u → w.cell? ((⟨g, 0, none⟩ : Addr).add j) = some u := fun g hg => h.cells hg
  obtain ⟨_, ⟨rfl, h0⟩ | ⟨g, cap, cur, rfl, _, _, h1, h2, _, _⟩⟩ := h
  · exact Or.inl ⟨rfl, List.length_eq_zero_iff.1 h0⟩
  · refine Or.inr ⟨g, 0, cap, rfl, h1, h2, fun i hi => ?_⟩
    have := hc g rfl i (.int .i64 xs[i]) (by simp [List.getElem?_eq_getElem hi])
    rw [add_at] at this
    simpa using this
theorem IntsAt.below {w w' : World} {v : Value} {xs : List Int} (h : IntsAt w v xs) (hb : Below w.heap.size w w') : IntsAt w' v xs := by
  rcases h with h | ⟨b, off, cap, rfl, h1, h2, h3⟩
  · exact Or.inl h
  · refine Or.inr ⟨b, off, cap, rfl, h1, h2, fun i hi => ?_⟩
    have hc := h3 i hi
    rw [hb.cell (p := ⟨b, off + i, none⟩) (blk_lt hc)]; exact hc
theorem IntsAt.form {w : World} {v : Value} {xs : List Int} (h : IntsAt w v xs) : ∃ a c, v = .slice a xs.length c ∧ xs.length ≤ maxLen := by
  rcases h with ⟨rfl, rfl⟩ | ⟨b, off, cap, rfl, h1, h2, h3⟩
  · exact ⟨none, 0, rfl, by simp⟩
  · exact ⟨_, cap, rfl, Nat.le_trans h1 h2⟩

def sameL (a b : List Int) : Bool := a == b

theorem same_step (xs ys : List Int) (k : Nat) (h1 : k < xs.length) (h2 : k < ys.length) : sameL (xs.drop k) (ys.drop k) = if (xs[k] != ys[k]) = true then false else sameL (xs.drop (k + 1)) (ys.drop (k + 1)) := by
  unfold sameL
  rw [List.drop_eq_getElem_cons h1, List.drop_eq_getElem_cons h2]
  by_cases he : xs[k] = ys[k]
  · rw [if_neg (by simp [he]), Bool.eq_iff_iff, beq_iff_eq, beq_iff_eq]
    exact ⟨fun h => (List.cons.inj h).2, fun h => by rw [he, h]⟩
  · rw [if_pos (by simpa using he), Bool.eq_false_iff]
    exact fun h => he (List.cons.inj (beq_iff_eq.1 h)).1

set_option maxHeartbeats 1000000 in
theorem same_any (v1 v2 : Value) (xs ys : List Int) (w : World) (h1 : IntsAt w v1 xs) (h2 : IntsAt w v2 ys) :
    Calls Tryz.prog 13 #[v1, v2] w fun e w' => e = .returned (.bool (sameL xs ys)) ∧ ∃ n, w' = w.drewN n := by
  obtain ⟨a1, c1, rfl, hl1⟩ := h1.form
  obtain ⟨a2, c2, rfl, hl2⟩ := h2.form
  unfold maxLen at hl1 hl2
  by_cases hl : xs.length = ys.length
  · have hbl : ((xs.length : Int) != (ys.length : Int)) = false := by simp [hl]
    have HL := hide hl
    have HX := hide h1
    have HY := hide h2
    clear hl h1 h2
    go_enter Tryz.func13, Tryz.ntmps13
    go_wp2_with fail
    go_loopg [5] xs.length (fun gk i wr => ∃ k m : Nat, k ≤ xs.length ∧ gk = xs.length - k ∧ i = .int .i64 k ∧ wr = w.drewN m ∧ Hid (sameL xs ys = sameL (xs.drop k) (ys.drop k)))
    case atStart => exact ⟨0, 0, by omega, by omega, rfl, rfl, hide rfl⟩
    case round =>
      obtain ⟨k, m, hk, rfl, rfl, rfl, HS⟩ := hrel
      by_cases hlt : k < xs.length
      · have hlt2 : k < ys.length := by have := unhide HL; omega
        have HST := hide (same_step xs ys k hlt hlt2)
        rcases unhide HX with ⟨_, hx0⟩ | ⟨b1, o1, p1, he1, hc1, hm1, hx⟩
        · subst hx0; simp at hlt
        rcases unhide HY with ⟨_, hy0⟩ | ⟨b2, o2, p2, he2, hc2, hm2, hy⟩
        · subst hy0; simp at hlt2
        simp only [Value.slice.injEq] at he1 he2
        obtain ⟨rfl, _, rfl⟩ := he1
        obtain ⟨rfl, _, rfl⟩ := he2
        have hcx := hx k hlt
        have hcy := hy k hlt2
        unfold maxLen at hm1 hm2
        clear hx hy
        cases hq : (xs[k] != ys[k])
        · rw [hq] at HST
          generalize xs[k] = xk at *
          generalize ys[k] = yk at *
          go_wp2_with fail
          go_quiet (fail)
          go_wp2_with fail
          go_roundg (xs.length - (k + 1))
          case measure => omega
          case rel => exact ⟨k + 1, _, by omega, rfl, by go_num, rfl, hide ((unhide HS).trans (unhide HST))⟩
        · rw [hq] at HST
          generalize xs[k] = xk at *
          generalize ys[k] = yk at *
          go_wp2_with fail
          go_quiet (fail)
          go_wp2_with fail
          go_ret
          exact ⟨ret_bool ((unhide HS).trans (unhide HST)).symm, _, World.drewN_drewN _ _ _⟩
      · have HZ : Hid (sameL xs ys = true) := by
          unfold Hid; rw [unhide HS, List.drop_eq_nil_of_le (by omega), List.drop_eq_nil_of_le (by have := unhide HL; omega)]; rfl
        go_wp2_with fail
        go_ret
        exact ⟨ret_bool (unhide HZ).symm, _, rfl⟩
  · have hbl : ((xs.length : Int) != (ys.length : Int)) = true := by simp; omega
    have HZ : Hid (sameL xs ys = false) := by
      unfold Hid sameL; rw [Bool.eq_false_iff]; intro h; exact hl (by rw [beq_iff_eq.1 h])
    clear hl h1 h2
    go_enter Tryz.func13, Tryz.ntmps13
    go_wp2_with fail
    go_ret
    exact ⟨ret_bool (unhide HZ).symm, 0, rfl⟩


end Go.Proofs.YtchhmojnoiephabGreatDoor
