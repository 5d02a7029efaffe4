import Derived.Test.YtchhmojnoiephaaGreatDoorTabI
import Derived.Test.YtchhmojnoiephaaGreatDoorWalkD
/- The program's own table. -/
namespace Go.Proofs.YtchhmojnoiephaaGreatDoor
open Go.ChangeShapes Go.WideShapes Go.ChangeAt Go.RowKit
set_option linter.unusedVariables false

/-- the program's table in memory, at block p, with its blocks S -/
structure HTab (w : World) (p : Nat) (S : Nat → Prop) (L : List PairL) : Prop where
  body : ∃ v, w.heap[p]? = some (.cells #[v] 67 (0, 0)) ∧ w.ownsRow 0 85 2 v L.length (edgeCells L) ∧ ∀ k, v.ownBlock = some k → S k
  self : S p
  lt : ∀ k, S k → k < w.heap.size
  good : goodL L

/-- a call that leaves its blocks alone leaves the table alone -/
theorem HTab.kept {w w' : World} {p : Nat} {S T T' : Nat → Prop} {L : List PairL} (h : HTab w p S L) (hf : Fr T w w' T') (hd : ∀ k, S k → ¬ T k) : HTab w' p S L := by
  obtain ⟨v, h1, h2, h3⟩ := h.body
  refine ⟨⟨v, ?_, own_same h2 (fun k hk => hf.keep k (h.lt k (h3 k hk)) (hd k (h3 k hk))), h3⟩, h.self, fun k hk => Nat.lt_of_lt_of_le (h.lt k hk) hf.size, h.good⟩
  rw [hf.keep p (h.lt p h.self) (hd p h.self)]; exact h1
theorem HTab.below {w w' : World} {p : Nat} {S : Nat → Prop} {L : List PairL} (h : HTab w p S L) (hb : Below w.heap.size w w') : HTab w' p S L :=
  h.kept (Fr.of_below (S := fun _ => False) hb) (fun _ _ h => h)

set_option maxHeartbeats 400000 in
theorem hubNew_any (w : World) :
    Calls Tryz.prog 10 #[] w fun e w' => e = .returned (.pointer (some ⟨w.heap.size, 0, none⟩)) ∧ HTab w' w.heap.size (fun k => k = w.heap.size) [] ∧ Below w.heap.size w w' ∧ w'.heap.size = w.heap.size + 1 := by
  go_enter Tryz.func10, Tryz.ntmps10
  go_wp2_with fail
  go_ret
  refine ⟨rfl, ⟨⟨.slice none 0 0, (MapKept.heap_alloc w _).1, World.ownsRow_nil _ _ _ _, fun k hk => by cases hk⟩, rfl, fun k hk => by subst hk; simp, goodL_nil⟩, (Below.refl _ w).alloc (Nat.le_refl _) _, by simp⟩

theorem info_hpair : (Tryz.prog.info? 85).map (fun i => (i.zero, i.size, i.bytes)) = some (some (.agg #[.string ByteArray.empty, .int .i64 0]), 2, 24) := by kernel_rfl

/-- the table's list is another one now -/
theorem htab_store {w w2 : World} {p : Nat} {S : Nat → Prop} {L L' : List PairL} {v' : Value} (h : HTab w p S L) (hos : w2.os = w.os) (htp : w2.tape = w.tape) (hou : w2.output = w.output) (hsz : w.heap.size ≤ w2.heap.size)
    (hkeep : ∀ k, k < w.heap.size → (¬ S k ∨ k = p) → w2.heap[k]? = w.heap[k]?) (hown : w2.ownsRow 0 85 2 v' L'.length (edgeCells L')) (hmv : ∀ k, v'.ownBlock = some k → S k ∨ w.heap.size ≤ k) (hL : goodL L') :
    HTab (w2.setCell ⟨p, 0, none⟩ v') p (fun k => S k ∨ v'.ownBlock = some k) L' ∧ Fr S w (w2.setCell ⟨p, 0, none⟩ v') (fun k => S k ∨ v'.ownBlock = some k) := by
  obtain ⟨v, h1, h2, h3⟩ := h.body
  have hp := heap_lt h1
  have hp2 : w2.heap[p]? = some (.cells #[v] 67 (0, 0)) := by rw [hkeep p hp (Or.inr rfl)]; exact h1
  have hne := own_not hown hp2 (by decide)
  refine ⟨⟨⟨v', ?_, own_same hown (fun k hk => Below.heap_setCell _ _ _ _ (fun e => hne (by rw [hk, e]))), fun k hk => Or.inr hk⟩, Or.inl h.self, fun k hk => ?_, hL⟩, ⟨?_, ?_, ?_, ?_, fun k hk hn => ?_, fun k hk => ?_⟩⟩
  · rw [heap_setCell_same w2 p 0 _ _ v' hp2]; rfl
  · rcases hk with hk | hk
    · have := h.lt k hk; simp; omega
    · simpa using (hown.lt k hk).2
  · exact hos
  · exact htp
  · exact hou
  · simpa using hsz
  · rw [Below.heap_setCell _ _ _ _ (fun e => hn (by rw [e]; exact h.self))]
    exact hkeep k hk (Or.inl hn)
  · rcases hk with hk | hk
    · exact Or.inl hk
    · exact hmv k hk

/-- what Add and Drop answer: two numbers; the table is another one -/
def HPost (w : World) (p : Nat) (S : Nat → Prop) (r : (Int × Int) × List PairL) (e : Ending) (w' : World) : Prop :=
  e = .returned (.tuple #[.int .i64 r.1.1, .int .i64 r.1.2]) ∧ ∃ S', HTab w' p S' r.2 ∧ Fr S w w' S'

theorem HPost.same {w w' : World} {p : Nat} {S : Nat → Prop} {L : List PairL} {r : (Int × Int) × List PairL} {a b : Int} (h : HTab w p S L) (hb : Below w.heap.size w w') (hr : r = ((a, b), L)) : HPost w p S r (.returned (.tuple #[.int .i64 a, .int .i64 b])) w' := by
  subst hr; exact ⟨rfl, S, h.below hb, Fr.of_below hb⟩


/-- where a pair stands, from place i on; behind the last: nowhere -/
def fAt (x : PairL) : Nat → List PairL → Nat
  | i, [] => i
  | i, y :: L => if y = x then i else fAt x (i + 1) L

theorem fAt_hit (x : PairL) (i k : Nat) (L : List PairL) (h : k < L.length) (he : L[k] = x) : fAt x i (L.drop k) = i := by
  rw [List.drop_eq_getElem_cons h]; simp only [fAt]; rw [if_pos he]
theorem fAt_miss (x : PairL) (i k : Nat) (L : List PairL) (h : k < L.length) (he : ¬ L[k] = x) : fAt x i (L.drop k) = fAt x (i + 1) (L.drop (k + 1)) := by
  rw [List.drop_eq_getElem_cons h]; simp only [fAt]; rw [if_neg he]
theorem fAt_end (x : PairL) (i k : Nat) (L : List PairL) (h : ¬ k < L.length) : fAt x i (L.drop k) = i := by
  rw [List.drop_eq_nil_of_le (by omega)]; rfl
theorem fAt_none (x : PairL) (L : List PairL) : ∀ i, x ∉ L → fAt x i L = i + L.length := by
  induction L with
  | nil => intro i _; rfl
  | cons y L ih => intro i h; simp only [fAt]; rw [if_neg (fun e => h (by simp [e])), ih _ (fun hm => h (by simp [hm]))]; simp; omega
theorem fAt_some (x : PairL) (L : List PairL) : ∀ i, x ∈ L → ∃ k, k < L.length ∧ fAt x i L = i + k ∧ L[k]? = some x ∧ L.eraseIdx k = L.erase x := by
  induction L with
  | nil => intro i h; simp at h
  | cons y L ih =>
    intro i h
    by_cases hy : y = x
    · subst hy; exact ⟨0, by simp, by simp [fAt], by simp, by simp⟩
    · obtain ⟨k, h1, h2, h3, h4⟩ := ih (i + 1) (by rcases List.mem_cons.1 h with rfl | h
                                                   · exact absurd rfl hy
                                                   · exact h)
      refine ⟨k + 1, by simpa using h1, ?_, by simpa using h3, ?_⟩
      · simp only [fAt]; rw [if_neg hy, h2]; omega
      · rw [List.eraseIdx_cons_succ, h4, List.erase_cons_tail (by simpa using hy)]

set_option maxHeartbeats 400000 in
theorem checkPair_any (f : ByteArray) (who : Int) (w : World) (hf : f.size ≤ maxLen) :
    Calls Tryz.prog 35 #[.string f, .int .i64 who] w fun e w' => e = .returned (.tuple #[.int .i64 (askR f.data.toList who).1, .int .i64 (askR f.data.toList who).2]) ∧ w' = w := by
  by_cases h : (filterR f.data.toList).1 = 0
  · have hb : ((filterR f.data.toList).1 != 0) = false := by simp [h]
    by_cases h0 : who < 0
    · have HR : Hid (askR f.data.toList who = (4, 0)) := by unfold Hid askR; rw [if_neg (by simpa using h), if_pos (Or.inl h0)]
      clear h
      go_enter Tryz.func35, Tryz.ntmps35
      go_wp2_with (go_at_call 68; refine (hubFilter_any _ _ hf).mono ?_; rintro e w' ⟨rfl, rfl⟩)
      go_ret2
      exact ⟨ret_ints (unhide HR), rfl⟩
    · by_cases h1 : 16 ≤ who
      · have HR : Hid (askR f.data.toList who = (4, 0)) := by unfold Hid askR; rw [if_neg (by simpa using h), if_pos (Or.inr h1)]
        clear h
        go_enter Tryz.func35, Tryz.ntmps35
        go_wp2_with (go_at_call 68; refine (hubFilter_any _ _ hf).mono ?_; rintro e w' ⟨rfl, rfl⟩)
        go_ret2
        exact ⟨ret_ints (unhide HR), rfl⟩
      · have HR : Hid (askR f.data.toList who = (0, 0)) := by unfold Hid askR; rw [if_neg (by simpa using h), if_neg (by omega)]
        clear h
        go_enter Tryz.func35, Tryz.ntmps35
        go_wp2_with (go_at_call 68; refine (hubFilter_any _ _ hf).mono ?_; rintro e w' ⟨rfl, rfl⟩)
        go_ret2
        exact ⟨ret_ints (unhide HR), rfl⟩
  · have hb : ((filterR f.data.toList).1 != 0) = true := by simp [h]
    have HR : Hid (askR f.data.toList who = ((filterR f.data.toList).1, (filterR f.data.toList).2)) := by unfold Hid askR; rw [if_pos h]
    clear h
    go_enter Tryz.func35, Tryz.ntmps35
    go_wp2_with (go_at_call 68; refine (hubFilter_any _ _ hf).mono ?_; rintro e w' ⟨rfl, rfl⟩)
    go_ret2
    exact ⟨ret_ints (unhide HR), rfl⟩

set_option maxHeartbeats 1000000 in
theorem find_any (p : Nat) (S : Nat → Prop) (L : List PairL) (f : ByteArray) (who : Int) (w : World) (h : HTab w p S L) :
    Calls Tryz.prog 36 #[.pointer (some ⟨p, 0, none⟩), .string f, .int .i64 who] w fun e w' => e = .returned (.int .i64 ((fAt (f.data.toList, who) 0 L : Nat) : Int)) ∧ Below w.heap.size w w' := by
  obtain ⟨v, h1, h2, h3⟩ := h.body
  have hl := h.good.1
  have hp := heap_lt h1
  obtain ⟨av, lv, cv, rfl⟩ := own_slice h2
  have hlv : lv = L.length := own_len h2
  subst hlv
  have c0 := cell_block (i := 0) h1 rfl
  have H1 := hide h1
  have H2 := hide h2
  clear h h1 h2 h3
  go_enter Tryz.func36, Tryz.ntmps36
  go_wp2_with fail
  go_loopg [7, 8, 14] L.length (fun gk _ _ i wr => ∃ k : Nat, k ≤ L.length ∧ gk = L.length - k ∧ i = .int .i64 k ∧ Below w.heap.size w wr ∧ Hid (fAt (f.data.toList, who) 0 L = fAt (f.data.toList, who) k (L.drop k)))
  case atStart => exact ⟨0, by omega, by omega, rfl, Below.refl _ _, hide rfl⟩
  case round =>
    obtain ⟨k, hk, rfl, rfl, hb, HA⟩ := hrel
    have hbs := hb.size
    have c1 : wr.cell? ⟨p, 0, none⟩ = some (.slice av L.length cv) := (hb.cell (p := ⟨p, 0, none⟩) hp).trans c0
    by_cases hlt : k < L.length
    · obtain ⟨g, cap, hv⟩ := own_form (unhide H2) (by omega)
      simp only [Value.slice.injEq] at hv
      obtain ⟨rfl, _, rfl⟩ := hv
      have hcc := own_cap (unhide H2)
      unfold maxLen at hcc
      obtain ⟨hcap, hcap2⟩ := hcc
      obtain ⟨he1, he2⟩ := own_edge (own_below (unhide H2) hb) hlt
      have HB := hide hb
      clear hb
      by_cases hq : L[k] = (f.data.toList, who)
      · have HZ := hide ((unhide HA).trans (fAt_hit _ k k L hlt hq))
        have hb1 : ((⟨L[k].1.toArray⟩ : ByteArray).toList == f.toList) = true := by rw [hq]; simp [Lib.toList_data]
        have hb2 : (L[k].2 == who) = true := by rw [hq]; simp
        clear hq
        generalize (⟨L[k].1.toArray⟩ : ByteArray) = es at *
        generalize L[k].2 = eto at *
        go_wp2_with fail
        go_ret
        exact ⟨ret_int (by rw [unhide HZ]), (unhide HB).alloc hbs _⟩
      · have HZ := hide ((unhide HA).trans (fAt_miss _ k k L hlt hq))
        cases hb1 : ((⟨L[k].1.toArray⟩ : ByteArray).toList == f.toList)
        · clear hq
          generalize (⟨L[k].1.toArray⟩ : ByteArray) = es at *
          generalize L[k].2 = eto at *
          go_wp2_with fail
          go_roundg (L.length - (k + 1))
          case measure => omega
          case rel => exact ⟨k + 1, by omega, rfl, by go_num, (unhide HB).alloc hbs _, HZ⟩
        · have hb2 : (L[k].2 == who) = false := by
            rw [beq_eq_false_iff_ne]; intro he
            exact hq (Prod.ext (by simpa [Lib.toList_data] using hb1) he)
          clear hq
          generalize (⟨L[k].1.toArray⟩ : ByteArray) = es at *
          generalize L[k].2 = eto at *
          go_wp2_with fail
          go_roundg (L.length - (k + 1))
          case measure => omega
          case rel => exact ⟨k + 1, by omega, rfl, by go_num, (unhide HB).alloc hbs _, HZ⟩
    · have HZ := hide ((unhide HA).trans (fAt_end _ k k L hlt))
      have hke : k = L.length := by omega
      have HB := hide hb
      clear hb
      go_wp2_with fail
      go_ret
      exact ⟨ret_int (by rw [unhide HZ, hke]), unhide HB⟩

end Go.Proofs.YtchhmojnoiephaaGreatDoor
