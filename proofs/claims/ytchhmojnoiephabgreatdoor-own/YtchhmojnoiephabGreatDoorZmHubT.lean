import Derived.Test.YtchhmojnoiephabGreatDoorTabI
import Derived.Test.YtchhmojnoiephabGreatDoorWalkD
import Derived.Test.YtchhmojnoiephabGreatDoorPureC
import Derived.Deep.RegionWith
/- The program's own table. -/
namespace Go.Proofs.YtchhmojnoiephabGreatDoor
open Go.ChangeShapes Go.WideShapes Go.ChangeAt Go.RowKit
set_option linter.unusedVariables false

/-- the program's table in memory, at block p, with its blocks S -/
structure HTab (w : World) (p : Nat) (S : Nat → Prop) (L : List PairL) : Prop where
  body : ∃ v, w.heap[p]? = some (.cells #[v] 63 (0, 0)) ∧ w.ownsRow 0 102 2 v L.length (edgeCells L) ∧ ∀ k, v.ownBlock = some k → S k
  self : S p
  lt : ∀ k, S k → k < w.heap.size
  good : goodL L

/-- a call that leaves its blocks alone leaves the table alone -/
theorem HTab.kept {w w' : World} {p : Nat} {S T T' : Nat → Prop} {L : List PairL} (h : HTab w p S L) (hf : Fr T w w' T') (hd : ∀ k, S k → ¬ T k) : HTab w' p S L := by
  obtain ⟨v, h1, h2, h3⟩ := h.body
  refine ⟨⟨v, ?_, own_same h2 (fun k hk => hf.keep k (h.lt k (h3 k hk)) (hd k (h3 k hk))), h3⟩, h.self, fun k hk => Nat.lt_of_lt_of_le (h.lt k hk) hf.size, h.good⟩
  rw [hf.keep p (h.lt p h.self) (hd p h.self)]; exact h1
theorem HTab.below {w w' : World} {p : Nat} {S : Nat → Prop} {L : List PairL} (h : HTab w p S L) (hb : Below w.heap.size w w') : HTab w' p S L :=
  h.kept (Fr.of_below (S := fun _ => False) hb) (fun _ _ h => h)

set_option maxHeartbeats 400000 in
theorem hubNew_any (w : World) :
    Calls Tryz.prog 7 #[] w fun e w' => e = .returned (.pointer (some ⟨w.heap.size, 0, none⟩)) ∧ HTab w' w.heap.size (fun k => k = w.heap.size) [] ∧ Below w.heap.size w w' ∧ w'.heap.size = w.heap.size + 1 := by
  go_enter Tryz.func7, Tryz.ntmps7
  go_wp2_with fail
  go_ret
  refine ⟨rfl, ⟨⟨.slice none 0 0, (MapKept.heap_alloc w _).1, World.ownsRow_nil _ _ _ _, fun k hk => by cases hk⟩, rfl, fun k hk => by subst hk; simp, goodL_nil⟩, (Below.refl _ w).alloc (Nat.le_refl _) _, by simp⟩

theorem info_hpair : (Tryz.prog.info? 102).map (fun i => (i.zero, i.size, i.bytes)) = some (some (.agg #[.string ByteArray.empty, .int .i64 0]), 2, 24) := by kernel_rfl

/-- the table's list is another one now -/
theorem htab_store {w w2 : World} {p : Nat} {S : Nat → Prop} {L L' : List PairL} {v' : Value} (h : HTab w p S L) (hos : w2.os = w.os) (htp : w2.tape = w.tape) (hou : w2.output = w.output) (hsz : w.heap.size ≤ w2.heap.size)
    (hkeep : ∀ k, k < w.heap.size → (¬ S k ∨ k = p) → w2.heap[k]? = w.heap[k]?) (hown : w2.ownsRow 0 102 2 v' L'.length (edgeCells L')) (hmv : ∀ k, v'.ownBlock = some k → S k ∨ w.heap.size ≤ k) (hL : goodL L') :
    HTab (w2.setCell ⟨p, 0, none⟩ v') p (fun k => S k ∨ v'.ownBlock = some k) L' ∧ Fr S w (w2.setCell ⟨p, 0, none⟩ v') (fun k => S k ∨ v'.ownBlock = some k) := by
  obtain ⟨v, h1, h2, h3⟩ := h.body
  have hp := heap_lt h1
  have hp2 : w2.heap[p]? = some (.cells #[v] 63 (0, 0)) := by rw [hkeep p hp (Or.inr rfl)]; exact h1
  have hne := own_not hown hp2 (by decide)
  refine ⟨⟨⟨v', ?_, own_same hown (fun k hk => Below.heap_setCell _ _ _ _ (fun e => hne (by rw [hk, e]))), fun k hk => Or.inr hk⟩, Or.inl h.self, fun k hk => ?_, hL⟩, ⟨?_, ?_, ?_, ?_, fun k hk hn => ?_, fun k hk => ?_⟩⟩
  · rw [heap_setCell_same w2 p 0 _ _ v' hp2]; rfl
  · rcases hk with hk | hk
    · have := h.lt k hk; simp; omega
    · simpa using (hown.lt k hk).2
  · exact hos
  · exact htp
  · exact hou
  · simpa using hsz
  · rw [Below.heap_setCell _ _ _ _ (fun e => hn (by rw [e]; exact h.self))]
    exact hkeep k hk (Or.inl hn)
  · rcases hk with hk | hk
    · exact Or.inl hk
    · exact hmv k hk

/-- what Add and Drop answer: two numbers; the table is another one -/
def HPost (w : World) (p : Nat) (S : Nat → Prop) (r : (Int × Int) × List PairL) (e : Ending) (w' : World) : Prop :=
  e = .returned (.tuple #[.int .i64 r.1.1, .int .i64 r.1.2]) ∧ ∃ S', HTab w' p S' r.2 ∧ Fr S w w' S'

theorem HPost.same {w w' : World} {p : Nat} {S : Nat → Prop} {L : List PairL} {r : (Int × Int) × List PairL} {a b : Int} (h : HTab w p S L) (hb : Below w.heap.size w w') (hr : r = ((a, b), L)) : HPost w p S r (.returned (.tuple #[.int .i64 a, .int .i64 b])) w' := by
  subst hr; exact ⟨rfl, S, h.below hb, Fr.of_below hb⟩


/-- where a pair stands, from place i on; behind the last: nowhere -/
def fAt (x : PairL) : Nat → List PairL → Nat
  | i, [] => i
  | i, y :: L => if y = x then i else fAt x (i + 1) L

theorem fAt_hit (x : PairL) (i k : Nat) (L : List PairL) (h : k < L.length) (he : L[k] = x) : fAt x i (L.drop k) = i := by
  rw [List.drop_eq_getElem_cons h]; simp only [fAt]; rw [if_pos he]
theorem fAt_miss (x : PairL) (i k : Nat) (L : List PairL) (h : k < L.length) (he : ¬ L[k] = x) : fAt x i (L.drop k) = fAt x (i + 1) (L.drop (k + 1)) := by
  rw [List.drop_eq_getElem_cons h]; simp only [fAt]; rw [if_neg he]
theorem fAt_end (x : PairL) (i k : Nat) (L : List PairL) (h : ¬ k < L.length) : fAt x i (L.drop k) = i := by
  rw [List.drop_eq_nil_of_le (by omega)]; rfl
theorem fAt_none (x : PairL) (L : List PairL) : ∀ i, x ∉ L → fAt x i L = i + L.length := by
  induction L with
  | nil => intro i _; rfl
  | cons y L ih => intro i h; simp only [fAt]; rw [if_neg (fun e => h (by simp [e])), ih _ (fun hm => h (by simp [hm]))]; simp; omega
theorem fAt_some (x : PairL) (L : List PairL) : ∀ i, x ∈ L → ∃ k, k < L.length ∧ fAt x i L = i + k ∧ L[k]? = some x ∧ L.eraseIdx k = L.erase x := by
  induction L with
  | nil => intro i h; simp at h
  | cons y L ih =>
    intro i h
    by_cases hy : y = x
    · subst hy; exact ⟨0, by simp, by simp [fAt], by simp, by simp⟩
    · obtain ⟨k, h1, h2, h3, h4⟩ := ih (i + 1) (by rcases List.mem_cons.1 h with rfl | h
                                                   · exact absurd rfl hy
                                                   · exact h)
      refine ⟨k + 1, by simpa using h1, ?_, by simpa using h3, ?_⟩
      · simp only [fAt]; rw [if_neg hy, h2]; omega
      · rw [List.eraseIdx_cons_succ, h4, List.erase_cons_tail (by simpa using hy)]

set_option maxHeartbeats 400000 in
theorem checkPair_any (f : ByteArray) (who : Int) (w : World) (hf : f.size ≤ maxLen) :
    Calls Tryz.prog 80 #[.string f, .int .i64 who] w fun e w' => e = .returned (.tuple #[.int .i64 (askR f.data.toList who).1, .int .i64 (askR f.data.toList who).2]) ∧ w' = w := by
  by_cases h : (filterR f.data.toList).1 = 0
  · have hb : ((filterR f.data.toList).1 != 0) = false := by simp [h]
    by_cases h0 : who < 0
    · have HR : Hid (askR f.data.toList who = (4, 0)) := by unfold Hid askR; rw [if_neg (by simpa using h), if_pos (Or.inl h0)]
      clear h
      go_enter Tryz.func80, Tryz.ntmps80
      go_wp2_with (go_at_call 92; refine (hubFilter_any _ _ hf).mono ?_; rintro e w' ⟨rfl, rfl⟩)
      go_ret2
      exact ⟨ret_ints (unhide HR), rfl⟩
    · by_cases h1 : 16 ≤ who
      · have HR : Hid (askR f.data.toList who = (4, 0)) := by unfold Hid askR; rw [if_neg (by simpa using h), if_pos (Or.inr h1)]
        clear h
        go_enter Tryz.func80, Tryz.ntmps80
        go_wp2_with (go_at_call 92; refine (hubFilter_any _ _ hf).mono ?_; rintro e w' ⟨rfl, rfl⟩)
        go_ret2
        exact ⟨ret_ints (unhide HR), rfl⟩
      · have HR : Hid (askR f.data.toList who = (0, 0)) := by unfold Hid askR; rw [if_neg (by simpa using h), if_neg (by omega)]
        clear h
        go_enter Tryz.func80, Tryz.ntmps80
        go_wp2_with (go_at_call 92; refine (hubFilter_any _ _ hf).mono ?_; rintro e w' ⟨rfl, rfl⟩)
        go_ret2
        exact ⟨ret_ints (unhide HR), rfl⟩
  · have hb : ((filterR f.data.toList).1 != 0) = true := by simp [h]
    have HR : Hid (askR f.data.toList who = ((filterR f.data.toList).1, (filterR f.data.toList).2)) := by unfold Hid askR; rw [if_pos h]
    clear h
    go_enter Tryz.func80, Tryz.ntmps80
    go_wp2_with (go_at_call 92; refine (hubFilter_any _ _ hf).mono ?_; rintro e w' ⟨rfl, rfl⟩)
    go_ret2
    exact ⟨ret_ints (unhide HR), rfl⟩

set_option maxHeartbeats 1000000 in
theorem find_any (p : Nat) (S : Nat → Prop) (L : List PairL) (f : ByteArray) (who : Int) (w : World) (h : HTab w p S L) :
    Calls Tryz.prog 81 #[.pointer (some ⟨p, 0, none⟩), .string f, .int .i64 who] w fun e w' => e = .returned (.int .i64 ((fAt (f.data.toList, who) 0 L : Nat) : Int)) ∧ Below w.heap.size w w' := by
  obtain ⟨v, h1, h2, h3⟩ := h.body
  have hl := h.good.1
  have hp := heap_lt h1
  obtain ⟨av, lv, cv, rfl⟩ := own_slice h2
  have hlv : lv = L.length := own_len h2
  subst hlv
  have c0 := cell_block (i := 0) h1 rfl
  have H1 := hide h1
  have H2 := hide h2
  clear h h1 h2 h3
  go_enter Tryz.func81, Tryz.ntmps81
  go_wp2_with fail
  go_loopg [7, 8, 14] L.length (fun gk _ _ i wr => ∃ k : Nat, k ≤ L.length ∧ gk = L.length - k ∧ i = .int .i64 k ∧ Below w.heap.size w wr ∧ Hid (fAt (f.data.toList, who) 0 L = fAt (f.data.toList, who) k (L.drop k)))
  case atStart => exact ⟨0, by omega, by omega, rfl, Below.refl _ _, hide rfl⟩
  case round =>
    obtain ⟨k, hk, rfl, rfl, hb, HA⟩ := hrel
    have hbs := hb.size
    have c1 : wr.cell? ⟨p, 0, none⟩ = some (.slice av L.length cv) := (hb.cell (p := ⟨p, 0, none⟩) hp).trans c0
    by_cases hlt : k < L.length
    · obtain ⟨g, cap, hv⟩ := own_form (unhide H2) (by omega)
      simp only [Value.slice.injEq] at hv
      obtain ⟨rfl, _, rfl⟩ := hv
      have hcc := own_cap (unhide H2)
      unfold maxLen at hcc
      obtain ⟨hcap, hcap2⟩ := hcc
      obtain ⟨he1, he2⟩ := own_edge (own_below (unhide H2) hb) hlt
      have HB := hide hb
      clear hb
      by_cases hq : L[k] = (f.data.toList, who)
      · have HZ := hide ((unhide HA).trans (fAt_hit _ k k L hlt hq))
        have hb1 : ((⟨L[k].1.toArray⟩ : ByteArray).toList == f.toList) = true := by rw [hq]; simp [Lib.toList_data]
        have hb2 : (L[k].2 == who) = true := by rw [hq]; simp
        clear hq
        generalize (⟨L[k].1.toArray⟩ : ByteArray) = es at *
        generalize L[k].2 = eto at *
        go_wp2_with fail
        go_ret
        exact ⟨ret_int (by rw [unhide HZ]), (unhide HB).alloc hbs _⟩
      · have HZ := hide ((unhide HA).trans (fAt_miss _ k k L hlt hq))
        cases hb1 : ((⟨L[k].1.toArray⟩ : ByteArray).toList == f.toList)
        · clear hq
          generalize (⟨L[k].1.toArray⟩ : ByteArray) = es at *
          generalize L[k].2 = eto at *
          go_wp2_with fail
          go_roundg (L.length - (k + 1))
          case measure => omega
          case rel => exact ⟨k + 1, by omega, rfl, by go_num, (unhide HB).alloc hbs _, HZ⟩
        · have hb2 : (L[k].2 == who) = false := by
            rw [beq_eq_false_iff_ne]; intro he
            exact hq (Prod.ext (by simpa [Lib.toList_data] using hb1) he)
          clear hq
          generalize (⟨L[k].1.toArray⟩ : ByteArray) = es at *
          generalize L[k].2 = eto at *
          go_wp2_with fail
          go_roundg (L.length - (k + 1))
          case measure => omega
          case rel => exact ⟨k + 1, by omega, rfl, by go_num, (unhide HB).alloc hbs _, HZ⟩
    · have HZ := hide ((unhide HA).trans (fAt_end _ k k L hlt))
      have hke : k = L.length := by omega
      have HB := hide hb
      clear hb
      go_wp2_with fail
      go_ret
      exact ⟨ret_int (by rw [unhide HZ, hke]), unhide HB⟩

end Go.Proofs.YtchhmojnoiephabGreatDoor

/- The program's own Add, Drop and Route. -/
namespace Go.Proofs.YtchhmojnoiephabGreatDoor
open Go.ChangeShapes Go.WideShapes Go.ChangeAt Go.RowKit
set_option linter.unusedVariables false

set_option maxHeartbeats 2000000 in
set_option maxRecDepth 1000000 in
theorem hubAdd_any (p : Nat) (S : Nat → Prop) (L : List PairL) (f : ByteArray) (who : Int) (w : World) (h : HTab w p S L) (hf : f.size ≤ maxLen) :
    Calls Tryz.prog 38 #[.pointer (some ⟨p, 0, none⟩), .string f, .int .i64 who] w (HPost w p S (addR L f.data.toList who)) := by
  obtain ⟨i0, hi, hz0, hz1, hz2⟩ := info_parts info_hpair
  have HT := hide h
  have hl := h.good.1
  by_cases ha : (askR f.data.toList who).1 = 0
  · have hab : ((askR f.data.toList who).1 != 0) = false := by simp [ha]
    by_cases hm : (f.data.toList, who) ∈ L
    · obtain ⟨k, hk, hat, _, _⟩ := fAt_some _ L 0 hm
      have HR := hide (addR_2 ha hm)
      have hat2 := find_any p S L f who
      rw [hat, Nat.zero_add] at hat2
      have HAT := hide hat2
      clear ha hm h hat hat2
      go_enter Tryz.func38, Tryz.ntmps38
      go_wp2_with fail
      refine (checkPair_any f who _ hf).mono ?_
      rintro e w1 ⟨rfl, rfl⟩
      go_wp2_with fail
      obtain ⟨v, h1, h2, h3⟩ := (unhide HT).body
      obtain ⟨av, lv, cv, rfl⟩ := own_slice h2
      have hlv : lv = L.length := own_len h2
      subst hlv
      have hp := heap_lt h1
      have c0 := cell_block (i := 0) h1 rfl
      clear h1 h2 h3
      go_region_with (go_at_call 81; refine (unhide HAT _ ?_).mono ?_; (exact (unhide HT).below ⟨rfl, rfl, rfl, Nat.le_refl _, fun _ _ => rfl⟩); rintro e w2 ⟨rfl, hb⟩; have c2 : w2.cell? ⟨p, 0, none⟩ = some (.slice av L.length cv) := (hb.cell (p := ⟨p, 0, none⟩) hp).trans c0)
      all_goals
        replace hb : Below w1.heap.size w1 w2 := ⟨hb.os, hb.tape, hb.output, hb.size, hb.block⟩
        go_wp2_with fail
        go_ret2
        exact HPost.same (unhide HT) hb (unhide HR)
    · have hat := fAt_none _ L 0 hm
      have hat2 := find_any p S L f who
      rw [hat, Nat.zero_add] at hat2
      have HAT := hide hat2
      clear hat hat2
      by_cases h6 : 6 ≤ L.length
      · have HR := hide (addR_3 ha hm h6)
        clear ha hm h
        go_enter Tryz.func38, Tryz.ntmps38
        go_wp2_with fail
        refine (checkPair_any f who _ hf).mono ?_
        rintro e w1 ⟨rfl, rfl⟩
        go_wp2_with fail
        obtain ⟨v, h1, h2, h3⟩ := (unhide HT).body
        obtain ⟨av, lv, cv, rfl⟩ := own_slice h2
        have hlv : lv = L.length := own_len h2
        subst hlv
        have hp := heap_lt h1
        have c0 := cell_block (i := 0) h1 rfl
        clear h1 h2 h3
        go_region_with (go_at_call 81; refine (unhide HAT _ ?_).mono ?_; (exact (unhide HT).below ⟨rfl, rfl, rfl, Nat.le_refl _, fun _ _ => rfl⟩); rintro e w2 ⟨rfl, hb⟩; have c2 : w2.cell? ⟨p, 0, none⟩ = some (.slice av L.length cv) := (hb.cell (p := ⟨p, 0, none⟩) hp).trans c0)
        all_goals
          replace hb : Below w1.heap.size w1 w2 := ⟨hb.os, hb.tape, hb.output, hb.size, hb.block⟩
          go_wp2_with fail
          go_ret2
          exact HPost.same (unhide HT) hb (unhide HR)
      · have HR := hide (addR_4 ha hm h6)
        have HGD := hide (addR_good L f.data.toList who h.good)
        rw [unhide HR] at HGD
        clear ha hm h
        go_enter Tryz.func38, Tryz.ntmps38
        go_wp2_with fail
        refine (checkPair_any f who _ hf).mono ?_
        rintro e w1 ⟨rfl, rfl⟩
        go_wp2_with fail
        obtain ⟨v, h1, h2, h3⟩ := (unhide HT).body
        obtain ⟨av, lv, cv, rfl⟩ := own_slice h2
        have hlv : lv = L.length := own_len h2
        subst hlv
        have hp := heap_lt h1
        have c0 := cell_block (i := 0) h1 rfl
        clear h1 h2 h3
        go_region_with (go_at_call 81; refine (unhide HAT _ ?_).mono ?_; (exact (unhide HT).below ⟨rfl, rfl, rfl, Nat.le_refl _, fun _ _ => rfl⟩); rintro e w2 ⟨rfl, hb⟩; have c2 : w2.cell? ⟨p, 0, none⟩ = some (.slice av L.length cv) := (hb.cell (p := ⟨p, 0, none⟩) hp).trans c0)
        all_goals
          replace hb : Below w1.heap.size w1 w2 := ⟨hb.os, hb.tape, hb.output, hb.size, hb.block⟩
          have hT2 := (unhide HT).below hb
          clear c0 c2 hp
          obtain ⟨v, h1, h2, h3⟩ := hT2.body
          obtain ⟨av', lv', cv', rfl⟩ := own_slice h2
          have hlv : lv' = L.length := own_len h2
          subst hlv
          have c0 := cell_block (i := 0) h1 rfl
          have f0 := free_block (i := 0) h1
          have hp := heap_lt h1
          have HT2 := hide hT2
          have H1 := hide h1
          have H2 := hide h2
          have H3 := hide h3
          have HB := hide hb
          clear hT2 h1 h2 h3 hb
          go_wp2_with (at_builtin; refine wpList_append_moves _ rfl _ _ 61 rfl 102 i0 (.agg #[.string ByteArray.empty, .int .i64 0]) 2 24 Tryz.underlying61 hi hz0 hz1 hz2 rfl (by decide) _ _ _ rfl ((unhide H2).alloc _) ⟨w2.heap.size, 0, none⟩ 1 1 [.string f, .int .i64 who] rfl rfl ?c1 ?c2 ?c3 ?c4 ?_)
          case c1 =>
            intro j u hj
            match j, hj with
            | 0, hj => simp at hj; subst hj; simp [Addr.add]
            | 1, hj => simp at hj; subst hj; simp [Addr.add]
          case c2 => intro u hu; simp at hu; rcases hu with rfl | rfl <;> rfl
          case c3 => unfold maxLen; omega
          case c4 => omega
          intro v' w3 hown' hgrow hmv
          have hst := htab_store (w2 := w3) (L' := L ++ [(f.data.toList, who)]) (unhide HT2) hgrow.os hgrow.tape hgrow.output (by have := hgrow.size; simp at this; omega)
            (fun k hk hkk => by
              rw [hgrow.block k (by simp; omega) (fun e => by
                rcases hkk with hkk | rfl
                · exact hkk (unhide H3 k e.symm)
                · exact own_not (unhide H2) (unhide H1) (by decide) e.symm), Below.heap_alloc _ _ _ hk])
            (by rw [edgeCells_snoc, List.length_append, show strV (f.data.toList, who).1 = Value.string f from by unfold strV; simp]; exact hown')
            (fun k hk => by rcases hmv k hk with h | h
                            · exact Or.inl (unhide H3 k h)
                            · exact Or.inr (by first | omega | (simp at h; omega)))
            (unhide HGD)
          obtain ⟨g', cap', rfl⟩ := own_form hown' (by omega)
          have c0' : w3.cell? ⟨p, 0, none⟩ = some (.slice av' L.length cv') ∧ w3.frozen? ⟨p, 0, none⟩ = false := by
            have hpp : w3.heap[p]? = some (.cells #[.slice av' L.length cv'] 63 (0, 0)) := by
              rw [hgrow.block p (by simp; omega) (fun e => own_not (unhide H2) (unhide H1) (by decide) e.symm), Below.heap_alloc _ _ _ hp]; exact unhide H1
            exact ⟨cell_block (i := 0) hpp rfl, free_block (i := 0) hpp⟩
          obtain ⟨c1, f1⟩ := c0'
          have HST := hide hst
          clear hst hown' hgrow hmv c0 f0
          go_wp2_with fail
          go_ret2
          obtain ⟨t1, t2⟩ := unhide HST
          rw [unhide HR]
          exact ⟨rfl, _, t1, (Fr.of_below (unhide HB)).trans t2⟩
  · have hab : ((askR f.data.toList who).1 != 0) = true := by simp [ha]
    have HR := hide (addR_1 (L := L) ha)
    clear ha h
    go_enter Tryz.func38, Tryz.ntmps38
    go_wp2_with fail
    refine (checkPair_any f who _ hf).mono ?_
    rintro e w1 ⟨rfl, rfl⟩
    go_wp2_with fail
    go_ret2
    exact HPost.same (unhide HT) (Below.refl _ _) (by rw [unhide HR])

set_option maxHeartbeats 2000000 in
set_option maxRecDepth 1000000 in
theorem hubDrop_any (p : Nat) (S : Nat → Prop) (L : List PairL) (f : ByteArray) (who : Int) (w : World) (h : HTab w p S L) (hf : f.size ≤ maxLen) :
    Calls Tryz.prog 40 #[.pointer (some ⟨p, 0, none⟩), .string f, .int .i64 who] w (HPost w p S (dropR L f.data.toList who)) := by
  obtain ⟨i0, hi, hz0, hz1, hz2⟩ := info_parts info_hpair
  have HT := hide h
  have hl := h.good.1
  by_cases ha : (askR f.data.toList who).1 = 0
  · have hab : ((askR f.data.toList who).1 != 0) = false := by simp [ha]
    by_cases hm : (f.data.toList, who) ∈ L
    · obtain ⟨n, hn, hat, _, her⟩ := fAt_some _ L 0 hm
      rw [Nat.zero_add] at hat
      have HR := hide (dropR_3 ha hm)
      have HGD := hide (dropR_good L f.data.toList who h.good)
      rw [unhide HR] at HGD
      have HER := hide her
      have hat2 := find_any p S L f who
      rw [hat] at hat2
      have HAT := hide hat2
      have hnl : ((n : Int) == (L.length : Int)) = false := by simp; omega
      clear ha hm h hat hat2 her
      go_enter Tryz.func40, Tryz.ntmps40
      go_wp2_with fail
      refine (checkPair_any f who _ hf).mono ?_
      rintro e w1 ⟨rfl, rfl⟩
      go_wp2_with fail
      refine (unhide HAT _ (unhide HT)).mono ?_
      rintro e w2 ⟨rfl, hb⟩
      have hT2 := (unhide HT).below hb
      obtain ⟨v, h1, h2, h3⟩ := hT2.body
      obtain ⟨g, cap, rfl⟩ := own_form h2 (by omega)
      have hcc := own_cap h2
      unfold maxLen at hcc
      obtain ⟨hcap, hcap2⟩ := hcc
      have hp := heap_lt h1
      have c0 := cell_block (i := 0) h1 rfl
      have HT2 := hide hT2
      have H1 := hide h1
      have H2 := hide h2
      have H3 := hide h3
      have HB := hide hb
      clear hT2 h1 h2 h3 hb
      go_wp2_with fail
      go_loopg [11, 12, 13, 40] L.length (fun gk o _ _ kk wr => ∃ k : Nat, k ≤ L.length ∧ gk = L.length - k ∧ kk = .int .i64 k ∧ wr.ownsRow w2.heap.size 102 2 o (keepTo L n k).length (edgeCells (keepTo L n k)) ∧ Below w2.heap.size w2 wr)
      case atStart => exact ⟨0, by omega, by omega, rfl, World.ownsRow_nil _ _ _ _, Below.refl _ _⟩
      case round =>
        obtain ⟨k, hk, rfl, rfl, hown, hbr⟩ := hrel
        have hbs := hbr.size
        have hpr : wr.heap[p]? = some (.cells #[.slice (some ⟨g, 0, none⟩) L.length cap] 63 (0, 0)) := by rw [hbr.block p hp]; exact unhide H1
        clear c0
        have c0 := cell_block (i := 0) hpr rfl
        have f0 := free_block (i := 0) hpr
        have hkl := keepTo_len L n k
        by_cases hlt : k < L.length
        · obtain ⟨he1, he2⟩ := own_edge (own_below (unhide H2) hbr) hlt
          have hstr : strV L[k].1 = .string ⟨L[k].1.toArray⟩ := rfl
          by_cases hkn : k = n
          · have hbk : ((k : Int) != (n : Int)) = false := by simp [hkn]
            have HK : Hid (keepTo L n (k + 1) = keepTo L n k) := by unfold Hid; rw [hkn]; exact keepTo_hit L n hn
            have HOW := hide (hown.alloc (.cells #[.string ⟨L[k].1.toArray⟩, .int .i64 L[k].2] 102))
            have HBR := hide (hbr.alloc hbs (.cells #[.string ⟨L[k].1.toArray⟩, .int .i64 L[k].2] 102))
            clear hown hbr hpr hstr hkn
            generalize (⟨L[k].1.toArray⟩ : ByteArray) = es at *
            generalize L[k].2 = eto at *
            go_wp2_with fail
            go_roundg (L.length - (k + 1))
            case measure => omega
            case rel => exact ⟨k + 1, by omega, rfl, by go_num, by rw [unhide HK]; exact unhide HOW, unhide HBR⟩
          · have hbk : ((k : Int) != (n : Int)) = true := by simp; omega
            have HK := hide (keepTo_other L n k hlt hkn)
            have HOW := hide (hown.alloc (.cells #[.string ⟨L[k].1.toArray⟩, .int .i64 L[k].2] 102))
            have HBR := hide (hbr.alloc hbs (.cells #[.string ⟨L[k].1.toArray⟩, .int .i64 L[k].2] 102))
            have HS := hide hstr
            clear hown hbr hpr hstr hkn
            generalize (⟨L[k].1.toArray⟩ : ByteArray) = es at *
            generalize hL2 : L[k].2 = eto at *
            have HL2 := hide hL2
            clear hL2
            go_wp2_with (at_builtin; refine wpList_append_own _ rfl _ _ 61 rfl w2.heap.size 102 i0 (.agg #[.string ByteArray.empty, .int .i64 0]) 2 24 Tryz.underlying61 hi hz0 hz1 hz2 rfl (by decide) _ _ _ rfl ((unhide HOW).alloc _) ⟨wr.heap.size + 1, 0, none⟩ 1 1 [.string es, .int .i64 eto] rfl rfl ?c1 ?c2 ?c3 ?c4 ?c5 ?_)
            case c1 =>
              intro j u hj
              match j, hj with
              | 0, hj => simp at hj; subst hj; simp [Addr.add]
              | 1, hj => simp at hj; subst hj; simp [Addr.add]
            case c2 => intro u hu; simp at hu; rcases hu with rfl | rfl <;> rfl
            case c3 => unfold maxLen; omega
            case c4 => omega
            case c5 => simp; omega
            intro v' w3 hown' hgrow _
            have HO3 : Hid (w3.ownsRow w2.heap.size 102 2 v' (keepTo L n (k + 1)).length (edgeCells (keepTo L n (k + 1)))) := by
              unfold Hid
              rw [unhide HK, edgeCells_snoc, List.length_append, unhide HS, unhide HL2]; exact hown'
            have HB3 : Hid (Below w2.heap.size w2 w3) := ((unhide HBR).alloc (by simp; omega) _).grown hgrow (by simp; omega) (fun k hk => ((unhide HOW).lt k hk).1)
            clear hown' hgrow HOW HBR HS HL2 c0 f0 he1 he2
            go_wp2_with fail
            go_roundg (L.length - (k + 1))
            case measure => omega
            case rel => exact ⟨k + 1, by omega, rfl, by go_num, unhide HO3, unhide HB3⟩
        · have hke : k = L.length := by omega
          have hst := htab_store (w2 := wr) (L' := L.erase (f.data.toList, who)) (unhide HT2) hbr.os hbr.tape hbr.output hbr.size (fun j hj _ => hbr.block j hj)
            (by rw [hke, keepTo_all, unhide HER] at hown; exact own_mono hown (Nat.zero_le _))
            (fun j hj => Or.inr (hown.lt j hj).1) (unhide HGD)
          obtain ⟨ao, lo, co, rfl⟩ := own_slice hown
          have HST := hide hst
          clear hst hown hbr hpr
          go_wp2_with fail
          go_ret2
          obtain ⟨t1, t2⟩ := unhide HST
          rw [unhide HR]
          exact ⟨rfl, _, t1, (Fr.of_below (unhide HB)).trans t2⟩
    · have hat := fAt_none _ L 0 hm
      have hat2 := find_any p S L f who
      rw [hat, Nat.zero_add] at hat2
      have HAT := hide hat2
      have HR := hide (dropR_2 ha hm)
      clear hat hat2 ha hm h
      go_enter Tryz.func40, Tryz.ntmps40
      go_wp2_with fail
      refine (checkPair_any f who _ hf).mono ?_
      rintro e w1 ⟨rfl, rfl⟩
      go_wp2_with fail
      refine (unhide HAT _ (unhide HT)).mono ?_
      rintro e w2 ⟨rfl, hb⟩
      have hT2 := (unhide HT).below hb
      obtain ⟨v, h1, h2, h3⟩ := hT2.body
      obtain ⟨av, lv, cv, rfl⟩ := own_slice h2
      have hlv : lv = L.length := own_len h2
      subst hlv
      have c0 := cell_block (i := 0) h1 rfl
      clear hT2 h1 h2 h3
      go_wp2_with fail
      go_ret2
      exact HPost.same (unhide HT) hb (unhide HR)
  · have hab : ((askR f.data.toList who).1 != 0) = true := by simp [ha]
    have HR := hide (dropR_1 (L := L) ha)
    clear ha h
    go_enter Tryz.func40, Tryz.ntmps40
    go_wp2_with fail
    refine (checkPair_any f who _ hf).mono ?_
    rintro e w1 ⟨rfl, rfl⟩
    go_wp2_with fail
    go_ret2
    exact HPost.same (unhide HT) (Below.refl _ _) (by rw [unhide HR])

theorem hasW_hit (L : List PairL) (t : List UInt8) (who : Int) (k : Nat) (h : k < L.length) (h1 : (L[k].2 == who) = true) (h2 : matchB L[k].1 t = true) : hasW (L.drop k) t who = true := by
  rw [List.drop_eq_getElem_cons h]; simp only [hasW, List.any_cons]; rw [h1, h2]; rfl
theorem hasW_miss (L : List PairL) (t : List UInt8) (who : Int) (k : Nat) (h : k < L.length) (h1 : (L[k].2 == who && matchB L[k].1 t) = false) : hasW (L.drop k) t who = hasW (L.drop (k + 1)) t who := by
  rw [List.drop_eq_getElem_cons h]; simp only [hasW, List.any_cons]; rw [h1]; rfl
theorem hasW_end (L : List PairL) (t : List UInt8) (who : Int) (k : Nat) (h : ¬ k < L.length) : hasW (L.drop k) t who = false := by
  rw [List.drop_eq_nil_of_le (by omega)]; rfl

set_option maxHeartbeats 2000000 in
theorem reaches_any (p : Nat) (S : Nat → Prop) (L : List PairL) (who : Int) (t : ByteArray) (w : World) (h : HTab w p S L) (ht : t.size ≤ 24) :
    Calls Tryz.prog 44 #[.pointer (some ⟨p, 0, none⟩), .int .i64 who, .string t] w fun e w' => e = .returned (.bool (hasW L t.data.toList who)) ∧ Below w.heap.size w w' := by
  obtain ⟨v, h1, h2, h3⟩ := h.body
  have hl := h.good.1
  have HG := hide h.good.2.2
  have hp := heap_lt h1
  obtain ⟨av, lv, cv, rfl⟩ := own_slice h2
  have hlv : lv = L.length := own_len h2
  subst hlv
  have c0 := cell_block (i := 0) h1 rfl
  have H2 := hide h2
  clear h h1 h2 h3
  go_enter Tryz.func44, Tryz.ntmps44
  go_wp2_with fail
  go_loopg [8, 14] L.length (fun gk _ i wr => ∃ k : Nat, k ≤ L.length ∧ gk = L.length - k ∧ i = .int .i64 k ∧ Below w.heap.size w wr ∧ Hid (hasW L t.data.toList who = hasW (L.drop k) t.data.toList who))
  case atStart => exact ⟨0, by omega, by omega, rfl, Below.refl _ _, hide rfl⟩
  case round =>
    obtain ⟨k, hk, rfl, rfl, hb, HA⟩ := hrel
    have hbs := hb.size
    by_cases hlt : k < L.length
    · obtain ⟨g, cap, hv⟩ := own_form (unhide H2) (by omega)
      simp only [Value.slice.injEq] at hv
      obtain ⟨rfl, _, rfl⟩ := hv
      have hcc := own_cap (unhide H2)
      unfold maxLen at hcc
      obtain ⟨hcap, hcap2⟩ := hcc
      obtain ⟨he1, he2⟩ := own_edge (own_below (unhide H2) hb) hlt
      have hfl := filterR_len _ (unhide HG L[k] (List.getElem_mem hlt)).1
      have hss : (⟨L[k].1.toArray⟩ : ByteArray).data.toList = L[k].1 := by simp
      have hsz : (⟨L[k].1.toArray⟩ : ByteArray).size ≤ 24 := by rw [Lib.size_eq, hss]; exact hfl.1
      have hma := matches_any (⟨L[k].1.toArray⟩ : ByteArray) t
      rw [hss] at hma
      have HMA := hide (fun w => hma w hsz ht)
      have HHIT := hide (hasW_hit L t.data.toList who k hlt)
      have HMISS := hide (hasW_miss L t.data.toList who k hlt)
      have HB := hide hb
      clear hb hfl hss hsz hma
      generalize (⟨L[k].1.toArray⟩ : ByteArray) = es at *
      generalize matchB L[k].1 t.data.toList = mb at *
      generalize L[k].2 = eto at *
      cases hq : (eto == who)
      · rw [hq] at HMISS
        have HZ := hide ((unhide HA).trans (unhide HMISS rfl))
        go_wp2_with fail
        go_roundg (L.length - (k + 1))
        case measure => omega
        case rel => exact ⟨k + 1, by omega, rfl, by go_num, (unhide HB).alloc hbs _, HZ⟩
      · rw [hq] at HMISS HHIT
        cases mb
        · have HZ := hide ((unhide HA).trans (unhide HMISS rfl))
          go_wp2_with fail
          refine (unhide HMA _).mono ?_
          rintro e w4 ⟨rfl, rfl⟩
          go_wp2_with fail
          go_roundg (L.length - (k + 1))
          case measure => omega
          case rel => exact ⟨k + 1, by omega, rfl, by go_num, (unhide HB).alloc hbs _, HZ⟩
        · have HZ := hide ((unhide HA).trans (unhide HHIT rfl rfl))
          go_wp2_with fail
          refine (unhide HMA _).mono ?_
          rintro e w4 ⟨rfl, rfl⟩
          go_wp2_with fail
          go_ret
          exact ⟨ret_bool (unhide HZ).symm, (unhide HB).alloc hbs _⟩
    · have HZ := hide ((unhide HA).trans (hasW_end L t.data.toList who k hlt))
      have HB := hide hb
      clear hb
      go_wp2_with fail
      go_ret
      exact ⟨ret_bool (unhide HZ).symm, unhide HB⟩

set_option maxHeartbeats 2000000 in
set_option maxRecDepth 1000000 in
theorem hubRoute_any (p : Nat) (S : Nat → Prop) (L : List PairL) (t : ByteArray) (w : World) (h : HTab w p S L) (ht : t.size ≤ maxLen) :
    Calls Tryz.prog 17 #[.pointer (some ⟨p, 0, none⟩), .string t] w (IntsPost w (routeR L t.data.toList)) := by
  obtain ⟨i0, hi, hz0, hz1, hz2⟩ := info_parts info_int
  by_cases h0 : (topicR t.data.toList).1 = 0
  · have hb0 : ((topicR t.data.toList).1 != 0) = false := by simp [h0]
    have HR : Hid (routeR L t.data.toList = (routeTo L t.data.toList 16, 0, 0)) := by unfold Hid routeR; rw [if_neg (by simp [h0])]; rfl
    have ht24 : t.size ≤ 24 := by have := (topicR_len _ h0).1; rw [len_list] at this; exact this
    have HT := hide h
    clear h h0
    go_enter Tryz.func17, Tryz.ntmps17
    go_wp2_with fail
    refine (hubTopic_any t _ ht).mono ?_
    rintro e w1 ⟨rfl, rfl⟩
    go_wp2_with fail
    go_loopg [9, 10] 16 (fun gk o nn wr => ∃ n : Nat, n ≤ 16 ∧ gk = 16 - n ∧ nn = .int .i64 n ∧ wr.ownsRow w1.heap.size 3 1 o (routeTo L t.data.toList n).length ((routeTo L t.data.toList n).map (Value.int .i64)) ∧ Below w1.heap.size w1 wr)
    case atStart => exact ⟨0, by omega, rfl, rfl, World.ownsRow_nil _ _ _ _, Below.refl _ _⟩
    case round =>
      obtain ⟨n, hn, rfl, rfl, hown, hb⟩ := hrel
      have hbs := hb.size
      have hrl := routeTo_len L t.data.toList n
      by_cases hn16 : n < 16
      · have hd16 : decide ((n : Int) < 16) = true := by simp; omega
        have HRS := hide (routeTo_succ L t.data.toList n)
        have HOW := hide hown
        have HB := hide hb
        clear hown hb
        go_wp2_with fail
        refine (reaches_any p S L (n : Int) t _ ((unhide HT).below (unhide HB)) ht24).mono ?_
        rintro e w2 ⟨rfl, hb2⟩
        have hbs2 := hb2.size
        replace HB := hide ((unhide HB).trans (hb2.mono hbs))
        replace HOW := hide (own_below (unhide HOW) hb2)
        clear hb2
        cases hh : hasW L t.data.toList (n : Int)
        · rw [hh] at HRS
          go_wp2_with fail
          go_roundg (16 - (n + 1))
          case measure => omega
          case rel => exact ⟨n + 1, by omega, rfl, by go_num, by rw [unhide HRS]; exact unhide HOW, unhide HB⟩
        · rw [hh] at HRS
          go_wp2_with (at_builtin; refine wpList_append_own _ rfl _ _ 26 rfl w1.heap.size 3 i0 (.int .i64 0) 1 8 Tryz.underlying26 hi hz0 hz1 hz2 rfl (by decide) _ _ _ rfl ((unhide HOW).alloc _) ⟨w2.heap.size, 0, none⟩ 1 1 [.int .i64 (n : Int)] rfl rfl ?c1 ?c2 ?c3 ?c4 ?c5 ?_)
          first
            | (case c1 =>
                intro j u hj
                match j, hj with
                | 0, hj => simp at hj; subst hj; simp [Addr.add])
            | skip
          case c2 => first | rfl | (intro u hu; simp at hu; subst hu; rfl)
          case c3 => unfold maxLen; omega
          case c4 => omega
          case c5 => first | omega | (simp; omega)
          intro v' w4 hown' hgrow _
          have HB4 := hide (below_push' (unhide HB) (by omega) (unhide HOW) hgrow)
          have HO4 : Hid (w4.ownsRow w1.heap.size 3 1 v' (routeTo L t.data.toList (n + 1)).length ((routeTo L t.data.toList (n + 1)).map (Value.int .i64))) := by
            have h5 := unhide HRS; simp only [if_true] at h5; unfold Hid; rw [h5, List.length_append, List.map_append]; exact hown'
          clear hown' hgrow
          go_wp2_with fail
          go_roundg (16 - (n + 1))
          case measure => omega
          case rel => exact ⟨n + 1, by omega, rfl, by go_num, unhide HO4, unhide HB4⟩
      · have hne : n = 16 := by omega
        have HOW := hide hown
        have HB := hide hb
        clear hown hb
        go_wp2_with fail
        go_ret3
        subst hne
        rw [unhide HR]
        exact ⟨_, rfl, unhide HOW, unhide HB⟩
  · have hb0 : ((topicR t.data.toList).1 != 0) = true := by simp [h0]
    have HR : Hid (routeR L t.data.toList = ([], (topicR t.data.toList).1, (topicR t.data.toList).2)) := by unfold Hid routeR; rw [if_pos h0]
    clear h h0
    go_enter Tryz.func17, Tryz.ntmps17
    go_wp2_with fail
    refine (hubTopic_any t _ ht).mono ?_
    rintro e w1 ⟨rfl, rfl⟩
    go_wp2_with fail
    go_ret3
    exact IntsPost.none (unhide HR) (Below.refl _ _)

theorem own_fresh {w' : World} {B e n : Nat} {v : Value} {xs : List Int} {S : Nat → Prop} (h : w'.ownsRow B e 1 v n (xs.map (Value.int .i64))) (hS : ∀ k, S k → k < B) : Own w' S v xs := by
  refine ⟨IntsAt.of_own h, fun b off m c hv => ?_⟩
  obtain ⟨_, ⟨rfl, _⟩ | ⟨g, cap, cur, rfl, h3, _⟩⟩ := id h
  · cases hv
  · simp only [Value.slice.injEq, Option.some.injEq, Addr.mk.injEq] at hv
    obtain ⟨⟨rfl, rfl, _⟩, rfl, rfl⟩ := hv
    exact ⟨fun hs => by have := hS _ hs; omega, (h.lt g rfl).2⟩

def hubTabI : HubTabI where
  tab := HTab
  lt := fun h hk => h.lt _ hk
  kept := fun h hf hd => h.kept hf hd
  new := fun w => (hubNew_any w).mono fun e w' h => ⟨_, _, h.1, h.2.1, h.2.2.1, fun k hk => by rw [hk]; exact Nat.le_refl _⟩
  add := fun p S L f who w h hf => hubAdd_any p S L f who w h hf
  drop := fun p S L f who w h hf => hubDrop_any p S L f who w h hf
  route := fun p S L t w h ht => (hubRoute_any p S L t w h ht).mono fun e w' hh => by
    obtain ⟨v, he, ho, hb⟩ := hh
    exact ⟨v, S, he, own_fresh ho (fun k hk => h.lt k hk), h.below hb, Fr.of_below hb⟩

end Go.Proofs.YtchhmojnoiephabGreatDoor
