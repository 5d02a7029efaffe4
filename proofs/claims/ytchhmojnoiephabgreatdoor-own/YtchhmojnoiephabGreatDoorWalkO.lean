import Derived.Test.YtchhmojnoiephabGreatDoorWalkM
import Derived.Test.YtchhmojnoiephabGreatDoorMatR
import Derived.Test.YtchhmojnoiephabGreatDoorFilR
import Derived.Test.YtchhmojnoiephabGreatDoorFrA
import Derived.Laws.StructEq
namespace Go.Proofs.YtchhmojnoiephabGreatDoor
open Go.ChangeShapes Go.WideShapes Go.ChangeAt Go.RowKit
set_option linter.unusedVariables false

/-- the document's table in memory, at block p, with its blocks S -/
structure TabAt (w : World) (p : Nat) (S : Nat → Prop) (L : List PairL) : Prop where
  body : ∃ v, w.heap[p]? = some (.cells #[v] 66 (0, 0)) ∧ w.ownsRow 0 143 2 v L.length (edgeCells L) ∧ ∀ k, v.ownBlock = some k → S k
  self : S p
  lt : ∀ k, S k → k < w.heap.size
  good : goodL L

/-- a call that leaves its blocks alone leaves the table alone -/
theorem TabAt.kept {w w' : World} {p : Nat} {S T T' : Nat → Prop} {L : List PairL} (h : TabAt w p S L) (hf : Fr T w w' T') (hd : ∀ k, S k → ¬ T k) : TabAt w' p S L := by
  obtain ⟨v, h1, h2, h3⟩ := h.body
  refine ⟨⟨v, ?_, own_same h2 (fun k hk => hf.keep k (h.lt k (h3 k hk)) (hd k (h3 k hk))), h3⟩, h.self, fun k hk => Nat.lt_of_lt_of_le (h.lt k hk) hf.size, h.good⟩
  rw [hf.keep p (h.lt p h.self) (hd p h.self)]; exact h1
theorem TabAt.below {w w' : World} {p : Nat} {S : Nat → Prop} {L : List PairL} (h : TabAt w p S L) (hb : Below w.heap.size w w') : TabAt w' p S L :=
  h.kept (Fr.of_below (S := fun _ => False) hb) (fun _ _ h => h)

set_option maxHeartbeats 400000 in
theorem refNew_any (w : World) :
    Calls Tryz.prog 8 #[] w fun e w' => e = .returned (.pointer (some ⟨w.heap.size, 0, none⟩)) ∧ TabAt w' w.heap.size (fun k => k = w.heap.size) [] ∧ Below w.heap.size w w' ∧ w'.heap.size = w.heap.size + 1 := by
  go_enter Tryz.func8, Tryz.ntmps8
  go_wp2_with fail
  go_ret
  refine ⟨rfl, ⟨⟨.slice none 0 0, (MapKept.heap_alloc w _).1, World.ownsRow_nil _ _ _ _, fun k hk => by cases hk⟩, rfl, fun k hk => by subst hk; simp, goodL_nil⟩, (Below.refl _ w).alloc (Nat.le_refl _) _, by simp⟩

set_option maxHeartbeats 400000 in
theorem asked_any (f : ByteArray) (who : Int) (w : World) (hf : f.size ≤ maxLen) :
    Calls Tryz.prog 82 #[.string f, .int .i64 who] w fun e w' => e = .returned (.tuple #[.int .i64 (askR f.data.toList who).1, .int .i64 (askR f.data.toList who).2]) ∧ w' = w := by
  by_cases h : (filterR f.data.toList).1 = 0
  · have hb : ((filterR f.data.toList).1 != 0) = false := by simp [h]
    by_cases h0 : who < 0
    · have HR : Hid (askR f.data.toList who = (4, 0)) := by unfold Hid askR; rw [if_neg (by simpa using h), if_pos (Or.inl h0)]
      clear h
      go_enter Tryz.func82, Tryz.ntmps82
      go_wp2_with (go_at_call 93; refine (refFilter_any _ _ hf).mono ?_; rintro e w' ⟨rfl, rfl⟩)
      go_ret2
      exact ⟨ret_ints (unhide HR), rfl⟩
    · by_cases h1 : 16 ≤ who
      · have HR : Hid (askR f.data.toList who = (4, 0)) := by unfold Hid askR; rw [if_neg (by simpa using h), if_pos (Or.inr h1)]
        clear h
        go_enter Tryz.func82, Tryz.ntmps82
        go_wp2_with (go_at_call 93; refine (refFilter_any _ _ hf).mono ?_; rintro e w' ⟨rfl, rfl⟩)
        go_ret2
        exact ⟨ret_ints (unhide HR), rfl⟩
      · have HR : Hid (askR f.data.toList who = (0, 0)) := by unfold Hid askR; rw [if_neg (by simpa using h), if_neg (by omega)]
        clear h
        go_enter Tryz.func82, Tryz.ntmps82
        go_wp2_with (go_at_call 93; refine (refFilter_any _ _ hf).mono ?_; rintro e w' ⟨rfl, rfl⟩)
        go_ret2
        exact ⟨ret_ints (unhide HR), rfl⟩
  · have hb : ((filterR f.data.toList).1 != 0) = true := by simp [h]
    have HR : Hid (askR f.data.toList who = ((filterR f.data.toList).1, (filterR f.data.toList).2)) := by unfold Hid askR; rw [if_pos h]
    clear h
    go_enter Tryz.func82, Tryz.ntmps82
    go_wp2_with (go_at_call 93; refine (refFilter_any _ _ hf).mono ?_; rintro e w' ⟨rfl, rfl⟩)
    go_ret2
    exact ⟨ret_ints (unhide HR), rfl⟩

theorem guard_pair : Tryz.prog.eqGuardType Tryz.prog.depth 143 = false := by kernel_rfl
theorem stood_pair : Tryz.prog.stoodInHeld 143 = false := by kernel_rfl
theorem under_pair : Tryz.prog.underlying 143 = some (.struct (Tryz.prog.fieldsOf 143)) := by kernel_rfl
theorem run_pair (a f : ByteArray) (b who : Int) (w : World) : (binOp .eql 143 (.agg #[.string a, .int .i64 b]) (.agg #[.string f, .int .i64 who])).run Tryz.prog w = .ok (.bool ((a.toList == f.toList) && (b == who))) w := by
  rw [run_eql_struct, run_equalIn_struct w 9999 _ _ _ under_pair stood_pair]
  have h2 : (Tryz.prog.fieldsOf 143).toList.map (fun f => (f.name, f.type, f.offset)) = [("F", 9, 0), ("Who", 3, 1)] := by kernel_rfl
  generalize (Tryz.prog.fieldsOf 143).toList = fs at *
  obtain ⟨x, r, rfl, hx, hr⟩ := List.map_eq_cons_iff.1 h2
  obtain ⟨y, r2, rfl, hy, hr2⟩ := List.map_eq_cons_iff.1 hr
  rw [List.map_eq_nil_iff] at hr2
  subst hr2
  simp only [Prod.mk.injEq] at hx hy
  obtain ⟨h1, h3, h4⟩ := hx
  obtain ⟨h5, h6, h7⟩ := hy
  simp [Op.eqFields, h1, h3, h4, h5, h6, h7, go_sem]
  by_cases e1 : a.toList = f.toList <;> by_cases e2 : b = who <;> simp [e1, e2]

set_option maxHeartbeats 1000000 in
theorem at_any (p : Nat) (S : Nat → Prop) (L : List PairL) (f : ByteArray) (who : Int) (w : World) (h : TabAt w p S L) :
    Calls Tryz.prog 83 #[.pointer (some ⟨p, 0, none⟩), .agg #[.string f, .int .i64 who]] w fun e w' => e = .returned (.int .i64 (atFrom (f.data.toList, who) 0 L)) ∧ Below w.heap.size w w' := by
  obtain ⟨v, h1, h2, h3⟩ := h.body
  have hl := h.good.1
  have hp := heap_lt h1
  have c0 := cell_block (i := 0) h1 rfl
  have hbx : Below w.heap.size w (w.alloc (.cells #[.string f, .int .i64 who] 143)) := (Below.refl _ w).alloc (Nat.le_refl _) _
  by_cases hz : L = []
  · subst hz
    obtain ⟨av, lv, cv, rfl⟩ := own_slice h2
    have hlv : lv = 0 := by
      obtain ⟨_, ⟨h0, _⟩ | ⟨g', cap', cur, he, _⟩⟩ := h2
      · simp only [Value.slice.injEq] at h0; exact h0.2.1
      · simp only [Value.slice.injEq] at he; simpa using he.2.1
    subst hlv
    clear h h1 h2 h3 hl
    go_enter Tryz.func83, Tryz.ntmps83
    go_wp2_with fail
    go_loop [5] (fun i => i = .int .i64 0) (fun i => 0)
    case atStart => rfl
    case round =>
      subst hrel
      go_wp2_with fail
      go_ret
      exact ⟨rfl, hbx⟩
  · obtain ⟨g, cap, rfl⟩ := own_form h2 (List.length_pos_iff.2 hz)
    have hcc := own_cap h2
    unfold maxLen at hcc
    obtain ⟨hcap, hcap2⟩ := hcc
    have hgs := own_block h2
    have HO := hide h2
    have HBX := hide hbx
    clear h h1 h2 h3 hz hbx
    go_enter Tryz.func83, Tryz.ntmps83
    go_wp2_with fail
    go_loopg [5] L.length (fun gk i wr => ∃ k m : Nat, k ≤ L.length ∧ gk = L.length - k ∧ i = .int .i64 k ∧ wr = (w.alloc (.cells #[.string f, .int .i64 who] 143)).drewN m ∧ Hid (atFrom (f.data.toList, who) 0 L = atFrom (f.data.toList, who) k (L.drop k)))
    case atStart => exact ⟨0, 0, by omega, by omega, rfl, rfl, hide rfl⟩
    case round =>
      obtain ⟨k, m, hk, rfl, rfl, rfl, HA⟩ := hrel
      by_cases hlt : k < L.length
      · obtain ⟨he1, he2⟩ := own_edge (unhide HO) hlt
        by_cases hq : L[k] = (f.data.toList, who)
        · have HZ := hide ((unhide HA).trans (atFrom_hit _ k k L hlt hq))
          have hb : ((⟨L[k].1.toArray⟩ : ByteArray).toList == f.toList && L[k].2 == who) = true := by rw [hq]; simp [Lib.toList_data]
          clear hq
          have hrun := run_pair (⟨L[k].1.toArray⟩ : ByteArray) f L[k].2 who
          rw [hb] at hrun
          have hgd := guard_pair
          clear hb
          generalize (⟨L[k].1.toArray⟩ : ByteArray) = es at *
          generalize L[k].2 = eto at *
          go_wp2_with fail
          go_quiet (fail)
          go_wp2_with fail
          go_ret
          exact ⟨ret_int (unhide HZ).symm, (unhide HBX).trans ⟨rfl, rfl, rfl, Nat.le_refl _, fun _ _ => rfl⟩⟩
        · have HZ := hide ((unhide HA).trans (atFrom_miss _ k k L hlt hq))
          have hb : ((⟨L[k].1.toArray⟩ : ByteArray).toList == f.toList && L[k].2 == who) = false := by
            rw [Bool.eq_false_iff]; intro h; simp [Lib.toList_data] at h; exact hq (Prod.ext h.1 h.2)
          clear hq
          have hrun := run_pair (⟨L[k].1.toArray⟩ : ByteArray) f L[k].2 who
          rw [hb] at hrun
          have hgd := guard_pair
          clear hb
          generalize (⟨L[k].1.toArray⟩ : ByteArray) = es at *
          generalize L[k].2 = eto at *
          go_wp2_with fail
          go_quiet (fail)
          go_wp2_with fail
          go_roundg (L.length - (k + 1))
          case measure => omega
          case rel => exact ⟨k + 1, _, by omega, rfl, by go_num, rfl, HZ⟩
      · have HZ := hide ((unhide HA).trans (atFrom_end _ k k L hlt))
        go_wp2_with fail
        go_ret
        exact ⟨ret_int (unhide HZ).symm, (unhide HBX).trans ⟨rfl, rfl, rfl, Nat.le_refl _, fun _ _ => rfl⟩⟩

end Go.Proofs.YtchhmojnoiephabGreatDoor
