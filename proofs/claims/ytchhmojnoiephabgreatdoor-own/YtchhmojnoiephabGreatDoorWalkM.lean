import Derived.Test.YtchhmojnoiephabGreatDoorWalkL
import Derived.Test.YtchhmojnoiephabGreatDoorPureF
import Derived.Deep.RegionWith
namespace Go.Proofs.YtchhmojnoiephabGreatDoor
open Go.ChangeShapes Go.WideShapes Go.ChangeAt Go.RowKit
set_option linter.unusedVariables false

theorem edgeCells_at (E : List (List UInt8 × Int)) (k : Nat) (h : k < E.length) : (edgeCells E)[k * 2]? = some (strV E[k].1) ∧ (edgeCells E)[k * 2 + 1]? = some (.int .i64 E[k].2) := by
  induction E generalizing k with
  | nil => simp at h
  | cons e E ih =>
    cases k with
    | zero => simp [edgeCells]
    | succ k =>
      have := ih k (by simpa using h)
      have e1 : edgeCells (e :: E) = strV e.1 :: .int .i64 e.2 :: edgeCells E := by simp [edgeCells]
      rw [e1, show (k + 1) * 2 = k * 2 + 1 + 1 from by omega, List.getElem?_cons_succ, List.getElem?_cons_succ, List.getElem?_cons_succ, List.getElem?_cons_succ]
      simpa using this

/-- the cells of an edge in memory -/
theorem own_edge {w : World} {B e g n cap k : Nat} {E : List (List UInt8 × Int)} (h : w.ownsRow B e 2 (.slice (some ⟨g, 0, none⟩) n cap) n (edgeCells E)) (hk : k < E.length) :
    w.cell? ⟨g, k * 2, none⟩ = some (.string ⟨E[k].1.toArray⟩) ∧ w.cell? ⟨g, k * 2 + 1, none⟩ = some (.int .i64 E[k].2) := by
  have h1 := h.cells (g := g) rfl _ _ (edgeCells_at E k hk).1
  have h2 := h.cells (g := g) rfl _ _ (edgeCells_at E k hk).2
  have e2 : (⟨g, 0, none⟩ : Addr).add (k * 2 + 1) = ⟨g, k * 2 + 1, none⟩ := by simp [Addr.add]
  have e1 : (⟨g, 0, none⟩ : Addr).add (k * 2) = ⟨g, k * 2, none⟩ := by
    cases k with
    | zero => simp [Addr.add]
    | succ m => simp [Addr.add]
  rw [e1] at h1
  rw [e2] at h2
  exact ⟨h1, h2⟩

theorem own_block {w : World} {B e sz g n cap : Nat} {xs : List Value} (h : w.ownsRow B e sz (.slice (some ⟨g, 0, none⟩) n cap) n xs) : g < w.heap.size := (h.lt g rfl).2

set_option maxHeartbeats 1000000 in
theorem follow_any (a : ByteArray) (ev : Value) (st : Int) (lev : ByteArray) (E : List (List UInt8 × Int)) (B : Nat) (w : World) (hown : w.ownsRow B 171 2 ev E.length (edgeCells E)) :
    Calls Tryz.prog 106 #[.agg #[.string a, ev, .int .i64 st], .string lev] w fun e w' => e = .returned (.int .i64 (followE E st lev.data.toList)) ∧ w' = w.alloc (.cells #[.string a, ev, .int .i64 st] 169) := by
  by_cases hz : E = []
  · subst hz
    obtain ⟨av, lv, cv, rfl⟩ := own_slice hown
    have hlv : lv = 0 := by
      obtain ⟨_, ⟨h0, _⟩ | ⟨g', cap', cur, he, _⟩⟩ := hown
      · simp only [Value.slice.injEq] at h0; exact h0.2.1
      · simp only [Value.slice.injEq] at he; simpa using he.2.1
    subst hlv
    clear hown
    go_enter Tryz.func106, Tryz.ntmps106
    go_wp2_with fail
    go_loop [5] (fun i => i = .int .i64 0) (fun i => 0)
    case atStart => rfl
    case round =>
      subst hrel
      go_wp2_with fail
      go_ret
      exact ⟨rfl, rfl⟩
  · have hpos : 0 < E.length := List.length_pos_iff.2 hz
    obtain ⟨g, cap, rfl⟩ := own_form hown hpos
    have hcc := own_cap hown
    unfold maxLen at hcc
    obtain ⟨hcap, hcap2⟩ := hcc
    have hgs := own_block hown
    have HO := hide hown
    clear hown hz
    go_enter Tryz.func106, Tryz.ntmps106
    go_wp2_with fail
    go_loop [5] (fun i => ∃ k : Nat, k ≤ E.length ∧ i = .int .i64 k ∧ Hid (followE E st lev.data.toList = followE (E.drop k) st lev.data.toList)) (fun i => E.length - (intOf i).toNat)
    case atStart => exact ⟨0, by omega, rfl, hide rfl⟩
    case round =>
      obtain ⟨k, hk, rfl, HF⟩ := hrel
      by_cases hlt : k < E.length
      · obtain ⟨he1, he2⟩ := own_edge (unhide HO) hlt
        by_cases hq : E[k].1 = lev.data.toList
        · have HZ := hide ((unhide HF).trans (followE_hit E st _ k hlt hq))
          have hb : ((⟨E[k].1.toArray⟩ : ByteArray).toList == lev.toList) = true := by rw [Lib.toList_data, Lib.toList_data, ← hq]; simp
          clear hq
          generalize (⟨E[k].1.toArray⟩ : ByteArray) = es at *
          generalize E[k].2 = eto at *
          go_wp2_with fail
          go_ret
          exact ⟨ret_int (unhide HZ).symm, rfl⟩
        · have HZ := hide ((unhide HF).trans (followE_miss E st _ k hlt hq))
          have hb : ((⟨E[k].1.toArray⟩ : ByteArray).toList == lev.toList) = false := by rw [Lib.toList_data, Lib.toList_data]; simpa using hq
          clear hq
          generalize (⟨E[k].1.toArray⟩ : ByteArray) = es at *
          generalize E[k].2 = eto at *
          go_wp2_with fail
          go_round
          case rel => exact ⟨k + 1, by omega, by go_num, HZ⟩
          case measure => simp [intOf]; omega
      · have HZ := hide ((unhide HF).trans (followE_end E st _ k hlt))
        go_wp2_with fail
        go_ret
        exact ⟨ret_int (unhide HZ).symm, rfl⟩

end Go.Proofs.YtchhmojnoiephabGreatDoor
