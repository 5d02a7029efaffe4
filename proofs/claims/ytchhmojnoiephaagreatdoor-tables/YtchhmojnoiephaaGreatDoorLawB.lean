import Derived.Test.YtchhmojnoiephaaGreatDoorLawA
import Derived.Deep.DeepCutAuto
import Derived.Deep.CutBlock
import Derived.Deep.RegionWith
namespace Go.Proofs.YtchhmojnoiephaaGreatDoor
open Go.ChangeShapes Go.WideShapes Go.ChangeAt Go.RowKit
set_option linter.unusedVariables false

/-- what the laws of the tables ask of NewHub -/
structure HubNewI where
  new : ∀ w, Calls Tryz.prog 12 #[] w fun e w' => ∃ a, e = .returned (.pointer a) ∧ Below w.heap.size w w'

theorem info_client : (Tryz.prog.info? 150).map (fun i => (i.zero, i.size, i.bytes)) = some (some (.agg #[.bool false, .bool false, .slice none 0 0]), 3, 32) := by kernel_rfl

set_option maxHeartbeats 1000000 in
set_option maxRecDepth 1000000 in
theorem refHubNew_any (w : World) : Calls Tryz.prog 13 #[] w fun e w' => ∃ a, e = .returned (.pointer a) ∧ Below w.heap.size w w' := by
  obtain ⟨i0, hi, hz0, hz1, hz2⟩ := info_parts info_client
  go_enter Tryz.func13, Tryz.ntmps13
  go_wp2_with (at_make; refine wpList_make_full _ rfl _ _ 78 rfl w.heap.size 150 i0 (.agg #[.bool false, .bool false, .slice none 0 0]) 3 Tryz.underlying78 hi hz0 hz1 .i64 .i64 6 6 6 rfl rfl rfl rfl (by rw [hz2]; decide) (by unfold maxLen; decide) (Nat.le_refl _) ?_; intro w1 hown hgrow)
  have hb : Below w.heap.size w w1 := (Below.refl _ w).grown hgrow (Nat.le_refl _) (fun k hk => by cases hk)
  clear hown hgrow
  go_wp2_with fail
  go_ret
  exact ⟨_, rfl, hb.alloc hb.size _⟩

/-- the pair of a law's tables and hubs in memory -/
def PairAt (w : World) (P : Nat) (cs : List Value) : Prop := w.heap[P]? = some (.cells cs.toArray 37 (0, 0))

theorem Fr.setCell (w : World) (P i : Nat) (v : Value) : Fr (fun k => k = P) w (w.setCell ⟨P, i, none⟩ v) (fun k => k = P) :=
  ⟨rfl, rfl, rfl, by simp, fun k _ hn => Below.heap_setCell _ _ _ _ hn, fun _ h => Or.inl h⟩

set_option maxHeartbeats 1000000 in
set_option maxRecDepth 1000000 in
theorem tables0_any (I : HubTabI) (P : Nat) (t0 t1 h0 h1 d0 d1 g0 g1 : Value) (w : World) (h : PairAt w P [t0, t1, h0, h1, d0, d1, g0, g1]) :
    Calls Tryz.prog 5 #[.pointer (some ⟨P, 0, none⟩), .int .i64 0] w fun e w' => ∃ v, e = .returned v ∧ ∃ p S d D, Both I w' p S d D [] ∧ PairAt w' P [.pointer (some ⟨p, 0, none⟩), t1, h0, h1, .pointer (some ⟨d, 0, none⟩), d1, g0, g1] ∧ Fr (fun k => k = P) w w' (fun k => k = P) ∧ ∀ k, S k ∨ D k → w.heap.size ≤ k := by
  go_enter Tryz.func5, Tryz.ntmps5
  go_wp2_with fail
  refine (I.new _).mono ?_
  rintro e w1 ⟨p, S, rfl, ht1, hb1, hS⟩
  go_wp2_with fail
  refine (refNew_any _).mono ?_
  rintro e w2 ⟨rfl, ht2, hb2, hsz⟩
  have hP := heap_lt h
  have hP2 : w2.heap[P]? = some (.cells #[t0, t1, h0, h1, d0, d1, g0, g1] 37 (0, 0)) := by
    rw [hb2.block P (by have := hb1.size; omega), hb1.block P hP]; exact h
  have f0 := free_block (i := 0) hP2
  have f4 := free_block (i := 4) hP2
  have c0 : w2.cell? ⟨P, 0, none⟩ = some t0 := cell_block (i := 0) hP2 rfl
  have c4 : w2.cell? ⟨P, 4, none⟩ = some d0 := cell_block (i := 4) hP2 rfl
  have hlt1 : ∀ k, S k → k < w1.heap.size := fun k hk => I.lt ht1 hk
  have hboth : Both I w2 p S w1.heap.size (fun k => k = w1.heap.size) [] :=
    ⟨I.kept ht1 (Fr.of_below (S := fun _ => False) hb2) (fun _ _ h => h), ht2, fun k hk he => by have := hlt1 k hk; omega⟩
  have hfr : Fr (fun k => k = P) w2 ((w2.setCell ⟨P, 0, none⟩ (.pointer (some ⟨p, 0, none⟩))).setCell ⟨P, 4, none⟩ (.pointer (some ⟨w1.heap.size, 0, none⟩))) (fun k => k = P) := (Fr.setCell w2 P 0 _).trans (Fr.setCell _ P 4 _)
  have hws := hb1.size
  have HBO := hide (hboth.kept hfr (fun k hk he => by have := hS k hk; omega) (fun k hk he => by omega))
  have HPA : Hid (PairAt ((w2.setCell ⟨P, 0, none⟩ (.pointer (some ⟨p, 0, none⟩))).setCell ⟨P, 4, none⟩ (.pointer (some ⟨w1.heap.size, 0, none⟩))) P [.pointer (some ⟨p, 0, none⟩), t1, h0, h1, .pointer (some ⟨w1.heap.size, 0, none⟩), d1, g0, g1]) := by
    unfold Hid PairAt
    rw [heap_setCell_same _ P 4 _ _ _ (heap_setCell_same w2 P 0 _ _ _ hP2)]; rfl
  have HFR := hide ((Fr.of_below (S := fun k => k = P) (hb1.trans (hb2.mono hws))).trans hfr)
  have HS : Hid (∀ k, S k ∨ k = w1.heap.size → w.heap.size ≤ k) := by
    intro k hk
    rcases hk with hk | hk
    · exact hS k hk
    · omega
  clear hboth hfr h ht1 ht2 hb1 hb2 hS hlt1 hP2
  go_wp2_with fail
  go_end0
  exact ⟨_, rfl, _, _, _, _, unhide HBO, unhide HPA, unhide HFR, unhide HS⟩

set_option maxHeartbeats 1000000 in
set_option maxRecDepth 1000000 in
theorem tables1_any (I : HubTabI) (P : Nat) (t0 t1 h0 h1 d0 d1 g0 g1 : Value) (w : World) (h : PairAt w P [t0, t1, h0, h1, d0, d1, g0, g1]) :
    Calls Tryz.prog 5 #[.pointer (some ⟨P, 0, none⟩), .int .i64 1] w fun e w' => ∃ v, e = .returned v ∧ ∃ p S d D, Both I w' p S d D [] ∧ PairAt w' P [t0, .pointer (some ⟨p, 0, none⟩), h0, h1, d0, .pointer (some ⟨d, 0, none⟩), g0, g1] ∧ Fr (fun k => k = P) w w' (fun k => k = P) ∧ ∀ k, S k ∨ D k → w.heap.size ≤ k := by
  go_enter Tryz.func5, Tryz.ntmps5
  go_wp2_with fail
  refine (I.new _).mono ?_
  rintro e w1 ⟨p, S, rfl, ht1, hb1, hS⟩
  go_wp2_with fail
  refine (refNew_any _).mono ?_
  rintro e w2 ⟨rfl, ht2, hb2, hsz⟩
  have hP := heap_lt h
  have hP2 : w2.heap[P]? = some (.cells #[t0, t1, h0, h1, d0, d1, g0, g1] 37 (0, 0)) := by
    rw [hb2.block P (by have := hb1.size; omega), hb1.block P hP]; exact h
  have f0 := free_block (i := 1) hP2
  have f4 := free_block (i := 5) hP2
  have c0 : w2.cell? ⟨P, 1, none⟩ = some t1 := cell_block (i := 1) hP2 rfl
  have c4 : w2.cell? ⟨P, 5, none⟩ = some d1 := cell_block (i := 5) hP2 rfl
  have hlt1 : ∀ k, S k → k < w1.heap.size := fun k hk => I.lt ht1 hk
  have hboth : Both I w2 p S w1.heap.size (fun k => k = w1.heap.size) [] :=
    ⟨I.kept ht1 (Fr.of_below (S := fun _ => False) hb2) (fun _ _ h => h), ht2, fun k hk he => by have := hlt1 k hk; omega⟩
  have hfr : Fr (fun k => k = P) w2 ((w2.setCell ⟨P, 1, none⟩ (.pointer (some ⟨p, 0, none⟩))).setCell ⟨P, 5, none⟩ (.pointer (some ⟨w1.heap.size, 0, none⟩))) (fun k => k = P) := (Fr.setCell w2 P 1 _).trans (Fr.setCell _ P 5 _)
  have hws := hb1.size
  have HBO := hide (hboth.kept hfr (fun k hk he => by have := hS k hk; omega) (fun k hk he => by omega))
  have HPA : Hid (PairAt ((w2.setCell ⟨P, 1, none⟩ (.pointer (some ⟨p, 0, none⟩))).setCell ⟨P, 5, none⟩ (.pointer (some ⟨w1.heap.size, 0, none⟩))) P [t0, .pointer (some ⟨p, 0, none⟩), h0, h1, d0, .pointer (some ⟨w1.heap.size, 0, none⟩), g0, g1]) := by
    unfold Hid PairAt
    rw [heap_setCell_same _ P 5 _ _ _ (heap_setCell_same w2 P 1 _ _ _ hP2)]; rfl
  have HFR := hide ((Fr.of_below (S := fun k => k = P) (hb1.trans (hb2.mono hws))).trans hfr)
  have HS : Hid (∀ k, S k ∨ k = w1.heap.size → w.heap.size ≤ k) := by
    intro k hk
    rcases hk with hk | hk
    · exact hS k hk
    · omega
  clear hboth hfr h ht1 ht2 hb1 hb2 hS hlt1 hP2
  go_wp2_with fail
  go_end0
  exact ⟨_, rfl, _, _, _, _, unhide HBO, unhide HPA, unhide HFR, unhide HS⟩

set_option maxHeartbeats 1000000 in
set_option maxRecDepth 1000000 in
theorem hubs0_new (J : HubNewI) (P : Nat) (t0 t1 h0 h1 d0 d1 g0 g1 : Value) (w : World) (h : PairAt w P [t0, t1, h0, h1, d0, d1, g0, g1]) :
    Calls Tryz.prog 6 #[.pointer (some ⟨P, 0, none⟩), .int .i64 0] w fun e w' => ∃ v, e = .returned v ∧ ∃ a b, PairAt w' P [t0, t1, .pointer a, h1, d0, d1, .pointer b, g1] ∧ Fr (fun k => k = P) w w' (fun k => k = P) := by
  go_enter Tryz.func6, Tryz.ntmps6
  go_wp2_with fail
  refine (J.new _).mono ?_
  rintro e w1 ⟨a, rfl, hb1⟩
  go_wp2_with fail
  refine (refHubNew_any _).mono ?_
  rintro e w2 ⟨b, rfl, hb2⟩
  have hP := heap_lt h
  have hP2 : w2.heap[P]? = some (.cells #[t0, t1, h0, h1, d0, d1, g0, g1] 37 (0, 0)) := by
    rw [hb2.block P (by have := hb1.size; omega), hb1.block P hP]; exact h
  have f0 := free_block (i := 2) hP2
  have f4 := free_block (i := 6) hP2
  have c0 : w2.cell? ⟨P, 2, none⟩ = some h0 := cell_block (i := 2) hP2 rfl
  have c4 : w2.cell? ⟨P, 6, none⟩ = some g0 := cell_block (i := 6) hP2 rfl
  have hws := hb1.size
  have HPA : Hid (PairAt ((w2.setCell ⟨P, 2, none⟩ (.pointer a)).setCell ⟨P, 6, none⟩ (.pointer b)) P [t0, t1, .pointer a, h1, d0, d1, .pointer b, g1]) := by
    unfold Hid PairAt
    rw [heap_setCell_same _ P 6 _ _ _ (heap_setCell_same w2 P 2 _ _ _ hP2)]; rfl
  have HFR := hide ((Fr.of_below (S := fun k => k = P) (hb1.trans (hb2.mono hws))).trans ((Fr.setCell w2 P 2 (.pointer a)).trans (Fr.setCell _ P 6 (.pointer b))))
  clear h hb1 hb2 hP2
  go_wp2_with fail
  go_end0
  exact ⟨_, rfl, _, _, unhide HPA, unhide HFR⟩

set_option maxHeartbeats 1000000 in
set_option maxRecDepth 1000000 in
theorem hubs1_new (J : HubNewI) (P : Nat) (t0 t1 h0 h1 d0 d1 g0 g1 : Value) (w : World) (h : PairAt w P [t0, t1, h0, h1, d0, d1, g0, g1]) :
    Calls Tryz.prog 6 #[.pointer (some ⟨P, 0, none⟩), .int .i64 1] w fun e w' => ∃ v, e = .returned v ∧ ∃ a b, PairAt w' P [t0, t1, h0, .pointer a, d0, d1, g0, .pointer b] ∧ Fr (fun k => k = P) w w' (fun k => k = P) := by
  go_enter Tryz.func6, Tryz.ntmps6
  go_wp2_with fail
  refine (J.new _).mono ?_
  rintro e w1 ⟨a, rfl, hb1⟩
  go_wp2_with fail
  refine (refHubNew_any _).mono ?_
  rintro e w2 ⟨b, rfl, hb2⟩
  have hP := heap_lt h
  have hP2 : w2.heap[P]? = some (.cells #[t0, t1, h0, h1, d0, d1, g0, g1] 37 (0, 0)) := by
    rw [hb2.block P (by have := hb1.size; omega), hb1.block P hP]; exact h
  have f0 := free_block (i := 3) hP2
  have f4 := free_block (i := 7) hP2
  have c0 : w2.cell? ⟨P, 3, none⟩ = some h1 := cell_block (i := 3) hP2 rfl
  have c4 : w2.cell? ⟨P, 7, none⟩ = some g1 := cell_block (i := 7) hP2 rfl
  have hws := hb1.size
  have HPA : Hid (PairAt ((w2.setCell ⟨P, 3, none⟩ (.pointer a)).setCell ⟨P, 7, none⟩ (.pointer b)) P [t0, t1, h0, .pointer a, d0, d1, g0, .pointer b]) := by
    unfold Hid PairAt
    rw [heap_setCell_same _ P 7 _ _ _ (heap_setCell_same w2 P 3 _ _ _ hP2)]; rfl
  have HFR := hide ((Fr.of_below (S := fun k => k = P) (hb1.trans (hb2.mono hws))).trans ((Fr.setCell w2 P 3 (.pointer a)).trans (Fr.setCell _ P 7 (.pointer b))))
  clear h hb1 hb2 hP2
  go_wp2_with fail
  go_end0
  exact ⟨_, rfl, _, _, unhide HPA, unhide HFR⟩

end Go.Proofs.YtchhmojnoiephaaGreatDoor
