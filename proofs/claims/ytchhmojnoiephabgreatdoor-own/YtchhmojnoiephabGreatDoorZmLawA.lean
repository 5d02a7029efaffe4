import Derived.Test.YtchhmojnoiephabGreatDoorZmWalkP
import Derived.Test.YtchhmojnoiephabGreatDoorTabI
import Derived.Deep.DeepCutAuto
import Derived.Deep.CutBlock
import Derived.Deep.RegionWith
namespace Go.Proofs.YtchhmojnoiephabGreatDoor
open Go.ChangeShapes Go.WideShapes Go.ChangeAt Go.RowKit
set_option linter.unusedVariables false

/-- the two tables of a law, side by side in memory -/
structure Both (I : HubTabI) (w : World) (p : Nat) (S : Nat → Prop) (d : Nat) (D : Nat → Prop) (L : List PairL) : Prop where
  hub : I.tab w p S L
  ref : TabAt w d D L
  apart : ∀ k, S k → ¬ D k

theorem Both.kept {I : HubTabI} {w w' : World} {p d : Nat} {S D T T' : Nat → Prop} {L : List PairL} (h : Both I w p S d D L) (hf : Fr T w w' T') (h1 : ∀ k, S k → ¬ T k) (h2 : ∀ k, D k → ¬ T k) : Both I w' p S d D L :=
  ⟨I.kept h.hub hf h1, h.ref.kept hf h2, h.apart⟩

/-- both tables have done their step -/
theorem both_step {I : HubTabI} {w w1 w2 : World} {p d : Nat} {S S1 D D1 : Nat → Prop} {L L' : List PairL} (h : Both I w p S d D L) (hub1 : I.tab w1 p S1 L') (f1 : Fr S w w1 S1) (ref2 : TabAt w2 d D1 L') (f2 : Fr D w1 w2 D1) :
    Both I w2 p S1 d D1 L' ∧ Fr (fun b => S b ∨ D b) w w2 (fun b => S1 b ∨ D1 b) := by
  have hap : ∀ k, S1 k → ¬ D k := fun k hs hd => by
    rcases f1.new k hs with h1 | h1
    · exact h.apart k h1 hd
    · have := h.ref.lt k hd; omega
  refine ⟨⟨I.kept hub1 f2 hap, ref2, fun k hs hd => ?_⟩, f1.join f2⟩
  rcases f2.new k hd with h1 | h1
  · exact hap k hs h1
  · have := I.lt hub1 hs; omega

/-- a step was answered as the document says; the two tables have changed alike -/
def StepPost (I : HubTabI) (w : World) (p : Nat) (S : Nat → Prop) (d : Nat) (D : Nat → Prop) (e : Ending) (w' : World) : Prop :=
  e = .returned (.bool true) ∧ ∃ S' D' L', Both I w' p S' d D' L' ∧ Fr (fun k => S k ∨ D k) w w' (fun k => S' k ∨ D' k)

set_option maxHeartbeats 2000000 in
set_option maxRecDepth 1000000 in
theorem table_add (I : HubTabI) (p d : Nat) (S D : Nat → Prop) (L : List PairL) (a b : Int) (s t : ByteArray) (w : World) (h : Both I w p S d D L) (hs : s.size ≤ maxLen) :
    Calls Tryz.prog 16 #[.pointer (some ⟨p, 0, none⟩), .pointer (some ⟨d, 0, none⟩), .agg #[.int .i64 5, .int .i64 a, .int .i64 b, .string s, .string t]] w (StepPost I w p S d D) := by
  have hw1 := Fr.alloc (S := fun _ => False) w (.cells #[.int .i64 5, .int .i64 a, .int .i64 b, .string s, .string t] 38)
  have HW := hide (Fr.alloc (S := fun k => S k ∨ D k) w (.cells #[.int .i64 5, .int .i64 a, .int .i64 b, .string s, .string t] 38))
  have h1 := h.kept hw1 (fun _ _ h => h) (fun _ _ h => h)
  have hSx : ¬ S w.heap.size := fun hk => by have := I.lt h.hub hk; omega
  have H1 := hide h1
  clear h h1 hw1
  go_enter Tryz.func16, Tryz.ntmps16
  go_wp2_with fail
  refine (I.add p S L s a _ (unhide H1).hub hs).mono ?_
  rintro e w2 ⟨rfl, S2, ht2, hf2⟩
  have c0 := hf2.cell (b := w.heap.size) (off := 1) (v := .int .i64 a) (by simp) hSx
  have c1 := hf2.cell (b := w.heap.size) (off := 3) (v := .string s) (by simp) hSx
  have HT2 := hide ht2
  have HF2 := hide hf2
  clear ht2 hf2
  go_wp2_with fail
  refine (refAdd_any d D L s a _ ((unhide H1).ref.kept (unhide HF2) (fun k hd hs => (unhide H1).apart k hs hd)) hs).mono ?_
  rintro e w3 ⟨rfl, D3, ht3, hf3⟩
  obtain ⟨hb, hfr⟩ := both_step (unhide H1) (unhide HT2) (unhide HF2) ht3 hf3
  have HB := hide hb
  have HFR := hide ((unhide HW).trans hfr)
  clear hb hfr ht3 hf3 HT2 HF2 H1 HW c0 c1
  generalize (addR L s.data.toList a).1 = r at *
  go_wp2_with (go_at_call 34; refine (num_any _ _).mono ?_; rintro e w' ⟨rfl, rfl⟩)
  go_ret
  exact ⟨by simp, _, _, _, unhide HB, unhide HFR⟩

set_option maxHeartbeats 2000000 in
set_option maxRecDepth 1000000 in
theorem table_drop (I : HubTabI) (p d : Nat) (S D : Nat → Prop) (L : List PairL) (a b : Int) (s t : ByteArray) (w : World) (h : Both I w p S d D L) (hs : s.size ≤ maxLen) :
    Calls Tryz.prog 16 #[.pointer (some ⟨p, 0, none⟩), .pointer (some ⟨d, 0, none⟩), .agg #[.int .i64 6, .int .i64 a, .int .i64 b, .string s, .string t]] w (StepPost I w p S d D) := by
  have hw1 := Fr.alloc (S := fun _ => False) w (.cells #[.int .i64 6, .int .i64 a, .int .i64 b, .string s, .string t] 38)
  have HW := hide (Fr.alloc (S := fun k => S k ∨ D k) w (.cells #[.int .i64 6, .int .i64 a, .int .i64 b, .string s, .string t] 38))
  have h1 := h.kept hw1 (fun _ _ h => h) (fun _ _ h => h)
  have hSx : ¬ S w.heap.size := fun hk => by have := I.lt h.hub hk; omega
  have H1 := hide h1
  clear h h1 hw1
  go_enter Tryz.func16, Tryz.ntmps16
  go_wp2_with fail
  refine (I.drop p S L s a _ (unhide H1).hub hs).mono ?_
  rintro e w2 ⟨rfl, S2, ht2, hf2⟩
  have c0 := hf2.cell (b := w.heap.size) (off := 1) (v := .int .i64 a) (by simp) hSx
  have c1 := hf2.cell (b := w.heap.size) (off := 3) (v := .string s) (by simp) hSx
  have HT2 := hide ht2
  have HF2 := hide hf2
  clear ht2 hf2
  go_wp2_with fail
  refine (refDrop_any d D L s a _ ((unhide H1).ref.kept (unhide HF2) (fun k hd hs => (unhide H1).apart k hs hd)) hs).mono ?_
  rintro e w3 ⟨rfl, D3, ht3, hf3⟩
  obtain ⟨hb, hfr⟩ := both_step (unhide H1) (unhide HT2) (unhide HF2) ht3 hf3
  have HB := hide hb
  have HFR := hide ((unhide HW).trans hfr)
  clear hb hfr ht3 hf3 HT2 HF2 H1 HW c0 c1
  generalize (dropR L s.data.toList a).1 = r at *
  go_wp2_with (go_at_call 34; refine (num_any _ _).mono ?_; rintro e w' ⟨rfl, rfl⟩)
  go_ret
  exact ⟨by simp, _, _, _, unhide HB, unhide HFR⟩

set_option maxHeartbeats 2000000 in
set_option maxRecDepth 1000000 in
theorem table_route (I : HubTabI) (p d : Nat) (S D : Nat → Prop) (L : List PairL) (a b : Int) (s t : ByteArray) (w : World) (h : Both I w p S d D L) (hs : s.size ≤ maxLen) :
    Calls Tryz.prog 16 #[.pointer (some ⟨p, 0, none⟩), .pointer (some ⟨d, 0, none⟩), .agg #[.int .i64 7, .int .i64 a, .int .i64 b, .string s, .string t]] w (StepPost I w p S d D) := by
  have hw1 := Fr.alloc (S := fun _ => False) w (.cells #[.int .i64 7, .int .i64 a, .int .i64 b, .string s, .string t] 38)
  have HW := hide (Fr.alloc (S := fun k => S k ∨ D k) w (.cells #[.int .i64 7, .int .i64 a, .int .i64 b, .string s, .string t] 38))
  have h1 := h.kept hw1 (fun _ _ h => h) (fun _ _ h => h)
  have hSx : ¬ S w.heap.size := fun hk => by have := I.lt h.hub hk; omega
  have H1 := hide h1
  clear h h1 hw1
  go_enter Tryz.func16, Tryz.ntmps16
  go_wp2_with fail
  refine (I.route p S L s _ (unhide H1).hub hs).mono ?_
  rintro e w2 ⟨v, S2, rfl, ⟨hints, _⟩, ht2, hf2⟩
  have c1 := hf2.cell (b := w.heap.size) (off := 3) (v := .string s) (by simp) hSx
  have HT2 := hide ht2
  have HF2 := hide hf2
  have HI := hide hints
  clear ht2 hf2 hints
  go_wp2_with fail
  refine (refRoute_any d D L s _ ((unhide H1).ref.kept (unhide HF2) (fun k hd hs => (unhide H1).apart k hs hd)) hs).mono ?_
  rintro e w3 ⟨v3, rfl, hown3, hb3⟩
  have HI3 := hide ((unhide HI).below hb3)
  have HO3 := hide (IntsAt.of_own hown3)
  have hr3 := ((unhide H1).ref.kept (unhide HF2) (fun k hd hs => (unhide H1).apart k hs hd)).below hb3
  obtain ⟨hb, hfr⟩ := both_step (unhide H1) (unhide HT2) (unhide HF2) hr3 (Fr.of_below hb3)
  have HB := hide hb
  have HFR := hide ((unhide HW).trans hfr)
  clear hb hfr hb3 hown3 hr3 HT2 HF2 H1 HW c1 HI
  generalize routeR L s.data.toList = r at *
  go_wp2_with fail
  refine (same_any v v3 r.1 r.1 _ (unhide HI3) (unhide HO3)).mono ?_
  rw [show sameL r.1 r.1 = true from by simp [sameL]]
  rintro e w4 ⟨rfl, n, rfl⟩
  go_wp2_with (go_at_call 34; refine (num_any _ _).mono ?_; rintro e w' ⟨rfl, rfl⟩)
  go_ret
  exact ⟨by simp, _, _, _, (unhide HB).kept (Fr.drewN (Fr.of_below (S := fun _ => False) (Below.refl _ _)) n) (fun _ _ h => h) (fun _ _ h => h), (unhide HFR).drewN n⟩

set_option maxHeartbeats 2000000 in
set_option maxRecDepth 1000000 in
theorem table_other (I : HubTabI) (p d : Nat) (S D : Nat → Prop) (L : List PairL) (k a b : Int) (s t : ByteArray) (w : World) (h : Both I w p S d D L) (h5 : (k == 5) = false) (h6 : (k == 6) = false) (h7 : (k == 7) = false) (h8 : (k == 8) = false) :
    Calls Tryz.prog 16 #[.pointer (some ⟨p, 0, none⟩), .pointer (some ⟨d, 0, none⟩), .agg #[.int .i64 k, .int .i64 a, .int .i64 b, .string s, .string t]] w (StepPost I w p S d D) := by
  have hw1 := Fr.alloc (S := fun _ => False) w (.cells #[.int .i64 k, .int .i64 a, .int .i64 b, .string s, .string t] 38)
  have HW := hide (Fr.alloc (S := fun k => S k ∨ D k) w (.cells #[.int .i64 k, .int .i64 a, .int .i64 b, .string s, .string t] 38))
  have H1 := hide (h.kept hw1 (fun _ _ h => h) (fun _ _ h => h))
  clear h hw1
  go_enter Tryz.func16, Tryz.ntmps16
  go_wp2_with fail
  go_ret
  exact ⟨rfl, _, _, _, unhide H1, unhide HW⟩

/-- every step on a table but Code -/
theorem table_any (I : HubTabI) (p d : Nat) (S D : Nat → Prop) (L : List PairL) (o : OpV) (w : World) (h : Both I w p S d D L) (ho : o.fits) (h8 : ¬ o.kind = 8) :
    Calls Tryz.prog 16 #[.pointer (some ⟨p, 0, none⟩), .pointer (some ⟨d, 0, none⟩), opAgg o] w (StepPost I w p S d D) := by
  obtain ⟨k, a, b, s, t⟩ := o
  have hs : s.size ≤ maxLen := ho.2.2.2.1
  unfold opAgg
  simp only at h8 ⊢
  by_cases h5 : k = 5
  · subst h5; exact table_add I p d S D L a b s t w h hs
  by_cases h6 : k = 6
  · subst h6; exact table_drop I p d S D L a b s t w h hs
  by_cases h7 : k = 7
  · subst h7; exact table_route I p d S D L a b s t w h hs
  exact table_other I p d S D L k a b s t w h (by simpa using h5) (by simpa using h6) (by simpa using h7) (by simpa using h8)

theorem table_step (I : HubTabI) (p d : Nat) (S D : Nat → Prop) (L : List PairL) (o : OpV) (w : World) (h : Both I w p S d D L) (ho : o.fits) (h8 : ¬ o.kind = 8) :
    Calls Tryz.prog 16 #[.pointer (some ⟨p, 0, none⟩), .pointer (some ⟨d, 0, none⟩), .agg #[.int .i64 o.kind, .int .i64 o.a, .int .i64 o.b, .string o.s, .string o.t]] w (StepPost I w p S d D) :=
  table_any I p d S D L o w h ho h8

end Go.Proofs.YtchhmojnoiephabGreatDoor

namespace Go.Proofs.YtchhmojnoiephabGreatDoor
open Go.ChangeShapes Go.WideShapes Go.ChangeAt Go.RowKit
set_option linter.unusedVariables false

/-- what the laws of the tables ask of NewHub -/
structure HubNewI where
  new : ∀ w, Calls Tryz.prog 9 #[] w fun e w' => ∃ a, e = .returned (.pointer a) ∧ Below w.heap.size w w'

theorem info_client : (Tryz.prog.info? 124).map (fun i => (i.zero, i.size, i.bytes)) = some (some (.agg #[.bool false, .bool false, .slice none 0 0]), 3, 32) := by kernel_rfl

set_option maxHeartbeats 1000000 in
set_option maxRecDepth 1000000 in
theorem refHubNew_any (w : World) : Calls Tryz.prog 10 #[] w fun e w' => ∃ a, e = .returned (.pointer a) ∧ Below w.heap.size w w' := by
  obtain ⟨i0, hi, hz0, hz1, hz2⟩ := info_parts info_client
  go_enter Tryz.func10, Tryz.ntmps10
  go_wp2_with (at_make; refine wpList_make_full _ rfl _ _ 74 rfl w.heap.size 124 i0 (.agg #[.bool false, .bool false, .slice none 0 0]) 3 Tryz.underlying74 hi hz0 hz1 .i64 .i64 6 6 6 rfl rfl rfl rfl (by rw [hz2]; decide) (by unfold maxLen; decide) (Nat.le_refl _) ?_; intro w1 hown hgrow)
  have hb : Below w.heap.size w w1 := (Below.refl _ w).grown hgrow (Nat.le_refl _) (fun k hk => by cases hk)
  clear hown hgrow
  go_wp2_with fail
  go_ret
  exact ⟨_, rfl, hb.alloc hb.size _⟩

/-- the pair of a law's tables and hubs in memory -/
def PairAt (w : World) (P : Nat) (cs : List Value) : Prop := w.heap[P]? = some (.cells cs.toArray 58 (0, 0))

theorem Fr.setCell (w : World) (P i : Nat) (v : Value) : Fr (fun k => k = P) w (w.setCell ⟨P, i, none⟩ v) (fun k => k = P) :=
  ⟨rfl, rfl, rfl, by simp, fun k _ hn => Below.heap_setCell _ _ _ _ hn, fun _ h => Or.inl h⟩

set_option maxHeartbeats 1000000 in
set_option maxRecDepth 1000000 in
theorem tables0_any (I : HubTabI) (P : Nat) (t0 t1 h0 h1 d0 d1 g0 g1 : Value) (w : World) (h : PairAt w P [t0, t1, h0, h1, d0, d1, g0, g1]) :
    Calls Tryz.prog 20 #[.pointer (some ⟨P, 0, none⟩), .int .i64 0] w fun e w' => ∃ v, e = .returned v ∧ ∃ p S d D, Both I w' p S d D [] ∧ PairAt w' P [.pointer (some ⟨p, 0, none⟩), t1, h0, h1, .pointer (some ⟨d, 0, none⟩), d1, g0, g1] ∧ Fr (fun k => k = P) w w' (fun k => k = P) ∧ ∀ k, S k ∨ D k → w.heap.size ≤ k := by
  go_enter Tryz.func20, Tryz.ntmps20
  go_wp2_with fail
  refine (I.new _).mono ?_
  rintro e w1 ⟨p, S, rfl, ht1, hb1, hS⟩
  go_wp2_with fail
  refine (refNew_any _).mono ?_
  rintro e w2 ⟨rfl, ht2, hb2, hsz⟩
  have hP := heap_lt h
  have hP2 : w2.heap[P]? = some (.cells #[t0, t1, h0, h1, d0, d1, g0, g1] 58 (0, 0)) := by
    rw [hb2.block P (by have := hb1.size; omega), hb1.block P hP]; exact h
  have f0 := free_block (i := 0) hP2
  have f4 := free_block (i := 4) hP2
  have c0 : w2.cell? ⟨P, 0, none⟩ = some t0 := cell_block (i := 0) hP2 rfl
  have c4 : w2.cell? ⟨P, 4, none⟩ = some d0 := cell_block (i := 4) hP2 rfl
  have hlt1 : ∀ k, S k → k < w1.heap.size := fun k hk => I.lt ht1 hk
  have hboth : Both I w2 p S w1.heap.size (fun k => k = w1.heap.size) [] :=
    ⟨I.kept ht1 (Fr.of_below (S := fun _ => False) hb2) (fun _ _ h => h), ht2, fun k hk he => by have := hlt1 k hk; omega⟩
  have hfr : Fr (fun k => k = P) w2 ((w2.setCell ⟨P, 0, none⟩ (.pointer (some ⟨p, 0, none⟩))).setCell ⟨P, 4, none⟩ (.pointer (some ⟨w1.heap.size, 0, none⟩))) (fun k => k = P) := (Fr.setCell w2 P 0 _).trans (Fr.setCell _ P 4 _)
  have hws := hb1.size
  have HBO := hide (hboth.kept hfr (fun k hk he => by have := hS k hk; omega) (fun k hk he => by omega))
  have HPA : Hid (PairAt ((w2.setCell ⟨P, 0, none⟩ (.pointer (some ⟨p, 0, none⟩))).setCell ⟨P, 4, none⟩ (.pointer (some ⟨w1.heap.size, 0, none⟩))) P [.pointer (some ⟨p, 0, none⟩), t1, h0, h1, .pointer (some ⟨w1.heap.size, 0, none⟩), d1, g0, g1]) := by
    unfold Hid PairAt
    rw [heap_setCell_same _ P 4 _ _ _ (heap_setCell_same w2 P 0 _ _ _ hP2)]; rfl
  have HFR := hide ((Fr.of_below (S := fun k => k = P) (hb1.trans (hb2.mono hws))).trans hfr)
  have HS : Hid (∀ k, S k ∨ k = w1.heap.size → w.heap.size ≤ k) := by
    intro k hk
    rcases hk with hk | hk
    · exact hS k hk
    · omega
  clear hboth hfr h ht1 ht2 hb1 hb2 hS hlt1 hP2
  go_wp2_with fail
  go_end0
  exact ⟨_, rfl, _, _, _, _, unhide HBO, unhide HPA, unhide HFR, unhide HS⟩

set_option maxHeartbeats 1000000 in
set_option maxRecDepth 1000000 in
theorem tables1_any (I : HubTabI) (P : Nat) (t0 t1 h0 h1 d0 d1 g0 g1 : Value) (w : World) (h : PairAt w P [t0, t1, h0, h1, d0, d1, g0, g1]) :
    Calls Tryz.prog 20 #[.pointer (some ⟨P, 0, none⟩), .int .i64 1] w fun e w' => ∃ v, e = .returned v ∧ ∃ p S d D, Both I w' p S d D [] ∧ PairAt w' P [t0, .pointer (some ⟨p, 0, none⟩), h0, h1, d0, .pointer (some ⟨d, 0, none⟩), g0, g1] ∧ Fr (fun k => k = P) w w' (fun k => k = P) ∧ ∀ k, S k ∨ D k → w.heap.size ≤ k := by
  go_enter Tryz.func20, Tryz.ntmps20
  go_wp2_with fail
  refine (I.new _).mono ?_
  rintro e w1 ⟨p, S, rfl, ht1, hb1, hS⟩
  go_wp2_with fail
  refine (refNew_any _).mono ?_
  rintro e w2 ⟨rfl, ht2, hb2, hsz⟩
  have hP := heap_lt h
  have hP2 : w2.heap[P]? = some (.cells #[t0, t1, h0, h1, d0, d1, g0, g1] 58 (0, 0)) := by
    rw [hb2.block P (by have := hb1.size; omega), hb1.block P hP]; exact h
  have f0 := free_block (i := 1) hP2
  have f4 := free_block (i := 5) hP2
  have c0 : w2.cell? ⟨P, 1, none⟩ = some t1 := cell_block (i := 1) hP2 rfl
  have c4 : w2.cell? ⟨P, 5, none⟩ = some d1 := cell_block (i := 5) hP2 rfl
  have hlt1 : ∀ k, S k → k < w1.heap.size := fun k hk => I.lt ht1 hk
  have hboth : Both I w2 p S w1.heap.size (fun k => k = w1.heap.size) [] :=
    ⟨I.kept ht1 (Fr.of_below (S := fun _ => False) hb2) (fun _ _ h => h), ht2, fun k hk he => by have := hlt1 k hk; omega⟩
  have hfr : Fr (fun k => k = P) w2 ((w2.setCell ⟨P, 1, none⟩ (.pointer (some ⟨p, 0, none⟩))).setCell ⟨P, 5, none⟩ (.pointer (some ⟨w1.heap.size, 0, none⟩))) (fun k => k = P) := (Fr.setCell w2 P 1 _).trans (Fr.setCell _ P 5 _)
  have hws := hb1.size
  have HBO := hide (hboth.kept hfr (fun k hk he => by have := hS k hk; omega) (fun k hk he => by omega))
  have HPA : Hid (PairAt ((w2.setCell ⟨P, 1, none⟩ (.pointer (some ⟨p, 0, none⟩))).setCell ⟨P, 5, none⟩ (.pointer (some ⟨w1.heap.size, 0, none⟩))) P [t0, .pointer (some ⟨p, 0, none⟩), h0, h1, d0, .pointer (some ⟨w1.heap.size, 0, none⟩), g0, g1]) := by
    unfold Hid PairAt
    rw [heap_setCell_same _ P 5 _ _ _ (heap_setCell_same w2 P 1 _ _ _ hP2)]; rfl
  have HFR := hide ((Fr.of_below (S := fun k => k = P) (hb1.trans (hb2.mono hws))).trans hfr)
  have HS : Hid (∀ k, S k ∨ k = w1.heap.size → w.heap.size ≤ k) := by
    intro k hk
    rcases hk with hk | hk
    · exact hS k hk
    · omega
  clear hboth hfr h ht1 ht2 hb1 hb2 hS hlt1 hP2
  go_wp2_with fail
  go_end0
  exact ⟨_, rfl, _, _, _, _, unhide HBO, unhide HPA, unhide HFR, unhide HS⟩

set_option maxHeartbeats 1000000 in
set_option maxRecDepth 1000000 in
theorem hubs0_new (J : HubNewI) (P : Nat) (t0 t1 h0 h1 d0 d1 g0 g1 : Value) (w : World) (h : PairAt w P [t0, t1, h0, h1, d0, d1, g0, g1]) :
    Calls Tryz.prog 21 #[.pointer (some ⟨P, 0, none⟩), .int .i64 0] w fun e w' => ∃ v, e = .returned v ∧ ∃ a b, PairAt w' P [t0, t1, .pointer a, h1, d0, d1, .pointer b, g1] ∧ Fr (fun k => k = P) w w' (fun k => k = P) := by
  go_enter Tryz.func21, Tryz.ntmps21
  go_wp2_with fail
  refine (J.new _).mono ?_
  rintro e w1 ⟨a, rfl, hb1⟩
  go_wp2_with fail
  refine (refHubNew_any _).mono ?_
  rintro e w2 ⟨b, rfl, hb2⟩
  have hP := heap_lt h
  have hP2 : w2.heap[P]? = some (.cells #[t0, t1, h0, h1, d0, d1, g0, g1] 58 (0, 0)) := by
    rw [hb2.block P (by have := hb1.size; omega), hb1.block P hP]; exact h
  have f0 := free_block (i := 2) hP2
  have f4 := free_block (i := 6) hP2
  have c0 : w2.cell? ⟨P, 2, none⟩ = some h0 := cell_block (i := 2) hP2 rfl
  have c4 : w2.cell? ⟨P, 6, none⟩ = some g0 := cell_block (i := 6) hP2 rfl
  have hws := hb1.size
  have HPA : Hid (PairAt ((w2.setCell ⟨P, 2, none⟩ (.pointer a)).setCell ⟨P, 6, none⟩ (.pointer b)) P [t0, t1, .pointer a, h1, d0, d1, .pointer b, g1]) := by
    unfold Hid PairAt
    rw [heap_setCell_same _ P 6 _ _ _ (heap_setCell_same w2 P 2 _ _ _ hP2)]; rfl
  have HFR := hide ((Fr.of_below (S := fun k => k = P) (hb1.trans (hb2.mono hws))).trans ((Fr.setCell w2 P 2 (.pointer a)).trans (Fr.setCell _ P 6 (.pointer b))))
  clear h hb1 hb2 hP2
  go_wp2_with fail
  go_end0
  exact ⟨_, rfl, _, _, unhide HPA, unhide HFR⟩

set_option maxHeartbeats 1000000 in
set_option maxRecDepth 1000000 in
theorem hubs1_new (J : HubNewI) (P : Nat) (t0 t1 h0 h1 d0 d1 g0 g1 : Value) (w : World) (h : PairAt w P [t0, t1, h0, h1, d0, d1, g0, g1]) :
    Calls Tryz.prog 21 #[.pointer (some ⟨P, 0, none⟩), .int .i64 1] w fun e w' => ∃ v, e = .returned v ∧ ∃ a b, PairAt w' P [t0, t1, h0, .pointer a, d0, d1, g0, .pointer b] ∧ Fr (fun k => k = P) w w' (fun k => k = P) := by
  go_enter Tryz.func21, Tryz.ntmps21
  go_wp2_with fail
  refine (J.new _).mono ?_
  rintro e w1 ⟨a, rfl, hb1⟩
  go_wp2_with fail
  refine (refHubNew_any _).mono ?_
  rintro e w2 ⟨b, rfl, hb2⟩
  have hP := heap_lt h
  have hP2 : w2.heap[P]? = some (.cells #[t0, t1, h0, h1, d0, d1, g0, g1] 58 (0, 0)) := by
    rw [hb2.block P (by have := hb1.size; omega), hb1.block P hP]; exact h
  have f0 := free_block (i := 3) hP2
  have f4 := free_block (i := 7) hP2
  have c0 : w2.cell? ⟨P, 3, none⟩ = some h1 := cell_block (i := 3) hP2 rfl
  have c4 : w2.cell? ⟨P, 7, none⟩ = some g1 := cell_block (i := 7) hP2 rfl
  have hws := hb1.size
  have HPA : Hid (PairAt ((w2.setCell ⟨P, 3, none⟩ (.pointer a)).setCell ⟨P, 7, none⟩ (.pointer b)) P [t0, t1, h0, .pointer a, d0, d1, g0, .pointer b]) := by
    unfold Hid PairAt
    rw [heap_setCell_same _ P 7 _ _ _ (heap_setCell_same w2 P 3 _ _ _ hP2)]; rfl
  have HFR := hide ((Fr.of_below (S := fun k => k = P) (hb1.trans (hb2.mono hws))).trans ((Fr.setCell w2 P 3 (.pointer a)).trans (Fr.setCell _ P 7 (.pointer b))))
  clear h hb1 hb2 hP2
  go_wp2_with fail
  go_end0
  exact ⟨_, rfl, _, _, unhide HPA, unhide HFR⟩

end Go.Proofs.YtchhmojnoiephabGreatDoor

namespace Go.Proofs.YtchhmojnoiephabGreatDoor
open Go.ChangeShapes Go.WideShapes Go.ChangeAt Go.RowKit
set_option linter.unusedVariables false

/-- two pairs of tables side by side, all of them younger than B -/
def TwoTabs (I : HubTabI) (B : Nat) (w0 wr : World) (P : Nat) : Prop :=
  ∃ p0 S0 d0 D0 L0 p1 S1 d1 D1 L1 h0 h1 g0 g1, PairAt wr P [ptrV p0, ptrV p1, h0, h1, ptrV d0, ptrV d1, g0, g1] ∧ Both I wr p0 S0 d0 D0 L0 ∧ Both I wr p1 S1 d1 D1 L1 ∧
    (∀ k, S0 k ∨ D0 k → ¬ (S1 k ∨ D1 k)) ∧ (∀ k, S0 k ∨ D0 k → k ≠ P ∧ B ≤ k) ∧ (∀ k, S1 k ∨ D1 k → k ≠ P ∧ B ≤ k) ∧ B ≤ P ∧ Below B w0 wr

theorem PairAt.kept {w w' : World} {P : Nat} {cs : List Value} {T T' : Nat → Prop} (h : PairAt w P cs) (hf : Fr T w w' T') (hP : ¬ T P) : PairAt w' P cs := by
  unfold PairAt at h ⊢
  rw [hf.keep P (heap_lt h) hP]; exact h

theorem TwoTabs.frame {I : HubTabI} {B : Nat} {w0 wr w' : World} {P : Nat} (h : TwoTabs I B w0 wr P) (hf : Fr (fun _ => False) wr w' (fun _ => False)) (hB : B ≤ w0.heap.size) : TwoTabs I B w0 w' P := by
  obtain ⟨p0, S0, d0, D0, L0, p1, S1, d1, D1, L1, h0, h1, g0, g1, hP, b0, b1, hd, hs0, hs1, hBP, hb⟩ := h
  exact ⟨p0, S0, d0, D0, L0, p1, S1, d1, D1, L1, h0, h1, g0, g1, hP.kept hf (fun h => h), b0.kept hf (fun _ _ h => h) (fun _ _ h => h), b1.kept hf (fun _ _ h => h) (fun _ _ h => h), hd, hs0, hs1, hBP, hf.below hb hB (fun _ h => h.elim)⟩

theorem fr_apart {I : HubTabI} {w w' : World} {p d : Nat} {S D T T' : Nat → Prop} {L : List PairL} (b : Both I w p S d D L) (hf : Fr T w w' T') (hd : ∀ k, S k ∨ D k → ¬ T k) : (∀ k, S k ∨ D k → ¬ T' k) := fun k hk ht => by
  rcases hf.new k ht with h | h
  · exact hd k hk h
  · rcases hk with hk | hk
    · have := I.lt b.hub hk; omega
    · have := b.ref.lt k hk; omega

theorem two_new0 {I : HubTabI} {B : Nat} {w0 wa w' : World} {P p1 d1 p d : Nat} {S1 D1 S D : Nat → Prop} {L1 : List PairL} {h0 h1 g0 g1 : Value} (b1 : Both I wa p1 S1 d1 D1 L1) (hs1 : ∀ k, S1 k ∨ D1 k → k ≠ P ∧ B ≤ k) (hBP : B ≤ P) (hPw : P < wa.heap.size) (hb : Below B w0 wa) (hB : B ≤ w0.heap.size)
    (hnew : Both I w' p S d D []) (hP : PairAt w' P [ptrV p, ptrV p1, h0, h1, ptrV d, ptrV d1, g0, g1]) (hf : Fr (fun k => k = P) wa w' (fun k => k = P)) (hS : ∀ k, S k ∨ D k → wa.heap.size ≤ k) : TwoTabs I B w0 w' P := by
  have hbs := hb.size
  refine ⟨p, S, d, D, [], p1, S1, d1, D1, L1, h0, h1, g0, g1, hP, hnew, b1.kept hf (fun k hk => (hs1 k (Or.inl hk)).1) (fun k hk => (hs1 k (Or.inr hk)).1), fun k hk hk1 => ?_, fun k hk => ?_, hs1, hBP, hf.below hb hB (fun k hk => by omega)⟩
  · have h1 := hS k hk
    rcases hk1 with hk1 | hk1
    · have := I.lt b1.hub hk1; omega
    · have := b1.ref.lt k hk1; omega
  · have h1 := hS k hk
    exact ⟨by omega, by omega⟩

theorem two_new1 {I : HubTabI} {B : Nat} {w0 wa w' : World} {P p0 d0 p d : Nat} {S0 D0 S D : Nat → Prop} {L0 : List PairL} {h0 h1 g0 g1 : Value} (b0 : Both I wa p0 S0 d0 D0 L0) (hs0 : ∀ k, S0 k ∨ D0 k → k ≠ P ∧ B ≤ k) (hBP : B ≤ P) (hPw : P < wa.heap.size) (hb : Below B w0 wa) (hB : B ≤ w0.heap.size)
    (hnew : Both I w' p S d D []) (hP : PairAt w' P [ptrV p0, ptrV p, h0, h1, ptrV d0, ptrV d, g0, g1]) (hf : Fr (fun k => k = P) wa w' (fun k => k = P)) (hS : ∀ k, S k ∨ D k → wa.heap.size ≤ k) : TwoTabs I B w0 w' P := by
  have hbs := hb.size
  refine ⟨p0, S0, d0, D0, L0, p, S, d, D, [], h0, h1, g0, g1, hP, b0.kept hf (fun k hk => (hs0 k (Or.inl hk)).1) (fun k hk => (hs0 k (Or.inr hk)).1), hnew, fun k hk hk1 => ?_, hs0, fun k hk => ?_, hBP, hf.below hb hB (fun k hk => by omega)⟩
  · have h1 := hS k hk1
    rcases hk with hk | hk
    · have := I.lt b0.hub hk; omega
    · have := b0.ref.lt k hk; omega
  · have h1 := hS k hk
    exact ⟨by omega, by omega⟩

theorem two_step0 {I : HubTabI} {B : Nat} {w0 wa w' : World} {P p0 d0 p1 d1 : Nat} {S0 D0 S1 D1 S' D' : Nat → Prop} {L0 L1 L' : List PairL} {h0 h1 g0 g1 : Value} (hP : PairAt wa P [ptrV p0, ptrV p1, h0, h1, ptrV d0, ptrV d1, g0, g1]) (b0 : Both I wa p0 S0 d0 D0 L0) (b1 : Both I wa p1 S1 d1 D1 L1)
    (hd : ∀ k, S0 k ∨ D0 k → ¬ (S1 k ∨ D1 k)) (hs0 : ∀ k, S0 k ∨ D0 k → k ≠ P ∧ B ≤ k) (hs1 : ∀ k, S1 k ∨ D1 k → k ≠ P ∧ B ≤ k) (hBP : B ≤ P) (hb : Below B w0 wa) (hB : B ≤ w0.heap.size)
    (hnew : Both I w' p0 S' d0 D' L') (hf : Fr (fun k => S0 k ∨ D0 k) wa w' (fun k => S' k ∨ D' k)) : TwoTabs I B w0 w' P := by
  have hbs := hb.size
  have hPw := heap_lt hP
  refine ⟨p0, S', d0, D', L', p1, S1, d1, D1, L1, h0, h1, g0, g1, hP.kept hf (fun h => (hs0 P h).1 rfl), hnew, b1.kept hf (fun k hk h => hd k h (Or.inl hk)) (fun k hk h => hd k h (Or.inr hk)), fun k hk hk1 => ?_, fun k hk => ?_, hs1, hBP, hf.below hb hB (fun k hk => (hs0 k hk).2)⟩
  · exact fr_apart b1 hf (fun k h1 h0 => hd k h0 h1) k hk1 hk
  · rcases hf.new k hk with h | h
    · exact hs0 k h
    · exact ⟨by omega, by omega⟩

theorem two_step1 {I : HubTabI} {B : Nat} {w0 wa w' : World} {P p0 d0 p1 d1 : Nat} {S0 D0 S1 D1 S' D' : Nat → Prop} {L0 L1 L' : List PairL} {h0 h1 g0 g1 : Value} (hP : PairAt wa P [ptrV p0, ptrV p1, h0, h1, ptrV d0, ptrV d1, g0, g1]) (b0 : Both I wa p0 S0 d0 D0 L0) (b1 : Both I wa p1 S1 d1 D1 L1)
    (hd : ∀ k, S0 k ∨ D0 k → ¬ (S1 k ∨ D1 k)) (hs0 : ∀ k, S0 k ∨ D0 k → k ≠ P ∧ B ≤ k) (hs1 : ∀ k, S1 k ∨ D1 k → k ≠ P ∧ B ≤ k) (hBP : B ≤ P) (hb : Below B w0 wa) (hB : B ≤ w0.heap.size)
    (hnew : Both I w' p1 S' d1 D' L') (hf : Fr (fun k => S1 k ∨ D1 k) wa w' (fun k => S' k ∨ D' k)) : TwoTabs I B w0 w' P := by
  have hbs := hb.size
  have hPw := heap_lt hP
  refine ⟨p0, S0, d0, D0, L0, p1, S', d1, D', L', h0, h1, g0, g1, hP.kept hf (fun h => (hs1 P h).1 rfl), b0.kept hf (fun k hk h => hd k (Or.inl hk) h) (fun k hk h => hd k (Or.inr hk) h), hnew, fun k hk hk1 => ?_, hs0, fun k hk => ?_, hBP, hf.below hb hB (fun k hk => (hs1 k hk).2)⟩
  · exact fr_apart b0 hf (fun k h0 h1 => hd k h0 h1) k hk hk1
  · rcases hf.new k hk with h | h
    · exact hs1 k h
    · exact ⟨by omega, by omega⟩

theorem and_one (b : Int) : bits BinOp.and IntKind.i64 b 1 = 0 ∨ bits BinOp.and IntKind.i64 b 1 = 1 := by
  unfold bits
  simp only [IntKind.bits]
  have h1 : (BitVec.ofInt 64 b &&& BitVec.ofInt 64 1).toNat = (BitVec.ofInt 64 b).toNat % 2 := by
    rw [BitVec.toNat_and, show (BitVec.ofInt 64 1).toNat = 1 from by decide, Nat.and_one_is_mod]
  show IntKind.i64.wrap ((BitVec.ofInt 64 b &&& BitVec.ofInt 64 1).toNat : Int) = 0 ∨ IntKind.i64.wrap ((BitVec.ofInt 64 b &&& BitVec.ofInt 64 1).toNat : Int) = 1
  rw [h1, IntKind.wrap_i64]
  omega

theorem fr_same {S : Nat → Prop} {w w' : World} (h1 : w'.os = w.os) (h2 : w'.tape = w.tape) (h3 : w'.output = w.output) (h4 : w'.heap = w.heap) : Fr S w w' S :=
  ⟨h1, h2, h3, by rw [h4]; exact Nat.le_refl _, fun k _ _ => by rw [h4], fun _ h => Or.inl h⟩

theorem two_hub {I : HubTabI} {w w2 w3 : World} {p0 p1 d0 d1 : Nat} {h0 h1 g0 g1 h0' h1' g0' g1' : Value} (h : TwoTabs I w.heap.size w w2 w.heap.size) (hP : PairAt w2 w.heap.size [ptrV p0, ptrV p1, h0, h1, ptrV d0, ptrV d1, g0, g1])
    (hP3 : PairAt w3 w.heap.size [ptrV p0, ptrV p1, h0', h1', ptrV d0, ptrV d1, g0', g1']) (hf : Fr (fun k => k = w.heap.size) w2 w3 (fun k => k = w.heap.size)) : TwoTabs I w.heap.size w w3 w.heap.size := by
  obtain ⟨q0, S0, e0, D0, L0, q1, S1, e1, D1, L1, z0, z1, z2, z3, hPr, b0, b1, hdd, hs0, hs1, hBP, hbr⟩ := h
  unfold PairAt at hP hPr
  rw [hP] at hPr
  simp [ptrV] at hPr
  obtain ⟨rfl, rfl, _, _, rfl, rfl, _, _⟩ := hPr
  exact ⟨p0, S0, d0, D0, L0, p1, S1, d1, D1, L1, h0', h1', g0', g1', hP3, b0.kept hf (fun k hk => (hs0 k (Or.inl hk)).1) (fun k hk => (hs0 k (Or.inr hk)).1), b1.kept hf (fun k hk => (hs1 k (Or.inl hk)).1) (fun k hk => (hs1 k (Or.inr hk)).1), hdd, hs0, hs1, hBP,
    hf.below hbr (Nat.le_refl _) (fun k hk => by omega)⟩

end Go.Proofs.YtchhmojnoiephabGreatDoor
