import Derived.Test.YtchhmojnoiephaaGreatDoorWalkQ
import Derived.Test.YtchhmojnoiephaaGreatDoorTabI
namespace Go.Proofs.YtchhmojnoiephaaGreatDoor
open Go.ChangeShapes Go.WideShapes Go.ChangeAt Go.RowKit
set_option linter.unusedVariables false

/-- the two tables of a law, side by side in memory -/
structure Both (I : HubTabI) (w : World) (p : Nat) (S : Nat → Prop) (d : Nat) (D : Nat → Prop) (L : List PairL) : Prop where
  hub : I.tab w p S L
  ref : TabAt w d D L
  apart : ∀ k, S k → ¬ D k

theorem Both.kept {I : HubTabI} {w w' : World} {p d : Nat} {S D T T' : Nat → Prop} {L : List PairL} (h : Both I w p S d D L) (hf : Fr T w w' T') (h1 : ∀ k, S k → ¬ T k) (h2 : ∀ k, D k → ¬ T k) : Both I w' p S d D L :=
  ⟨I.kept h.hub hf h1, h.ref.kept hf h2, h.apart⟩

/-- both tables have done their step -/
theorem both_step {I : HubTabI} {w w1 w2 : World} {p d : Nat} {S S1 D D1 : Nat → Prop} {L L' : List PairL} (h : Both I w p S d D L) (hub1 : I.tab w1 p S1 L') (f1 : Fr S w w1 S1) (ref2 : TabAt w2 d D1 L') (f2 : Fr D w1 w2 D1) :
    Both I w2 p S1 d D1 L' ∧ Fr (fun b => S b ∨ D b) w w2 (fun b => S1 b ∨ D1 b) := by
  have hap : ∀ k, S1 k → ¬ D k := fun k hs hd => by
    rcases f1.new k hs with h1 | h1
    · exact h.apart k h1 hd
    · have := h.ref.lt k hd; omega
  refine ⟨⟨I.kept hub1 f2 hap, ref2, fun k hs hd => ?_⟩, f1.join f2⟩
  rcases f2.new k hd with h1 | h1
  · exact hap k hs h1
  · have := I.lt hub1 hs; omega

/-- a step was answered as the document says; the two tables have changed alike -/
def StepPost (I : HubTabI) (w : World) (p : Nat) (S : Nat → Prop) (d : Nat) (D : Nat → Prop) (e : Ending) (w' : World) : Prop :=
  e = .returned (.bool true) ∧ ∃ S' D' L', Both I w' p S' d D' L' ∧ Fr (fun k => S k ∨ D k) w w' (fun k => S' k ∨ D' k)

set_option maxHeartbeats 2000000 in
set_option maxRecDepth 1000000 in
theorem table_add (I : HubTabI) (p d : Nat) (S D : Nat → Prop) (L : List PairL) (a b : Int) (s t : ByteArray) (w : World) (h : Both I w p S d D L) (hs : s.size ≤ maxLen) :
    Calls Tryz.prog 7 #[.pointer (some ⟨p, 0, none⟩), .pointer (some ⟨d, 0, none⟩), .agg #[.int .i64 5, .int .i64 a, .int .i64 b, .string s, .string t]] w (StepPost I w p S d D) := by
  have hw1 := Fr.alloc (S := fun _ => False) w (.cells #[.int .i64 5, .int .i64 a, .int .i64 b, .string s, .string t] 24)
  have HW := hide (Fr.alloc (S := fun k => S k ∨ D k) w (.cells #[.int .i64 5, .int .i64 a, .int .i64 b, .string s, .string t] 24))
  have h1 := h.kept hw1 (fun _ _ h => h) (fun _ _ h => h)
  have hSx : ¬ S w.heap.size := fun hk => by have := I.lt h.hub hk; omega
  have H1 := hide h1
  clear h h1 hw1
  go_enter Tryz.func7, Tryz.ntmps7
  go_wp2_with fail
  refine (I.add p S L s a _ (unhide H1).hub hs).mono ?_
  rintro e w2 ⟨rfl, S2, ht2, hf2⟩
  have c0 := hf2.cell (b := w.heap.size) (off := 1) (v := .int .i64 a) (by simp) hSx
  have c1 := hf2.cell (b := w.heap.size) (off := 3) (v := .string s) (by simp) hSx
  have HT2 := hide ht2
  have HF2 := hide hf2
  clear ht2 hf2
  go_wp2_with fail
  refine (refAdd_any d D L s a _ ((unhide H1).ref.kept (unhide HF2) (fun k hd hs => (unhide H1).apart k hs hd)) hs).mono ?_
  rintro e w3 ⟨rfl, D3, ht3, hf3⟩
  obtain ⟨hb, hfr⟩ := both_step (unhide H1) (unhide HT2) (unhide HF2) ht3 hf3
  have HB := hide hb
  have HFR := hide ((unhide HW).trans hfr)
  clear hb hfr ht3 hf3 HT2 HF2 H1 HW c0 c1
  generalize (addR L s.data.toList a).1 = r at *
  go_wp2_with (go_at_call 16; refine (num_any _ _).mono ?_; rintro e w' ⟨rfl, rfl⟩)
  go_ret
  exact ⟨by simp, _, _, _, unhide HB, unhide HFR⟩

set_option maxHeartbeats 2000000 in
set_option maxRecDepth 1000000 in
theorem table_drop (I : HubTabI) (p d : Nat) (S D : Nat → Prop) (L : List PairL) (a b : Int) (s t : ByteArray) (w : World) (h : Both I w p S d D L) (hs : s.size ≤ maxLen) :
    Calls Tryz.prog 7 #[.pointer (some ⟨p, 0, none⟩), .pointer (some ⟨d, 0, none⟩), .agg #[.int .i64 6, .int .i64 a, .int .i64 b, .string s, .string t]] w (StepPost I w p S d D) := by
  have hw1 := Fr.alloc (S := fun _ => False) w (.cells #[.int .i64 6, .int .i64 a, .int .i64 b, .string s, .string t] 24)
  have HW := hide (Fr.alloc (S := fun k => S k ∨ D k) w (.cells #[.int .i64 6, .int .i64 a, .int .i64 b, .string s, .string t] 24))
  have h1 := h.kept hw1 (fun _ _ h => h) (fun _ _ h => h)
  have hSx : ¬ S w.heap.size := fun hk => by have := I.lt h.hub hk; omega
  have H1 := hide h1
  clear h h1 hw1
  go_enter Tryz.func7, Tryz.ntmps7
  go_wp2_with fail
  refine (I.drop p S L s a _ (unhide H1).hub hs).mono ?_
  rintro e w2 ⟨rfl, S2, ht2, hf2⟩
  have c0 := hf2.cell (b := w.heap.size) (off := 1) (v := .int .i64 a) (by simp) hSx
  have c1 := hf2.cell (b := w.heap.size) (off := 3) (v := .string s) (by simp) hSx
  have HT2 := hide ht2
  have HF2 := hide hf2
  clear ht2 hf2
  go_wp2_with fail
  refine (refDrop_any d D L s a _ ((unhide H1).ref.kept (unhide HF2) (fun k hd hs => (unhide H1).apart k hs hd)) hs).mono ?_
  rintro e w3 ⟨rfl, D3, ht3, hf3⟩
  obtain ⟨hb, hfr⟩ := both_step (unhide H1) (unhide HT2) (unhide HF2) ht3 hf3
  have HB := hide hb
  have HFR := hide ((unhide HW).trans hfr)
  clear hb hfr ht3 hf3 HT2 HF2 H1 HW c0 c1
  generalize (dropR L s.data.toList a).1 = r at *
  go_wp2_with (go_at_call 16; refine (num_any _ _).mono ?_; rintro e w' ⟨rfl, rfl⟩)
  go_ret
  exact ⟨by simp, _, _, _, unhide HB, unhide HFR⟩

set_option maxHeartbeats 2000000 in
set_option maxRecDepth 1000000 in
theorem table_route (I : HubTabI) (p d : Nat) (S D : Nat → Prop) (L : List PairL) (a b : Int) (s t : ByteArray) (w : World) (h : Both I w p S d D L) (hs : s.size ≤ maxLen) :
    Calls Tryz.prog 7 #[.pointer (some ⟨p, 0, none⟩), .pointer (some ⟨d, 0, none⟩), .agg #[.int .i64 7, .int .i64 a, .int .i64 b, .string s, .string t]] w (StepPost I w p S d D) := by
  have hw1 := Fr.alloc (S := fun _ => False) w (.cells #[.int .i64 7, .int .i64 a, .int .i64 b, .string s, .string t] 24)
  have HW := hide (Fr.alloc (S := fun k => S k ∨ D k) w (.cells #[.int .i64 7, .int .i64 a, .int .i64 b, .string s, .string t] 24))
  have h1 := h.kept hw1 (fun _ _ h => h) (fun _ _ h => h)
  have hSx : ¬ S w.heap.size := fun hk => by have := I.lt h.hub hk; omega
  have H1 := hide h1
  clear h h1 hw1
  go_enter Tryz.func7, Tryz.ntmps7
  go_wp2_with fail
  refine (I.route p S L s _ (unhide H1).hub hs).mono ?_
  rintro e w2 ⟨v, S2, rfl, ⟨hints, _⟩, ht2, hf2⟩
  have c1 := hf2.cell (b := w.heap.size) (off := 3) (v := .string s) (by simp) hSx
  have HT2 := hide ht2
  have HF2 := hide hf2
  have HI := hide hints
  clear ht2 hf2 hints
  go_wp2_with fail
  refine (refRoute_any d D L s _ ((unhide H1).ref.kept (unhide HF2) (fun k hd hs => (unhide H1).apart k hs hd)) hs).mono ?_
  rintro e w3 ⟨v3, rfl, hown3, hb3⟩
  have HI3 := hide ((unhide HI).below hb3)
  have HO3 := hide (IntsAt.of_own hown3)
  have hr3 := ((unhide H1).ref.kept (unhide HF2) (fun k hd hs => (unhide H1).apart k hs hd)).below hb3
  obtain ⟨hb, hfr⟩ := both_step (unhide H1) (unhide HT2) (unhide HF2) hr3 (Fr.of_below hb3)
  have HB := hide hb
  have HFR := hide ((unhide HW).trans hfr)
  clear hb hfr hb3 hown3 hr3 HT2 HF2 H1 HW c1 HI
  generalize routeR L s.data.toList = r at *
  go_wp2_with fail
  refine (same_any v v3 r.1 r.1 _ (unhide HI3) (unhide HO3)).mono ?_
  rw [show sameL r.1 r.1 = true from by simp [sameL]]
  rintro e w4 ⟨rfl, n, rfl⟩
  go_wp2_with (go_at_call 16; refine (num_any _ _).mono ?_; rintro e w' ⟨rfl, rfl⟩)
  go_ret
  exact ⟨by simp, _, _, _, (unhide HB).kept (Fr.drewN (Fr.of_below (S := fun _ => False) (Below.refl _ _)) n) (fun _ _ h => h) (fun _ _ h => h), (unhide HFR).drewN n⟩

set_option maxHeartbeats 2000000 in
set_option maxRecDepth 1000000 in
theorem table_other (I : HubTabI) (p d : Nat) (S D : Nat → Prop) (L : List PairL) (k a b : Int) (s t : ByteArray) (w : World) (h : Both I w p S d D L) (h5 : (k == 5) = false) (h6 : (k == 6) = false) (h7 : (k == 7) = false) (h8 : (k == 8) = false) :
    Calls Tryz.prog 7 #[.pointer (some ⟨p, 0, none⟩), .pointer (some ⟨d, 0, none⟩), .agg #[.int .i64 k, .int .i64 a, .int .i64 b, .string s, .string t]] w (StepPost I w p S d D) := by
  have hw1 := Fr.alloc (S := fun _ => False) w (.cells #[.int .i64 k, .int .i64 a, .int .i64 b, .string s, .string t] 24)
  have HW := hide (Fr.alloc (S := fun k => S k ∨ D k) w (.cells #[.int .i64 k, .int .i64 a, .int .i64 b, .string s, .string t] 24))
  have H1 := hide (h.kept hw1 (fun _ _ h => h) (fun _ _ h => h))
  clear h hw1
  go_enter Tryz.func7, Tryz.ntmps7
  go_wp2_with fail
  go_ret
  exact ⟨rfl, _, _, _, unhide H1, unhide HW⟩

/-- every step on a table but Code -/
theorem table_any (I : HubTabI) (p d : Nat) (S D : Nat → Prop) (L : List PairL) (o : OpV) (w : World) (h : Both I w p S d D L) (ho : o.fits) (h8 : ¬ o.kind = 8) :
    Calls Tryz.prog 7 #[.pointer (some ⟨p, 0, none⟩), .pointer (some ⟨d, 0, none⟩), opAgg o] w (StepPost I w p S d D) := by
  obtain ⟨k, a, b, s, t⟩ := o
  have hs : s.size ≤ maxLen := ho.2.2.2.1
  unfold opAgg
  simp only at h8 ⊢
  by_cases h5 : k = 5
  · subst h5; exact table_add I p d S D L a b s t w h hs
  by_cases h6 : k = 6
  · subst h6; exact table_drop I p d S D L a b s t w h hs
  by_cases h7 : k = 7
  · subst h7; exact table_route I p d S D L a b s t w h hs
  exact table_other I p d S D L k a b s t w h (by simpa using h5) (by simpa using h6) (by simpa using h7) (by simpa using h8)

theorem table_step (I : HubTabI) (p d : Nat) (S D : Nat → Prop) (L : List PairL) (o : OpV) (w : World) (h : Both I w p S d D L) (ho : o.fits) (h8 : ¬ o.kind = 8) :
    Calls Tryz.prog 7 #[.pointer (some ⟨p, 0, none⟩), .pointer (some ⟨d, 0, none⟩), .agg #[.int .i64 o.kind, .int .i64 o.a, .int .i64 o.b, .string o.s, .string o.t]] w (StepPost I w p S d D) :=
  table_any I p d S D L o w h ho h8

end Go.Proofs.YtchhmojnoiephaaGreatDoor
