import Derived.Test.YtchhmojnoiephabGreatDoorFilR
import Derived.Test.YtchhmojnoiephabGreatDoorZmWalkS
import Derived.Test.YtchhmojnoiephabGreatDoorZmLawG
import Derived.Test.YtchhmojnoiephabGreatDoorZmMacA
import Derived.Test.YtchhmojnoiephabGreatDoorZmLawA
import Derived.Test.YtchhmojnoiephabGreatDoorZmHubT
import Derived.Test.YtchhmojnoiephabGreatDoorZmMacE
import Derived.Test.YtchhmojnoiephabGreatDoorRows
import Derived.LaidMore
import Derived.Stop.LaidErr
import Derived.Test.YtchhmojnoiephabGreatDoorTie
import Derived.Test.YtchhmojnoiephabGreatDoorCards
import Derived.Test.YtchhmojnoiephabGreatDoorScript
import Derived.Lib.Strings
import Derived.Stop.Joined
import Derived.SevenTiedAt
/- The steps that need neither a table nor a hub. -/
namespace Go.Proofs.YtchhmojnoiephabGreatDoor
open Go.ChangeShapes Go.WideShapes Go.ChangeAt Go.RowKit
set_option linter.unusedVariables false

set_option maxHeartbeats 400000 in
theorem topicsB_walk (a0 : ByteArray) (w0 : a0.size ≤ maxLen) (w : World) :
    Calls Tryz.prog 52 #[.string a0] w fun e w' => e = .returned (.bool true) ∧ Below w.heap.size w w' := by
  go_enter Tryz.func52, Tryz.ntmps52
  go_wp2_with (first | (go_at_call 23; refine (hubTopic_any _ _ w0).mono ?_; rintro e w' ⟨rfl, rfl⟩) | (go_at_call 27; refine (refTopic_any _ _ w0).mono ?_; rintro e w' ⟨rfl, rfl⟩) | (go_at_call 34; refine (num_any _ _).mono ?_; rintro e w' ⟨rfl, rfl⟩))
  go_ret
  exact ⟨by simp, Below.refl _ _⟩
set_option maxHeartbeats 400000 in
theorem filtersB_walk (a0 : ByteArray) (w0 : a0.size ≤ maxLen) (w : World) :
    Calls Tryz.prog 53 #[.string a0] w fun e w' => e = .returned (.bool true) ∧ Below w.heap.size w w' := by
  go_enter Tryz.func53, Tryz.ntmps53
  go_wp2_with (first | (go_at_call 92; refine (hubFilter_any _ _ w0).mono ?_; rintro e w' ⟨rfl, rfl⟩) | (go_at_call 93; refine (refFilter_any _ _ w0).mono ?_; rintro e w' ⟨rfl, rfl⟩) | (go_at_call 34; refine (num_any _ _).mono ?_; rintro e w' ⟨rfl, rfl⟩))
  go_ret
  exact ⟨by simp, Below.refl _ _⟩
set_option maxHeartbeats 1000000 in
set_option maxRecDepth 1000000 in
theorem free_1 (a b : Int) (s t : ByteArray) (w : World) (hs : s.size ≤ maxLen) (ht : t.size ≤ maxLen) :
    Calls Tryz.prog 22 #[.agg #[.int .i64 1, .int .i64 a, .int .i64 b, .string s, .string t]] w fun e w' => e = .returned (.bool true) ∧ Below w.heap.size w w' := by
  have HW : Hid (Below w.heap.size w (w.alloc (.cells #[.int .i64 1, .int .i64 a, .int .i64 b, .string s, .string t] 38))) := (Below.refl _ w).alloc (Nat.le_refl _) _
  go_enter Tryz.func22, Tryz.ntmps22
  go_wp2_with fail
  refine (topicsB_walk s hs _).mono ?_
  rintro e w2 ⟨rfl, hb⟩
  have HB := hide ((unhide HW).trans ((hb).mono (unhide HW).size))
  clear hb
  go_wp2_with fail
  go_ret
  exact ⟨rfl, unhide HB⟩
set_option maxHeartbeats 1000000 in
set_option maxRecDepth 1000000 in
theorem free_2 (a b : Int) (s t : ByteArray) (w : World) (hs : s.size ≤ maxLen) (ht : t.size ≤ maxLen) :
    Calls Tryz.prog 22 #[.agg #[.int .i64 2, .int .i64 a, .int .i64 b, .string s, .string t]] w fun e w' => e = .returned (.bool true) ∧ Below w.heap.size w w' := by
  have HW : Hid (Below w.heap.size w (w.alloc (.cells #[.int .i64 2, .int .i64 a, .int .i64 b, .string s, .string t] 38))) := (Below.refl _ w).alloc (Nat.le_refl _) _
  go_enter Tryz.func22, Tryz.ntmps22
  go_wp2_with fail
  refine (filtersB_walk s hs _).mono ?_
  rintro e w2 ⟨rfl, hb⟩
  have HB := hide ((unhide HW).trans ((hb).mono (unhide HW).size))
  clear hb
  go_wp2_with fail
  go_ret
  exact ⟨rfl, unhide HB⟩
set_option maxHeartbeats 1000000 in
set_option maxRecDepth 1000000 in
theorem free_3 (a b : Int) (s t : ByteArray) (w : World) (hs : s.size ≤ maxLen) (ht : t.size ≤ maxLen) :
    Calls Tryz.prog 22 #[.agg #[.int .i64 3, .int .i64 a, .int .i64 b, .string s, .string t]] w fun e w' => e = .returned (.bool true) ∧ Below w.heap.size w w' := by
  have HW : Hid (Below w.heap.size w (w.alloc (.cells #[.int .i64 3, .int .i64 a, .int .i64 b, .string s, .string t] 38))) := (Below.refl _ w).alloc (Nat.le_refl _) _
  go_enter Tryz.func22, Tryz.ntmps22
  go_wp2_with fail
  refine (matching_walk s t hs ht _).mono ?_
  rintro e w2 ⟨rfl, hb⟩
  have HB := hide ((unhide HW).trans ((hb).mono (unhide HW).size))
  clear hb
  go_wp2_with fail
  go_ret
  exact ⟨rfl, unhide HB⟩
set_option maxHeartbeats 1000000 in
set_option maxRecDepth 1000000 in
theorem free_9 (a b : Int) (s t : ByteArray) (w : World) (hs : s.size ≤ maxLen) (ht : t.size ≤ maxLen) :
    Calls Tryz.prog 22 #[.agg #[.int .i64 9, .int .i64 a, .int .i64 b, .string s, .string t]] w fun e w' => e = .returned (.bool true) ∧ Below w.heap.size w w' := by
  have HW : Hid (Below w.heap.size w (w.alloc (.cells #[.int .i64 9, .int .i64 a, .int .i64 b, .string s, .string t] 38))) := (Below.refl _ w).alloc (Nat.le_refl _) _
  go_enter Tryz.func22, Tryz.ntmps22
  go_wp2_with fail
  refine (codeChecks_walk s hs _).mono ?_
  rintro e w2 ⟨rfl, hb⟩
  have HB := hide ((unhide HW).trans ((hb).mono (unhide HW).size))
  clear hb
  go_wp2_with fail
  go_ret
  exact ⟨rfl, unhide HB⟩
set_option maxHeartbeats 1000000 in
set_option maxRecDepth 1000000 in
theorem free_10 (a b : Int) (s t : ByteArray) (w : World) (hs : s.size ≤ maxLen) (ht : t.size ≤ maxLen) :
    Calls Tryz.prog 22 #[.agg #[.int .i64 10, .int .i64 a, .int .i64 b, .string s, .string t]] w fun e w' => e = .returned (.bool true) ∧ Below w.heap.size w w' := by
  have HW : Hid (Below w.heap.size w (w.alloc (.cells #[.int .i64 10, .int .i64 a, .int .i64 b, .string s, .string t] 38))) := (Below.refl _ w).alloc (Nat.le_refl _) _
  go_enter Tryz.func22, Tryz.ntmps22
  go_wp2_with fail
  refine (walks_walk s t hs ht _).mono ?_
  rintro e w2 ⟨rfl, hb⟩
  have HB := hide ((unhide HW).trans ((hb).mono (unhide HW).size))
  clear hb
  go_wp2_with fail
  go_ret
  exact ⟨rfl, unhide HB⟩
set_option maxHeartbeats 1000000 in
set_option maxRecDepth 1000000 in
theorem free_other (k a b : Int) (s t : ByteArray) (w : World) (h1 : (k == 1) = false) (h2 : (k == 2) = false) (h3 : (k == 3) = false) (h9 : (k == 9) = false) (h10 : (k == 10) = false) :
    Calls Tryz.prog 22 #[.agg #[.int .i64 k, .int .i64 a, .int .i64 b, .string s, .string t]] w fun e w' => e = .returned (.bool true) ∧ Below w.heap.size w w' := by
  have HW : Hid (Below w.heap.size w (w.alloc (.cells #[.int .i64 k, .int .i64 a, .int .i64 b, .string s, .string t] 38))) := (Below.refl _ w).alloc (Nat.le_refl _) _
  go_enter Tryz.func22, Tryz.ntmps22
  go_wp2_with fail
  go_ret
  exact ⟨rfl, unhide HW⟩
theorem free_any (o : OpV) (w : World) (ho : o.fits) :
    Calls Tryz.prog 22 #[.agg #[.int .i64 o.kind, .int .i64 o.a, .int .i64 o.b, .string o.s, .string o.t]] w fun e w' => e = .returned (.bool true) ∧ Below w.heap.size w w' := by
  obtain ⟨k, a, b, s, t⟩ := o
  have hs : s.size ≤ maxLen := ho.2.2.2.1
  have ht : t.size ≤ maxLen := ho.2.2.2.2
  simp only
  by_cases h1 : k = 1
  · subst h1; exact free_1 a b s t w hs ht
  by_cases h2 : k = 2
  · subst h2; exact free_2 a b s t w hs ht
  by_cases h3 : k = 3
  · subst h3; exact free_3 a b s t w hs ht
  by_cases h9 : k = 9
  · subst h9; exact free_9 a b s t w hs ht
  by_cases h10 : k = 10
  · subst h10; exact free_10 a b s t w hs ht
  exact free_other k a b s t w (by simpa using h1) (by simpa using h2) (by simpa using h3) (by simpa using h9) (by simpa using h10)

end Go.Proofs.YtchhmojnoiephabGreatDoor

namespace Go.Proofs.YtchhmojnoiephabGreatDoor
open Go.ChangeShapes Go.WideShapes Go.ChangeAt Go.RowKit
set_option linter.unusedVariables false

set_option maxHeartbeats 4000000 in
set_option maxRecDepth 1000000 in
theorem coded_any (p d : Nat) (S D : Nat → Prop) (L : List PairL) (t : ByteArray) (w : World) (hb : HTab w p S L) (hd : TabAt w d D L) (hpw : powOK w) (ht : t.size ≤ maxLen) :
    Calls Tryz.prog 43 #[.pointer (some ⟨p, 0, none⟩), .pointer (some ⟨d, 0, none⟩), .string t] w fun e w' => e = .returned (.bool true) ∧ Below w.heap.size w w' := by
  have hg := hb.good
  obtain ⟨h1, h2, h3⟩ := codeB_ok L hg
  have HRT := hide (code_route L hg t.data.toList)
  have hcd : (⟨(codeB L).toArray⟩ : ByteArray).data.toList = codeB L := by simp
  have hcz : (⟨(codeB L).toArray⟩ : ByteArray).size ≤ 40000 := sz_arr _ _ h2
  have HCK := hide (fun w => refCode_any (⟨(codeB L).toArray⟩ : ByteArray) w (by unfold maxLen; omega))
  rw [hcd, h3] at HCK
  have HLE := hide (fun w => least_any L (codeSt L) (⟨(codeB L).toArray⟩ : ByteArray) w hcz (by rw [hcd]; exact h1) (code_ok L hg))
  have HWK := hide (fun w => refWalk_any (⟨(codeB L).toArray⟩ : ByteArray) t w (by unfold maxLen; omega) ht)
  rw [hcd, unhide HRT] at HWK
  have HCA := hide (code_any p S L w hb hpw)
  unfold strV at HCA
  have HD := hide hd
  clear h1 h2 h3 hcd hpw hg hcz HRT hb hd
  generalize (⟨(codeB L).toArray⟩ : ByteArray) = c at *
  go_enter Tryz.func43, Tryz.ntmps43
  go_wp2_with fail
  refine (unhide HCA).mono ?_
  rintro e w1 ⟨rfl, hb1⟩
  have HB := hide hb1
  replace HD := hide ((unhide HD).below hb1)
  clear hb1 HCA
  go_wp2_with fail
  refine (unhide HCK _).mono ?_
  rintro e w2 ⟨rfl, hb2⟩
  replace HD := hide ((unhide HD).below hb2)
  replace HB := hide ((unhide HB).trans (hb2.mono (unhide HB).size))
  clear hb2 HCK
  go_wp2_with fail
  refine (unhide HLE _).mono ?_
  rintro e w3 ⟨rfl, hb3⟩
  replace HD := hide ((unhide HD).below hb3)
  replace HB := hide ((unhide HB).trans (hb3.mono (unhide HB).size))
  clear hb3 HLE
  go_wp2_with fail
  refine (refTopic_any t _ ht).mono ?_
  rintro e w4 ⟨rfl, h4⟩
  replace h4 := h4.symm
  subst h4
  by_cases h0 : (topicR t.data.toList).1 = 0
  · have hb0 : ((topicR t.data.toList).1 != 0) = false := by simp [h0]
    have HR : Hid (routeR L t.data.toList = (routeL L t.data.toList, 0, 0)) := by unfold Hid routeR; rw [if_neg (by simp [h0])]
    rw [unhide HR] at HWK
    have HRD := hide (fun w (h : TabAt w d D L) => routed_any d D L t w h h0)
    clear h0 HR
    go_wp2_with fail
    refine (unhide HWK _).mono ?_
    rintro e w5 ⟨v5, rfl, hown5, hb5⟩
    replace HD := hide ((unhide HD).below hb5)
    replace HB := hide ((unhide HB).trans (hb5.mono (unhide HB).size))
    have HI5 := hide (IntsAt.of_own hown5)
    clear hb5 hown5
    go_wp2_with fail
    refine (unhide HRD _ (unhide HD)).mono ?_
    rintro e w6 ⟨v6, rfl, hown6, hb6⟩
    replace HB := hide ((unhide HB).trans (hb6.mono (unhide HB).size))
    replace HI5 := hide ((unhide HI5).below hb6)
    have HI6 := hide (IntsAt.of_own hown6)
    clear hb6 hown6
    generalize routeL L t.data.toList = r at *
    go_wp2_with (go_at_call 13; refine (same_any v5 v6 r r _ (unhide HI5) (unhide HI6)).mono ?_; rw [show sameL r r = true from by simp [sameL]]; rintro e w7 ⟨rfl, n, rfl⟩)
    go_ret
    exact ⟨by simp, (unhide HB).trans ⟨rfl, rfl, rfl, Nat.le_refl _, fun _ _ => rfl⟩⟩
  · have hb0 : ((topicR t.data.toList).1 != 0) = true := by simp [h0]
    clear h0
    go_wp2_with fail
    go_ret
    exact ⟨rfl, unhide HB⟩

end Go.Proofs.YtchhmojnoiephabGreatDoor

/- A step on a pair of tables, Code among them. -/
namespace Go.Proofs.YtchhmojnoiephabGreatDoor
open Go.ChangeShapes Go.WideShapes Go.ChangeAt Go.RowKit
set_option linter.unusedVariables false

theorem pow_dataA : (Rows.laid_internal_strconv_uint64pow10 : DataW Unit) = Lib.tabData .u64 Lib.pow10Tab := by kernel_rfl
/-- the row's condition gives the library's table -/
theorem pow_ofA {W : World} (hL : laidMetH Tryz.prog Rows.allRow.laid W) : powOK W := by
  rw [MakeChecks.laidMetH_plain _ _ _ (by kernel_rfl)] at hL
  have h := hL.tail.tail
  have h2 : laidMet Tryz.prog [("internal/strconv.uint64pow10", Lib.tabData .u64 Lib.pow10Tab)] W := by rw [← pow_dataA]; exact h
  exact Lib.tabIs_of_head (g := 0) (t := 204) (e := 197) (n := 20) (by kernel_rfl) (by kernel_rfl) (by kernel_rfl) (by kernel_rfl) (by kernel_rfl) (by kernel_rfl) h2

set_option maxHeartbeats 2000000 in
set_option maxRecDepth 1000000 in
theorem table_code (p d : Nat) (S D : Nat → Prop) (L : List PairL) (a b : Int) (s t : ByteArray) (w : World) (h : Both hubTabI w p S d D L) (hpw : powOK w) (hs : s.size ≤ maxLen) :
    Calls Tryz.prog 16 #[.pointer (some ⟨p, 0, none⟩), .pointer (some ⟨d, 0, none⟩), .agg #[.int .i64 8, .int .i64 a, .int .i64 b, .string s, .string t]] w (StepPost hubTabI w p S d D) := by
  have hw1 := Fr.alloc (S := fun _ => False) w (.cells #[.int .i64 8, .int .i64 a, .int .i64 b, .string s, .string t] 38)
  have HW := hide (Fr.alloc (S := fun k => S k ∨ D k) w (.cells #[.int .i64 8, .int .i64 a, .int .i64 b, .string s, .string t] 38))
  have h1 := h.kept hw1 (fun _ _ h => h) (fun _ _ h => h)
  have HC := hide (coded_any p d S D L s _ h1.hub h1.ref (pow_keep hpw (fun g hg => hw1.keep g (pow_lt hpw hg) (fun h => h))) hs)
  have H1 := hide h1
  clear h h1 hw1 hpw
  go_enter Tryz.func16, Tryz.ntmps16
  go_wp2_with fail
  refine (unhide HC).mono ?_
  rintro e w2 ⟨rfl, hb⟩
  have HB := hide ((unhide H1).kept (Fr.of_below (S := fun _ => False) hb) (fun _ _ h => h) (fun _ _ h => h))
  have HF := hide ((unhide HW).trans (Fr.of_below hb))
  clear hb HC H1 HW
  go_wp2_with fail
  go_ret
  exact ⟨rfl, _, _, _, unhide HB, unhide HF⟩

theorem tableA_any (p d : Nat) (T : Nat → Prop) (o : OpV) (w : World) (h : TP hubTabI w p d T) (ho : o.fits) (hpw : powOK w) :
    Calls Tryz.prog 16 #[.pointer (some ⟨p, 0, none⟩), .pointer (some ⟨d, 0, none⟩), .agg #[.int .i64 o.kind, .int .i64 o.a, .int .i64 o.b, .string o.s, .string o.t]] w (TStep hubTabI w p d T) := by
  obtain ⟨S, D, L, hb, rfl⟩ := h
  have H : Calls Tryz.prog 16 #[.pointer (some ⟨p, 0, none⟩), .pointer (some ⟨d, 0, none⟩), .agg #[.int .i64 o.kind, .int .i64 o.a, .int .i64 o.b, .string o.s, .string o.t]] w (StepPost hubTabI w p S d D) := by
    by_cases h8 : o.kind = 8
    · rw [h8]; exact table_code p d S D L o.a o.b o.s o.t w hb hpw ho.2.2.2.1
    · exact table_step hubTabI p d S D L o w hb ho h8
  exact H.mono fun e w' ⟨he, S', D', L', hb', hf'⟩ => ⟨he, _, ⟨S', D', L', hb', rfl⟩, hf'⟩
end Go.Proofs.YtchhmojnoiephabGreatDoor

/- All: every call, in every order. -/
namespace Go.Proofs.YtchhmojnoiephabGreatDoor
open Go.ChangeShapes Go.WideShapes Go.ChangeAt Go.RowKit
set_option linter.unusedVariables false

theorem upI_all (w0 : World) (hpw : powOK w0) : UpI hubTabI 1 w0.heap.size w0 :=
  ⟨fun p d T o w hb ht ho _ _ _ => tableA_any p d T o w ht ho (pow_keep hpw (fun g hg => hb.block g (pow_lt hpw hg))), fun o w _ ho _ _ _ => free_any o w ho⟩
set_option maxHeartbeats 1000000 in
theorem all_of (w : World) (hpw : powOK w) (v : Value) (ops : List OpV) (h : OpsAt w v ops) (hl : ops.length * 56 ≤ 140737488351232) :
    Calls Tryz.prog 5 #[v] w fun e w' => e = .returned (.bool true) ∧ Below w.heap.size w w' := by
  have HC := hide (upTo_any hubTabI 1 18 v ops w h (by omega) (upI_all w hpw))
  obtain ⟨ao, cap, rfl, hcap, hcap2, hfit, hcells⟩ := h
  clear hfit hcells hpw
  go_enter Tryz.func5, Tryz.ntmps5
  go_wp2_with fail
  refine (unhide HC).mono ?_
  rintro e w1 ⟨rfl, hb⟩
  have HB := hide hb
  clear hb HC
  go_wp2_with fail
  go_ret
  exact ⟨rfl, unhide HB⟩
theorem all_walk (w : World) (hL : laidMetH Tryz.prog Rows.allRow.laid w) (v0 : Value) (ops0 : List OpV) (h0 : OpsAt w v0 ops0) (l0 : ops0.length * 56 ≤ 140737488351232) :
    Calls Tryz.prog 5 #[v0] w fun e w' => e = .returned (.bool true) ∧ Below w.heap.size w w' := all_of w (pow_ofA hL) v0 ops0 h0 l0
end Go.Proofs.YtchhmojnoiephabGreatDoor

/- The frame of the tied card of All. -/
namespace Go.Proofs.YtchhmojnoiephabGreatDoor.all
open Go.ChangeShapes Go.WideShapes Go.ChangeAt Go.RowKit Go.Deep
open Go.ChangeMaps (open_string shut_string)
set_option linter.unusedVariables false

theorem own : ownKnob Tryz.prog.godebug = none := by kernel_rfl
theorem laidOut : laidOutB Tryz.prog = true := by kernel_rfl
theorem bytes_op : Tryz.prog.bytesOf 38 = 56 := by kernel_rfl

theorem door_met (os : Os) (args : Array Value) : laidMetH Tryz.prog Rows.allRow.laid ((World.doorLaid Tryz.prog 2000 os).forCall (fun _ _ => 0) ⟨#[], args, []⟩).memory :=
  laidMetH_of_parts3 (fuel := 8) (laidMet_of_run' 8 (by kernel_rfl) (by kernel_rfl)) (by kernel_rfl) (by kernel_rfl)

set_option maxRecDepth 100000 in
theorem lifted (os : Os) (started : os.Started) (H : Type) (enc : TypeId × Value → H) :
    ReturnsInHanded {} Tryz.checked os 5 .any (fun w args => (Rows.allSpec.pre enc Tryz.prog Tryz.f5 [] false w args ∧ laidMetH Tryz.prog Rows.allRow.laid w) ∧ sizedMet enc Tryz.prog Tryz.f5 (OpenSpec.ofChange Rows.allSpec) false w args)
      (Rows.allSpec.post enc Tryz.prog Tryz.f5 false true false false) := by
  refine returnsInHanded_of_change_and (C := Tryz.checked) (X := fun w _ => laidMetH Tryz.prog Rows.allRow.laid w) (fun _ _ _ hh h => h.of_heap hh) own started (by kernel_rfl) Tryz.func5
    (ChangeSpec.witness_shaped (enc := enc) (C := Tryz.checked) (os := os) (X := fun w _ => laidMetH Tryz.prog Rows.allRow.laid w) false (World.doorLaid Tryz.prog 2000 os) #[.slice none 0 0] 8 rfl (World.shaped_of_RefB (by kernel_rfl) (by kernel_rfl)) (by kernel_rfl) (by kernel_rfl) (by kernel_rfl) (door_met os _)) ?_
  intro W base args ds gs before hval0 hW hcnd hsz0 hL _
  have hval : ∀ (j : Nat) t v, Tryz.f5.params[j]? = some t → args[j]? = some v → Value.okWide Tryz.prog W .any base t v := hval0
  have hW' := hW
  obtain ⟨p, q, hA0, hV, rfl, hfz, hnd⟩ := hW
  have hA : DataW.TrodAll enc Tryz.prog W 0 (fun _ => true) true Tryz.f5.params.toList args.toList ds p := hA0
  have hsz : (DataW.weightsEach Tryz.prog (Tryz.f5.params.toList ++ Rows.allSpec.plain.varTypes Tryz.prog) (ds ++ gs)).all (· ≤ reachBytes) = true := hsz0
  rw [Tryz.params5] at hA hval hsz
  obtain ⟨v0, vs0, d0, ds0, p0, q0, hargs, rfl, rfl, h0, r0⟩ := trodAll_cons hA
  obtain ⟨rfl, rfl, rfl⟩ := trodAll_nil r0
  obtain rfl : args = #[v0] := by cases args; simp_all
  obtain ⟨rfl, rfl⟩ := trodVars_none hV
  obtain ⟨a0, len0, cap0, rfl⟩ := okWide_slice Tryz.underlying22 (hval 0 22 v0 rfl rfl)
  have k0 := h0
  have lt0 : ∀ x ∈ p0, x.block < W.heap.size := by obtain ⟨m, hm⟩ := k0; exact DataW.trod_lt m _ _ _ hm
  obtain ⟨ops0, hops0, l0⟩ : ∃ ops : List OpV, OpsAt W (.slice a0 len0 cap0) ops ∧ ops.length * 56 ≤ 140737488351232 := by
    obtain ⟨fuel, hf⟩ := h0
    obtain ⟨ops, hlen, ho, hd⟩ := open_script (by simpa [Value.cells] using hf)
    refine ⟨ops, ho, ?_⟩
    by_cases hz : ops = []
    · subst hz; simp
    · obtain ⟨D, E, hx, hDl⟩ := hd hz
      simp only at hx
      subst hx
      have hw := sized_slice hsz (j := 0) (t := 22) (e := 38) rfl rfl Tryz.underlying22
      rw [bytes_op, hDl] at hw
      simp only [reachBytes] at hw
      rw [hlen]
      omega
  clear hA0 hval0
  refine (all_walk W hL _ ops0 hops0 l0).mono fun e W' ⟨he, bel⟩ => ?_
  subst he
  exact ⟨_, rfl, _, _, _, [], _, [], hW', trodAll_mk1 (shut_bool Tryz.underlying4 _), (trodAll_cons_mk (Below.trod laidOut (by kernel_rfl) (of_decide_eq_true (by kernel_rfl)) k0 bel lt0) trodAll_mk0), rfl, bel.frame _, fun h => by cases h⟩

theorem over : Rows.allRow.holds Tryz.pinned (OpenSpec.ofChange Rows.allSpec) :=
  OpenClaim.holds_of_wide 5 Tryz.f5 rfl rfl rfl rfl rfl rfl rfl ⟨rfl, rfl, rfl, rfl, rfl⟩ rfl rfl rfl rfl rfl (by kernel_rfl) Tryz.func5 (by kernel_rfl)
    (of_decide_eq_true (by kernel_rfl)) (by unfold Func.isWrapper; first | (rw [if_pos (by decide +kernel)]; kernel_rfl) | (rw [if_neg (by decide +kernel)]; exact ⟨rfl, rfl⟩))
    (fun os started H enc _ => lifted os started H enc)

theorem proved : Rows.AllCardSaid :=
  Claim7.holds_tied_plain_at .later [] [.data, .data, .data] true (true, "8d327a2eb9e4fc7a5b45134cbebff2d974a4bd63a1edc022da3e08df59d8e84d") false
    over (fun _ h => by cases h) (by kernel_rfl) (fun _ h => by cases h) all_row_tie rfl ⟨rfl, rfl⟩ (by kernel_rfl) rfl
    (fun f fn hf hfn => by
      obtain rfl : f = 5 := Option.some.inj ((show Tryz.prog.funcNamed "hub/hublaw.All" = some 5 by kernel_rfl).symm.trans hf) |>.symm
      obtain rfl : fn = Tryz.f5 := (Option.some.inj (Tryz.func5.symm.trans hfn)).symm
      exact ⟨by kernel_rfl, fun j t ht => by
        rw [Tryz.params5] at ht
        have hm : t ∈ [22] := by simpa using Array.mem_of_getElem? ht
        have hall : ([22].all fun u => !Tryz.prog.wantsStandIn u) = true := by kernel_rfl
        exact (show Tryz.prog.wantsStandIn t = false by simpa using List.all_eq_true.1 hall t hm)⟩)
    (by kernel_rfl)
#print axioms proved
end Go.Proofs.YtchhmojnoiephabGreatDoor.all
