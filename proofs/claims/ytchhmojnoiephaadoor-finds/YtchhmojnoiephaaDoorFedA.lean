import Derived.Test.YtchhmojnoiephaaDoorTabI
namespace Go.Proofs.YtchhmojnoiephaaDoor
open Go.ChangeShapes Go.WideShapes Go.ChangeAt Go.RowKit
set_option linter.unusedVariables false

/-- what a step of a script does to a table -/
def feed (L : List PairL) (o : OpV) : List PairL :=
  if o.kind = 5 then (addR L o.s.data.toList o.a).2 else if o.kind = 6 then (dropR L o.s.data.toList o.a).2 else L
def fedL (ops : List OpV) : List PairL := ops.foldl feed []
theorem fedL_succ (ops : List OpV) (n : Nat) (h : n < ops.length) : fedL (ops.take (n + 1)) = feed (fedL (ops.take n)) ops[n] := by
  unfold fedL; rw [List.take_succ_eq_append_getElem h, List.foldl_append]; rfl

set_option maxHeartbeats 4000000 in
set_option maxRecDepth 1000000 in
theorem fed_any (I : HubTabI) (w : World) (v : Value) (ops : List OpV) (h : OpsAt w v ops) (hl : ops.length * 56 ≤ 140737488351232) :
    Calls Tryd.prog 10 #[v] w fun e w' => ∃ p S, e = .returned (.pointer (some ⟨p, 0, none⟩)) ∧ I.tab w' p S (fedL ops) ∧ Below w.heap.size w w' ∧ ∀ k, S k → w.heap.size ≤ k := by
  obtain ⟨ao, cap, rfl, hcap, hcap2, hfit, hcells⟩ := h
  unfold maxLen at hcap2
  have HFIT := hide hfit
  have HC := hide hcells
  clear hfit hcells
  go_enter Tryd.func10, Tryd.ntmps10
  go_wp2_with fail
  refine (I.new _).mono ?_
  rintro e w1 ⟨p, S0, rfl, ht1, hb1, hS0⟩
  have HT1 := hide ht1
  have HB1 := hide hb1
  have HS0 := hide hS0
  clear ht1 hb1 hS0
  go_wp2_with fail
  go_loopg [4, 5] ops.length (fun gk ii _ wr => ∃ (n : Nat) (S : Nat → Prop), n ≤ ops.length ∧ gk = ops.length - n ∧ ii = .int .i64 n ∧ I.tab wr p S (fedL (ops.take n)) ∧ Below w.heap.size w wr ∧ ∀ k, S k → w.heap.size ≤ k)
  case atStart => exact ⟨0, S0, by omega, by omega, rfl, unhide HT1, unhide HB1, unhide HS0⟩
  case round =>
    obtain ⟨n, S, hn, rfl, rfl, htab, hbel, hS⟩ := hrel
    have hbs := hbel.size
    by_cases hlt : n < ops.length
    · obtain ⟨b, off, rfl, hbw, hcs⟩ := unhide HC (by intro h0; subst h0; simp at hlt)
      obtain ⟨e0, e1, e2, e3, e4⟩ := hcs n hlt
      have HKS := hide (fedL_succ ops n hlt)
      have hob := unhide HFIT ops[n] (List.getElem_mem hlt)
      clear hcs
      generalize ops[n] = o at *
      have hos : o.s.size ≤ maxLen := hob.2.2.2.1
      have x0 := (hbel.cell (p := ⟨b, off + n * 5, none⟩) hbw).trans e0
      have x1 := (hbel.cell (p := ⟨b, off + n * 5 + 1, none⟩) hbw).trans e1
      have x2 := (hbel.cell (p := ⟨b, off + n * 5 + 2, none⟩) hbw).trans e2
      have x3 := (hbel.cell (p := ⟨b, off + n * 5 + 3, none⟩) hbw).trans e3
      have x4 := (hbel.cell (p := ⟨b, off + n * 5 + 4, none⟩) hbw).trans e4
      clear e0 e1 e2 e3 e4 hob
      have hn60 : (n : Int) < 1152921504606846976 := by omega
      have hfa := Fr.alloc (S := fun _ => False) wr (.cells #[.int .i64 o.kind, .int .i64 o.a, .int .i64 o.b, .string o.s, .string o.t] 28)
      have HTA := hide (I.kept htab hfa (fun _ _ h => h))
      have HBA := hide (hfa.below hbel (Nat.le_refl _) (fun _ h => h.elim))
      have HS := hide hS
      clear htab hbel hS hfa
      by_cases h5 : o.kind = 5
      · have b5 : (o.kind == 5) = true := by simp [h5]
        have HF : Hid (fedL (ops.take (n + 1)) = (addR (fedL (ops.take n)) o.s.data.toList o.a).2) := by unfold Hid; rw [unhide HKS]; unfold feed; rw [if_pos h5]
        clear h5 HKS
        go_wp2_with fail
        refine (I.add p S _ o.s o.a _ (unhide HTA) hos).mono ?_
        rintro e w2 ⟨rfl, S2, ht2, hf2⟩
        have HT2 := hide ht2
        have HB2 := hide (hf2.below (unhide HBA) (Nat.le_refl _) (unhide HS))
        have HS2 : Hid (∀ k, S2 k → w.heap.size ≤ k) := fun k hk => by
          rcases hf2.new k hk with h | h
          · exact unhide HS k h
          · have := (unhide HBA).size; omega
        clear ht2 hf2
        go_wp2_with fail
        go_roundg (ops.length - (n + 1))
        case measure => omega
        case rel => exact ⟨n + 1, S2, by omega, rfl, by go_num, by rw [unhide HF]; exact unhide HT2, unhide HB2, unhide HS2⟩
      · have b5 : (o.kind == 5) = false := by simp [h5]
        by_cases h6 : o.kind = 6
        · have b6 : (o.kind == 6) = true := by simp [h6]
          have HF : Hid (fedL (ops.take (n + 1)) = (dropR (fedL (ops.take n)) o.s.data.toList o.a).2) := by unfold Hid; rw [unhide HKS]; unfold feed; rw [if_neg h5, if_pos h6]
          clear h5 h6 HKS
          go_wp2_with fail
          refine (I.drop p S _ o.s o.a _ (unhide HTA) hos).mono ?_
          rintro e w2 ⟨rfl, S2, ht2, hf2⟩
          have HT2 := hide ht2
          have HB2 := hide (hf2.below (unhide HBA) (Nat.le_refl _) (unhide HS))
          have HS2 : Hid (∀ k, S2 k → w.heap.size ≤ k) := fun k hk => by
            rcases hf2.new k hk with h | h
            · exact unhide HS k h
            · have := (unhide HBA).size; omega
          clear ht2 hf2
          go_wp2_with fail
          go_roundg (ops.length - (n + 1))
          case measure => omega
          case rel => exact ⟨n + 1, S2, by omega, rfl, by go_num, by rw [unhide HF]; exact unhide HT2, unhide HB2, unhide HS2⟩
        · have b6 : (o.kind == 6) = false := by simp [h6]
          have HF : Hid (fedL (ops.take (n + 1)) = fedL (ops.take n)) := by unfold Hid; rw [unhide HKS]; unfold feed; rw [if_neg h5, if_neg h6]
          clear h5 h6 HKS
          go_wp2_with fail
          go_roundg (ops.length - (n + 1))
          case measure => omega
          case rel => exact ⟨n + 1, S, by omega, rfl, by go_num, by rw [unhide HF]; exact unhide HTA, unhide HBA, unhide HS⟩
    · have hne : ops.take n = ops := List.take_of_length_le (by omega)
      rw [hne] at htab
      have HT := hide htab
      have HB := hide hbel
      have HS := hide hS
      clear htab hbel hS hne
      go_wp2_with fail
      go_ret
      exact ⟨p, S, rfl, unhide HT, unhide HB, unhide HS⟩


end Go.Proofs.YtchhmojnoiephaaDoor
