import Derived.Test.YtchhmojnoiephaaGreatDoorLawC
namespace Go.Proofs.YtchhmojnoiephaaGreatDoor
open Go.ChangeShapes Go.WideShapes Go.ChangeAt Go.RowKit
set_option linter.unusedVariables false

/-- how far the first loop of upTo has come -/
def UpStart (I : HubTabI) (B : Nat) (w0 wr : World) (P : Nat) (n : Nat) : Prop :=
  (n = 0 ∧ ∃ t0 t1 h0 h1 d0 d1 g0 g1, PairAt wr P [t0, t1, h0, h1, d0, d1, g0, g1] ∧ B ≤ P ∧ Below B w0 wr) ∨
  (n = 1 ∧ ∃ p S d D L t1 h0 h1 d1 g0 g1, PairAt wr P [ptrV p, t1, h0, h1, ptrV d, d1, g0, g1] ∧ Both I wr p S d D L ∧ (∀ k, S k ∨ D k → k ≠ P ∧ B ≤ k) ∧ B ≤ P ∧ Below B w0 wr) ∨
  (n = 2 ∧ TwoTabs I B w0 wr P)

set_option maxHeartbeats 4000000 in
set_option maxRecDepth 1000000 in
theorem upTo_tables (I : HubTabI) (J : HubNewI) (v : Value) (ops : List OpV) (w : World) (h : OpsAt w v ops) (hl : ops.length * 56 ≤ 200000000000000) (h8 : ∀ o ∈ ops, ¬ o.kind = 8) :
    Calls Tryz.prog 4 #[v, .int .i64 4, .int .i64 8] w fun e w' => e = .returned (.int .i64 (-1)) ∧ Below w.heap.size w w' := by
  obtain ⟨ao, cap, rfl, hcap, hcap2, hfit, hcells⟩ := h
  unfold maxLen at hcap2
  have HFIT := hide hfit
  have HC := hide hcells
  have H8 := hide h8
  clear hfit hcells h8
  go_enter Tryz.func4, Tryz.ntmps4
  go_wp2_with fail
  go_loopg [8] 2 (fun gk kk wr => ∃ n : Nat, n ≤ 2 ∧ gk = 2 - n ∧ kk = .int .i64 n ∧ UpStart I w.heap.size w wr w.heap.size n)
  case atStart => exact ⟨0, by omega, rfl, rfl, Or.inl ⟨rfl, _, _, _, _, _, _, _, _, (MapKept.heap_alloc w _).1, Nat.le_refl _, (Below.refl _ w).alloc (Nat.le_refl _) _⟩⟩
  case round =>
    obtain ⟨n, hn, rfl, rfl, hst⟩ := hrel
    rcases hst with ⟨rfl, t0, t1, h0, h1, d0, d1, g0, g1, hP, hBP, hb⟩ | ⟨rfl, p, S, d, D, L, t1, h0, h1, d1, g0, g1, hP, hbo, hSD, hBP, hb⟩ | ⟨rfl, htwo⟩
    · have hPlt := heap_lt hP
      have HP := hide hP
      have HB := hide hb
      clear hP hb
      go_wp2_with fail
      refine (tables0_any I _ _ _ _ _ _ _ _ _ _ (unhide HP)).mono ?_
      rintro e w2 ⟨vv, rfl, p, S, d, D, hnew, hP2, hf2, hS2⟩
      have HN2 := hide hnew
      have HP2 := hide hP2
      have HF2 := hide hf2
      have HS2 := hide hS2
      clear hnew hP2 hf2 hS2
      go_wp2_with fail
      refine (hubs0_new J _ _ _ _ _ _ _ _ _ _ (unhide HP2)).mono ?_
      rintro e w3 ⟨vv2, rfl, a, b, hP3, hf3⟩
      have hSD : ∀ k, S k ∨ D k → k ≠ w.heap.size ∧ w.heap.size ≤ k := fun k hk => by
        have := unhide HS2 k hk
        exact ⟨by omega, by omega⟩
      have HST : Hid (UpStart I w.heap.size w w3 w.heap.size 1) := Or.inr (Or.inl ⟨rfl, p, S, d, D, [], _, _, _, _, _, _, hP3, (unhide HN2).kept hf3 (fun k hk => (hSD k (Or.inl hk)).1) (fun k hk => (hSD k (Or.inr hk)).1), hSD, Nat.le_refl _,
        hf3.below ((unhide HF2).below (unhide HB) (Nat.le_refl _) (fun k hk => by omega)) (Nat.le_refl _) (fun k hk => by omega)⟩)
      clear hP3 hf3 hSD
      go_wp2_with fail
      go_roundg 1
      case measure => omega
      case rel => exact ⟨1, by omega, rfl, by go_num, unhide HST⟩
    · have hPlt := heap_lt hP
      have HP := hide hP
      have HB := hide hb
      have HBO := hide hbo
      have HSD := hide hSD
      clear hP hb hbo hSD
      go_wp2_with fail
      refine (tables1_any I _ _ _ _ _ _ _ _ _ _ (unhide HP)).mono ?_
      rintro e w2 ⟨vv, rfl, p2, S2, d2, D2, hnew, hP2, hf2, hS2⟩
      have HT2 := hide (two_new1 (unhide HBO) (unhide HSD) (Nat.le_refl _) hPlt (unhide HB) (Nat.le_refl _) hnew hP2 hf2 hS2)
      have HN2 := hide hnew
      have HP2 := hide hP2
      clear hnew hP2 hf2 hS2
      go_wp2_with fail
      refine (hubs1_new J _ _ _ _ _ _ _ _ _ _ (unhide HP2)).mono ?_
      rintro e w3 ⟨vv2, rfl, a, b, hP3, hf3⟩
      have HT3 : Hid (TwoTabs I w.heap.size w w3 w.heap.size) := two_hub (unhide HT2) (unhide HP2) hP3 hf3
      clear hP3 hf3
      go_wp2_with fail
      go_roundg 0
      case measure => omega
      case rel => exact ⟨2, by omega, rfl, by go_num, Or.inr (Or.inr ⟨rfl, unhide HT3⟩)⟩
    · have HT := hide htwo
      clear htwo
      go_wp2_with fail
      go_loopg [9, 10, 11, 12] ops.length (fun gk ii _ _ _ wr => ∃ n : Nat, n ≤ ops.length ∧ gk = ops.length - n ∧ ii = .int .i64 n ∧ TwoTabs I w.heap.size w wr w.heap.size)
      case atStart => exact ⟨0, by omega, by omega, rfl, unhide HT⟩
      case round =>
        obtain ⟨n, hn, rfl, rfl, htwo⟩ := hrel
        by_cases hlt : n < ops.length
        · obtain ⟨b, off, rfl, hbw, hcs⟩ := unhide HC (by intro h0; subst h0; simp at hlt)
          obtain ⟨e0, e1, e2, e3, e4⟩ := hcs n hlt
          have hob := unhide HFIT ops[n] (List.getElem_mem hlt)
          have hk8 := unhide H8 ops[n] (List.getElem_mem hlt)
          clear hcs
          generalize ops[n] = o at *
          have hbel : Below w.heap.size w wr := by
            obtain ⟨_, _, _, _, _, _, _, _, _, _, _, _, _, _, _, _, _, _, _, _, _, hb⟩ := htwo
            exact hb
          have x0 := (hbel.cell (p := ⟨b, off + n * 5, none⟩) hbw).trans e0
          have x1 := (hbel.cell (p := ⟨b, off + n * 5 + 1, none⟩) hbw).trans e1
          have x2 := (hbel.cell (p := ⟨b, off + n * 5 + 2, none⟩) hbw).trans e2
          have x3 := (hbel.cell (p := ⟨b, off + n * 5 + 3, none⟩) hbw).trans e3
          have x4 := (hbel.cell (p := ⟨b, off + n * 5 + 4, none⟩) hbw).trans e4
          clear e0 e1 e2 e3 e4
          have hn60 : (n : Int) < 1152921504606846976 := by omega
          have HTW := hide htwo
          have HBEL := hide hbel
          have HOB := hide hob
          have HK8 := hide hk8
          clear htwo hbel hob hk8
          -- the kinds
          by_cases hlo : o.kind < 4
          · go_wp2_with fail
            go_roundg (ops.length - (n + 1))
            case measure => omega
            case rel => exact ⟨n + 1, by omega, rfl, by go_num, (unhide HTW).frame (Fr.alloc _ _) (Nat.le_refl _)⟩
          by_cases hhi : 8 < o.kind
          · go_wp2_with fail
            go_roundg (ops.length - (n + 1))
            case measure => omega
            case rel => exact ⟨n + 1, by omega, rfl, by go_num, (unhide HTW).frame (Fr.alloc _ _) (Nat.le_refl _)⟩
          obtain ⟨p0, S0, d0, D0, L0, p1, S1, d1, D1, L1, h0, h1, g0, g1, hPr, b0, b1, hdd, hs0, hs1, hBP, hbr⟩ := unhide HTW
          have hfa := Fr.alloc (S := fun _ => False) wr (.cells #[.int .i64 o.kind, .int .i64 o.a, .int .i64 o.b, .string o.s, .string o.t] 24)
          have hPa := hPr.kept hfa (fun h => h)
          have hPlt := heap_lt hPr
          have cT0 : wr.cell? ⟨w.heap.size, 0, none⟩ = some (.pointer (some ⟨p0, 0, none⟩)) := cell_block (i := 0) hPr rfl
          have cT1 : wr.cell? ⟨w.heap.size, 1, none⟩ = some (.pointer (some ⟨p1, 0, none⟩)) := cell_block (i := 1) hPr rfl
          have cD0 : wr.cell? ⟨w.heap.size, 4, none⟩ = some (.pointer (some ⟨d0, 0, none⟩)) := cell_block (i := 4) hPr rfl
          have cD1 : wr.cell? ⟨w.heap.size, 5, none⟩ = some (.pointer (some ⟨d1, 0, none⟩)) := cell_block (i := 5) hPr rfl
          have ba0 := b0.kept hfa (fun _ _ h => h) (fun _ _ h => h)
          have ba1 := b1.kept hfa (fun _ _ h => h) (fun _ _ h => h)
          have hba := hfa.below hbr (Nat.le_refl _) (fun _ h => h.elim)
          clear hfa hPr b0 b1 hbr
          have HPa := hide hPa
          have Hba0 := hide ba0
          have Hba1 := hide ba1
          have Hdd := hide hdd
          have Hs0 := hide hs0
          have Hs1 := hide hs1
          have HBP := hide hBP
          have Hba := hide hba
          clear hPa ba0 ba1 hdd hs0 hs1 hBP hba
          have hand := and_one o.b
          by_cases h4 : o.kind = 4
          · have b4 : (o.kind == 4) = true := by simp [h4]
            have HAND := hide hand
            clear hand h4
            go_wp2_with fail
            generalize hkk : bits BinOp.and IntKind.i64 o.b 1 = kk at *
            clear hkk
            rcases unhide HAND with rfl | rfl
            · refine (tables0_any I _ _ _ _ _ _ _ _ _ _ (unhide HPa)).mono ?_
              rintro e w2 ⟨vv, rfl, p, S, d, D, hnew, hP2, hf2, hS2⟩
              have HT2 := hide (two_new0 (unhide Hba1) (unhide Hs1) (unhide HBP) (heap_lt (unhide HPa)) (unhide Hba) (Nat.le_refl _) hnew hP2 hf2 hS2)
              clear hnew hP2 hf2 hS2
              go_wp2_with fail
              go_roundg (ops.length - (n + 1))
              case measure => omega
              case rel => exact ⟨n + 1, by omega, rfl, by go_num, unhide HT2⟩
            · refine (tables1_any I _ _ _ _ _ _ _ _ _ _ (unhide HPa)).mono ?_
              rintro e w2 ⟨vv, rfl, p, S, d, D, hnew, hP2, hf2, hS2⟩
              have HT2 := hide (two_new1 (unhide Hba0) (unhide Hs0) (unhide HBP) (heap_lt (unhide HPa)) (unhide Hba) (Nat.le_refl _) hnew hP2 hf2 hS2)
              clear hnew hP2 hf2 hS2
              go_wp2_with fail
              go_roundg (ops.length - (n + 1))
              case measure => omega
              case rel => exact ⟨n + 1, by omega, rfl, by go_num, unhide HT2⟩
          · have b4 : (o.kind == 4) = false := by simp [h4]
            have b11 : (o.kind == 11) = false := by simp; omega
            have h5 : Hid (5 ≤ o.kind) := by unfold Hid; omega
            have hle8 : Hid (o.kind ≤ 8) := by unfold Hid; omega
            have HAND := hide hand
            clear hand h4
            go_upto_region 18 with fail
            have h5' := unhide h5
            have hle8' := unhide hle8
            clear hlo hhi
            go_wp2_with fail
            generalize hkk : bits BinOp.and IntKind.i64 o.b 1 = kk at *
            clear hkk
            rcases unhide HAND with rfl | rfl
            · have HBW : Hid (∀ w', w'.os = wr.os → w'.tape = wr.tape → w'.output = wr.output → w'.heap = (wr.alloc (.cells #[.int .i64 o.kind, .int .i64 o.a, .int .i64 o.b, .string o.s, .string o.t] 24)).heap → Both I w' p0 S0 d0 D0 L0) :=
                fun w' e1 e2 e3 e4 => (unhide Hba0).kept (fr_same (S := fun _ => False) (w := wr.alloc (.cells #[.int .i64 o.kind, .int .i64 o.a, .int .i64 o.b, .string o.s, .string o.t] 24)) e1 e2 e3 e4) (fun _ _ h => h) (fun _ _ h => h)
              have HST : Hid (∀ W w' S' D' L', W.os = wr.os → W.tape = wr.tape → W.output = wr.output → W.heap = (wr.alloc (.cells #[.int .i64 o.kind, .int .i64 o.a, .int .i64 o.b, .string o.s, .string o.t] 24)).heap → Both I w' p0 S' d0 D' L' → Fr (fun k => S0 k ∨ D0 k) W w' (fun k => S' k ∨ D' k) → TwoTabs I w.heap.size w w' w.heap.size) :=
                fun W w' S' D' L' e1 e2 e3 e4 hn hf => two_step0 (unhide HPa) (unhide Hba0) (unhide Hba1) (unhide Hdd) (unhide Hs0) (unhide Hs1) (unhide HBP) (unhide Hba) (Nat.le_refl _) hn ((fr_same (w := wr.alloc (.cells #[.int .i64 o.kind, .int .i64 o.a, .int .i64 o.b, .string o.s, .string o.t] 24)) e1 e2 e3 e4).trans hf)
              go_region_with (go_at_call 7; refine (table_step I p0 d0 S0 D0 L0 o _ (by exact unhide HBW _ rfl rfl rfl rfl) (unhide HOB) (unhide HK8)).mono ?_; rintro e w' ⟨rfl, S', D', L', hb', hf'⟩; have HT' := hide (unhide HST _ _ S' D' L' (by rfl) (by rfl) (by rfl) (by rfl) hb' hf'); clear hb' hf')
              all_goals
                go_wp2_with fail
                go_roundg (ops.length - (n + 1))
                case measure => omega
                case rel => exact ⟨n + 1, by omega, rfl, by go_num, unhide HT'⟩
            · have HBW : Hid (∀ w', w'.os = wr.os → w'.tape = wr.tape → w'.output = wr.output → w'.heap = (wr.alloc (.cells #[.int .i64 o.kind, .int .i64 o.a, .int .i64 o.b, .string o.s, .string o.t] 24)).heap → Both I w' p1 S1 d1 D1 L1) :=
                fun w' e1 e2 e3 e4 => (unhide Hba1).kept (fr_same (S := fun _ => False) (w := wr.alloc (.cells #[.int .i64 o.kind, .int .i64 o.a, .int .i64 o.b, .string o.s, .string o.t] 24)) e1 e2 e3 e4) (fun _ _ h => h) (fun _ _ h => h)
              have HST : Hid (∀ W w' S' D' L', W.os = wr.os → W.tape = wr.tape → W.output = wr.output → W.heap = (wr.alloc (.cells #[.int .i64 o.kind, .int .i64 o.a, .int .i64 o.b, .string o.s, .string o.t] 24)).heap → Both I w' p1 S' d1 D' L' → Fr (fun k => S1 k ∨ D1 k) W w' (fun k => S' k ∨ D' k) → TwoTabs I w.heap.size w w' w.heap.size) :=
                fun W w' S' D' L' e1 e2 e3 e4 hn hf => two_step1 (unhide HPa) (unhide Hba0) (unhide Hba1) (unhide Hdd) (unhide Hs0) (unhide Hs1) (unhide HBP) (unhide Hba) (Nat.le_refl _) hn ((fr_same (w := wr.alloc (.cells #[.int .i64 o.kind, .int .i64 o.a, .int .i64 o.b, .string o.s, .string o.t] 24)) e1 e2 e3 e4).trans hf)
              go_region_with (go_at_call 7; refine (table_step I p1 d1 S1 D1 L1 o _ (by exact unhide HBW _ rfl rfl rfl rfl) (unhide HOB) (unhide HK8)).mono ?_; rintro e w' ⟨rfl, S', D', L', hb', hf'⟩; have HT' := hide (unhide HST _ _ S' D' L' (by rfl) (by rfl) (by rfl) (by rfl) hb' hf'); clear hb' hf')
              all_goals
                go_wp2_with fail
                go_roundg (ops.length - (n + 1))
                case measure => omega
                case rel => exact ⟨n + 1, by omega, rfl, by go_num, unhide HT'⟩
        · have HBB : Hid (Below w.heap.size w wr) := by
            obtain ⟨_, _, _, _, _, _, _, _, _, _, _, _, _, _, _, _, _, _, _, _, _, hb⟩ := htwo
            exact hb
          clear htwo
          go_wp2_with fail
          go_ret
          exact ⟨rfl, unhide HBB⟩

end Go.Proofs.YtchhmojnoiephaaGreatDoor
