import Derived.Test.YtchhmojnoiephaaGreatDoorLawD
namespace Go.Proofs.YtchhmojnoiephaaGreatDoor
open Go.ChangeShapes Go.WideShapes Go.ChangeAt Go.RowKit
set_option linter.unusedVariables false

def opCells (ops : List OpV) : List Value := ops.flatMap fun o => [.int .i64 o.kind, .int .i64 o.a, .int .i64 o.b, .string o.s, .string o.t]
theorem opCells_snoc (ops : List OpV) (o : OpV) : opCells (ops ++ [o]) = opCells ops ++ [.int .i64 o.kind, .int .i64 o.a, .int .i64 o.b, .string o.s, .string o.t] := by simp [opCells]
theorem opCells_at (ops : List OpV) (k : Nat) (h : k < ops.length) : (opCells ops)[k * 5]? = some (.int .i64 ops[k].kind) ∧ (opCells ops)[k * 5 + 1]? = some (.int .i64 ops[k].a) ∧ (opCells ops)[k * 5 + 2]? = some (.int .i64 ops[k].b) ∧ (opCells ops)[k * 5 + 3]? = some (.string ops[k].s) ∧ (opCells ops)[k * 5 + 4]? = some (.string ops[k].t) := by
  induction ops generalizing k with
  | nil => simp at h
  | cons o ops ih =>
    have e1 : opCells (o :: ops) = .int .i64 o.kind :: .int .i64 o.a :: .int .i64 o.b :: .string o.s :: .string o.t :: opCells ops := by simp [opCells]
    cases k with
    | zero => rw [e1]; simp
    | succ k =>
      have := ih k (by simpa using h)
      rw [e1, show (k + 1) * 5 = k * 5 + 5 from by omega, show k * 5 + 5 + 1 = (k * 5 + 1) + 5 from by omega, show k * 5 + 5 + 2 = (k * 5 + 2) + 5 from by omega, show k * 5 + 5 + 3 = (k * 5 + 3) + 5 from by omega, show k * 5 + 5 + 4 = (k * 5 + 4) + 5 from by omega]
      simpa only [List.getElem?_cons_succ, List.getElem_cons_succ] using this

theorem info_op : (Tryz.prog.info? 24).map (fun i => (i.zero, i.size, i.bytes)) = some (some (.agg #[.int .i64 0, .int .i64 0, .int .i64 0, .string ByteArray.empty, .string ByteArray.empty]), 5, 56) := by kernel_rfl

/-- a script that a law has made itself -/
theorem OpsAt.of_own {w : World} {B : Nat} {v : Value} {ops : List OpV} (h : w.ownsRow B 24 5 v ops.length (opCells ops)) (hf : ∀ o ∈ ops, o.fits) : OpsAt w v ops := by
  have hc : ∀ g, v.ownBlock = some g → ∀ j u, (opCells ops)[j]? = some u → w.cell? ((⟨g, 0, none⟩ : Addr).add j) = some u := fun g hg => h.cells hg
  have hlt := h.lt
  obtain ⟨_, ⟨rfl, h0⟩ | ⟨g, cap, cur, rfl, _, _, h1, h2, _, _⟩⟩ := h
  · have hz := List.length_eq_zero_iff.1 h0
    subst hz
    exact ⟨none, 0, rfl, by simp, by simp, hf, fun h => absurd rfl h⟩
  · refine ⟨_, cap, rfl, h1, h2, hf, fun _ => ⟨g, 0, rfl, (hlt g rfl).2, fun i hi => ?_⟩⟩
    obtain ⟨a0, a1, a2, a3, a4⟩ := opCells_at ops i hi
    have c0 := hc g rfl _ _ a0
    have c1 := hc g rfl _ _ a1
    have c2 := hc g rfl _ _ a2
    have c3 := hc g rfl _ _ a3
    have c4 := hc g rfl _ _ a4
    rw [add_at] at c0 c1 c2 c3 c4
    exact ⟨by simpa using c0, by simpa using c1, by simpa using c2, by simpa using c3, by simpa using c4⟩

def keptOps (ops : List OpV) (n : Nat) : List OpV := (ops.take n).filter (fun o => o.kind != 8)
theorem keptOps_succ (ops : List OpV) (n : Nat) (h : n < ops.length) : keptOps ops (n + 1) = if (ops[n].kind != 8) = true then keptOps ops n ++ [ops[n]] else keptOps ops n := by
  unfold keptOps
  rw [List.take_succ_eq_append_getElem h, List.filter_append]
  cases hk : (ops[n].kind != 8) <;> simp [hk]
theorem keptOps_len (ops : List OpV) (n : Nat) (h : n ≤ ops.length) : (keptOps ops n).length ≤ n := by
  unfold keptOps
  exact Nat.le_trans (List.length_filter_le _ _) (by simp; omega)
theorem keptOps_mem (ops : List OpV) (n : Nat) : ∀ o ∈ keptOps ops n, o ∈ ops ∧ ¬ o.kind = 8 := by
  intro o ho
  unfold keptOps at ho
  obtain ⟨h1, h2⟩ := List.mem_filter.1 ho
  exact ⟨List.mem_of_mem_take h1, by simpa using h2⟩

def routeOp (t : ByteArray) (b : Int) : OpV := ⟨7, 0, b, t, ByteArray.empty⟩
theorem wf_small (b : Int) (h : b = 0 ∨ b = 1 ∨ b = 7) : (Lit.int .i64 b).wf = true := by rcases h with rfl | rfl | rfl <;> decide
theorem routeOp_fits (t : ByteArray) (b : Int) (ht : t.size ≤ maxLen) (hb : b = 0 ∨ b = 1 ∨ b = 7) : (routeOp t b).fits :=
  ⟨wf_small 7 (by simp), wf_small 0 (by simp), wf_small b hb, ht, by show ByteArray.empty.size ≤ maxLen; decide⟩
theorem routeOp_kind (t : ByteArray) (b : Int) : ¬ (routeOp t b).kind = 8 := by show ¬ (7 : Int) = 8; decide

set_option maxHeartbeats 4000000 in
set_option maxRecDepth 1000000 in
theorem tables_of (I : HubTabI) (J : HubNewI) (w : World) (v : Value) (ops : List OpV) (h : OpsAt w v ops) (hl : ops.length * 56 ≤ 140737488351232) (t : ByteArray) (ht : t.size ≤ 140737488351232) :
    Calls Tryz.prog 3 #[v, .string t] w fun e w' => e = .returned (.bool true) ∧ Below w.heap.size w w' := by
  obtain ⟨i0, hi, hz0, hz1, hz2⟩ := info_parts info_op
  obtain ⟨ao, cap, rfl, hcap, hcap2, hfit, hcells⟩ := h
  unfold maxLen at hcap2
  have htm : t.size ≤ maxLen := by unfold maxLen; omega
  have HFIT := hide hfit
  have HC := hide hcells
  clear hfit hcells
  go_enter Tryz.func3, Tryz.ntmps3
  go_wp2_with fail
  go_loopg [5, 6] ops.length (fun gk o ii wr => ∃ n : Nat, n ≤ ops.length ∧ gk = ops.length - n ∧ ii = .int .i64 n ∧ wr.ownsRow w.heap.size 24 5 o (keptOps ops n).length (opCells (keptOps ops n)) ∧ Below w.heap.size w wr)
  case atStart => exact ⟨0, by omega, by omega, rfl, World.ownsRow_nil _ _ _ _, Below.refl _ _⟩
  case round =>
    obtain ⟨n, hn, rfl, rfl, hown, hbel⟩ := hrel
    have hkl := keptOps_len ops n hn
    have hbs := hbel.size
    by_cases hlt : n < ops.length
    · obtain ⟨b, off, rfl, hbw, hcs⟩ := unhide HC (by intro h0; subst h0; simp at hlt)
      obtain ⟨e0, e1, e2, e3, e4⟩ := hcs n hlt
      have HKS := hide (keptOps_succ ops n hlt)
      clear hcs
      generalize ops[n] = o at *
      have x0 := (hbel.cell (p := ⟨b, off + n * 5, none⟩) hbw).trans e0
      have x1 := (hbel.cell (p := ⟨b, off + n * 5 + 1, none⟩) hbw).trans e1
      have x2 := (hbel.cell (p := ⟨b, off + n * 5 + 2, none⟩) hbw).trans e2
      have x3 := (hbel.cell (p := ⟨b, off + n * 5 + 3, none⟩) hbw).trans e3
      have x4 := (hbel.cell (p := ⟨b, off + n * 5 + 4, none⟩) hbw).trans e4
      clear e0 e1 e2 e3 e4
      have HOW := hide hown
      have HBE := hide hbel
      clear hown hbel
      cases hk : (o.kind != 8)
      · rw [hk] at HKS
        go_wp2_with fail
        go_roundg (ops.length - (n + 1))
        case measure => omega
        case rel => exact ⟨n + 1, by omega, rfl, by go_num, by rw [unhide HKS]; exact unhide HOW, unhide HBE⟩
      · rw [hk] at HKS
        go_wp2_with (at_builtin; refine wpList_append_own _ rfl _ _ 22 rfl w.heap.size 24 i0 (.agg #[.int .i64 0, .int .i64 0, .int .i64 0, .string ByteArray.empty, .string ByteArray.empty]) 5 56 Tryz.underlying22 hi hz0 hz1 hz2 rfl (by decide) _ _ _ rfl ((unhide HOW).alloc _) ⟨wr.heap.size, 0, none⟩ 1 1 [.int .i64 o.kind, .int .i64 o.a, .int .i64 o.b, .string o.s, .string o.t] rfl rfl ?c1 ?c2 ?c3 ?c4 ?c5 ?_)
        first
          | (case c1 =>
              intro j u hj
              match j, hj with
              | 0, hj => simp at hj; subst hj; simp [Addr.add]
              | 1, hj => simp at hj; subst hj; simp [Addr.add]
              | 2, hj => simp at hj; subst hj; simp [Addr.add]
              | 3, hj => simp at hj; subst hj; simp [Addr.add]
              | 4, hj => simp at hj; subst hj; simp [Addr.add])
          | skip
        case c2 => first | rfl | (intro u hu; simp at hu; rcases hu with rfl | rfl | rfl | rfl | rfl <;> rfl) | (simp [Value.oneCell']; done) | trivial
        case c3 => unfold maxLen; omega
        case c4 => omega
        case c5 => first | omega | (simp; omega)
        intro v' w4 hown' hgrow _
        have HB4 : Hid (Below w.heap.size w w4) := ((unhide HBE).alloc hbs _).grown hgrow (by simp; omega) (fun k hk => ((unhide HOW).lt k hk).1)
        have HO4 : Hid (w4.ownsRow w.heap.size 24 5 v' (keptOps ops (n + 1)).length (opCells (keptOps ops (n + 1)))) := by
          have h5 := unhide HKS
          simp only [if_true] at h5
          unfold Hid; rw [h5, List.length_append, opCells_snoc]; exact hown'
        clear hown' hgrow
        go_wp2_with fail
        go_roundg (ops.length - (n + 1))
        case measure => omega
        case rel => exact ⟨n + 1, by omega, rfl, by go_num, unhide HO4, unhide HB4⟩
    · have HOW := hide hown
      have HBE := hide hbel
      have HKM := hide (keptOps_mem ops n)
      clear hown hbel
      generalize keptOps ops n = K at *
      go_wp2_with (at_builtin; refine wpList_append_own _ rfl (.tmp 26) (.tmp 29) 22 rfl w.heap.size 24 i0 (.agg #[.int .i64 0, .int .i64 0, .int .i64 0, .string ByteArray.empty, .string ByteArray.empty]) 5 56 Tryz.underlying22 hi hz0 hz1 hz2 rfl (by decide) _ _ _ rfl ((unhide HOW).alloc _) ⟨wr.heap.size, 0, none⟩ 1 1 [.int .i64 7, .int .i64 0, .int .i64 0, .string t, .string ⟨#[]⟩] rfl rfl ?b1 ?b2 ?b3 ?b4 ?b5 ?_)
      first
        | (case b1 =>
            intro j u hj
            match j, hj with
            | 0, hj => simp at hj; subst hj; simp [Addr.add]
            | 1, hj => simp at hj; subst hj; simp [Addr.add]
            | 2, hj => simp at hj; subst hj; simp [Addr.add]
            | 3, hj => simp at hj; subst hj; simp [Addr.add]
            | 4, hj => simp at hj; subst hj; simp [Addr.add])
        | skip
      case b2 => first | rfl | (intro u hu; simp at hu; rcases hu with rfl | rfl | rfl | rfl <;> rfl) | (intro u hu; simp at hu; rcases hu with rfl | rfl | rfl | rfl | rfl <;> rfl)
      case b3 => unfold maxLen; omega
      case b4 => omega
      case b5 => first | omega | (simp; omega)
      intro v4 w4 hown4 hgrow4 _
      have hb4 : Below w.heap.size w w4 := ((unhide HBE).alloc hbs _).grown hgrow4 (by simp; omega) (fun k hk => ((unhide HOW).lt k hk).1)
      have hbs4 := hb4.size
      have HOW4 : Hid (w4.ownsRow w.heap.size 24 5 v4 (K ++ [routeOp t 0]).length (opCells (K ++ [routeOp t 0]))) := by
        unfold Hid; rw [List.length_append, opCells_snoc]; exact hown4
      have HBE4 := hide hb4
      clear hown4 hgrow4 hb4
      have hK1 : Hid ((K ++ [routeOp t 0]).length = K.length + 1) := by unfold Hid; simp
      have hK2 : (K ++ [routeOp t 0]).length ≤ ops.length + 1 := by rw [unhide hK1]; omega
      generalize hKK0 : K ++ [routeOp t 0] = K1 at *
      have hKK := hide hKK0
      clear hKK0
      go_wp2_with (at_builtin; refine wpList_append_own _ rfl (.tmp 31) (.tmp 34) 22 rfl w.heap.size 24 i0 (.agg #[.int .i64 0, .int .i64 0, .int .i64 0, .string ByteArray.empty, .string ByteArray.empty]) 5 56 Tryz.underlying22 hi hz0 hz1 hz2 rfl (by decide) _ _ _ rfl ((unhide HOW4).alloc _) ⟨w4.heap.size, 0, none⟩ 1 1 [.int .i64 7, .int .i64 0, .int .i64 1, .string t, .string ⟨#[]⟩] rfl rfl ?d1 ?d2 ?d3 ?d4 ?d5 ?_)
      first
        | (case d1 =>
            intro j u hj
            match j, hj with
            | 0, hj => simp at hj; subst hj; simp [Addr.add]
            | 1, hj => simp at hj; subst hj; simp [Addr.add]
            | 2, hj => simp at hj; subst hj; simp [Addr.add]
            | 3, hj => simp at hj; subst hj; simp [Addr.add]
            | 4, hj => simp at hj; subst hj; simp [Addr.add])
        | skip
      case d2 => first | rfl | (intro u hu; simp at hu; rcases hu with rfl | rfl | rfl | rfl | rfl <;> rfl)
      case d3 => unfold maxLen; omega
      case d4 => omega
      case d5 => first | omega | (simp; omega)
      intro v5 w5 hown5 hgrow5 _
      have hb5 : Below w.heap.size w w5 := ((unhide HBE4).alloc hbs4 _).grown hgrow5 (by simp; omega) (fun k hk => ((unhide HOW4).lt k hk).1)
      have HB5 := hide hb5
      have HAT : Hid (OpsAt w5 v5 (K1 ++ [routeOp t 1])) := by
        refine OpsAt.of_own (B := w.heap.size) (by rw [List.length_append, opCells_snoc]; exact hown5) (fun o ho => ?_)
        rw [← unhide hKK] at ho
        simp only [List.mem_append, List.mem_singleton] at ho
        rcases ho with (ho | rfl) | rfl
        · exact unhide HFIT o (unhide HKM o ho).1
        · exact routeOp_fits t 0 htm (by simp)
        · exact routeOp_fits t 1 htm (by simp)
      have H8 : Hid (∀ o ∈ K1 ++ [routeOp t 1], ¬ o.kind = 8) := by
        intro o ho
        rw [← unhide hKK] at ho
        simp only [List.mem_append, List.mem_singleton] at ho
        rcases ho with (ho | rfl) | rfl
        · exact (unhide HKM o ho).2
        · exact routeOp_kind t 0
        · exact routeOp_kind t 1
      have hlen2 : (K1 ++ [routeOp t 1]).length * 56 ≤ 200000000000000 := by rw [List.length_append]; simp; omega
      have HL2 := hide hlen2
      clear hown5 hgrow5 hb5 hlen2 hKK
      go_wp2_with fail
      refine (upTo_tables I J v5 _ _ (unhide HAT) (unhide HL2) (unhide H8)).mono ?_
      rintro e w6 ⟨rfl, hb6⟩
      go_wp2_with fail
      go_ret
      exact ⟨rfl, (unhide HB5).trans (hb6.mono (unhide HB5).size)⟩

end Go.Proofs.YtchhmojnoiephaaGreatDoor
