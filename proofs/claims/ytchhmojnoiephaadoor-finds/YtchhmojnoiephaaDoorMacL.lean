import Derived.Test.YtchhmojnoiephaaDoorMacK
namespace Go.Proofs.YtchhmojnoiephaaDoor
open Go.ChangeShapes Go.WideShapes Go.ChangeAt Go.RowKit
set_option linter.unusedVariables false

def plnC (L : List PairL) : List ThrC := (L.filter fun e => !(headI e.1 == 36)).map fun e => (e.1, 0, e.2)
def dolC (L : List PairL) : List ThrC := (L.filter fun e => headI e.1 == 36).map fun e => (e.1, 0, e.2)
theorem plnC_abs (L : List PairL) : (plnC L).map absT = plainT L := by
  unfold plnC plainT
  rw [List.map_map]
  apply List.map_congr_left
  intro e _
  simp [absT, levsFrom_zero]
theorem dolC_abs (L : List PairL) : (dolC L).map absT = dollT L := by
  unfold dolC dollT
  rw [List.map_map]
  apply List.map_congr_left
  intro e _
  simp [absT, levsFrom_zero]
theorem plnC_succ (L : List PairL) (k : Nat) (h : k < L.length) : plnC (L.take (k + 1)) = if headI L[k].1 == 36 then plnC (L.take k) else plnC (L.take k) ++ [(L[k].1, 0, L[k].2)] := by
  unfold plnC; rw [List.take_succ_eq_append_getElem h, List.filter_append, List.map_append]
  cases hw : headI L[k].1 == 36 <;> simp [hw]
theorem dolC_succ (L : List PairL) (k : Nat) (h : k < L.length) : dolC (L.take (k + 1)) = if headI L[k].1 == 36 then dolC (L.take k) ++ [(L[k].1, 0, L[k].2)] else dolC (L.take k) := by
  unfold dolC; rw [List.take_succ_eq_append_getElem h, List.filter_append, List.map_append]
  cases hw : headI L[k].1 == 36 <;> simp [hw]
theorem plnC_len (L : List PairL) (k : Nat) : (plnC (L.take k)).length ≤ k := by
  unfold plnC; rw [List.length_map]; exact Nat.le_trans (List.length_filter_le _ _) (by simp; omega)
theorem dolC_len (L : List PairL) (k : Nat) : (dolC (L.take k)).length ≤ k := by
  unfold dolC; rw [List.length_map]; exact Nat.le_trans (List.length_filter_le _ _) (by simp; omega)
theorem okC_of (L : List PairL) (h : goodL L) : (∀ c ∈ plnC L, okC c) ∧ (∀ c ∈ dolC L, okC c) := by
  have each : ∀ e ∈ L, okC (e.1, 0, e.2) := fun e he => ⟨(filterR_len e.1 (h.2.2 e he).1).1, by show 0 ≤ 25; omega⟩
  refine ⟨fun c hc => ?_, fun c hc => ?_⟩
  · obtain ⟨e, he, rfl⟩ := List.mem_map.1 hc
    exact each e (List.mem_filter.1 he).1
  · obtain ⟨e, he, rfl⟩ := List.mem_map.1 hc
    exact each e (List.mem_filter.1 he).1

/-- two rows of threads that grow side by side -/
structure Two (w wr : World) (pv dv : Value) (P D : List ThrC) : Prop where
  p : wr.ownsRow 0 66 3 pv P.length (thrCells P)
  d : wr.ownsRow 0 66 3 dv D.length (thrCells D)
  pn : ∀ k, pv.ownBlock = some k → w.heap.size ≤ k
  dn : ∀ k, dv.ownBlock = some k → w.heap.size ≤ k
  no : ∀ k, pv.ownBlock = some k → dv.ownBlock ≠ some k
  b : Below w.heap.size w wr

theorem Two.growP {w wr w1 : World} {pv dv v' : Value} {P D : List ThrC} {c : ThrC} {o : Obj} (h : Two w wr pv dv P D) (hown : w1.ownsRow 0 66 3 v' (P.length + 1) (thrCells P ++ [strV c.1, .int .i64 (c.2.1 : Int), .int .i64 c.2.2])) (hg : (wr.alloc o).grownBy w1 pv.ownBlock) (hmv : ∀ k, v'.ownBlock = some k → pv.ownBlock = some k ∨ (wr.alloc o).heap.size ≤ k) : Two w w1 v' dv (P ++ [c]) D := by
  have hs := h.b.size
  refine ⟨by rw [thrCells_snoc, List.length_append]; exact hown, ?_, fun k hk => ?_, h.dn, fun k hk hd => ?_, (h.b.alloc hs o).grown hg (by simp; omega) (fun k hk => h.pn k hk)⟩
  · exact own_same (h.d.alloc o) (fun k hk => hg.block k (by have := ((h.d.alloc o).lt k hk).2; exact this) (fun e => h.no k e.symm hk))
  · rcases hmv k hk with h1 | h1
    · exact h.pn k h1
    · simp at h1; omega
  · rcases hmv k hk with h1 | h1
    · exact h.no k h1 hd
    · have := (h.d.lt k hd).2; simp at h1; omega
theorem Two.growD {w wr w1 : World} {pv dv v' : Value} {P D : List ThrC} {c : ThrC} {o : Obj} (h : Two w wr pv dv P D) (hown : w1.ownsRow 0 66 3 v' (D.length + 1) (thrCells D ++ [strV c.1, .int .i64 (c.2.1 : Int), .int .i64 c.2.2])) (hg : (wr.alloc o).grownBy w1 dv.ownBlock) (hmv : ∀ k, v'.ownBlock = some k → dv.ownBlock = some k ∨ (wr.alloc o).heap.size ≤ k) : Two w w1 pv v' P (D ++ [c]) := by
  have hs := h.b.size
  refine ⟨?_, by rw [thrCells_snoc, List.length_append]; exact hown, h.pn, fun k hk => ?_, fun k hk hd => ?_, (h.b.alloc hs o).grown hg (by simp; omega) (fun k hk => h.dn k hk)⟩
  · exact own_same (h.p.alloc o) (fun k hk => hg.block k (by have := ((h.p.alloc o).lt k hk).2; exact this) (fun e => h.no k hk e.symm))
  · rcases hmv k hk with h1 | h1
    · exact h.dn k h1
    · simp at h1; omega
  · rcases hmv k hd with h1 | h1
    · exact h.no k hk h1
    · have := (h.p.lt k hk).2; simp at h1; omega
theorem Two.alloc {w wr : World} {pv dv : Value} {P D : List ThrC} (h : Two w wr pv dv P D) (o : Obj) : Two w (wr.alloc o) pv dv P D := ⟨h.p.alloc o, h.d.alloc o, h.pn, h.dn, h.no, h.b.alloc h.b.size o⟩

set_option maxHeartbeats 8000000 in
set_option maxRecDepth 1000000 in
theorem code_any (p : Nat) (Sb : Nat → Prop) (L : List PairL) (w : World) (h : HTab w p Sb L) (hpw : powOK w) :
    Calls Tryd.prog 11 #[.pointer (some ⟨p, 0, none⟩)] w fun e w' => e = .returned (strV (codeB L)) ∧ Below w.heap.size w w' := by
  obtain ⟨i0, hi, hz0, hz1, hz2⟩ := info_parts info_thr
  obtain ⟨v, h1, h2, h3⟩ := h.body
  have hl := h.good.1
  have hp := heap_lt h1
  obtain ⟨av, lv, cv, rfl⟩ := own_slice h2
  have hlv : lv = L.length := own_len h2
  subst hlv
  have c0 := cell_block (i := 0) h1 rfl
  have HGL := hide h.good.2.2
  obtain ⟨okP, okD⟩ := okC_of L h.good
  have HCO := hide (codeOf_any L h.good (plnC L) (dolC L) (plnC_abs L) (dolC_abs L))
  have H2 := hide h2
  have HPW := hide hpw
  clear h h1 h2 h3 hpw
  go_enter Tryd.func11, Tryd.ntmps11
  go_wp2_with fail
  go_loopg [3, 4, 6, 12] L.length (fun gk pv dv _ i wr => ∃ k : Nat, k ≤ L.length ∧ gk = L.length - k ∧ i = .int .i64 k ∧ Two w wr pv dv (plnC (L.take k)) (dolC (L.take k)))
  case atStart => exact ⟨0, by omega, by omega, rfl, ⟨World.ownsRow_nil _ _ _ _, World.ownsRow_nil _ _ _ _, (fun k hk => by cases hk), (fun k hk => by cases hk), (fun k hk => by cases hk), Below.refl _ _⟩⟩
  case round =>
    obtain ⟨k, hk, rfl, rfl, ht⟩ := hrel
    obtain ⟨pa, pl, pc, rfl⟩ := own_slice ht.p
    obtain ⟨da, dl, dc, rfl⟩ := own_slice ht.d
    have hbs := ht.b.size
    by_cases hlt : k < L.length
    · obtain ⟨g, cap, hv⟩ := own_form (unhide H2) (by omega)
      simp only [Value.slice.injEq] at hv
      obtain ⟨rfl, _, rfl⟩ := hv
      have hcc := own_cap (unhide H2)
      unfold maxLen at hcc
      obtain ⟨hcap, hcap2⟩ := hcc
      obtain ⟨he1, he2⟩ := own_edge (own_below (unhide H2) ht.b) hlt
      have hss : (⟨L[k].1.toArray⟩ : ByteArray).data.toList = L[k].1 := by simp
      have hfl := (filterR_len _ (unhide HGL L[k] (List.getElem_mem hlt)).1).1
      have hsz : (⟨L[k].1.toArray⟩ : ByteArray).size ≤ maxLen := by rw [arr_size]; unfold maxLen; omega
      have HBE := hide (fun w => begins_any (⟨L[k].1.toArray⟩ : ByteArray) 36 w hsz (by omega))
      rw [hss] at HBE
      have HPS := hide (plnC_succ L k hlt)
      have HDS := hide (dolC_succ L k hlt)
      have hpl := plnC_len L k
      have hdl := dolC_len L k
      have HES : Hid (strV L[k].1 = .string ⟨L[k].1.toArray⟩) := rfl
      have HT := hide (ht.alloc (.cells #[.string ⟨L[k].1.toArray⟩, .int .i64 L[k].2] 63))
      clear hss hsz hfl ht
      generalize (⟨L[k].1.toArray⟩ : ByteArray) = es at *
      generalize hwho : L[k].2 = eto at *
      have HWHO := hide hwho
      clear hwho
      cases hd : (headI L[k].1 == 36)
      · rw [hd] at HPS HDS HBE
        simp only [Bool.false_eq_true, if_false] at HPS HDS
        go_wp2_with fail
        refine (unhide HBE _).mono ?_
        rintro e w1 ⟨rfl, rfl⟩
        go_wp2_with (at_builtin; refine wpList_append_moves _ rfl _ _ 61 rfl 66 i0 (.agg #[.string ByteArray.empty, .int .i64 0, .int .i64 0]) 3 32 Tryd.underlying61 hi hz0 hz1 hz2 rfl (by decide) _ _ _ rfl ((unhide HT).p.alloc _) ⟨wr.heap.size + 1, 0, none⟩ 1 1 [.string es, .int .i64 0, .int .i64 eto] rfl rfl ?c1 ?c2 ?c3 ?c4 ?_)
        first
          | (case c1 =>
              intro j u hj
              match j, hj with
              | 0, hj => simp at hj; subst hj; simp [Addr.add]
              | 1, hj => simp at hj; subst hj; simp [Addr.add]
              | 2, hj => simp at hj; subst hj; simp [Addr.add])
          | skip
        case c2 => intro u hu; simp at hu; rcases hu with rfl | rfl | rfl <;> rfl
        case c3 => unfold maxLen; omega
        case c4 => omega
        intro v' w2 hown' hgrow hmv
        have HT2 := hide ((unhide HT).growP (c := (L[k].1, 0, eto)) (by rw [unhide HES]; exact hown') hgrow (fun k hk => by simpa using hmv k hk))
        clear hown' hgrow hmv
        go_wp2_with fail
        go_roundg (L.length - (k + 1))
        case measure => omega
        case rel => exact ⟨k + 1, by omega, rfl, by go_num, by rw [unhide HPS, unhide HDS]; exact unhide HT2⟩
      · rw [hd] at HPS HDS HBE
        simp only [if_true] at HPS HDS
        go_wp2_with fail
        refine (unhide HBE _).mono ?_
        rintro e w1 ⟨rfl, rfl⟩
        go_wp2_with (at_builtin; refine wpList_append_moves _ rfl _ _ 61 rfl 66 i0 (.agg #[.string ByteArray.empty, .int .i64 0, .int .i64 0]) 3 32 Tryd.underlying61 hi hz0 hz1 hz2 rfl (by decide) _ _ _ rfl ((unhide HT).d.alloc _) ⟨wr.heap.size + 1, 0, none⟩ 1 1 [.string es, .int .i64 0, .int .i64 eto] rfl rfl ?d1 ?d2 ?d3 ?d4 ?_)
        first
          | (case d1 =>
              intro j u hj
              match j, hj with
              | 0, hj => simp at hj; subst hj; simp [Addr.add]
              | 1, hj => simp at hj; subst hj; simp [Addr.add]
              | 2, hj => simp at hj; subst hj; simp [Addr.add])
          | skip
        case d2 => intro u hu; simp at hu; rcases hu with rfl | rfl | rfl <;> rfl
        case d3 => unfold maxLen; omega
        case d4 => omega
        intro v' w2 hown' hgrow hmv
        have HT2 := hide ((unhide HT).growD (c := (L[k].1, 0, eto)) (by rw [unhide HES]; exact hown') hgrow (fun k hk => by simpa using hmv k hk))
        clear hown' hgrow hmv
        go_wp2_with fail
        go_roundg (L.length - (k + 1))
        case measure => omega
        case rel => exact ⟨k + 1, by omega, rfl, by go_num, by rw [unhide HPS, unhide HDS]; exact unhide HT2⟩
    · have hall : L.take k = L := List.take_of_length_le (by omega)
      have hpl := plnC_len L k
      have hdl := dolC_len L k
      rw [hall] at ht hpl hdl
      have HT := hide ht
      have hpk : powOK wr := pow_keep (unhide HPW) (fun g hg => ht.b.block g (pow_lt (unhide HPW) hg))
      have HPK := hide hpk
      clear ht hpk hall
      go_wp2_with fail
      refine (unhide HCO _ _ _ (unhide HPK) (unhide HT).p (unhide HT).d okP okD (by omega) (by omega)).mono ?_
      rintro e w1 ⟨rfl, hb1⟩
      have HB1 := hide ((unhide HT).b.trans (hb1.mono hbs))
      clear hb1
      unfold strV
      generalize hcb : (⟨(codeB L).toArray⟩ : ByteArray) = cb at *
      have HCB := hide hcb
      clear hcb
      go_wp2_with fail
      go_ret
      exact ⟨by unfold strV; rw [unhide HCB]; rfl, unhide HB1⟩

end Go.Proofs.YtchhmojnoiephaaDoor
