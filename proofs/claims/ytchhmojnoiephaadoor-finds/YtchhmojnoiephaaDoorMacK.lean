import Derived.Test.YtchhmojnoiephaaDoorMacJ
import Derived.Test.YtchhmojnoiephaaDoorHubU
namespace Go.Proofs.YtchhmojnoiephaaDoor
open Go.ChangeShapes Go.WideShapes Go.ChangeAt Go.RowKit
set_option linter.unusedVariables false

def tailB (S : List St) : List UInt8 := S.flatMap fun x => 59 :: render x
theorem join_tail : ∀ (a : List UInt8) (S : List St), joinP (a :: S.map render) = a ++ tailB S
  | a, [] => by simp [joinP, tailB]
  | a, x :: S => by
    have := join_tail (render x) S
    rw [List.map_cons, joinP, this]
    simp [tailB]
/-- the code so far -/
def codeTo (x0 x1 : List UInt8) (S : List St) (k : Nat) : List UInt8 := x0 ++ 59 :: x1 ++ tailB ((S.take k).drop 2)
theorem codeTo_two (x0 x1 : List UInt8) (S : List St) : codeTo x0 x1 S 2 = x0 ++ 59 :: x1 := by
  unfold codeTo
  rw [List.drop_eq_nil_of_le (by simp; omega)]; simp [tailB]
theorem codeTo_succ (x0 x1 : List UInt8) (S : List St) (k : Nat) (h2 : 2 ≤ k) (h : k < S.length) : codeTo x0 x1 S (k + 1) = codeTo x0 x1 S k ++ 59 :: render S[k] := by
  unfold codeTo
  rw [List.take_succ_eq_append_getElem h, List.drop_append_of_le_length (by simp; omega)]
  simp [tailB]
theorem codeTo_all (x0 x1 : List UInt8) (S : List St) (h2 : 2 ≤ S.length) : codeTo x0 x1 S S.length = joinP (x0 :: x1 :: (S.drop 2).map render) := by
  unfold codeTo
  rw [List.take_length, joinP, join_tail]; simp
theorem tail_len (S : List St) (k : Nat) : (tailB ((S.take k).drop 2)).length ≤ (tailB (S.drop 2)).length := by
  have e : S.drop 2 = (S.take k).drop 2 ++ ((S.drop 2).drop (k - 2)) := by
    rw [List.drop_take]; exact (List.take_append_drop _ _).symm
  rw [e]
  have : ∀ A B : List St, tailB (A ++ B) = tailB A ++ tailB B := fun A B => by simp [tailB]
  rw [this, List.length_append]
  have e2 : (S.take k).drop 2 = ((S.take k).drop 2 ++ ((S.drop 2).drop (k - 2))).take ((S.take k).drop 2).length := by simp
  omega
theorem codeTo_len (x0 x1 : List UInt8) (S : List St) (k : Nat) (h2 : 2 ≤ S.length) : (codeTo x0 x1 S k).length ≤ (joinP (x0 :: x1 :: (S.drop 2).map render)).length := by
  rw [← codeTo_all x0 x1 S h2]
  unfold codeTo
  rw [List.take_length]
  have := tail_len S k
  simp only [List.length_append] at this ⊢
  omega

theorem codeSt_join (L : List PairL) : codeB L = joinP ((rEdges (edg0 L).1 ++ rStar (edg0 L).2.1) :: (rEdges (edg1 L).1 ++ rStar (edg1 L).2.1) :: ((edg1 L).2.2.drop 2).map render) := by
  unfold codeB codeSt
  simp [render]

theorem semi_text (a b : List UInt8) : (⟨a.toArray⟩ : ByteArray) ++ (⟨#[59]⟩ : ByteArray) ++ (⟨b.toArray⟩ : ByteArray) = ⟨(a ++ 59 :: b).toArray⟩ := by
  have e1 : (⟨#[59]⟩ : ByteArray) = ⟨[59].toArray⟩ := rfl
  rw [e1, app_arr, app_arr]
  simp

theorem made_two : (madeCells (Value.string ByteArray.empty).cells (2 * 1)).toList = ((st0.map render).map strV) := by
  have e : (ByteArray.empty) = (⟨#[]⟩ : ByteArray) := rfl
  simp [madeCells, st0, deadS, render, rEdges, rStar, strV, Value.cells, e]
  try rfl

set_option maxHeartbeats 8000000 in
set_option maxRecDepth 1000000 in
theorem codeOf_any (L : List PairL) (hL : goodL L) (TP TD : List ThrC) (hTP : TP.map absT = plainT L) (hTD : TD.map absT = dollT L) (pv dv : Value) (w : World) (hpw : powOK w)
    (hp : w.ownsRow 0 66 3 pv TP.length (thrCells TP)) (hd : w.ownsRow 0 66 3 dv TD.length (thrCells TD)) (okP : ∀ c ∈ TP, okC c) (okD : ∀ c ∈ TD, okC c) (fP : TP.length ≤ 6) (fD : TD.length ≤ 6) :
    Calls Tryd.prog 28 #[pv, dv] w fun e w' => e = .returned (strV (codeB L)) ∧ Below w.heap.size w w' := by
  obtain ⟨i0, hi, hz0, hz1, hz2⟩ := info_parts info_string
  obtain ⟨gP, gD, hl6⟩ := thr_gT L hL
  have hcount := inv_count (plainT L) (dollT L) (fun t ht => (gP t ht).2) (fun t ht => (gD t ht).2) hl6
  have hCm := fun T m hc hm => cof_meet (plainT L) (dollT L) T m hc hm
  have hnum := num_spec hcount hCm 5
  have hN := number_all hcount hCm 5
  obtain ⟨k0, k1⟩ := edg_ok L hL
  have HW0 := hide (fun M Q w => writeEdges_any hcount hnum hN TP pv M Q st0 w (by rw [hTP]; exact fun t ht => (gP t ht).1) (by rw [hTP]; exact dep_le gP) (by rw [hTP]; exact fun m hm => (cof_first _ _ m hm).1) (inv0 _))
  have HW1 := hide (fun M Q w => writeEdges_any hcount hnum hN TD dv M Q (edg0 L).2.2 w (by rw [hTD]; exact fun t ht => (gD t ht).1) (by rw [hTD]; exact dep_le gD) (by rw [hTD]; exact fun m hm => (cof_first _ _ m hm).2) k0.inv)
  rw [hTP] at HW0
  rw [hTD] at HW1
  have e0 : edgS (numS (5 + 1)) (plainT L) st0 = edg0 L := rfl
  have e1 : edgS (numS (5 + 1)) (dollT L) (edg0 L).2.2 = edg1 L := rfl
  rw [e0] at HW0
  rw [e1] at HW1
  have hlen := (codeB_ok L hL).2.1
  have hjo := codeSt_join L
  have hs2 := k1.inv.good.two
  have hs9 := hcount _ k1.inv
  have f0 := first_len k0
  have f1 := first_len k1
  unfold EdgPost at HW0 HW1
  clear hcount hCm hnum hN k0 k1 e0 e1 gP gD
  generalize edg0 L = r0 at *
  generalize edg1 L = r1 at *
  obtain ⟨E0, s0, S1⟩ := r0
  obtain ⟨E1, s1, S2⟩ := r1
  simp only at HW0 HW1 hjo hs2 hs9 f0 f1
  simp only [render, List.nil_append] at f0 f1
  have HL : Hid (∀ k, (codeTo (rEdges E0 ++ rStar s0) (rEdges E1 ++ rStar s1) S2 k).length ≤ 40000) := fun k => Nat.le_trans (codeTo_len _ _ S2 k hs2) (by rw [← hjo]; exact hlen)
  have HALL : Hid (codeTo (rEdges E0 ++ rStar s0) (rEdges E1 ++ rStar s1) S2 S2.length = codeB L) := (codeTo_all _ _ S2 hs2).trans hjo.symm
  have HTWO := hide (codeTo_two (rEdges E0 ++ rStar s0) (rEdges E1 ++ rStar s1) S2)
  have HSUC := hide (codeTo_succ (rEdges E0 ++ rStar s0) (rEdges E1 ++ rStar s1) S2)
  have hsz0 : (⟨(rEdges E0 ++ rStar s0).toArray⟩ : ByteArray).size ≤ 1000 := sz_arr _ _ (by have := thr_gT L hL; omega)
  have hsz1 : (⟨(rEdges E1 ++ rStar s1).toArray⟩ : ByteArray).size ≤ 1000 := sz_arr _ _ (by have := thr_gT L hL; omega)
  have HSM := hide (semi_text (rEdges E0 ++ rStar s0) (rEdges E1 ++ rStar s1))
  have HPR := hide hp
  have HDR := hide hd
  have HPW := hide hpw
  obtain ⟨pa, pl, pc, rfl⟩ := own_slice hp
  obtain ⟨da, dl, dc, rfl⟩ := own_slice hd
  clear hjo hlen f0 f1 hp hd hpw
  go_enter Tryd.func28, Tryd.ntmps28
  go_wp2_with (at_make; refine wpList_make_full _ rfl _ _ 68 rfl w.heap.size 9 i0 (.string ByteArray.empty) 1 Tryd.underlying68 hi hz0 hz1 .i64 .i64 2 2 2 rfl rfl rfl rfl (by rw [hz2]; decide) (by unfold maxLen; decide) (Nat.le_refl _) ?_; intro w1 hown hgrow)
  have hb1 : Below w.heap.size w w1 := (Below.refl _ w).grown hgrow (Nat.le_refl _) (fun k hk => by cases hk)
  have hown1 : w1.ownsRow w.heap.size 9 1 (.slice (some ⟨w.heap.size, 0, none⟩) 2 2) st0.length ((st0.map render).map strV) := by rw [← made_two]; exact hown
  have hlt1 := (hown1.lt w.heap.size rfl).2
  have HM : Hid (Mac (w1.alloc (.cells #[.slice (some ⟨w.heap.size, 0, none⟩) 2 2] 97)) w1.heap.size (fun k => k = w1.heap.size ∨ k = w.heap.size) st0) := by
    refine ⟨⟨_, (MapKept.heap_alloc w1 _).1, own_mono (own_below hown1 ((Below.refl _ w1).alloc (Nat.le_refl _) _)) (Nat.zero_le _), fun k hk => Or.inr (by simpa [Value.ownBlock] using hk.symm)⟩, Or.inl rfl, fun k hk => ?_⟩
    rcases hk with rfl | rfl
    · simp
    · simp; omega
  have hbm : Below w.heap.size w (w1.alloc (.cells #[.slice (some ⟨w.heap.size, 0, none⟩) 2 2] 97)) := hb1.alloc hb1.size _
  have HBM := hide hbm
  have hnoQ : ∀ k, k < w.heap.size → ¬ (k = w1.heap.size ∨ k = w.heap.size) := fun k hk h => by rcases h with h | h <;> omega
  have HPQ : Hid (PowQ (w1.alloc (.cells #[.slice (some ⟨w.heap.size, 0, none⟩) 2 2] 97)) (fun k => k = w1.heap.size ∨ k = w.heap.size)) :=
    ⟨pow_keep (unhide HPW) (fun g hg => hbm.block g (pow_lt (unhide HPW) hg)), fun g hg => hnoQ g (pow_lt (unhide HPW) hg)⟩
  have HRP : Hid (ThrRow (w1.alloc (.cells #[.slice (some ⟨w.heap.size, 0, none⟩) 2 2] 97)) (fun k => k = w1.heap.size ∨ k = w.heap.size) (.slice pa pl pc) TP) := ⟨own_below (unhide HPR) hbm, fun k hk => hnoQ k ((unhide HPR).lt k hk).2, okP, fP⟩
  have HRD : Hid (ThrRow (w1.alloc (.cells #[.slice (some ⟨w.heap.size, 0, none⟩) 2 2] 97)) (fun k => k = w1.heap.size ∨ k = w.heap.size) (.slice da dl dc) TD) := ⟨own_below (unhide HDR) hbm, fun k hk => hnoQ k ((unhide HDR).lt k hk).2, okD, fD⟩
  obtain ⟨Q0, hQd⟩ : ∃ Q0 : Nat → Prop, Q0 = fun k => k = w1.heap.size ∨ k = w.heap.size := ⟨_, rfl⟩
  have hQ0 : ∀ k, Q0 k → w.heap.size ≤ k := fun k hk => by
    rw [hQd] at hk
    rcases hk with h | h
    · omega
    · omega
  rw [← hQd] at HM HPQ HRP HRD
  have HQ0 := hide hQ0
  clear hQd hQ0
  clear hown hgrow hb1 hown1 hbm hnoQ
  go_wp2_with fail
  generalize w1.alloc (.cells #[.slice (some ⟨w.heap.size, 0, none⟩) 2 2] 97) = wm at *
  generalize w1.heap.size = M at *
  refine (unhide HW0 M Q0 _ (unhide HM) (unhide HPQ) (unhide HRP)).mono ?_
  rintro e w2 ⟨rfl, Q2, hm2, hf2⟩
  have HM2 := hide hm2
  have HP2 := hide ((unhide HPQ).fr hf2)
  have HR2 := hide ((unhide HRD).fr hf2)
  have HF2 := hide hf2
  clear hm2 hf2 HM HPQ HRP HRD HW0
  go_wp2_with fail
  refine (unhide HW1 M Q2 _ (unhide HM2) (unhide HP2) (unhide HR2)).mono ?_
  rintro e w3 ⟨rfl, Q3, hm3, hf3⟩
  obtain ⟨g, cap, hmc, hrow, hqg, hcap, hcap2⟩ := mac_cells hm3 hs2
  have hf03 := (unhide HF2).trans hf3
  have HB3 : Hid (Below w.heap.size w w3) := (unhide HBM).trans ⟨hf03.os, hf03.tape, hf03.output, hf03.size, fun k hk => hf03.keep k (Nat.lt_of_lt_of_le hk (unhide HBM).size) (fun hq => by have := unhide HQ0 k hq; omega)⟩
  have c0 := cell_block (i := 0) hmc rfl
  have HROW := hide hrow
  clear hm3 hf3 hf03 hmc hrow HM2 HP2 HR2 HF2 HW1 HBM HQ0
  unfold strV
  generalize (⟨(rEdges E0 ++ rStar s0).toArray⟩ : ByteArray) = t0 at *
  generalize (⟨(rEdges E1 ++ rStar s1).toArray⟩ : ByteArray) = t1 at *
  go_wp2_with fail
  go_loop [8, 9] (fun c i => ∃ k : Nat, 2 ≤ k ∧ k ≤ S2.length ∧ i = .int .i64 k ∧ c = .string ⟨(codeTo (rEdges E0 ++ rStar s0) (rEdges E1 ++ rStar s1) S2 k).toArray⟩) (fun _ i => S2.length - (intOf i).toNat)
  case atStart => exact ⟨2, by omega, hs2, rfl, by rw [unhide HTWO, ← unhide HSM]⟩
  case round =>
    obtain ⟨k, hk2, hk, rfl, rfl⟩ := hrel
    have hcl := unhide HL k
    have hcsz : (⟨(codeTo (rEdges E0 ++ rStar s0) (rEdges E1 ++ rStar s1) S2 k).toArray⟩ : ByteArray).size ≤ 40000 := sz_arr _ _ hcl
    by_cases hlt : k < S2.length
    · have e1 := own_str_at (i := k) (unhide HROW) (by simpa using hlt)
      simp only [List.getElem_map] at e1
      have HS := hide (semi_text (codeTo (rEdges E0 ++ rStar s0) (rEdges E1 ++ rStar s1) S2 k) (render S2[k]))
      have HSK := hide (unhide HSUC k hk2 hlt)
      have hrl : (⟨(render S2[k]).toArray⟩ : ByteArray).size ≤ 40000 := sz_arr _ _ (by
        have h1 := unhide HL (k + 1)
        rw [unhide HSK, List.length_append, List.length_cons] at h1
        omega)
      clear hcl
      generalize (⟨(codeTo (rEdges E0 ++ rStar s0) (rEdges E1 ++ rStar s1) S2 k).toArray⟩ : ByteArray) = ct at *
      generalize (⟨(render S2[k]).toArray⟩ : ByteArray) = es at *
      go_wp2_with fail
      go_round
      case rel => exact ⟨k + 1, by omega, by omega, by go_num, by rw [unhide HSK, ← unhide HS]⟩
      case measure => simp [intOf]; omega
    · have hke : k = S2.length := by omega
      subst hke
      clear hcl
      rw [unhide HALL] at *
      generalize hct : (⟨(codeB L).toArray⟩ : ByteArray) = ct at *
      have HCT := hide hct
      clear hct
      go_wp2_with fail
      go_ret
      exact ⟨by unfold strV; rw [unhide HCT]; rfl, unhide HB3⟩

end Go.Proofs.YtchhmojnoiephaaDoor
