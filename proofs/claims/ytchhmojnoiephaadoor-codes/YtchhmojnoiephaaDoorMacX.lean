import Derived.Test.YtchhmojnoiephaaDoorMacI
import Derived.Test.YtchhmojnoiephaaDoorMacG
import Derived.Test.YtchhmojnoiephaaDoorHubU
namespace Go.Proofs.YtchhmojnoiephaaDoor
open Go.ChangeShapes Go.WideShapes Go.ChangeAt Go.RowKit
set_option linter.unusedVariables false

theorem ansT_16 (T : List Thr) : (ansT T).length ≤ 16 := ansTo_len T 16

set_option maxHeartbeats 2000000 in
theorem number_empty (v : Value) (M : Nat) (Q : Nat → Prop) (S : List St) (w : World) (hm : Mac w M Q S) (hr : ThrRow w Q v []) :
    Calls Tryd.prog 63 #[.pointer (some ⟨M, 0, none⟩), v] w (NumPost w M Q (-1, S)) := by
  obtain ⟨av, lv, cv, rfl⟩ := own_slice hr.own
  have hlv : lv = 0 := own_len hr.own
  subst hlv
  have HM := hide hm
  clear hm hr
  go_enter Tryd.func63, Tryd.ntmps63
  go_wp2_with fail
  go_ret
  exact ⟨rfl, Q, unhide HM, Fr.of_below (Below.refl _ _)⟩

set_option maxHeartbeats 2000000 in
theorem number_stay (T : List ThrC) (v : Value) (M : Nat) (Q : Nat → Prop) (S : List St) (w : World) (h0 : T ≠ []) (hst : (T.map absT).all stayB = true) (h2 : 2 ≤ S.length) (h9 : S.length ≤ 900) (hm : Mac w M Q S) (hp : PowQ w Q) (hr : ThrRow w Q v T) :
    Calls Tryd.prog 63 #[.pointer (some ⟨M, 0, none⟩), v] w (NumPost w M Q (loopS (ansT (T.map absT)) S)) := by
  obtain ⟨av, lv, cv, rfl⟩ := own_slice hr.own
  have hlv : lv = T.length := own_len hr.own
  subst hlv
  have hb0 : ((T.length : Int) == 0) = false := by
    have := List.length_pos_iff.2 h0
    rw [beq_eq_false_iff_ne]; omega
  have hfew := hr.few
  have HAN := hide (answerOf_any T (.slice av T.length cv) 0)
  have HST := hide (allStay_any T (.slice av T.length cv) 0)
  rw [hst] at HST
  have HPL := hide (putLoop_any M Q S (ansT (T.map absT)))
  have ha := ansT_16 (T.map absT)
  have HM := hide hm
  have HP := hide hp
  have HR := hide hr
  unfold strV at HAN HPL
  clear hm hp hr hst
  generalize hs : (⟨(ansT (T.map absT)).toArray⟩ : ByteArray) = sa at *
  clear hs
  go_enter Tryd.func63, Tryd.ntmps63
  go_wp2_with fail
  refine (unhide HAN _ (unhide HR).ok (by omega) (unhide HR).own).mono ?_
  rintro e w1 ⟨rfl, hb1⟩
  replace HM := hide ((unhide HM).below hb1)
  replace HP := hide ((unhide HP).below hb1)
  replace HR := hide ((unhide HR).below hb1)
  have HF := hide (Fr.of_below (S := Q) hb1)
  clear hb1
  go_wp2_with fail
  refine (unhide HST _ (unhide HR).ok (by omega) (unhide HR).own).mono ?_
  rintro e w2 ⟨rfl, hb2⟩
  replace HM := hide ((unhide HM).below hb2)
  replace HP := hide ((unhide HP).below hb2)
  replace HF := hide ((unhide HF).trans (Fr.of_below hb2))
  clear hb2
  go_wp2_with fail
  refine (unhide HPL _ (unhide HM) (unhide HP) h2 h9 (by omega)).mono ?_
  rintro e w3 ⟨rfl, Q3, hm3, hf3⟩
  have HM3 := hide hm3
  replace HF := hide ((unhide HF).trans hf3)
  clear hm3 hf3
  go_wp2_with fail
  go_ret
  exact ⟨rfl, Q3, unhide HM3, unhide HF⟩

set_option maxHeartbeats 2000000 in
theorem number_put (T : List ThrC) (v : Value) (M : Nat) (Q : Nat → Prop) (S : List St) (r : List (List UInt8 × Int) × Int × List St) (w : World) (h0 : T ≠ []) (hst : (T.map absT).all stayB = false) (h2 : 2 ≤ r.2.2.length) (h9 : r.2.2.length ≤ 900) (hl : (rEdges r.1).length ≤ 1000)
    (hW : ∀ w, Mac w M Q S → PowQ w Q → ThrRow w Q v T → Calls Tryd.prog 48 #[.pointer (some ⟨M, 0, none⟩), v] w (EdgPost w M Q r)) (hm : Mac w M Q S) (hp : PowQ w Q) (hr : ThrRow w Q v T) :
    Calls Tryd.prog 63 #[.pointer (some ⟨M, 0, none⟩), v] w (NumPost w M Q (putS ⟨ansT (T.map absT), r.1, r.2.1⟩ r.2.2)) := by
  obtain ⟨av, lv, cv, rfl⟩ := own_slice hr.own
  have hlv : lv = T.length := own_len hr.own
  subst hlv
  obtain ⟨E, st, S2⟩ := r
  simp only at h2 h9 hl ⊢
  have hb0 : ((T.length : Int) == 0) = false := by
    have := List.length_pos_iff.2 h0
    rw [beq_eq_false_iff_ne]; omega
  have hfew := hr.few
  have HAN := hide (answerOf_any T (.slice av T.length cv) 0)
  have HST := hide (allStay_any T (.slice av T.length cv) 0)
  rw [hst] at HST
  have HPU := hide (fun Q => put_any M Q S2 ⟨ansT (T.map absT), E, st⟩)
  have ha := ansT_16 (T.map absT)
  have HAP := hide (app_arr (ansT (T.map absT)) (rEdges E ++ rStar st))
  have hsa : (⟨(ansT (T.map absT)).toArray⟩ : ByteArray).size ≤ 16 := sz_arr _ _ ha
  have hse : (⟨(rEdges E ++ rStar st).toArray⟩ : ByteArray).size ≤ 1004 := sz_arr _ _ (by rw [List.length_append]; have := rStar_len st; omega)
  have HW := hide hW
  have HM := hide hm
  have HP := hide hp
  have HR := hide hr
  unfold EdgPost at HW
  unfold strV at HAN HPU HW
  simp only [render] at HPU
  clear hm hp hr hst hW
  generalize hs : (⟨(ansT (T.map absT)).toArray⟩ : ByteArray) = sa at *
  generalize hs2 : (⟨(rEdges E ++ rStar st).toArray⟩ : ByteArray) = se at *
  clear hs hs2
  go_enter Tryd.func63, Tryd.ntmps63
  go_wp2_with fail
  refine (unhide HAN _ (unhide HR).ok (by omega) (unhide HR).own).mono ?_
  rintro e w1 ⟨rfl, hb1⟩
  replace HM := hide ((unhide HM).below hb1)
  replace HP := hide ((unhide HP).below hb1)
  replace HR := hide ((unhide HR).below hb1)
  have HF := hide (Fr.of_below (S := Q) hb1)
  clear hb1
  go_wp2_with fail
  refine (unhide HST _ (unhide HR).ok (by omega) (unhide HR).own).mono ?_
  rintro e w2 ⟨rfl, hb2⟩
  replace HM := hide ((unhide HM).below hb2)
  replace HP := hide ((unhide HP).below hb2)
  replace HR := hide ((unhide HR).below hb2)
  replace HF := hide ((unhide HF).trans (Fr.of_below hb2))
  clear hb2
  go_wp2_with fail
  refine (unhide HW _ (unhide HM) (unhide HP) (unhide HR)).mono ?_
  rintro e w3 ⟨rfl, Q3, hm3, hf3⟩
  have HM3 := hide hm3
  replace HF := hide ((unhide HF).trans hf3)
  clear hm3 hf3
  go_wp2_with fail
  rw [unhide HAP]
  refine (unhide HPU Q3 _ (unhide HM3) h2 (by omega)).mono ?_
  rintro e w4 ⟨rfl, Q4, hm4, hf4⟩
  have HM4 := hide hm4
  replace HF := hide ((unhide HF).trans hf4)
  clear hm4 hf4
  go_wp2_with fail
  go_ret
  exact ⟨rfl, Q4, unhide HM4, unhide HF⟩

theorem number_all {C : List Thr → Prop} (hcount : ∀ S, Inv C S → S.length ≤ 900) (hC : ∀ T m, C T → metL m → C (meetL m T)) (n : Nat) : NumC C n (numS (n + 1)) := by
  induction n with
  | zero =>
    intro T v M Q S w hc hT hd hS hm hp hr
    simp only [numS]
    by_cases h0 : T = []
    · subst h0
      rw [if_pos (by rfl)]
      exact number_empty v M Q S w hm hr
    · rw [if_neg (by simpa using h0)]
      have hst : (T.map absT).all stayB = true := by
        rw [List.all_eq_true]
        intro t ht
        have := hd t ht
        unfold depT at this
        split at this
        · rename_i h
          obtain ⟨r, q⟩ := t
          simp only at h; subst h; rfl
        · omega
      rw [if_pos hst]
      exact number_stay T v M Q S w h0 hst hS.good.two (hcount S hS) hm hp hr
  | succ n ih =>
    intro T v M Q S w hc hT hd hS hm hp hr
    rw [numS]
    by_cases h0 : T = []
    · subst h0
      rw [if_pos (by rfl)]
      exact number_empty v M Q S w hm hr
    · rw [if_neg (by simpa using h0)]
      cases hst : (T.map absT).all stayB
      · rw [if_neg (by simp)]
        have hnum := num_spec hcount hC n
        have hE := edgS_spec hnum (T.map absT) hT hd (fun m hm => hC _ m hc hm) S hS
        have h9 := hcount _ hE.inv
        refine number_put T v M Q S (edgS (numS (n + 1)) (T.map absT) S) w h0 hst hE.inv.good.two h9 ?_ (fun w hm hp hr => writeEdges_any hcount hnum ih T v M Q S w hT hd (fun m hm => hC _ m hc hm) hS hm hp hr) hm hp hr
        have h1 := rEdges_len _ (fun e he => (hE.each e he).2.1)
        have h2 := hE.few
        have h3 := hr.few
        rw [List.length_map] at h2
        omega
      · rw [if_pos rfl]
        exact number_stay T v M Q S w h0 hst hS.good.two (hcount S hS) hm hp hr

end Go.Proofs.YtchhmojnoiephaaDoor

namespace Go.Proofs.YtchhmojnoiephaaDoor
open Go.ChangeShapes Go.WideShapes Go.ChangeAt Go.RowKit
set_option linter.unusedVariables false

def tailB (S : List St) : List UInt8 := S.flatMap fun x => 59 :: render x
theorem join_tail : ∀ (a : List UInt8) (S : List St), joinP (a :: S.map render) = a ++ tailB S
  | a, [] => by simp [joinP, tailB]
  | a, x :: S => by
    have := join_tail (render x) S
    rw [List.map_cons, joinP, this]
    simp [tailB]
/-- the code so far -/
def codeTo (x0 x1 : List UInt8) (S : List St) (k : Nat) : List UInt8 := x0 ++ 59 :: x1 ++ tailB ((S.take k).drop 2)
theorem codeTo_two (x0 x1 : List UInt8) (S : List St) : codeTo x0 x1 S 2 = x0 ++ 59 :: x1 := by
  unfold codeTo
  rw [List.drop_eq_nil_of_le (by simp; omega)]; simp [tailB]
theorem codeTo_succ (x0 x1 : List UInt8) (S : List St) (k : Nat) (h2 : 2 ≤ k) (h : k < S.length) : codeTo x0 x1 S (k + 1) = codeTo x0 x1 S k ++ 59 :: render S[k] := by
  unfold codeTo
  rw [List.take_succ_eq_append_getElem h, List.drop_append_of_le_length (by simp; omega)]
  simp [tailB]
theorem codeTo_all (x0 x1 : List UInt8) (S : List St) (h2 : 2 ≤ S.length) : codeTo x0 x1 S S.length = joinP (x0 :: x1 :: (S.drop 2).map render) := by
  unfold codeTo
  rw [List.take_length, joinP, join_tail]; simp
theorem tail_len (S : List St) (k : Nat) : (tailB ((S.take k).drop 2)).length ≤ (tailB (S.drop 2)).length := by
  have e : S.drop 2 = (S.take k).drop 2 ++ ((S.drop 2).drop (k - 2)) := by
    rw [List.drop_take]; exact (List.take_append_drop _ _).symm
  rw [e]
  have : ∀ A B : List St, tailB (A ++ B) = tailB A ++ tailB B := fun A B => by simp [tailB]
  rw [this, List.length_append]
  have e2 : (S.take k).drop 2 = ((S.take k).drop 2 ++ ((S.drop 2).drop (k - 2))).take ((S.take k).drop 2).length := by simp
  omega
theorem codeTo_len (x0 x1 : List UInt8) (S : List St) (k : Nat) (h2 : 2 ≤ S.length) : (codeTo x0 x1 S k).length ≤ (joinP (x0 :: x1 :: (S.drop 2).map render)).length := by
  rw [← codeTo_all x0 x1 S h2]
  unfold codeTo
  rw [List.take_length]
  have := tail_len S k
  simp only [List.length_append] at this ⊢
  omega

theorem codeSt_join (L : List PairL) : codeB L = joinP ((rEdges (edg0 L).1 ++ rStar (edg0 L).2.1) :: (rEdges (edg1 L).1 ++ rStar (edg1 L).2.1) :: ((edg1 L).2.2.drop 2).map render) := by
  unfold codeB codeSt
  simp [render]

theorem semi_text (a b : List UInt8) : (⟨a.toArray⟩ : ByteArray) ++ (⟨#[59]⟩ : ByteArray) ++ (⟨b.toArray⟩ : ByteArray) = ⟨(a ++ 59 :: b).toArray⟩ := by
  have e1 : (⟨#[59]⟩ : ByteArray) = ⟨[59].toArray⟩ := rfl
  rw [e1, app_arr, app_arr]
  simp

theorem made_two : (madeCells (Value.string ByteArray.empty).cells (2 * 1)).toList = ((st0.map render).map strV) := by
  have e : (ByteArray.empty) = (⟨#[]⟩ : ByteArray) := rfl
  simp [madeCells, st0, deadS, render, rEdges, rStar, strV, Value.cells, e]
  try rfl

set_option maxHeartbeats 8000000 in
set_option maxRecDepth 1000000 in
theorem codeOf_any (L : List PairL) (hL : goodL L) (TP TD : List ThrC) (hTP : TP.map absT = plainT L) (hTD : TD.map absT = dollT L) (pv dv : Value) (w : World) (hpw : powOK w)
    (hp : w.ownsRow 0 66 3 pv TP.length (thrCells TP)) (hd : w.ownsRow 0 66 3 dv TD.length (thrCells TD)) (okP : ∀ c ∈ TP, okC c) (okD : ∀ c ∈ TD, okC c) (fP : TP.length ≤ 6) (fD : TD.length ≤ 6) :
    Calls Tryd.prog 28 #[pv, dv] w fun e w' => e = .returned (strV (codeB L)) ∧ Below w.heap.size w w' := by
  obtain ⟨i0, hi, hz0, hz1, hz2⟩ := info_parts info_string
  obtain ⟨gP, gD, hl6⟩ := thr_gT L hL
  have hcount := inv_count (plainT L) (dollT L) (fun t ht => (gP t ht).2) (fun t ht => (gD t ht).2) hl6
  have hCm := fun T m hc hm => cof_meet (plainT L) (dollT L) T m hc hm
  have hnum := num_spec hcount hCm 5
  have hN := number_all hcount hCm 5
  obtain ⟨k0, k1⟩ := edg_ok L hL
  have HW0 := hide (fun M Q w => writeEdges_any hcount hnum hN TP pv M Q st0 w (by rw [hTP]; exact fun t ht => (gP t ht).1) (by rw [hTP]; exact dep_le gP) (by rw [hTP]; exact fun m hm => (cof_first _ _ m hm).1) (inv0 _))
  have HW1 := hide (fun M Q w => writeEdges_any hcount hnum hN TD dv M Q (edg0 L).2.2 w (by rw [hTD]; exact fun t ht => (gD t ht).1) (by rw [hTD]; exact dep_le gD) (by rw [hTD]; exact fun m hm => (cof_first _ _ m hm).2) k0.inv)
  rw [hTP] at HW0
  rw [hTD] at HW1
  have e0 : edgS (numS (5 + 1)) (plainT L) st0 = edg0 L := rfl
  have e1 : edgS (numS (5 + 1)) (dollT L) (edg0 L).2.2 = edg1 L := rfl
  rw [e0] at HW0
  rw [e1] at HW1
  have hlen := (codeB_ok L hL).2.1
  have hjo := codeSt_join L
  have hs2 := k1.inv.good.two
  have hs9 := hcount _ k1.inv
  have f0 := first_len k0
  have f1 := first_len k1
  unfold EdgPost at HW0 HW1
  clear hcount hCm hnum hN k0 k1 e0 e1 gP gD
  generalize edg0 L = r0 at *
  generalize edg1 L = r1 at *
  obtain ⟨E0, s0, S1⟩ := r0
  obtain ⟨E1, s1, S2⟩ := r1
  simp only at HW0 HW1 hjo hs2 hs9 f0 f1
  simp only [render, List.nil_append] at f0 f1
  have HL : Hid (∀ k, (codeTo (rEdges E0 ++ rStar s0) (rEdges E1 ++ rStar s1) S2 k).length ≤ 40000) := fun k => Nat.le_trans (codeTo_len _ _ S2 k hs2) (by rw [← hjo]; exact hlen)
  have HALL : Hid (codeTo (rEdges E0 ++ rStar s0) (rEdges E1 ++ rStar s1) S2 S2.length = codeB L) := (codeTo_all _ _ S2 hs2).trans hjo.symm
  have HTWO := hide (codeTo_two (rEdges E0 ++ rStar s0) (rEdges E1 ++ rStar s1) S2)
  have HSUC := hide (codeTo_succ (rEdges E0 ++ rStar s0) (rEdges E1 ++ rStar s1) S2)
  have hsz0 : (⟨(rEdges E0 ++ rStar s0).toArray⟩ : ByteArray).size ≤ 1000 := sz_arr _ _ (by have := thr_gT L hL; omega)
  have hsz1 : (⟨(rEdges E1 ++ rStar s1).toArray⟩ : ByteArray).size ≤ 1000 := sz_arr _ _ (by have := thr_gT L hL; omega)
  have HSM := hide (semi_text (rEdges E0 ++ rStar s0) (rEdges E1 ++ rStar s1))
  have HPR := hide hp
  have HDR := hide hd
  have HPW := hide hpw
  obtain ⟨pa, pl, pc, rfl⟩ := own_slice hp
  obtain ⟨da, dl, dc, rfl⟩ := own_slice hd
  clear hjo hlen f0 f1 hp hd hpw
  go_enter Tryd.func28, Tryd.ntmps28
  go_wp2_with (at_make; refine wpList_make_full _ rfl _ _ 68 rfl w.heap.size 9 i0 (.string ByteArray.empty) 1 Tryd.underlying68 hi hz0 hz1 .i64 .i64 2 2 2 rfl rfl rfl rfl (by rw [hz2]; decide) (by unfold maxLen; decide) (Nat.le_refl _) ?_; intro w1 hown hgrow)
  have hb1 : Below w.heap.size w w1 := (Below.refl _ w).grown hgrow (Nat.le_refl _) (fun k hk => by cases hk)
  have hown1 : w1.ownsRow w.heap.size 9 1 (.slice (some ⟨w.heap.size, 0, none⟩) 2 2) st0.length ((st0.map render).map strV) := by rw [← made_two]; exact hown
  have hlt1 := (hown1.lt w.heap.size rfl).2
  have HM : Hid (Mac (w1.alloc (.cells #[.slice (some ⟨w.heap.size, 0, none⟩) 2 2] 97)) w1.heap.size (fun k => k = w1.heap.size ∨ k = w.heap.size) st0) := by
    refine ⟨⟨_, (MapKept.heap_alloc w1 _).1, own_mono (own_below hown1 ((Below.refl _ w1).alloc (Nat.le_refl _) _)) (Nat.zero_le _), fun k hk => Or.inr (by simpa [Value.ownBlock] using hk.symm)⟩, Or.inl rfl, fun k hk => ?_⟩
    rcases hk with rfl | rfl
    · simp
    · simp; omega
  have hbm : Below w.heap.size w (w1.alloc (.cells #[.slice (some ⟨w.heap.size, 0, none⟩) 2 2] 97)) := hb1.alloc hb1.size _
  have HBM := hide hbm
  have hnoQ : ∀ k, k < w.heap.size → ¬ (k = w1.heap.size ∨ k = w.heap.size) := fun k hk h => by rcases h with h | h <;> omega
  have HPQ : Hid (PowQ (w1.alloc (.cells #[.slice (some ⟨w.heap.size, 0, none⟩) 2 2] 97)) (fun k => k = w1.heap.size ∨ k = w.heap.size)) :=
    ⟨pow_keep (unhide HPW) (fun g hg => hbm.block g (pow_lt (unhide HPW) hg)), fun g hg => hnoQ g (pow_lt (unhide HPW) hg)⟩
  have HRP : Hid (ThrRow (w1.alloc (.cells #[.slice (some ⟨w.heap.size, 0, none⟩) 2 2] 97)) (fun k => k = w1.heap.size ∨ k = w.heap.size) (.slice pa pl pc) TP) := ⟨own_below (unhide HPR) hbm, fun k hk => hnoQ k ((unhide HPR).lt k hk).2, okP, fP⟩
  have HRD : Hid (ThrRow (w1.alloc (.cells #[.slice (some ⟨w.heap.size, 0, none⟩) 2 2] 97)) (fun k => k = w1.heap.size ∨ k = w.heap.size) (.slice da dl dc) TD) := ⟨own_below (unhide HDR) hbm, fun k hk => hnoQ k ((unhide HDR).lt k hk).2, okD, fD⟩
  obtain ⟨Q0, hQd⟩ : ∃ Q0 : Nat → Prop, Q0 = fun k => k = w1.heap.size ∨ k = w.heap.size := ⟨_, rfl⟩
  have hQ0 : ∀ k, Q0 k → w.heap.size ≤ k := fun k hk => by
    rw [hQd] at hk
    rcases hk with h | h
    · omega
    · omega
  rw [← hQd] at HM HPQ HRP HRD
  have HQ0 := hide hQ0
  clear hQd hQ0
  clear hown hgrow hb1 hown1 hbm hnoQ
  go_wp2_with fail
  generalize w1.alloc (.cells #[.slice (some ⟨w.heap.size, 0, none⟩) 2 2] 97) = wm at *
  generalize w1.heap.size = M at *
  refine (unhide HW0 M Q0 _ (unhide HM) (unhide HPQ) (unhide HRP)).mono ?_
  rintro e w2 ⟨rfl, Q2, hm2, hf2⟩
  have HM2 := hide hm2
  have HP2 := hide ((unhide HPQ).fr hf2)
  have HR2 := hide ((unhide HRD).fr hf2)
  have HF2 := hide hf2
  clear hm2 hf2 HM HPQ HRP HRD HW0
  go_wp2_with fail
  refine (unhide HW1 M Q2 _ (unhide HM2) (unhide HP2) (unhide HR2)).mono ?_
  rintro e w3 ⟨rfl, Q3, hm3, hf3⟩
  obtain ⟨g, cap, hmc, hrow, hqg, hcap, hcap2⟩ := mac_cells hm3 hs2
  have hf03 := (unhide HF2).trans hf3
  have HB3 : Hid (Below w.heap.size w w3) := (unhide HBM).trans ⟨hf03.os, hf03.tape, hf03.output, hf03.size, fun k hk => hf03.keep k (Nat.lt_of_lt_of_le hk (unhide HBM).size) (fun hq => by have := unhide HQ0 k hq; omega)⟩
  have c0 := cell_block (i := 0) hmc rfl
  have HROW := hide hrow
  clear hm3 hf3 hf03 hmc hrow HM2 HP2 HR2 HF2 HW1 HBM HQ0
  unfold strV
  generalize (⟨(rEdges E0 ++ rStar s0).toArray⟩ : ByteArray) = t0 at *
  generalize (⟨(rEdges E1 ++ rStar s1).toArray⟩ : ByteArray) = t1 at *
  go_wp2_with fail
  go_loop [8, 9] (fun c i => ∃ k : Nat, 2 ≤ k ∧ k ≤ S2.length ∧ i = .int .i64 k ∧ c = .string ⟨(codeTo (rEdges E0 ++ rStar s0) (rEdges E1 ++ rStar s1) S2 k).toArray⟩) (fun _ i => S2.length - (intOf i).toNat)
  case atStart => exact ⟨2, by omega, hs2, rfl, by rw [unhide HTWO, ← unhide HSM]⟩
  case round =>
    obtain ⟨k, hk2, hk, rfl, rfl⟩ := hrel
    have hcl := unhide HL k
    have hcsz : (⟨(codeTo (rEdges E0 ++ rStar s0) (rEdges E1 ++ rStar s1) S2 k).toArray⟩ : ByteArray).size ≤ 40000 := sz_arr _ _ hcl
    by_cases hlt : k < S2.length
    · have e1 := own_str_at (i := k) (unhide HROW) (by simpa using hlt)
      simp only [List.getElem_map] at e1
      have HS := hide (semi_text (codeTo (rEdges E0 ++ rStar s0) (rEdges E1 ++ rStar s1) S2 k) (render S2[k]))
      have HSK := hide (unhide HSUC k hk2 hlt)
      have hrl : (⟨(render S2[k]).toArray⟩ : ByteArray).size ≤ 40000 := sz_arr _ _ (by
        have h1 := unhide HL (k + 1)
        rw [unhide HSK, List.length_append, List.length_cons] at h1
        omega)
      clear hcl
      generalize (⟨(codeTo (rEdges E0 ++ rStar s0) (rEdges E1 ++ rStar s1) S2 k).toArray⟩ : ByteArray) = ct at *
      generalize (⟨(render S2[k]).toArray⟩ : ByteArray) = es at *
      go_wp2_with fail
      go_round
      case rel => exact ⟨k + 1, by omega, by omega, by go_num, by rw [unhide HSK, ← unhide HS]⟩
      case measure => simp [intOf]; omega
    · have hke : k = S2.length := by omega
      subst hke
      clear hcl
      rw [unhide HALL] at *
      generalize hct : (⟨(codeB L).toArray⟩ : ByteArray) = ct at *
      have HCT := hide hct
      clear hct
      go_wp2_with fail
      go_ret
      exact ⟨by unfold strV; rw [unhide HCT]; rfl, unhide HB3⟩

end Go.Proofs.YtchhmojnoiephaaDoor

namespace Go.Proofs.YtchhmojnoiephaaDoor
open Go.ChangeShapes Go.WideShapes Go.ChangeAt Go.RowKit
set_option linter.unusedVariables false

def plnC (L : List PairL) : List ThrC := (L.filter fun e => !(headI e.1 == 36)).map fun e => (e.1, 0, e.2)
def dolC (L : List PairL) : List ThrC := (L.filter fun e => headI e.1 == 36).map fun e => (e.1, 0, e.2)
theorem plnC_abs (L : List PairL) : (plnC L).map absT = plainT L := by
  unfold plnC plainT
  rw [List.map_map]
  apply List.map_congr_left
  intro e _
  simp [absT, levsFrom_zero]
theorem dolC_abs (L : List PairL) : (dolC L).map absT = dollT L := by
  unfold dolC dollT
  rw [List.map_map]
  apply List.map_congr_left
  intro e _
  simp [absT, levsFrom_zero]
theorem plnC_succ (L : List PairL) (k : Nat) (h : k < L.length) : plnC (L.take (k + 1)) = if headI L[k].1 == 36 then plnC (L.take k) else plnC (L.take k) ++ [(L[k].1, 0, L[k].2)] := by
  unfold plnC; rw [List.take_succ_eq_append_getElem h, List.filter_append, List.map_append]
  cases hw : headI L[k].1 == 36 <;> simp [hw]
theorem dolC_succ (L : List PairL) (k : Nat) (h : k < L.length) : dolC (L.take (k + 1)) = if headI L[k].1 == 36 then dolC (L.take k) ++ [(L[k].1, 0, L[k].2)] else dolC (L.take k) := by
  unfold dolC; rw [List.take_succ_eq_append_getElem h, List.filter_append, List.map_append]
  cases hw : headI L[k].1 == 36 <;> simp [hw]
theorem plnC_len (L : List PairL) (k : Nat) : (plnC (L.take k)).length ≤ k := by
  unfold plnC; rw [List.length_map]; exact Nat.le_trans (List.length_filter_le _ _) (by simp; omega)
theorem dolC_len (L : List PairL) (k : Nat) : (dolC (L.take k)).length ≤ k := by
  unfold dolC; rw [List.length_map]; exact Nat.le_trans (List.length_filter_le _ _) (by simp; omega)
theorem okC_of (L : List PairL) (h : goodL L) : (∀ c ∈ plnC L, okC c) ∧ (∀ c ∈ dolC L, okC c) := by
  have each : ∀ e ∈ L, okC (e.1, 0, e.2) := fun e he => ⟨(filterR_len e.1 (h.2.2 e he).1).1, by show 0 ≤ 25; omega⟩
  refine ⟨fun c hc => ?_, fun c hc => ?_⟩
  · obtain ⟨e, he, rfl⟩ := List.mem_map.1 hc
    exact each e (List.mem_filter.1 he).1
  · obtain ⟨e, he, rfl⟩ := List.mem_map.1 hc
    exact each e (List.mem_filter.1 he).1

/-- two rows of threads that grow side by side -/
structure Two (w wr : World) (pv dv : Value) (P D : List ThrC) : Prop where
  p : wr.ownsRow 0 66 3 pv P.length (thrCells P)
  d : wr.ownsRow 0 66 3 dv D.length (thrCells D)
  pn : ∀ k, pv.ownBlock = some k → w.heap.size ≤ k
  dn : ∀ k, dv.ownBlock = some k → w.heap.size ≤ k
  no : ∀ k, pv.ownBlock = some k → dv.ownBlock ≠ some k
  b : Below w.heap.size w wr

theorem Two.growP {w wr w1 : World} {pv dv v' : Value} {P D : List ThrC} {c : ThrC} {o : Obj} (h : Two w wr pv dv P D) (hown : w1.ownsRow 0 66 3 v' (P.length + 1) (thrCells P ++ [strV c.1, .int .i64 (c.2.1 : Int), .int .i64 c.2.2])) (hg : (wr.alloc o).grownBy w1 pv.ownBlock) (hmv : ∀ k, v'.ownBlock = some k → pv.ownBlock = some k ∨ (wr.alloc o).heap.size ≤ k) : Two w w1 v' dv (P ++ [c]) D := by
  have hs := h.b.size
  refine ⟨by rw [thrCells_snoc, List.length_append]; exact hown, ?_, fun k hk => ?_, h.dn, fun k hk hd => ?_, (h.b.alloc hs o).grown hg (by simp; omega) (fun k hk => h.pn k hk)⟩
  · exact own_same (h.d.alloc o) (fun k hk => hg.block k (by have := ((h.d.alloc o).lt k hk).2; exact this) (fun e => h.no k e.symm hk))
  · rcases hmv k hk with h1 | h1
    · exact h.pn k h1
    · simp at h1; omega
  · rcases hmv k hk with h1 | h1
    · exact h.no k h1 hd
    · have := (h.d.lt k hd).2; simp at h1; omega
theorem Two.growD {w wr w1 : World} {pv dv v' : Value} {P D : List ThrC} {c : ThrC} {o : Obj} (h : Two w wr pv dv P D) (hown : w1.ownsRow 0 66 3 v' (D.length + 1) (thrCells D ++ [strV c.1, .int .i64 (c.2.1 : Int), .int .i64 c.2.2])) (hg : (wr.alloc o).grownBy w1 dv.ownBlock) (hmv : ∀ k, v'.ownBlock = some k → dv.ownBlock = some k ∨ (wr.alloc o).heap.size ≤ k) : Two w w1 pv v' P (D ++ [c]) := by
  have hs := h.b.size
  refine ⟨?_, by rw [thrCells_snoc, List.length_append]; exact hown, h.pn, fun k hk => ?_, fun k hk hd => ?_, (h.b.alloc hs o).grown hg (by simp; omega) (fun k hk => h.dn k hk)⟩
  · exact own_same (h.p.alloc o) (fun k hk => hg.block k (by have := ((h.p.alloc o).lt k hk).2; exact this) (fun e => h.no k hk e.symm))
  · rcases hmv k hk with h1 | h1
    · exact h.dn k h1
    · simp at h1; omega
  · rcases hmv k hd with h1 | h1
    · exact h.no k hk h1
    · have := (h.p.lt k hk).2; simp at h1; omega
theorem Two.alloc {w wr : World} {pv dv : Value} {P D : List ThrC} (h : Two w wr pv dv P D) (o : Obj) : Two w (wr.alloc o) pv dv P D := ⟨h.p.alloc o, h.d.alloc o, h.pn, h.dn, h.no, h.b.alloc h.b.size o⟩

set_option maxHeartbeats 8000000 in
set_option maxRecDepth 1000000 in
theorem code_any (p : Nat) (Sb : Nat → Prop) (L : List PairL) (w : World) (h : HTab w p Sb L) (hpw : powOK w) :
    Calls Tryd.prog 11 #[.pointer (some ⟨p, 0, none⟩)] w fun e w' => e = .returned (strV (codeB L)) ∧ Below w.heap.size w w' := by
  obtain ⟨i0, hi, hz0, hz1, hz2⟩ := info_parts info_thr
  obtain ⟨v, h1, h2, h3⟩ := h.body
  have hl := h.good.1
  have hp := heap_lt h1
  obtain ⟨av, lv, cv, rfl⟩ := own_slice h2
  have hlv : lv = L.length := own_len h2
  subst hlv
  have c0 := cell_block (i := 0) h1 rfl
  have HGL := hide h.good.2.2
  obtain ⟨okP, okD⟩ := okC_of L h.good
  have HCO := hide (codeOf_any L h.good (plnC L) (dolC L) (plnC_abs L) (dolC_abs L))
  have H2 := hide h2
  have HPW := hide hpw
  clear h h1 h2 h3 hpw
  go_enter Tryd.func11, Tryd.ntmps11
  go_wp2_with fail
  go_loopg [3, 4, 6, 12] L.length (fun gk pv dv _ i wr => ∃ k : Nat, k ≤ L.length ∧ gk = L.length - k ∧ i = .int .i64 k ∧ Two w wr pv dv (plnC (L.take k)) (dolC (L.take k)))
  case atStart => exact ⟨0, by omega, by omega, rfl, ⟨World.ownsRow_nil _ _ _ _, World.ownsRow_nil _ _ _ _, (fun k hk => by cases hk), (fun k hk => by cases hk), (fun k hk => by cases hk), Below.refl _ _⟩⟩
  case round =>
    obtain ⟨k, hk, rfl, rfl, ht⟩ := hrel
    obtain ⟨pa, pl, pc, rfl⟩ := own_slice ht.p
    obtain ⟨da, dl, dc, rfl⟩ := own_slice ht.d
    have hbs := ht.b.size
    by_cases hlt : k < L.length
    · obtain ⟨g, cap, hv⟩ := own_form (unhide H2) (by omega)
      simp only [Value.slice.injEq] at hv
      obtain ⟨rfl, _, rfl⟩ := hv
      have hcc := own_cap (unhide H2)
      unfold maxLen at hcc
      obtain ⟨hcap, hcap2⟩ := hcc
      obtain ⟨he1, he2⟩ := own_edge (own_below (unhide H2) ht.b) hlt
      have hss : (⟨L[k].1.toArray⟩ : ByteArray).data.toList = L[k].1 := by simp
      have hfl := (filterR_len _ (unhide HGL L[k] (List.getElem_mem hlt)).1).1
      have hsz : (⟨L[k].1.toArray⟩ : ByteArray).size ≤ maxLen := by rw [arr_size]; unfold maxLen; omega
      have HBE := hide (fun w => begins_any (⟨L[k].1.toArray⟩ : ByteArray) 36 w hsz (by omega))
      rw [hss] at HBE
      have HPS := hide (plnC_succ L k hlt)
      have HDS := hide (dolC_succ L k hlt)
      have hpl := plnC_len L k
      have hdl := dolC_len L k
      have HES : Hid (strV L[k].1 = .string ⟨L[k].1.toArray⟩) := rfl
      have HT := hide (ht.alloc (.cells #[.string ⟨L[k].1.toArray⟩, .int .i64 L[k].2] 63))
      clear hss hsz hfl ht
      generalize (⟨L[k].1.toArray⟩ : ByteArray) = es at *
      generalize hwho : L[k].2 = eto at *
      have HWHO := hide hwho
      clear hwho
      cases hd : (headI L[k].1 == 36)
      · rw [hd] at HPS HDS HBE
        simp only [Bool.false_eq_true, if_false] at HPS HDS
        go_wp2_with fail
        refine (unhide HBE _).mono ?_
        rintro e w1 ⟨rfl, rfl⟩
        go_wp2_with (at_builtin; refine wpList_append_moves _ rfl _ _ 61 rfl 66 i0 (.agg #[.string ByteArray.empty, .int .i64 0, .int .i64 0]) 3 32 Tryd.underlying61 hi hz0 hz1 hz2 rfl (by decide) _ _ _ rfl ((unhide HT).p.alloc _) ⟨wr.heap.size + 1, 0, none⟩ 1 1 [.string es, .int .i64 0, .int .i64 eto] rfl rfl ?c1 ?c2 ?c3 ?c4 ?_)
        first
          | (case c1 =>
              intro j u hj
              match j, hj with
              | 0, hj => simp at hj; subst hj; simp [Addr.add]
              | 1, hj => simp at hj; subst hj; simp [Addr.add]
              | 2, hj => simp at hj; subst hj; simp [Addr.add])
          | skip
        case c2 => intro u hu; simp at hu; rcases hu with rfl | rfl | rfl <;> rfl
        case c3 => unfold maxLen; omega
        case c4 => omega
        intro v' w2 hown' hgrow hmv
        have HT2 := hide ((unhide HT).growP (c := (L[k].1, 0, eto)) (by rw [unhide HES]; exact hown') hgrow (fun k hk => by simpa using hmv k hk))
        clear hown' hgrow hmv
        go_wp2_with fail
        go_roundg (L.length - (k + 1))
        case measure => omega
        case rel => exact ⟨k + 1, by omega, rfl, by go_num, by rw [unhide HPS, unhide HDS]; exact unhide HT2⟩
      · rw [hd] at HPS HDS HBE
        simp only [if_true] at HPS HDS
        go_wp2_with fail
        refine (unhide HBE _).mono ?_
        rintro e w1 ⟨rfl, rfl⟩
        go_wp2_with (at_builtin; refine wpList_append_moves _ rfl _ _ 61 rfl 66 i0 (.agg #[.string ByteArray.empty, .int .i64 0, .int .i64 0]) 3 32 Tryd.underlying61 hi hz0 hz1 hz2 rfl (by decide) _ _ _ rfl ((unhide HT).d.alloc _) ⟨wr.heap.size + 1, 0, none⟩ 1 1 [.string es, .int .i64 0, .int .i64 eto] rfl rfl ?d1 ?d2 ?d3 ?d4 ?_)
        first
          | (case d1 =>
              intro j u hj
              match j, hj with
              | 0, hj => simp at hj; subst hj; simp [Addr.add]
              | 1, hj => simp at hj; subst hj; simp [Addr.add]
              | 2, hj => simp at hj; subst hj; simp [Addr.add])
          | skip
        case d2 => intro u hu; simp at hu; rcases hu with rfl | rfl | rfl <;> rfl
        case d3 => unfold maxLen; omega
        case d4 => omega
        intro v' w2 hown' hgrow hmv
        have HT2 := hide ((unhide HT).growD (c := (L[k].1, 0, eto)) (by rw [unhide HES]; exact hown') hgrow (fun k hk => by simpa using hmv k hk))
        clear hown' hgrow hmv
        go_wp2_with fail
        go_roundg (L.length - (k + 1))
        case measure => omega
        case rel => exact ⟨k + 1, by omega, rfl, by go_num, by rw [unhide HPS, unhide HDS]; exact unhide HT2⟩
    · have hall : L.take k = L := List.take_of_length_le (by omega)
      have hpl := plnC_len L k
      have hdl := dolC_len L k
      rw [hall] at ht hpl hdl
      have HT := hide ht
      have hpk : powOK wr := pow_keep (unhide HPW) (fun g hg => ht.b.block g (pow_lt (unhide HPW) hg))
      have HPK := hide hpk
      clear ht hpk hall
      go_wp2_with fail
      refine (unhide HCO _ _ _ (unhide HPK) (unhide HT).p (unhide HT).d okP okD (by omega) (by omega)).mono ?_
      rintro e w1 ⟨rfl, hb1⟩
      have HB1 := hide ((unhide HT).b.trans (hb1.mono hbs))
      clear hb1
      unfold strV
      generalize hcb : (⟨(codeB L).toArray⟩ : ByteArray) = cb at *
      have HCB := hide hcb
      clear hcb
      go_wp2_with fail
      go_ret
      exact ⟨by unfold strV; rw [unhide HCB]; rfl, unhide HB1⟩

end Go.Proofs.YtchhmojnoiephaaDoor
