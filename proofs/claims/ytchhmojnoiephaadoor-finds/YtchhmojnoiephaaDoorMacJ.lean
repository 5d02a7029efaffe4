import Derived.Test.YtchhmojnoiephaaDoorMacI
import Derived.Test.YtchhmojnoiephaaDoorMacG
namespace Go.Proofs.YtchhmojnoiephaaDoor
open Go.ChangeShapes Go.WideShapes Go.ChangeAt Go.RowKit
set_option linter.unusedVariables false

theorem ansT_16 (T : List Thr) : (ansT T).length ≤ 16 := ansTo_len T 16

set_option maxHeartbeats 2000000 in
theorem number_empty (v : Value) (M : Nat) (Q : Nat → Prop) (S : List St) (w : World) (hm : Mac w M Q S) (hr : ThrRow w Q v []) :
    Calls Tryd.prog 63 #[.pointer (some ⟨M, 0, none⟩), v] w (NumPost w M Q (-1, S)) := by
  obtain ⟨av, lv, cv, rfl⟩ := own_slice hr.own
  have hlv : lv = 0 := own_len hr.own
  subst hlv
  have HM := hide hm
  clear hm hr
  go_enter Tryd.func63, Tryd.ntmps63
  go_wp2_with fail
  go_ret
  exact ⟨rfl, Q, unhide HM, Fr.of_below (Below.refl _ _)⟩

set_option maxHeartbeats 2000000 in
theorem number_stay (T : List ThrC) (v : Value) (M : Nat) (Q : Nat → Prop) (S : List St) (w : World) (h0 : T ≠ []) (hst : (T.map absT).all stayB = true) (h2 : 2 ≤ S.length) (h9 : S.length ≤ 900) (hm : Mac w M Q S) (hp : PowQ w Q) (hr : ThrRow w Q v T) :
    Calls Tryd.prog 63 #[.pointer (some ⟨M, 0, none⟩), v] w (NumPost w M Q (loopS (ansT (T.map absT)) S)) := by
  obtain ⟨av, lv, cv, rfl⟩ := own_slice hr.own
  have hlv : lv = T.length := own_len hr.own
  subst hlv
  have hb0 : ((T.length : Int) == 0) = false := by
    have := List.length_pos_iff.2 h0
    rw [beq_eq_false_iff_ne]; omega
  have hfew := hr.few
  have HAN := hide (answerOf_any T (.slice av T.length cv) 0)
  have HST := hide (allStay_any T (.slice av T.length cv) 0)
  rw [hst] at HST
  have HPL := hide (putLoop_any M Q S (ansT (T.map absT)))
  have ha := ansT_16 (T.map absT)
  have HM := hide hm
  have HP := hide hp
  have HR := hide hr
  unfold strV at HAN HPL
  clear hm hp hr hst
  generalize hs : (⟨(ansT (T.map absT)).toArray⟩ : ByteArray) = sa at *
  clear hs
  go_enter Tryd.func63, Tryd.ntmps63
  go_wp2_with fail
  refine (unhide HAN _ (unhide HR).ok (by omega) (unhide HR).own).mono ?_
  rintro e w1 ⟨rfl, hb1⟩
  replace HM := hide ((unhide HM).below hb1)
  replace HP := hide ((unhide HP).below hb1)
  replace HR := hide ((unhide HR).below hb1)
  have HF := hide (Fr.of_below (S := Q) hb1)
  clear hb1
  go_wp2_with fail
  refine (unhide HST _ (unhide HR).ok (by omega) (unhide HR).own).mono ?_
  rintro e w2 ⟨rfl, hb2⟩
  replace HM := hide ((unhide HM).below hb2)
  replace HP := hide ((unhide HP).below hb2)
  replace HF := hide ((unhide HF).trans (Fr.of_below hb2))
  clear hb2
  go_wp2_with fail
  refine (unhide HPL _ (unhide HM) (unhide HP) h2 h9 (by omega)).mono ?_
  rintro e w3 ⟨rfl, Q3, hm3, hf3⟩
  have HM3 := hide hm3
  replace HF := hide ((unhide HF).trans hf3)
  clear hm3 hf3
  go_wp2_with fail
  go_ret
  exact ⟨rfl, Q3, unhide HM3, unhide HF⟩

set_option maxHeartbeats 2000000 in
theorem number_put (T : List ThrC) (v : Value) (M : Nat) (Q : Nat → Prop) (S : List St) (r : List (List UInt8 × Int) × Int × List St) (w : World) (h0 : T ≠ []) (hst : (T.map absT).all stayB = false) (h2 : 2 ≤ r.2.2.length) (h9 : r.2.2.length ≤ 900) (hl : (rEdges r.1).length ≤ 1000)
    (hW : ∀ w, Mac w M Q S → PowQ w Q → ThrRow w Q v T → Calls Tryd.prog 48 #[.pointer (some ⟨M, 0, none⟩), v] w (EdgPost w M Q r)) (hm : Mac w M Q S) (hp : PowQ w Q) (hr : ThrRow w Q v T) :
    Calls Tryd.prog 63 #[.pointer (some ⟨M, 0, none⟩), v] w (NumPost w M Q (putS ⟨ansT (T.map absT), r.1, r.2.1⟩ r.2.2)) := by
  obtain ⟨av, lv, cv, rfl⟩ := own_slice hr.own
  have hlv : lv = T.length := own_len hr.own
  subst hlv
  obtain ⟨E, st, S2⟩ := r
  simp only at h2 h9 hl ⊢
  have hb0 : ((T.length : Int) == 0) = false := by
    have := List.length_pos_iff.2 h0
    rw [beq_eq_false_iff_ne]; omega
  have hfew := hr.few
  have HAN := hide (answerOf_any T (.slice av T.length cv) 0)
  have HST := hide (allStay_any T (.slice av T.length cv) 0)
  rw [hst] at HST
  have HPU := hide (fun Q => put_any M Q S2 ⟨ansT (T.map absT), E, st⟩)
  have ha := ansT_16 (T.map absT)
  have HAP := hide (app_arr (ansT (T.map absT)) (rEdges E ++ rStar st))
  have hsa : (⟨(ansT (T.map absT)).toArray⟩ : ByteArray).size ≤ 16 := sz_arr _ _ ha
  have hse : (⟨(rEdges E ++ rStar st).toArray⟩ : ByteArray).size ≤ 1004 := sz_arr _ _ (by rw [List.length_append]; have := rStar_len st; omega)
  have HW := hide hW
  have HM := hide hm
  have HP := hide hp
  have HR := hide hr
  unfold EdgPost at HW
  unfold strV at HAN HPU HW
  simp only [render] at HPU
  clear hm hp hr hst hW
  generalize hs : (⟨(ansT (T.map absT)).toArray⟩ : ByteArray) = sa at *
  generalize hs2 : (⟨(rEdges E ++ rStar st).toArray⟩ : ByteArray) = se at *
  clear hs hs2
  go_enter Tryd.func63, Tryd.ntmps63
  go_wp2_with fail
  refine (unhide HAN _ (unhide HR).ok (by omega) (unhide HR).own).mono ?_
  rintro e w1 ⟨rfl, hb1⟩
  replace HM := hide ((unhide HM).below hb1)
  replace HP := hide ((unhide HP).below hb1)
  replace HR := hide ((unhide HR).below hb1)
  have HF := hide (Fr.of_below (S := Q) hb1)
  clear hb1
  go_wp2_with fail
  refine (unhide HST _ (unhide HR).ok (by omega) (unhide HR).own).mono ?_
  rintro e w2 ⟨rfl, hb2⟩
  replace HM := hide ((unhide HM).below hb2)
  replace HP := hide ((unhide HP).below hb2)
  replace HR := hide ((unhide HR).below hb2)
  replace HF := hide ((unhide HF).trans (Fr.of_below hb2))
  clear hb2
  go_wp2_with fail
  refine (unhide HW _ (unhide HM) (unhide HP) (unhide HR)).mono ?_
  rintro e w3 ⟨rfl, Q3, hm3, hf3⟩
  have HM3 := hide hm3
  replace HF := hide ((unhide HF).trans hf3)
  clear hm3 hf3
  go_wp2_with fail
  rw [unhide HAP]
  refine (unhide HPU Q3 _ (unhide HM3) h2 (by omega)).mono ?_
  rintro e w4 ⟨rfl, Q4, hm4, hf4⟩
  have HM4 := hide hm4
  replace HF := hide ((unhide HF).trans hf4)
  clear hm4 hf4
  go_wp2_with fail
  go_ret
  exact ⟨rfl, Q4, unhide HM4, unhide HF⟩

theorem number_all {C : List Thr → Prop} (hcount : ∀ S, Inv C S → S.length ≤ 900) (hC : ∀ T m, C T → metL m → C (meetL m T)) (n : Nat) : NumC C n (numS (n + 1)) := by
  induction n with
  | zero =>
    intro T v M Q S w hc hT hd hS hm hp hr
    simp only [numS]
    by_cases h0 : T = []
    · subst h0
      rw [if_pos (by rfl)]
      exact number_empty v M Q S w hm hr
    · rw [if_neg (by simpa using h0)]
      have hst : (T.map absT).all stayB = true := by
        rw [List.all_eq_true]
        intro t ht
        have := hd t ht
        unfold depT at this
        split at this
        · rename_i h
          obtain ⟨r, q⟩ := t
          simp only at h; subst h; rfl
        · omega
      rw [if_pos hst]
      exact number_stay T v M Q S w h0 hst hS.good.two (hcount S hS) hm hp hr
  | succ n ih =>
    intro T v M Q S w hc hT hd hS hm hp hr
    rw [numS]
    by_cases h0 : T = []
    · subst h0
      rw [if_pos (by rfl)]
      exact number_empty v M Q S w hm hr
    · rw [if_neg (by simpa using h0)]
      cases hst : (T.map absT).all stayB
      · rw [if_neg (by simp)]
        have hnum := num_spec hcount hC n
        have hE := edgS_spec hnum (T.map absT) hT hd (fun m hm => hC _ m hc hm) S hS
        have h9 := hcount _ hE.inv
        refine number_put T v M Q S (edgS (numS (n + 1)) (T.map absT) S) w h0 hst hE.inv.good.two h9 ?_ (fun w hm hp hr => writeEdges_any hcount hnum ih T v M Q S w hT hd (fun m hm => hC _ m hc hm) hS hm hp hr) hm hp hr
        have h1 := rEdges_len _ (fun e he => (hE.each e he).2.1)
        have h2 := hE.few
        have h3 := hr.few
        rw [List.length_map] at h2
        omega
      · rw [if_pos rfl]
        exact number_stay T v M Q S w h0 hst hS.good.two (hcount S hS) hm hp hr

end Go.Proofs.YtchhmojnoiephaaDoor
