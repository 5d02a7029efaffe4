import Derived.Test.YtchhmojnoiephaaDoorLaidD
import Derived.Test.YtchhmojnoiephaaDoorPureR
import Derived.Test.YtchhmojnoiephaaDoorMacL
import Derived.Test.YtchhmojnoiephaaDoorFedA
import Derived.Test.YtchhmojnoiephaaDoorWalkW
import Derived.Test.YtchhmojnoiephaaDoorHubU
namespace Go.Proofs.YtchhmojnoiephaaDoor
open Go.ChangeShapes Go.WideShapes Go.ChangeAt Go.RowKit
set_option linter.unusedVariables false

theorem fed_good (ops : List OpV) : goodL (fedL ops) := by
  have : ∀ (ops : List OpV) (L : List PairL), goodL L → goodL (ops.foldl feed L) := by
    intro ops
    induction ops with
    | nil => intro L h; exact h
    | cons o ops ih =>
      intro L h
      refine ih _ ?_
      unfold feed
      split
      · exact addR_good L _ _ h
      · split
        · exact dropR_good L _ _ h
        · exact h
  exact this ops [] goodL_nil

set_option maxHeartbeats 4000000 in
set_option maxRecDepth 1000000 in
theorem finds_of (w : World) (hpw : powOK w) (v : Value) (ops : List OpV) (h : OpsAt w v ops) (hl : ops.length * 56 ≤ 140737488351232) (t : ByteArray) (ht : t.size ≤ maxLen) :
    Calls Tryd.prog 4 #[v, .string t] w fun e w' => e = .returned (.bool true) ∧ Below w.heap.size w w' := by
  have hg := fed_good ops
  obtain ⟨h1, h2, h3⟩ := codeB_ok (fedL ops) hg
  have hne := codeB_ne (fedL ops)
  have HRT := hide (code_route (fedL ops) hg t.data.toList)
  have hcd : (⟨(codeB (fedL ops)).toArray⟩ : ByteArray).data.toList = codeB (fedL ops) := by simp
  have hcz : (⟨(codeB (fedL ops)).toArray⟩ : ByteArray).size ≤ 40000 := sz_arr _ _ h2
  have hcp : (0 : Int) < ((⟨(codeB (fedL ops)).toArray⟩ : ByteArray).size : Int) := by
    rw [arr_size]; have := List.length_pos_iff.2 hne; omega
  have HCK := hide (fun w => hubCode_any (⟨(codeB (fedL ops)).toArray⟩ : ByteArray) w (by unfold maxLen; omega))
  rw [hcd, h3] at HCK
  have HWK := hide (fun w => hubWalk_any (⟨(codeB (fedL ops)).toArray⟩ : ByteArray) t w (by unfold maxLen; omega) ht)
  rw [hcd, unhide HRT] at HWK
  have HCA := hide (fun p S w => code_any p S (fedL ops) w)
  unfold strV at HCA
  have HFE := hide (fed_any hubTabI w v ops h hl)
  have HPW := hide hpw
  obtain ⟨ao, cap, rfl, _⟩ := h
  clear h1 h2 h3 hne hcd hpw hg hcz HRT
  generalize (⟨(codeB (fedL ops)).toArray⟩ : ByteArray) = c at *
  go_enter Tryd.func4, Tryd.ntmps4
  go_wp2_with fail
  refine (unhide HFE).mono ?_
  rintro e w1 ⟨p, S, rfl, htab, hb1, hS⟩
  have HT := hide (show HTab w1 p S (fedL ops) from htab)
  have HB := hide hb1
  have HP1 := hide (pow_keep (unhide HPW) (fun g hg => hb1.block g (pow_lt (unhide HPW) hg)))
  clear htab hb1 hS HFE
  go_wp2_with fail
  refine (unhide HCA p S _ (unhide HT) (unhide HP1)).mono ?_
  rintro e w2 ⟨rfl, hb2⟩
  replace HT := hide ((unhide HT).below hb2)
  replace HB := hide ((unhide HB).trans (hb2.mono (unhide HB).size))
  clear hb2
  go_wp2_with fail
  refine (unhide HCK _).mono ?_
  rintro e w3 ⟨rfl, hb3⟩
  replace HT := hide ((unhide HT).below hb3)
  replace HB := hide ((unhide HB).trans (hb3.mono (unhide HB).size))
  clear hb3
  go_wp2_with fail
  refine (unhide HWK _).mono ?_
  rintro e w4 ⟨v4, rfl, hown4, hb4⟩
  replace HT := hide ((unhide HT).below hb4)
  replace HB := hide ((unhide HB).trans (hb4.mono (unhide HB).size))
  have HI4 := hide (IntsAt.of_own hown4)
  clear hb4 hown4
  go_wp2_with fail
  refine (hubRoute_any p S (fedL ops) t _ (unhide HT) ht).mono ?_
  rintro e w5 ⟨v5, rfl, hown5, hb5⟩
  replace HB := hide ((unhide HB).trans (hb5.mono (unhide HB).size))
  replace HI4 := hide ((unhide HI4).below hb5)
  have HI5 := hide (IntsAt.of_own hown5)
  clear hb5 hown5 HT
  generalize routeR (fedL ops) t.data.toList = r at *
  go_wp2_with (first | (go_at_call 15; refine (num_any _ _).mono ?_; rintro e w' ⟨rfl, rfl⟩) | (go_at_call 16; refine (same_any v4 v5 r.1 r.1 _ (unhide HI4) (unhide HI5)).mono ?_; rw [show sameL r.1 r.1 = true from by simp [sameL]]; rintro e w6 ⟨rfl, n, rfl⟩))
  go_ret
  exact ⟨by simp, (unhide HB).trans ⟨rfl, rfl, rfl, Nat.le_refl _, fun _ _ => rfl⟩⟩

theorem finds_walk (w : World) (hL : laidMetH Tryd.prog Rows.findsRow.laid w) (v : Value) (ops : List OpV) (h : OpsAt w v ops) (hl : ops.length * 56 ≤ 140737488351232) (t : ByteArray) (ht : t.size ≤ 140737488351232) :
    Calls Tryd.prog 4 #[v, .string t] w fun e w' => e = .returned (.bool true) ∧ Below w.heap.size w w' :=
  finds_of w (pow_of hL) v ops h hl t (Nat.le_trans ht (by unfold maxLen; omega))

end Go.Proofs.YtchhmojnoiephaaDoor
