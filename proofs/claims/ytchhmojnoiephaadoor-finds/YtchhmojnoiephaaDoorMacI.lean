import Derived.Test.YtchhmojnoiephaaDoorMacH
namespace Go.Proofs.YtchhmojnoiephaaDoor
open Go.ChangeShapes Go.WideShapes Go.ChangeAt Go.RowKit
set_option linter.unusedVariables false

set_option maxHeartbeats 8000000 in
set_option maxRecDepth 1000000 in
theorem writeEdges_any {C : List Thr → Prop} (hcount : ∀ S, Inv C S → S.length ≤ 900) {n : Nat} {num : NumF} (hnum : NumOK C n num) (hN : NumC C n num) (T : List ThrC) (v : Value) (M : Nat) (Q : Nat → Prop) (S : List St) (w : World)
    (hT : ∀ t ∈ T.map absT, gT t) (hd : ∀ t ∈ T.map absT, depT t ≤ n + 1) (hC : ∀ m, metL m → C (meetL m (T.map absT))) (hS : Inv C S) (hm : Mac w M Q S) (hp : PowQ w Q) (hr : ThrRow w Q v T) :
    Calls Tryd.prog 48 #[.pointer (some ⟨M, 0, none⟩), v] w (EdgPost w M Q (edgS num (T.map absT) S)) := by
  have hfew := hr.few
  have h42 : metL [42] := Or.inr rfl
  have hN1 := hN (meetCs [42] T)
  rw [meetCs_abs] at hN1
  have HTO := hide (fun S' hS' st k => edg_to hcount hnum (T.map absT) hT hd hC S' hS' st k)
  obtain ⟨k1, R1, e1, i1, in1, _, _, _⟩ := hnum (meetL [42] (T.map absT)) S (hC _ h42) (meetL_gT hT h42) (meetL_dep (fun t ht => (hT t ht).1) h42 hd) hS
  have h1a : (num (meetL [42] (T.map absT)) S).1 = k1 := by rw [e1]
  have h1b : Inv C (num (meetL [42] (T.map absT)) S).2 := by rw [e1]; exact i1
  have hk1 : k1 = -1 ∨ ∃ q : Nat, k1 = (q : Int) ∧ q < 900 := by
    rcases in1 with h | ⟨h, h'⟩
    · exact Or.inl h
    · have := hcount _ i1
      exact Or.inr ⟨k1.toNat, by omega, by omega⟩
  have HN1 := hide (hN1 · · · · · (hC _ h42) (meetL_gT hT h42) (meetL_dep (fun t ht => (hT t ht).1) h42 hd))
  have HLM := hide (lev_met (T.map absT) hT)
  have HNL : Hid (∀ l, metL l → ∀ (v : Value) (M : Nat) (Q : Nat → Prop) (S : List St) (w : World), Inv C S → Mac w M Q S → PowQ w Q → ThrRow w Q v (meetCs l T) → Calls Tryd.prog 63 #[.pointer (some ⟨M, 0, none⟩), v] w (NumPost w M Q (num (meetL l (T.map absT)) S))) := by
    intro l hl v M Q S w hS hm hp hr
    have := hN (meetCs l T) v M Q S w
    rw [meetCs_abs] at this
    exact this (hC l hl) (meetL_gT hT hl) (meetL_dep (fun t ht => (hT t ht).1) hl hd) hS hm hp hr
  have HES : Hid (edgS num (T.map absT) S = (cutTo (num (meetL [42] (T.map absT)) S).1 (edgF num (T.map absT) (levsT (T.map absT)) (num (meetL [42] (T.map absT)) S).2).1, (num (meetL [42] (T.map absT)) S).1, (edgF num (T.map absT) (levsT (T.map absT)) (num (meetL [42] (T.map absT)) S).2).2)) := rfl
  have HLO := hide (levelsOf_any T v 0)
  have hll := levsT_len (T.map absT)
  rw [List.length_map] at hll
  have HSU := hide (fun S' k h => edg_succ num (T.map absT) S' k h)
  have HS := hide hS
  have HM := hide hm
  have HP := hide hp
  have HR := hide hr
  obtain ⟨av, lv, cv, rfl⟩ := own_slice hr.own
  clear hN1 hnum hN hT hd hC e1 i1 in1 hS hm hp hr
  generalize hr1e : num (meetL [42] (T.map absT)) S = r1 at *
  obtain ⟨st, S1⟩ := r1
  simp only at h1a h1b HES
  subst h1a
  have HRE := hide hr1e
  clear hr1e
  have HS1 := hide h1b
  clear h1b
  generalize levsT (T.map absT) = ls at *
  go_enter Tryd.func48, Tryd.ntmps48
  go_wp2_with fail
  refine (meet_any T [42] _ 0 _ (unhide HR).ok (by omega) (unhide HR).own).mono ?_
  rintro e w1 ⟨v1, rfl, hown1, hb1⟩
  obtain ⟨a1, l1, c1, rfl⟩ := own_slice hown1
  have HR1 := hide (thr_new (unhide HM) hown1 (meetCs_ok [42] T (unhide HR).ok) (Nat.le_trans (meetCs_len [42] T) (unhide HR).few))
  have HF1 := hide (Fr.of_below (S := Q) hb1)
  replace HM := hide ((unhide HM).below hb1)
  replace HP := hide ((unhide HP).below hb1)
  replace HR := hide ((unhide HR).below hb1)
  clear hown1 hb1
  go_wp2_with fail
  refine (unhide HN1 _ M Q S _ (unhide HS) (unhide HM) (unhide HP) (unhide HR1)).mono ?_
  rw [unhide HRE]
  rintro e w2 ⟨rfl, Q2, hm2, hf2⟩
  replace HP := hide ((unhide HP).fr hf2)
  replace HR := hide ((unhide HR).fr hf2)
  replace HF1 := hide ((unhide HF1).trans hf2)
  have HM2 := hide hm2
  clear hm2 hf2 HM HR1 HN1
  simp only at HM2
  clear HRE
  go_wp2_with fail
  refine (unhide HLO _ (unhide HR).ok (by omega) (unhide HR).own).mono ?_
  rintro e w3 ⟨lw, rfl, hown3, hb3⟩
  have HL3 := hide (lev_new (unhide HM2) hown3)
  obtain ⟨a3, l3, c3, rfl⟩ := own_slice hown3
  have hl3 : l3 = ls.length := own_len hown3
  subst hl3
  replace HM2 := hide ((unhide HM2).below hb3)
  replace HP := hide ((unhide HP).below hb3)
  replace HR := hide ((unhide HR).below hb3)
  replace HF1 := hide ((unhide HF1).trans (Fr.of_below hb3))
  clear hown3 hb3 HLO
  go_upto_block 0 with fail
  go_cut [7] (fun t wc => ∃ Qc, t = .string ⟨(rEdges (cutTo st (edgF num (T.map absT) ls S1).1)).toArray⟩ ∧ Mac wc M Qc (edgF num (T.map absT) ls S1).2 ∧ PowQ wc Qc ∧ Fr Q w wc Qc)
  case first =>
    go_wp2_with fail
    go_loopg [5, 7, 9, 10, 19] ls.length (fun gk _ t _ _ i wr => ∃ (k : Nat) (Qk : Nat → Prop), k ≤ ls.length ∧ gk = ls.length - k ∧ i = .int .i64 k ∧ t = .string ⟨(rEdges (cutTo st (edgF num (T.map absT) (ls.take k) S1).1)).toArray⟩ ∧ Mac wr M Qk (edgF num (T.map absT) (ls.take k) S1).2 ∧ PowQ wr Qk ∧ ThrRow wr Qk (.slice av lv cv) T ∧ LevRow wr Qk (.slice a3 ls.length c3) ls ∧ Fr Q w wr Qk)
    case atStart => exact ⟨0, Q2, by omega, by omega, rfl, rfl, unhide HM2, unhide HP, unhide HR, unhide HL3, unhide HF1⟩
    case round =>
      obtain ⟨k, Qk, hk, rfl, rfl, rfl, hmk, hpk, hrk, hlk, hfk⟩ := hrel
      clear HM2 HP HR HL3 HF1
      by_cases hlt : k < ls.length
      · obtain ⟨g, cap, hv⟩ := own_form hlk.own (by omega)
        simp only [Value.slice.injEq] at hv
        obtain ⟨rfl, _, rfl⟩ := hv
        have hcc := own_cap hlk.own
        unfold maxLen at hcc
        obtain ⟨hcap, hcap2⟩ := hcc
        have e1 := own_str_at hlk.own hlt
        have hlm := unhide HLM ls[k] (List.getElem_mem hlt)
        have hin := unhide HTO S1 (unhide HS1) st k
        have hin2 := unhide HTO S1 (unhide HS1) st (k + 1)
        have hsu := unhide HSU S1 k hlt
        have HMC := hide (meet_any T ls[k] (.slice av lv cv) 0 wr hrk.ok (by omega) hrk.own)
        have HOK := hide (meetCs_ok ls[k] T hrk.ok)
        have HLEN := hide (Nat.le_trans (meetCs_len ls[k] T) hrk.few)
        have HNK := hide (unhide HNL ls[k] (Or.inl hlm.1))
        have hlevsz : (⟨ls[k].toArray⟩ : ByteArray).size ≤ 24 := sz_arr _ _ hlm.2.1
        have htsz : (⟨(rEdges (cutTo st (edgF num (T.map absT) (ls.take k) S1).1)).toArray⟩ : ByteArray).size ≤ 29 * k := sz_arr _ _ hin.len
        have HINV := hide hin.inv
        have HTW := hide hin2.tow
        have HET := hide (edge_text (rEdges (cutTo st (edgF num (T.map absT) (ls.take k) S1).1)) ls[k])
        rw [hsu] at HTW
        have HSU2 := hide hsu
        have HMK := hide hmk
        have HPK := hide hpk
        have HRK := hide hrk
        have HLK := hide hlk
        have HFK := hide hfk
        unfold strV at HMC
        clear hmk hpk hrk hlk hfk hin hin2 hsu hlm
        generalize hrk0 : edgF num (T.map absT) (ls.take k) S1 = rk at *
        have HRK0 := hide hrk0
        clear hrk0
        obtain ⟨F, Sk⟩ := rk
        simp only at HINV HTW HET HSU2 HMK htsz
        have HNK2 := hide (fun (v : Value) (Q : Nat → Prop) (w : World) => unhide HNK v M Q Sk w (unhide HINV))
        clear HNK
        generalize num (meetL ls[k] (T.map absT)) Sk = r2 at *
        obtain ⟨tt, S2⟩ := r2
        simp only at HTW HSU2
        have htw := unhide HTW (ls[k], tt) (by simp)
        simp only at htw
        obtain ⟨q, rfl⟩ := Int.eq_ofNat_of_zero_le (by omega : 0 ≤ tt)
        have hq9 : q < 1000 := by omega
        have HCS := hide (cut_snoc st F (ls[k], (q : Int)))
        have HRS := hide (rEdges_snoc (cutTo st F) (ls[k], (q : Int)))
        have HETQ := hide (unhide HET (q : Int))
        have h3sz : (⟨(three (q : Int)).toArray⟩ : ByteArray).size = 3 := by rw [arr_size]; rfl
        have HTD := hide (threeDigits_any q hq9)
        unfold strV at HTD
        clear HTW HET htw HINV
        generalize (⟨ls[k].toArray⟩ : ByteArray) = es at *
        generalize hte : (⟨(rEdges (cutTo st F)).toArray⟩ : ByteArray) = te at *
        have HTE := hide hte
        clear hte
        generalize (⟨(three (q : Int)).toArray⟩ : ByteArray) = td at *
        go_wp2_with fail
        refine (unhide HMC).mono ?_
        rintro e w4 ⟨v4, rfl, hown4, hb4⟩
        have HR4 := hide (thr_new (unhide HMK) hown4 (unhide HOK) (unhide HLEN))
        obtain ⟨a4, l4, c4, rfl⟩ := own_slice hown4
        replace HMK := hide ((unhide HMK).below hb4)
        replace HPK := hide ((unhide HPK).below hb4)
        replace HRK := hide ((unhide HRK).below hb4)
        replace HLK := hide ((unhide HLK).below hb4)
        replace HFK := hide ((unhide HFK).trans (Fr.of_below hb4))
        clear hown4 hb4 HMC e1
        go_wp2_with fail
        refine (unhide HNK2 _ Qk _ (unhide HMK) (unhide HPK) (unhide HR4)).mono ?_
        rintro e w5 ⟨rfl, Q5, hm5, hf5⟩
        simp only at hm5
        have HM5 := hide hm5
        have HP5 := hide ((unhide HPK).fr hf5)
        have HR5 := hide ((unhide HRK).fr hf5)
        have HL5 := hide ((unhide HLK).fr hf5)
        have HF5 := hide ((unhide HFK).trans hf5)
        clear hm5 hf5 HMK HPK HRK HLK HFK HNK2
        by_cases hts : (q : Int) = st
        · have bts : ((q : Int) != st) = false := by simp [hts]
          have HT : Hid (cutTo st (F ++ [(ls[k], (q : Int))]) = cutTo st F) := (unhide HCS).trans (by rw [if_pos hts])
          clear hts
          go_wp2_with fail
          go_roundg (ls.length - (k + 1))
          case measure => omega
          case rel => exact ⟨k + 1, Q5, by omega, rfl, by go_num, by rw [unhide HSU2]; simp only; rw [unhide HT, unhide HTE], by rw [unhide HSU2]; exact unhide HM5, unhide HP5, unhide HR5, unhide HL5, unhide HF5⟩
        · have bts : ((q : Int) != st) = true := by simpa using hts
          have HT : Hid (cutTo st (F ++ [(ls[k], (q : Int))]) = cutTo st F ++ [(ls[k], (q : Int))]) := (unhide HCS).trans (by rw [if_neg hts])
          clear hts
          go_wp2_with fail
          refine (unhide HTD _ (unhide HP5).ok).mono ?_
          rintro e w6 ⟨rfl, hb6⟩
          have HM6 := hide ((unhide HM5).below hb6)
          have HP6 := hide ((unhide HP5).below hb6)
          have HR6 := hide ((unhide HR5).below hb6)
          have HL6 := hide ((unhide HL5).below hb6)
          have HF6 := hide ((unhide HF5).trans (Fr.of_below hb6))
          clear hb6 HM5 HP5 HR5 HL5 HF5
          go_wp2_with fail
          go_roundg (ls.length - (k + 1))
          case measure => omega
          case rel => exact ⟨k + 1, Q5, by omega, rfl, by go_num, by rw [unhide HSU2]; simp only; rw [unhide HT, unhide HRS, ← unhide HETQ], by rw [unhide HSU2]; exact unhide HM6, unhide HP6, unhide HR6, unhide HL6, unhide HF6⟩
      · have hke : k = ls.length := by omega
        have hall : ls.take k = ls := List.take_of_length_le (by omega)
        rw [hall] at hmk
        rw [hall]
        have HMK := hide hmk
        have HPK := hide hpk
        have HFK := hide hfk
        clear hmk hpk hrk hlk hfk hall
        go_wp2_with fail
        go_meet
        exact ⟨Qk, rfl, unhide HMK, unhide HPK, unhide HFK⟩
  case rest =>
    obtain ⟨Qc, rfl, hmc, hpc, hfc⟩ := hcut
    have hin := unhide HTO S1 (unhide HS1) st ls.length
    rw [List.take_length] at hin
    have htsz : (⟨(rEdges (cutTo st (edgF num (T.map absT) ls S1).1)).toArray⟩ : ByteArray).size ≤ 29 * ls.length := sz_arr _ _ hin.len
    have HMC := hide hmc
    have HPC := hide hpc
    have HFC := hide hfc
    clear hmc hpc hfc hin HM2 HP HR HL3 HF1
    rcases hk1 with rfl | ⟨q, rfl, hq⟩
    · have HX : Hid ((⟨(rEdges (cutTo (-1) (edgF num (T.map absT) ls S1).1)).toArray⟩ : ByteArray) = ⟨(rEdges (cutTo (-1) (edgF num (T.map absT) ls S1).1) ++ rStar (-1)).toArray⟩) := by
        unfold Hid; simp [rStar]
      generalize (⟨(rEdges (cutTo (-1) (edgF num (T.map absT) ls S1).1)).toArray⟩ : ByteArray) = te at *
      go_wp2_with fail
      go_ret
      unfold EdgPost
      rw [unhide HES]
      exact ⟨by unfold strV; simp only; rw [← unhide HX]; rfl, Qc, unhide HMC, unhide HFC⟩
    · have bq : ((q : Int) != -1) = true := by rw [bne_iff_ne]; omega
      have HX := hide (star_text (rEdges (cutTo (q : Int) (edgF num (T.map absT) ls S1).1)) (q : Int) (by omega))
      have h3sz : (⟨(three (q : Int)).toArray⟩ : ByteArray).size = 3 := by rw [arr_size]; rfl
      have HTD := hide (threeDigits_any q (by omega))
      unfold strV at HTD
      generalize (⟨(rEdges (cutTo (q : Int) (edgF num (T.map absT) ls S1).1)).toArray⟩ : ByteArray) = te at *
      generalize (⟨(three (q : Int)).toArray⟩ : ByteArray) = td at *
      go_wp2_with fail
      refine (unhide HTD _ (unhide HPC).ok).mono ?_
      rintro e w6 ⟨rfl, hb6⟩
      have HM6 := hide ((unhide HMC).below hb6)
      have HF6 := hide ((unhide HFC).trans (Fr.of_below hb6))
      clear hb6 HMC HPC HFC
      go_wp2_with fail
      go_ret
      unfold EdgPost
      rw [unhide HES]
      exact ⟨by unfold strV; simp only; rw [← unhide HX]; rfl, Qc, unhide HM6, unhide HF6⟩

end Go.Proofs.YtchhmojnoiephaaDoor
