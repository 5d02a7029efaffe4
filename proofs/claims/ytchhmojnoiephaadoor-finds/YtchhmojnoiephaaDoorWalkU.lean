import Derived.Test.YtchhmojnoiephaaDoorWalkT
import Derived.Test.YtchhmojnoiephaaDoorFrA
/- The program's own CheckCode and Walk. -/
namespace Go.Proofs.YtchhmojnoiephaaDoor
open Go.ChangeShapes Go.WideShapes Go.ChangeAt Go.RowKit
set_option linter.unusedVariables false

theorem belowE_hit (n : Int) (E : List (List UInt8 × Int)) (k : Nat) (h : k < E.length) (he : n ≤ E[k].2) : belowE n (E.drop k) = false := by
  rw [List.drop_eq_getElem_cons h]; simp only [belowE, List.all_cons]; simp; intro h2; omega
theorem belowE_on (n : Int) (E : List (List UInt8 × Int)) (k : Nat) (h : k < E.length) (he : E[k].2 < n) : belowE n (E.drop k) = belowE n (E.drop (k + 1)) := by
  rw [List.drop_eq_getElem_cons h]; simp only [belowE, List.all_cons]; simp [he]
theorem belowE_end (n : Int) (E : List (List UInt8 × Int)) (k : Nat) (h : ¬ k < E.length) : belowE n (E.drop k) = true := by
  rw [List.drop_eq_nil_of_le (by omega)]; rfl

theorem own_zero {w : World} {B e sz l c : Nat} {a : Option Addr} {xs : List Value} (h : w.ownsRow B e sz (.slice a l c) 0 xs) : l = 0 := own_len h

set_option maxHeartbeats 1000000 in
theorem staysBelow_any (a : ByteArray) (ev : Value) (st n : Int) (E : List (List UInt8 × Int)) (B : Nat) (w : World) (hown : w.ownsRow B 101 2 ev E.length (edgeCells E)) :
    Calls Tryd.prog 31 #[.agg #[.string a, ev, .int .i64 st], .int .i64 n] w fun e w' => e = .returned (.bool (belowE n E && decide (st < n))) ∧ Below w.heap.size w w' := by
  have hbx : Below w.heap.size w (w.alloc (.cells #[.string a, ev, .int .i64 st] 72)) := (Below.refl _ w).alloc (Nat.le_refl _) _
  by_cases hz : E = []
  · subst hz
    obtain ⟨av, lv, cv, rfl⟩ := own_slice hown
    have hlv : lv = 0 := own_zero hown
    subst hlv
    have HBX := hide hbx
    clear hown hbx
    go_enter Tryd.func31, Tryd.ntmps31
    go_wp2_with fail
    go_loop [6, 10] (fun _ i => i = .int .i64 0) (fun _ i => 0)
    case atStart => rfl
    case round =>
      subst hrel
      go_wp2_with fail
      go_ret
      exact ⟨ret_bool (by simp [belowE]), unhide HBX⟩
  · have hpos : 0 < E.length := List.length_pos_iff.2 hz
    obtain ⟨g, cap, rfl⟩ := own_form hown hpos
    have hcc := own_cap hown
    unfold maxLen at hcc
    obtain ⟨hcap, hcap2⟩ := hcc
    have hgs := own_block hown
    have HO := hide hown
    have HBX := hide hbx
    clear hown hz hbx
    go_enter Tryd.func31, Tryd.ntmps31
    go_wp2_with fail
    go_loopg [6, 10] E.length (fun gk _ i wr => ∃ k : Nat, k ≤ E.length ∧ gk = E.length - k ∧ i = .int .i64 k ∧ Below (w.heap.size + 1) (w.alloc (.cells #[.string a, .slice (some ⟨g, 0, none⟩) E.length cap, .int .i64 st] 72)) wr ∧ Hid (belowE n E = belowE n (E.drop k)))
    case atStart => exact ⟨0, by omega, by omega, rfl, Below.refl _ _, hide rfl⟩
    case round =>
      obtain ⟨k, hk, rfl, rfl, hb, HF⟩ := hrel
      have hbs := hb.size
      simp at hbs
      have c0 : wr.cell? ⟨w.heap.size, 2, none⟩ = some (.int .i64 st) := (hb.cell (p := ⟨w.heap.size, 2, none⟩) (by simp)).trans (by simp)
      have hfull : Below w.heap.size w wr := (unhide HBX).trans (hb.mono (by omega))
      have HFU := hide hfull
      by_cases hlt : k < E.length
      · obtain ⟨he1, he2⟩ := own_edge (own_below (unhide HO) hfull) hlt
        have HB := hide hb
        clear hb hfull
        by_cases hq : E[k].2 < n
        · have HZ := hide ((unhide HF).trans (belowE_on n E k hlt hq))
          generalize (⟨E[k].1.toArray⟩ : ByteArray) = es at *
          generalize E[k].2 = eto at *
          have hd : ¬ n ≤ eto := by omega
          go_wp2_with fail
          go_roundg (E.length - (k + 1))
          case measure => omega
          case rel => exact ⟨k + 1, by omega, rfl, by go_num, (unhide HB).alloc (by omega) _, HZ⟩
        · have HZ := hide ((unhide HF).trans (belowE_hit n E k hlt (by omega)))
          generalize (⟨E[k].1.toArray⟩ : ByteArray) = es at *
          generalize E[k].2 = eto at *
          have hd : n ≤ eto := by omega
          clear hq
          go_wp2_with fail
          go_ret
          exact ⟨ret_bool (by rw [unhide HZ]; rfl), (unhide HFU).alloc (by omega) _⟩
      · have HZ := hide ((unhide HF).trans (belowE_end n E k hlt))
        clear hb hfull
        go_wp2_with fail
        go_ret
        exact ⟨ret_bool (by rw [unhide HZ]; simp), unhide HFU⟩

set_option maxHeartbeats 1000000 in
theorem hubFollow_any (a : ByteArray) (ev : Value) (st : Int) (lev : ByteArray) (E : List (List UInt8 × Int)) (B : Nat) (w : World) (hown : w.ownsRow B 101 2 ev E.length (edgeCells E)) :
    Calls Tryd.prog 34 #[.agg #[.string a, ev, .int .i64 st], .string lev] w fun e w' => e = .returned (.int .i64 (followE E st lev.data.toList)) ∧ Below w.heap.size w w' := by
  have hbx : Below w.heap.size w (w.alloc (.cells #[.string a, ev, .int .i64 st] 72)) := (Below.refl _ w).alloc (Nat.le_refl _) _
  by_cases hz : E = []
  · subst hz
    obtain ⟨av, lv, cv, rfl⟩ := own_slice hown
    have hlv : lv = 0 := own_zero hown
    subst hlv
    have HBX := hide hbx
    clear hown hbx
    go_enter Tryd.func34, Tryd.ntmps34
    go_wp2_with fail
    go_loop [6, 10] (fun _ i => i = .int .i64 0) (fun _ i => 0)
    case atStart => rfl
    case round =>
      subst hrel
      go_wp2_with fail
      go_ret
      exact ⟨rfl, unhide HBX⟩
  · have hpos : 0 < E.length := List.length_pos_iff.2 hz
    obtain ⟨g, cap, rfl⟩ := own_form hown hpos
    have hcc := own_cap hown
    unfold maxLen at hcc
    obtain ⟨hcap, hcap2⟩ := hcc
    have hgs := own_block hown
    have HO := hide hown
    have HBX := hide hbx
    clear hown hz hbx
    go_enter Tryd.func34, Tryd.ntmps34
    go_wp2_with fail
    go_loopg [6, 10] E.length (fun gk _ i wr => ∃ k : Nat, k ≤ E.length ∧ gk = E.length - k ∧ i = .int .i64 k ∧ Below (w.heap.size + 1) (w.alloc (.cells #[.string a, .slice (some ⟨g, 0, none⟩) E.length cap, .int .i64 st] 72)) wr ∧ Hid (followE E st lev.data.toList = followE (E.drop k) st lev.data.toList))
    case atStart => exact ⟨0, by omega, by omega, rfl, Below.refl _ _, hide rfl⟩
    case round =>
      obtain ⟨k, hk, rfl, rfl, hb, HF⟩ := hrel
      have hbs := hb.size
      simp at hbs
      have c0 : wr.cell? ⟨w.heap.size, 2, none⟩ = some (.int .i64 st) := (hb.cell (p := ⟨w.heap.size, 2, none⟩) (by simp)).trans (by simp)
      have hfull : Below w.heap.size w wr := (unhide HBX).trans (hb.mono (by omega))
      have HFU := hide hfull
      by_cases hlt : k < E.length
      · obtain ⟨he1, he2⟩ := own_edge (own_below (unhide HO) hfull) hlt
        have HB := hide hb
        clear hb hfull
        by_cases hq : E[k].1 = lev.data.toList
        · have HZ := hide ((unhide HF).trans (followE_hit E st _ k hlt hq))
          have hbb : ((⟨E[k].1.toArray⟩ : ByteArray).toList == lev.toList) = true := by rw [Lib.toList_data, Lib.toList_data, ← hq]; simp
          clear hq
          generalize (⟨E[k].1.toArray⟩ : ByteArray) = es at *
          generalize E[k].2 = eto at *
          go_wp2_with fail
          go_ret
          exact ⟨ret_int (unhide HZ).symm, (unhide HFU).alloc (by omega) _⟩
        · have HZ := hide ((unhide HF).trans (followE_miss E st _ k hlt hq))
          have hbb : ((⟨E[k].1.toArray⟩ : ByteArray).toList == lev.toList) = false := by rw [Lib.toList_data, Lib.toList_data]; simpa using hq
          clear hq
          generalize (⟨E[k].1.toArray⟩ : ByteArray) = es at *
          generalize E[k].2 = eto at *
          go_wp2_with fail
          go_roundg (E.length - (k + 1))
          case measure => omega
          case rel => exact ⟨k + 1, by omega, rfl, by go_num, (unhide HB).alloc (by omega) _, HZ⟩
      · have HZ := hide ((unhide HF).trans (followE_end E st _ k hlt))
        clear hb hfull
        go_wp2_with fail
        go_ret
        exact ⟨ret_int (unhide HZ).symm, unhide HFU⟩

set_option maxHeartbeats 1000000 in
theorem whoOf_any (s : ByteArray) (w : World) (hs : s.size ≤ 1000) :
    Calls Tryd.prog 35 #[.string s] w fun e w' => ∃ v, e = .returned v ∧ w'.ownsRow w.heap.size 3 1 v s.size ((intsOf s.data.toList).map (Value.int .i64)) ∧ Below w.heap.size w w' := by
  obtain ⟨i0, hi, hz0, hz1, hz2⟩ := info_parts info_int
  go_enter Tryd.func35, Tryd.ntmps35
  go_wp2_with fail
  go_loopg [3, 4] s.size (fun gk v i wr => ∃ n : Nat, n ≤ s.size ∧ gk = s.size - n ∧ i = .int .i64 n ∧ wr.ownsRow w.heap.size 3 1 v n ((intsOf (s.data.toList.take n)).map (Value.int .i64)) ∧ Below w.heap.size w wr)
  case atStart => exact ⟨0, by omega, by omega, rfl, World.ownsRow_nil _ _ _ _, Below.refl _ _⟩
  case round =>
    obtain ⟨n, hn, rfl, rfl, hown, hb⟩ := hrel
    have hbs := hb.size
    by_cases hlt : n < s.size
    · have h256 : s[n].toNat < 256 := UInt8.toNat_lt _
      have hws := wrap_small ((s[n].toNat : Int) - 65) (by omega) (by omega)
      go_wp2_with (at_builtin; refine wpList_append_own _ rfl _ _ 37 rfl w.heap.size 3 i0 (.int .i64 0) 1 8 Tryd.underlying37 hi hz0 hz1 hz2 rfl (by decide) _ _ _ rfl (hown.alloc _) ⟨wr.heap.size, 0, none⟩ 1 1 [.int .i64 ((s[n].toNat : Int) - 65)] rfl rfl ?c1 ?c2 ?c3 ?c4 ?c5 ?_)
      case c1 =>
        intro j u hj
        match j, hj with
        | 0, hj => simp at hj; subst hj; simp [Addr.add]
      case c2 => intro u hu; simp at hu; subst hu; rfl
      case c3 => unfold maxLen; omega
      case c4 => omega
      case c5 => simp; omega
      intro v' w4 hown' hgrow _
      have HB4 := hide (below_push' hb hbs hown hgrow)
      have HO4 : Hid (w4.ownsRow w.heap.size 3 1 v' (n + 1) ((intsOf (s.data.toList.take (n + 1))).map (Value.int .i64))) := by
        unfold Hid; rw [intsOf_snoc s n hlt]; exact hown'
      clear hown' hgrow hown hb
      go_wp2_with fail
      go_roundg (s.size - (n + 1))
      case measure => omega
      case rel => exact ⟨n + 1, by omega, rfl, by go_num, unhide HO4, unhide HB4⟩
    · have hne : n = s.size := by omega
      have HOW := hide hown
      have HB := hide hb
      clear hown hb
      go_wp2_with fail
      go_ret
      subst hne
      have h := unhide HOW
      rw [List.take_of_length_le (by rw [len_list]; exact Nat.le_refl _)] at h
      exact ⟨_, rfl, h, unhide HB⟩


set_option maxHeartbeats 4000000 in
set_option maxRecDepth 1000000 in
theorem hubCode_any (s : ByteArray) (w : World) (hs : s.size ≤ maxLen) :
    Calls Tryd.prog 12 #[.string s] w fun e w' => e = .returned (.tuple #[.int .i64 (codeR s.data.toList).1, .int .i64 (codeR s.data.toList).2]) ∧ Below w.heap.size w w' := by
  unfold maxLen at hs
  by_cases h40 : 40000 < (s.size : Int)
  · have HZ := hide (codeR_long s h40)
    go_enter Tryd.func12, Tryd.ntmps12
    go_wp2_with fail
    go_ret2
    exact ⟨ret_ints (unhide HZ), Below.refl _ _⟩
  have hs4 : s.size ≤ 40000 := by omega
  have hpl := pcs_len s.data.toList
  rw [len_list] at hpl
  have hne := pcs_ne s.data.toList
  have HSP := hide (split_any 59 (by omega) s)
  rw [show ((59 : Nat) : Int) = 59 from rfl, ← pcs_split] at HSP
  have HFEW := hide (codeP_few s.data.toList)
  have HELSE := hide (codeP_else s.data.toList)
  have HBAD := hide (fun k => codeR_bad s k (by omega))
  have HGOOD := hide (fun xs => codeR_good s xs (by omega))
  generalize hP : pcs s.data.toList = P at *
  clear hP
  go_enter Tryd.func12, Tryd.ntmps12
  go_wp2_with fail
  refine (unhide HSP _ (by omega)).mono ?_
  rintro e w1 ⟨lv, rfl, hown1, hb1⟩
  have hPl : 0 < P.length := List.length_pos_iff.2 hne
  obtain ⟨g, cap, rfl⟩ := own_form hown1 hPl
  have hcc := own_cap hown1
  unfold maxLen at hcc
  obtain ⟨hcap, hcap2⟩ := hcc
  have hp2 : P.length ≤ 40001 := by have := hpl.2; omega
  have HPL := hide hpl.1
  have HO1 := hide hown1
  have HB1 := hide hb1
  clear hown1 hpl hne HSP hb1
  by_cases h2 : P.length < 2
  · have HZ := hide (unhide HBAD 0 (unhide HFEW h2))
    clear HFEW HELSE HBAD HGOOD
    go_wp2_with fail
    go_ret2
    exact ⟨ret_ints (by rw [unhide HZ]; rfl), unhide HB1⟩
  have HC := hide (unhide HELSE h2)
  clear HFEW HELSE
  go_wp2_with fail
  go_loopg [5, 6, 7] P.length (fun gk i _ _ wr => ∃ (k : Nat) (done : List St), k ≤ P.length ∧ k ≤ 1000 ∧ gk = P.length - k ∧ i = .int .i64 k ∧ Below w1.heap.size w1 wr ∧ Hid (codeP s.data.toList = statesOn done (statesR (P.length : Int) k (P.drop k))))
  case atStart => exact ⟨0, [], by omega, by omega, by omega, rfl, Below.refl _ _, hide (by rw [statesOn_nil]; exact unhide HC)⟩
  case round =>
    obtain ⟨k, done, hk, hk1, rfl, rfl, hb, HE⟩ := hrel
    have hbs := hb.size
    have HB := hide ((unhide HB1).trans (hb.mono (unhide HB1).size))
    by_cases hlt : k < P.length
    · by_cases hth : k < 1000
      · have hcell := own_str_at (own_below (unhide HO1) hb) hlt
        have hsz : (⟨P[k].toArray⟩ : ByteArray).size ≤ 1000000 := by
          have := unhide HPL P[k] (List.getElem_mem hlt)
          rw [Lib.size_eq]; simp; omega
        have HBL := hide hb
        clear hb
        go_wp2_with fail
        refine (readState_any _ _ hsz).mono ?_
        rintro e w2 ⟨a, av, lv, cv, st, ok, rfl, hb2, hcase⟩
        rw [show (⟨P[k].toArray⟩ : ByteArray).data.toList = P[k] from by simp] at hcase
        have hbs2 := hb2.size
        have HB2 := hide (((unhide HBL).trans (hb2.mono hbs)).alloc (by omega) (.cells #[.string a, .slice av lv cv, .int .i64 st] 72))
        clear hb2
        rcases hcase with ⟨rfl, hst⟩ | ⟨rfl, x, hst, ha, hsx, hoe⟩
        · have HZ := hide (unhide HBAD k ((unhide HE).trans (by rw [statesR_bad _ _ _ hlt (by omega) (stateP_none _ (by omega) _ hst)]; rfl)))
          clear hst
          go_wp2_with fail
          go_ret2
          exact ⟨ret_ints (unhide HZ), (unhide HB1).trans ((unhide HB2).mono (unhide HB1).size)⟩
        · have HOE := hide hoe
          have HX := hide (show belowS (P.length : Int) x = (belowE (P.length : Int) x.edges && decide (st < (P.length : Int))) from by unfold belowS; rw [hsx])
          have HOFF := hide (stateP_off (P.length : Int) (by omega) _ x hst)
          have HYES := hide (stateP_yes (P.length : Int) (by omega) _ x hst)
          clear hst ha hsx hoe
          go_wp2_with fail
          refine (staysBelow_any a (.slice av lv cv) st (P.length : Int) x.edges w.heap.size _ (own_below (own_mono (unhide HOE) (Nat.le_trans (unhide HB1).size hbs)) ((Below.refl _ w2).alloc (Nat.le_refl _) _))).mono ?_
          rintro e w3 ⟨rfl, hb3⟩
          have HB3 := hide ((unhide HB2).trans (hb3.mono (by simp; omega)))
          clear hb3
          cases hbs : (belowE (P.length : Int) x.edges && decide (st < (P.length : Int)))
          · rw [hbs] at HX
            have HZ := hide (unhide HBAD k ((unhide HE).trans (by rw [statesR_bad _ _ _ hlt (by omega) (unhide HOFF (unhide HX))]; rfl)))
            go_wp2_with fail
            go_ret2
            exact ⟨ret_ints (unhide HZ), (unhide HB1).trans ((unhide HB3).mono (unhide HB1).size)⟩
          · rw [hbs] at HX
            have HZ := hide ((unhide HE).trans (statesR_on _ _ _ done x hlt (by omega) (unhide HYES (unhide HX))))
            go_wp2_with fail
            go_roundg (P.length - (k + 1))
            case measure => omega
            case rel => exact ⟨k + 1, done ++ [x], by omega, by omega, rfl, by go_num, unhide HB3, HZ⟩
      · have hke : k = 1000 := by omega
        have HZ : Hid (codeR s.data.toList = (8, 1000)) := unhide HBAD 1000 (by
          have h := unhide HE
          rw [hke, statesR_many _ _ (by omega)] at h; exact h)
        have hd1 : 1000 < (P.length : Int) := by omega
        clear hb
        go_wp2_with fail
        go_ret2
        exact ⟨ret_ints (unhide HZ), unhide HB⟩
    · have HZ := hide (unhide HGOOD done (by
        have h := unhide HE
        rw [statesR_end _ _ _ hlt] at h
        simp [statesOn] at h
        exact h))
      have hd1 : ¬ 1000 < (P.length : Int) := by omega
      clear hb
      go_wp2_with fail
      go_ret2
      exact ⟨ret_ints (unhide HZ), unhide HB⟩

end Go.Proofs.YtchhmojnoiephaaDoor
