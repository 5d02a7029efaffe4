import Derived.Test.YtchhmojnoiephaaDoorMacA
import Derived.Test.YtchhmojnoiephaaDoorFrA
/- The program's rows of threads: whether all stay, who has arrived, the answer, those that live on. -/
namespace Go.Proofs.YtchhmojnoiephaaDoor
open Go.ChangeShapes Go.WideShapes Go.ChangeAt Go.RowKit
set_option linter.unusedVariables false

theorem all_hit (T : List ThrC) (k : Nat) (h : k < T.length) (hs : stayB (absT T[k]) = false) : ((T.drop k).map absT).all stayB = false := by
  rw [List.drop_eq_getElem_cons h, List.map_cons, List.all_cons, hs]; rfl
theorem all_on (T : List ThrC) (k : Nat) (h : k < T.length) (hs : stayB (absT T[k]) = true) : ((T.drop k).map absT).all stayB = ((T.drop (k + 1)).map absT).all stayB := by
  rw [List.drop_eq_getElem_cons h, List.map_cons, List.all_cons, hs]; rfl
theorem all_end (T : List ThrC) (k : Nat) (h : ¬ k < T.length) : ((T.drop k).map absT).all stayB = true := by
  rw [List.drop_eq_nil_of_le (by omega)]; rfl

set_option maxHeartbeats 1000000 in
theorem allStay_any (T : List ThrC) (v : Value) (B : Nat) (w : World) (hT : ∀ c ∈ T, okC c) (hl : T.length ≤ 1000) (hown : w.ownsRow B 66 3 v T.length (thrCells T)) :
    Calls Tryd.prog 74 #[v] w fun e w' => e = .returned (.bool ((T.map absT).all stayB)) ∧ Below w.heap.size w w' := by
  obtain ⟨av, lv, cv, rfl⟩ := own_slice hown
  have hlv : lv = T.length := own_len hown
  subst hlv
  have HO := hide hown
  clear hown
  go_enter Tryd.func74, Tryd.ntmps74
  go_wp2_with fail
  go_loopg [4, 7] T.length (fun gk _ i wr => ∃ k : Nat, k ≤ T.length ∧ gk = T.length - k ∧ i = .int .i64 k ∧ Below w.heap.size w wr ∧ Hid ((T.map absT).all stayB = ((T.drop k).map absT).all stayB))
  case atStart => exact ⟨0, by omega, by omega, rfl, Below.refl _ _, hide rfl⟩
  case round =>
    obtain ⟨k, hk, rfl, rfl, hb, HF⟩ := hrel
    have hbs := hb.size
    by_cases hlt : k < T.length
    · obtain ⟨g, cap, hv⟩ := own_form (unhide HO) (by omega)
      simp only [Value.slice.injEq] at hv
      obtain ⟨rfl, _, rfl⟩ := hv
      have hcc := own_cap (unhide HO)
      unfold maxLen at hcc
      obtain ⟨hcap, hcap2⟩ := hcc
      obtain ⟨e1, e2, e3⟩ := own_thr (own_below (unhide HO) hb) hlt
      have HS := hide (stays_any T[k] (hT _ (List.getElem_mem hlt)))
      have HHIT := hide (all_hit T k hlt)
      have HON := hide (all_on T k hlt)
      have HB := hide hb
      unfold strV at HS
      clear hb
      generalize (⟨T[k].1.toArray⟩ : ByteArray) = es at *
      generalize (T[k].2.1 : Int) = est at *
      generalize T[k].2.2 = ewho at *
      cases hs : stayB (absT T[k])
      · rw [hs] at HS
        have HZ := hide ((unhide HF).trans (unhide HHIT hs))
        clear hs HHIT HON
        go_wp2_with fail
        refine (unhide HS _).mono ?_
        rintro e w1 ⟨rfl, hb1⟩
        have HB1 := hide (((unhide HB).alloc hbs (.cells #[.string es, .int .i64 est, .int .i64 ewho] 66)).trans (hb1.mono (by simp; omega)))
        clear hb1
        go_wp2_with fail
        go_ret
        exact ⟨ret_bool (unhide HZ).symm, unhide HB1⟩
      · rw [hs] at HS
        have HZ := hide ((unhide HF).trans (unhide HON hs))
        clear hs HHIT HON
        go_wp2_with fail
        refine (unhide HS _).mono ?_
        rintro e w1 ⟨rfl, hb1⟩
        have HB1 := hide (((unhide HB).alloc hbs (.cells #[.string es, .int .i64 est, .int .i64 ewho] 66)).trans (hb1.mono (by simp; omega)))
        clear hb1
        go_wp2_with fail
        go_roundg (T.length - (k + 1))
        case measure => omega
        case rel => exact ⟨k + 1, by omega, rfl, by go_num, unhide HB1, HZ⟩
    · have HZ := hide ((unhide HF).trans (all_end T k hlt))
      have HB := hide hb
      clear hb
      go_wp2_with fail
      go_ret
      exact ⟨ret_bool (unhide HZ).symm, unhide HB⟩

theorem arr_hit (T : List ThrC) (n k : Nat) (h : k < T.length) (h1 : (T[k].2.2 == (n : Int)) = true) (h2 : arrB (absT T[k]) = true) : hasA ((T.drop k).map absT) n = true := by
  rw [List.drop_eq_getElem_cons h]
  simp only [hasA, List.map_cons, List.any_cons]
  have e : (absT T[k]).2 = T[k].2.2 := rfl
  rw [e, h1, h2]; rfl
theorem arr_on (T : List ThrC) (n k : Nat) (h : k < T.length) (h1 : (T[k].2.2 == (n : Int) && arrB (absT T[k])) = false) : hasA ((T.drop k).map absT) n = hasA ((T.drop (k + 1)).map absT) n := by
  rw [List.drop_eq_getElem_cons h]
  simp only [hasA, List.map_cons, List.any_cons]
  have e : (absT T[k]).2 = T[k].2.2 := rfl
  rw [e, h1]; rfl
theorem arr_end (T : List ThrC) (n k : Nat) (h : ¬ k < T.length) : hasA ((T.drop k).map absT) n = false := by
  rw [List.drop_eq_nil_of_le (by omega)]; rfl

set_option maxHeartbeats 2000000 in
theorem hasArrived_any (T : List ThrC) (n : Nat) (v : Value) (B : Nat) (w : World) (hT : ∀ c ∈ T, okC c) (hl : T.length ≤ 1000) (hown : w.ownsRow B 66 3 v T.length (thrCells T)) :
    Calls Tryd.prog 80 #[v, .int .i64 (n : Int)] w fun e w' => e = .returned (.bool (hasA (T.map absT) n)) ∧ Below w.heap.size w w' := by
  obtain ⟨av, lv, cv, rfl⟩ := own_slice hown
  have hlv : lv = T.length := own_len hown
  subst hlv
  have HO := hide hown
  clear hown
  go_enter Tryd.func80, Tryd.ntmps80
  go_wp2_with fail
  go_loopg [6, 7, 8, 11] T.length (fun gk _ _ _ i wr => ∃ k : Nat, k ≤ T.length ∧ gk = T.length - k ∧ i = .int .i64 k ∧ Below w.heap.size w wr ∧ Hid (hasA (T.map absT) n = hasA ((T.drop k).map absT) n))
  case atStart => exact ⟨0, by omega, by omega, rfl, Below.refl _ _, hide rfl⟩
  case round =>
    obtain ⟨k, hk, rfl, rfl, hb, HF⟩ := hrel
    have hbs := hb.size
    by_cases hlt : k < T.length
    · obtain ⟨g, cap, hv⟩ := own_form (unhide HO) (by omega)
      simp only [Value.slice.injEq] at hv
      obtain ⟨rfl, _, rfl⟩ := hv
      have hcc := own_cap (unhide HO)
      unfold maxLen at hcc
      obtain ⟨hcap, hcap2⟩ := hcc
      obtain ⟨e1, e2, e3⟩ := own_thr (own_below (unhide HO) hb) hlt
      have HS := hide (leftLevel_any T[k] (hT _ (List.getElem_mem hlt)))
      have HHIT := hide (arr_hit T n k hlt)
      have HON := hide (arr_on T n k hlt)
      have hq := eq_str (headR (absT T[k]).1) 35
      rw [arr_form] at HHIT HON
      have HB := hide hb
      unfold strV at HS
      clear hb
      generalize (⟨T[k].1.toArray⟩ : ByteArray) = es at *
      generalize (T[k].2.1 : Int) = est at *
      generalize T[k].2.2 = ewho at *
      generalize (⟨(headR (absT T[k]).1).toArray⟩ : ByteArray) = lev at *
      generalize (headR (absT T[k]).1 == [35]) = b35 at *
      generalize leftB (absT T[k]).1 = lb at *
      have hba : ∀ w1, Below ((wr.alloc (.cells #[.string es, .int .i64 est, .int .i64 ewho] 66)).heap.size) (wr.alloc (.cells #[.string es, .int .i64 est, .int .i64 ewho] 66)) w1 → Below w.heap.size w w1 ∧ w1.cell? ⟨wr.heap.size, 2, none⟩ = some (.int .i64 ewho) :=
        fun w1 hb1 => ⟨((unhide HB).alloc hbs _).trans (hb1.mono (by simp; omega)), (hb1.cell (p := ⟨wr.heap.size, 2, none⟩) (by simp)).trans (by simp)⟩
      have HBA := hide hba
      clear hba
      cases hw : (ewho == (n : Int))
      · rw [hw] at HON
        have HZ := hide ((unhide HF).trans (unhide HON rfl))
        clear HHIT HON
        go_wp2_with fail
        refine (unhide HS _).mono ?_
        rintro e w1 ⟨rfl, hb1⟩
        obtain ⟨hb2, c2⟩ := unhide HBA w1 hb1
        have HB2 := hide hb2
        clear hb1 hb2
        go_wp2_with fail
        go_roundg (T.length - (k + 1))
        case measure => omega
        case rel => exact ⟨k + 1, by omega, rfl, by go_num, unhide HB2, HZ⟩
      · rw [hw] at HON HHIT
        cases lb
        · have HZ := hide ((unhide HF).trans (unhide HHIT rfl rfl))
          clear HHIT HON
          go_wp2_with fail
          refine (unhide HS _).mono ?_
          rintro e w1 ⟨rfl, hb1⟩
          obtain ⟨hb2, c2⟩ := unhide HBA w1 hb1
          have HB2 := hide hb2
          clear hb1 hb2
          go_wp2_with fail
          go_ret
          exact ⟨ret_bool (unhide HZ).symm, unhide HB2⟩
        · cases b35
          · have HZ := hide ((unhide HF).trans (unhide HON rfl))
            clear HHIT HON
            go_wp2_with fail
            refine (unhide HS _).mono ?_
            rintro e w1 ⟨rfl, hb1⟩
            obtain ⟨hb2, c2⟩ := unhide HBA w1 hb1
            have HB2 := hide hb2
            clear hb1 hb2
            go_wp2_with fail
            go_roundg (T.length - (k + 1))
            case measure => omega
            case rel => exact ⟨k + 1, by omega, rfl, by go_num, unhide HB2, HZ⟩
          · have HZ := hide ((unhide HF).trans (unhide HHIT rfl rfl))
            clear HHIT HON
            go_wp2_with fail
            refine (unhide HS _).mono ?_
            rintro e w1 ⟨rfl, hb1⟩
            obtain ⟨hb2, c2⟩ := unhide HBA w1 hb1
            have HB2 := hide hb2
            clear hb1 hb2
            go_wp2_with fail
            go_ret
            exact ⟨ret_bool (unhide HZ).symm, unhide HB2⟩
    · have HZ := hide ((unhide HF).trans (arr_end T n k hlt))
      have HB := hide hb
      clear hb
      go_wp2_with fail
      go_ret
      exact ⟨ret_bool (unhide HZ).symm, unhide HB⟩

theorem ansTo_succ (T : List Thr) (n : Nat) : ansTo T (n + 1) = if hasA T n then ansTo T n ++ [UInt8.ofNat (65 + n)] else ansTo T n := by
  unfold ansTo; rw [List.range_succ, List.filter_append]
  cases hw : hasA T n <;> simp [hw]
theorem ansTo_len (T : List Thr) (n : Nat) : (ansTo T n).length ≤ n := by
  unfold ansTo; rw [List.length_map]; exact Nat.le_trans (List.length_filter_le _ _) (by simp)
theorem letter_cut (n : Nat) (h : n < 16) : (⟨#[65, 66, 67, 68, 69, 70, 71, 72, 73, 74, 75, 76, 77, 78, 79, 80]⟩ : ByteArray).extract n (n + 1) = ⟨[UInt8.ofNat (65 + n)].toArray⟩ := by
  rw [Lib.extract_eq]
  congr 1
  obtain h | h | h | h | h | h | h | h | h | h | h | h | h | h | h | h := (by omega : n = 0 ∨ n = 1 ∨ n = 2 ∨ n = 3 ∨ n = 4 ∨ n = 5 ∨ n = 6 ∨ n = 7 ∨ n = 8 ∨ n = 9 ∨ n = 10 ∨ n = 11 ∨ n = 12 ∨ n = 13 ∨ n = 14 ∨ n = 15)
  all_goals (subst h; rfl)
theorem app_arr (a b : List UInt8) : (⟨a.toArray⟩ : ByteArray) ++ (⟨b.toArray⟩ : ByteArray) = ⟨(a ++ b).toArray⟩ := by
  apply ByteArray.ext
  rw [ByteArray.data_append]; simp


set_option maxHeartbeats 2000000 in
theorem answerOf_any (T : List ThrC) (v : Value) (B : Nat) (w : World) (hT : ∀ c ∈ T, okC c) (hl : T.length ≤ 1000) (hown : w.ownsRow B 66 3 v T.length (thrCells T)) :
    Calls Tryd.prog 73 #[v] w fun e w' => e = .returned (strV (ansT (T.map absT))) ∧ Below w.heap.size w w' := by
  obtain ⟨av, lv, cv, rfl⟩ := own_slice hown
  have HO := hide hown
  clear hown
  go_enter Tryd.func73, Tryd.ntmps73
  go_wp2_with fail
  go_loopg [3, 4] 16 (fun gk a nn wr => ∃ n : Nat, n ≤ 16 ∧ gk = 16 - n ∧ nn = .int .i64 n ∧ a = .string ⟨(ansTo (T.map absT) n).toArray⟩ ∧ Below w.heap.size w wr)
  case atStart => exact ⟨0, by omega, rfl, rfl, rfl, Below.refl _ _⟩
  case round =>
    obtain ⟨n, hn, rfl, rfl, rfl, hb⟩ := hrel
    have hbs := hb.size
    by_cases hn16 : n < 16
    · have hd16 : decide ((n : Int) < 16) = true := by simp; omega
      have HSU := hide (ansTo_succ (T.map absT) n)
      have HLC := hide (letter_cut n hn16)
      have HAP := hide (app_arr (ansTo (T.map absT) n) [UInt8.ofNat (65 + n)])
      have hsz : (⟨(ansTo (T.map absT) n).toArray⟩ : ByteArray).size ≤ 16 := by rw [arr_size]; exact Nat.le_trans (ansTo_len _ _) hn
      have HH := hide (hasArrived_any T n (.slice av lv cv) B wr hT hl (own_below (unhide HO) hb))
      have HB := hide hb
      have hw1 := wrap_small ((n : Int) + 1) (by omega) (by omega)
      clear hb
      generalize ha : (⟨(ansTo (T.map absT) n).toArray⟩ : ByteArray) = a at *
      have HA := hide ha
      clear ha
      cases hh : hasA (T.map absT) n
      · rw [hh] at HSU HH
        go_wp2_with fail
        refine (unhide HH).mono ?_
        rintro e w1 ⟨rfl, hb1⟩
        have HB1 := hide ((unhide HB).trans (hb1.mono hbs))
        clear hb1
        go_wp2_with fail
        go_roundg (16 - (n + 1))
        case measure => omega
        case rel => exact ⟨n + 1, by omega, rfl, by go_num, by rw [unhide HSU, ← unhide HA]; rfl, unhide HB1⟩
      · rw [hh] at HSU HH
        go_wp2_with fail
        refine (unhide HH).mono ?_
        rintro e w1 ⟨rfl, hb1⟩
        have HB1 := hide ((unhide HB).trans (hb1.mono hbs))
        clear hb1
        go_wp2_with fail
        go_roundg (16 - (n + 1))
        case measure => omega
        case rel => exact ⟨n + 1, by omega, rfl, by go_num, by rw [unhide HLC, unhide HAP, unhide HSU]; rfl, unhide HB1⟩
    · have hne : n = 16 := by omega
      have HB := hide hb
      clear hb
      go_wp2_with fail
      go_ret
      subst hne
      exact ⟨rfl, unhide HB⟩

end Go.Proofs.YtchhmojnoiephaaDoor
