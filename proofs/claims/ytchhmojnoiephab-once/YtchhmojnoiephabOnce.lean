import Derived.Test.YtchhmojnoiephabOnceP
import Derived.Test.YtchhmojnoiephabWalkRb
namespace Go.Proofs.Ytchhmojnoiephab
open Go.ChangeShapes Go.WideShapes Go.ChangeAt Go.RowKit
set_option linter.unusedVariables false

theorem str_joinO (s t p : ByteArray) (h : s.data.toList = t.data.toList ++ 61 :: p.data.toList) : s = t ++ ⟨#[61]⟩ ++ p := by
  refine ByteArray.ext ?_
  refine Array.ext' ?_
  rw [h]
  simp

set_option maxHeartbeats 8000000 in
set_option maxRecDepth 1000000 in
theorem once_walk (w : World) (v0 : Value) (ops0 : List OpV) (h0 : OpsAt w v0 ops0) (l0 : ops0.length * 56 ≤ 140737488351232) (a1 : ByteArray) (w1 : a1.size ≤ 140737488351232) (a2 : ByteArray) (w2 : a2.size ≤ 140737488351232) :
    Calls Try.prog 3 #[v0, .string a1, .string a2] w fun e w' => e = .returned (.bool true) ∧ Below w.heap.size w w' := by
  have h1m : a1.size ≤ maxLen := by unfold maxLen; omega
  have h2m : a2.size ≤ maxLen := by unfold maxLen; omega
  have HPL := hide (played_any w v0 ops0 h0 l0)
  obtain ⟨ao, cap, rfl, _⟩ := h0
  cases ht : topB a1 with
  | false =>
    have htz : ¬ (topicR a1.data.toList).1 = 0 := by unfold topB at ht; simpa using ht
    have hnb : ((topicR a1.data.toList).1 != 0) = true := by simp [htz]
    have HPB : Hid (∀ H, pubH H a1.data.toList a2.data.toList false = (([], (topicR a1.data.toList).1, (topicR a1.data.toList).2), H)) := fun H => by unfold pubH; rw [if_pos htz]
    clear htz
    generalize topicR a1.data.toList = tr at *
    go_enter Try.func3, Try.ntmps3
    go_wp2_with fail
    refine (unhide HPL).mono ?_
    rintro e w3 ⟨P, H, rfl, hs3, he3⟩
    go_wp2_with fail
    refine (ls_publish hs3 a1 a2 false h1m h2m _ _ _ _ (unhide HPB H)).mono ?_
    rintro e w4 ⟨v, rfl, hs4⟩
    obtain ⟨av, lv, cv, rfl⟩ := own_slice hs4.row
    have hlv : lv = 0 := own_len hs4.row
    subst hlv
    have HE := hide hs4.bel
    clear hs3 he3 hs4
    go_wp2_with (first | (go_at_call 8; refine (topic_any _ _ h1m).mono ?_; rw [ht]; rintro e w'' ⟨rfl, rfl⟩) | (go_at_call 9; refine (num_any _ _).mono ?_; rintro e w'' ⟨rfl, rfl⟩))
    go_ret
    exact ⟨rfl, unhide HE⟩
  | true =>
    have htz : (topicR a1.data.toList).1 = 0 := by unfold topB at ht; simpa using ht
    have h24 : a1.size ≤ 24 := by have := (topicR_len _ htz).1; rw [len_list] at this; exact this
    by_cases h8 : 8 < a2.size
    · have h8I : (8 : Int) < (a2.size : Int) := by omega
      have HPB : Hid (∀ H, pubH H a1.data.toList a2.data.toList false = (([], 10, 0), H)) := fun H => by unfold pubH; rw [if_neg (by simp [htz]), if_pos (by rw [len_list]; exact h8)]
      clear htz
      go_enter Try.func3, Try.ntmps3
      go_wp2_with fail
      refine (unhide HPL).mono ?_
      rintro e w3 ⟨P, H, rfl, hs3, he3⟩
      go_wp2_with fail
      refine (ls_publish hs3 a1 a2 false h1m h2m _ _ _ _ (unhide HPB H)).mono ?_
      rintro e w4 ⟨v, rfl, hs4⟩
      obtain ⟨av, lv, cv, rfl⟩ := own_slice hs4.row
      have hlv : lv = 0 := own_len hs4.row
      subst hlv
      have HE := hide hs4.bel
      clear hs3 he3 hs4
      go_wp2_with (first | (go_at_call 8; refine (topic_any _ _ h1m).mono ?_; rw [ht]; rintro e w'' ⟨rfl, rfl⟩) | (go_at_call 9; refine (num_any _ _).mono ?_; rintro e w'' ⟨rfl, rfl⟩))
      go_ret
      exact ⟨rfl, unhide HE⟩
    · have h8I : decide ((8 : Int) < (a2.size : Int)) = false := by simp; omega
      have HPB : Hid (∀ H, pubH H a1.data.toList a2.data.toList false = (((spreadH H (a1.data.toList, a2.data.toList)).1, 0, 0), (spreadH H (a1.data.toList, a2.data.toList)).2)) := fun H => by
        unfold pubH; rw [if_neg (by simp [htz]), if_neg (by rw [len_list]; exact h8), if_neg (by simp)]
      have h0j : (a1 ++ ⟨#[61]⟩ : ByteArray).size = a1.size + 1 := by rw [ByteArray.size_append]; rfl
      have HJ : Hid (∀ b : ByteArray, b.data.toList = (a1.data.toList, a2.data.toList).1 ++ 61 :: (a1.data.toList, a2.data.toList).2 → b = a1 ++ ⟨#[61]⟩ ++ a2) := fun b hb => str_joinO b a1 a2 hb
      clear htz
      generalize ((a1.data.toList, a2.data.toList) : MsgL) = m at *
      go_enter Try.func3, Try.ntmps3
      go_wp2_with fail
      refine (unhide HPL).mono ?_
      rintro e w3 ⟨P, H, rfl, hs3, he3⟩
      have HAD0 := hide (had_start m he3)
      go_wp2_with fail
      refine (ls_publish hs3 a1 a2 false h1m h2m _ _ _ _ (unhide HPB H)).mono ?_
      rintro e w4 ⟨v, rfl, hs4⟩
      have HS0 := hide hs4
      clear hs3 he3 hs4 HPB HPL
      obtain ⟨av, lv, cv, rfl⟩ := own_slice (unhide HS0).row
      generalize (spreadH H m).1 = l at *
      generalize (spreadH H m).2 = H1 at *
      generalize H.on = on0 at *
      go_wp2_with (first | (go_at_call 8; refine (topic_any _ _ h1m).mono ?_; rw [ht]; rintro e w'' ⟨rfl, rfl⟩) | (go_at_call 9; refine (num_any _ _).mono ?_; rintro e w'' ⟨rfl, rfl⟩))
      go_loopg [11, 12, 13, 14, 15] 6 (fun gk cc _ _ _ _ wr => ∃ (c : Nat) (H : HubL), c ≤ 6 ∧ gk = 6 - c ∧ cc = .int .i64 c ∧ Hid (LSit w wr P H (.slice av lv cv) l) ∧ Hid (hadTo l m on0 H c))
      case atStart => exact ⟨0, H1, by omega, rfl, rfl, HS0, HAD0⟩
      case round =>
        clear HS0 HAD0
        obtain ⟨c, H, hc, rfl, rfl, HS, HA⟩ := hrel
        by_cases hc6 : c < 6
        · have hcI : (c : Int) < 6 := by omega
          have HCN := hide (count_any _ l (c : Int) wr (IntsAt.of_own (unhide HS).row))
          have HA1 : Hid (hadTo l m on0 H (c + 1)) := ⟨(unhide HA).1, fun d hd h6 ho => (unhide HA).2 d (by omega) h6 ho⟩
          have HQ0 : Hid (on0 c = true → H.q c = List.replicate (min (l.count (c : Int)) 3 - 0) m) := fun ho => (unhide HA).2 c (Nat.le_refl _) hc6 ho
          have hll : l.count (c : Int) ≤ l.length := List.count_le_length
          have hlm : l.length ≤ maxLen := by obtain ⟨_, _, _, h⟩ := (IntsAt.of_own (unhide HS).row).form; exact h
          unfold maxLen at hlm
          generalize l.count (c : Int) = n0 at *
          go_wp2_with fail
          refine (unhide HCN).mono ?_
          rintro e w5 ⟨rfl, rfl⟩
          clear HCN HA
          cases hon : on0 c with
          | true =>
            have HQ1 := hide (unhide HQ0 hon)
            clear HQ0
            go_wp2_with fail
            go_loopg [12, 13, 14, 15] 4 (fun gk nv iv _ _ wr => ∃ (i : Nat) (H : HubL), i ≤ 3 ∧ gk = 4 - i ∧ nv = .int .i64 n0 ∧ iv = .int .i64 i ∧ Hid (LSit w wr P H (.slice av lv cv) l) ∧ Hid (hadTo l m on0 H (c + 1)) ∧ Hid (H.q c = List.replicate (min n0 3 - i) m))
            case atStart => exact ⟨0, H, by omega, rfl, rfl, rfl, HS, HA1, HQ1⟩
            case round =>
              clear HS HA1 HQ1
              obtain ⟨i, H, hi, rfl, rfl, rfl, HS, HH1, HQ⟩ := hrel
              have HOC : Hid (H.on c = true) := by unfold Hid; rw [(unhide HH1).1]; exact hon
              by_cases hgo : i ≤ n0 ∧ i < 3
              · obtain ⟨hin, hi3⟩ := hgo
                have hinI : (i : Int) ≤ (n0 : Int) := by omega
                have hi3I : (i : Int) < 3 := by omega
                have HH2 := hide (had_take hc6 (unhide HH1))
                by_cases hlt : i < n0
                · obtain ⟨k, hk⟩ : ∃ k, min n0 3 - i = k + 1 := ⟨min n0 3 - i - 1, by omega⟩
                  have hk2 : min n0 3 - (i + 1) = k := by omega
                  rw [hk, List.replicate_succ] at HQ
                  have HTK := hide (take_some hc6 (unhide HOC) (unhide HQ))
                  rw [unhide HTK] at HH2
                  have HQ2 : Hid (({ H with q := updF H.q c (List.replicate k m) } : HubL).q c = List.replicate (min n0 3 - (i + 1)) m) := by unfold Hid; rw [hk2]; exact updF_same _ _ _
                  have hltI : (i : Int) < (n0 : Int) := by omega
                  have hne : ((i : Int) == (n0 : Int)) = false := by simp; omega
                  go_wp2_with fail
                  refine (ls_take (unhide HS) (c : Int) _ _ _ (unhide HTK)).mono ?_
                  rintro e w6 ⟨b, rfl, hb, hs6⟩
                  have hj := unhide HJ b hb
                  subst hj
                  have HS6 := hide hs6
                  clear hs6 hb HTK
                  go_wp2_with (go_at_call 9; refine (num_any _ _).mono ?_; rintro e w'' ⟨rfl, rfl⟩)
                  go_roundg (4 - (i + 1))
                  case measure => omega
                  case rel => exact ⟨i + 1, _, by omega, rfl, rfl, by go_num, HS6, HH2, HQ2⟩
                · have hie : i = n0 := by omega
                  have hz : min n0 3 - i = 0 := by omega
                  rw [hz] at HQ
                  have HTK := hide (take_none hc6 (unhide HOC) (unhide HQ))
                  rw [unhide HTK] at HH2
                  have HQ2 : Hid (H.q c = List.replicate (min n0 3 - (i + 1)) m) := by unfold Hid; rw [show min n0 3 - (i + 1) = 0 from by omega]; exact unhide HQ
                  have hltI : decide ((i : Int) < (n0 : Int)) = false := by simp; omega
                  have hne : ((i : Int) == (n0 : Int)) = true := by simp; omega
                  clear hie hz
                  go_wp2_with fail
                  refine (ls_take (unhide HS) (c : Int) _ _ _ (unhide HTK)).mono ?_
                  rintro e w6 ⟨b, rfl, hb, hs6⟩
                  have HS6 := hide hs6
                  clear hs6 hb HTK
                  go_wp2_with (go_at_call 9; refine (num_any _ _).mono ?_; rintro e w'' ⟨rfl, rfl⟩)
                  go_roundg (4 - (i + 1))
                  case measure => omega
                  case rel => exact ⟨i + 1, _, by omega, rfl, rfl, by go_num, HS6, HH2, HQ2⟩
              · by_cases hin : i ≤ n0
                · obtain rfl : i = 3 := by omega
                  have hinI : (3 : Int) ≤ (n0 : Int) := by omega
                  have HHN := HH1
                  go_wp2_with fail
                  go_roundg (6 - (c + 1))
                  case measure => omega
                  case rel => exact ⟨c + 1, H, by omega, rfl, by go_num, HS, HHN⟩
                · have hinI : decide ((i : Int) ≤ (n0 : Int)) = false := by simp; omega
                  have HHN := HH1
                  go_wp2_with fail
                  go_roundg (6 - (c + 1))
                  case measure => omega
                  case rel => exact ⟨c + 1, H, by omega, rfl, by go_num, HS, HHN⟩
          | false =>
            clear HQ0
            go_wp2_with fail
            go_loopg [12, 13, 14, 15] 1 (fun gk nv iv _ _ wr => ∃ (i nn : Nat) (H : HubL), i ≤ 1 ∧ gk = 1 - i ∧ (i = 1 → nn = 0) ∧ nv = .int .i64 nn ∧ iv = .int .i64 i ∧ Hid (LSit w wr P H (.slice av lv cv) l) ∧ Hid (hadTo l m on0 H (c + 1)))
            case atStart => exact ⟨0, n0, H, by omega, rfl, fun h => by omega, rfl, rfl, HS, HA1⟩
            case round =>
              clear HS HA1
              obtain ⟨i, nn, H, hi, rfl, hin, rfl, rfl, HS, HH1⟩ := hrel
              have HOC : Hid (H.on c = false) := by unfold Hid; rw [(unhide HH1).1]; exact hon
              by_cases hi0 : i = 0
              · subst hi0
                have HH2 := hide (had_take hc6 (unhide HH1))
                have HTK := hide (take_away hc6 (unhide HOC))
                rw [unhide HTK] at HH2
                have hnn : (0 : Int) ≤ (nn : Int) := by omega
                go_wp2_with fail
                refine (ls_take (unhide HS) (c : Int) _ _ _ (unhide HTK)).mono ?_
                rintro e w6 ⟨b, rfl, hb, hs6⟩
                have HS6 := hide hs6
                clear hs6 hb HTK
                go_wp2_with (go_at_call 9; refine (num_any _ _).mono ?_; rintro e w'' ⟨rfl, rfl⟩)
                go_roundg 0
                case measure => omega
                case rel => exact ⟨1, 0, _, by omega, rfl, fun _ => rfl, rfl, rfl, HS6, HH2⟩
              · obtain rfl : i = 1 := by omega
                have hnn := hin rfl
                subst hnn
                have HHN := HH1
                go_wp2_with fail
                go_roundg (6 - (c + 1))
                case measure => omega
                case rel => exact ⟨c + 1, H, by omega, rfl, by go_num, HS, HHN⟩
        · obtain rfl : c = 6 := by omega
          have HE := hide (unhide HS).bel
          go_wp2_with fail
          go_ret
          exact ⟨rfl, unhide HE⟩

end Go.Proofs.Ytchhmojnoiephab
