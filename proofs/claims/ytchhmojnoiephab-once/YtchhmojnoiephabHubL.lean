import Derived.Test.YtchhmojnoiephabHubK
/- The program's hub: a subscription's group and filter. -/
namespace Go.Proofs.Ytchhmojnoiephab
open Go.ChangeShapes Go.WideShapes Go.ChangeAt Go.RowKit
set_option linter.unusedVariables false

theorem low_on (L : List UInt8) (k : Nat) (h : k < L.length) (hl : lowB L[k] = true) : (L.drop k).takeWhile lowB = L[k] :: (L.drop (k + 1)).takeWhile lowB ∧ (L.drop k).dropWhile lowB = (L.drop (k + 1)).dropWhile lowB := by
  rw [List.drop_eq_getElem_cons h, List.takeWhile_cons, List.dropWhile_cons, if_pos hl, if_pos hl]; exact ⟨rfl, rfl⟩
theorem low_off (L : List UInt8) (k : Nat) (h : k < L.length) (hl : lowB L[k] = false) : (L.drop k).takeWhile lowB = [] ∧ (L.drop k).dropWhile lowB = L.drop k := by
  rw [List.drop_eq_getElem_cons h, List.takeWhile_cons, List.dropWhile_cons, if_neg (by simp [hl]), if_neg (by simp [hl])]; exact ⟨rfl, rfl⟩
theorem low_end (L : List UInt8) (k : Nat) (h : ¬ k < L.length) : (L.drop k).takeWhile lowB = [] ∧ (L.drop k).dropWhile lowB = L.drop k := by
  rw [List.drop_eq_nil_of_le (by omega)]; exact ⟨rfl, rfl⟩
/-- at place k of the group's letters -/
def PartAt (L : List UInt8) (k : Nat) : Prop := (L.drop 7).takeWhile lowB = (L.drop 7).take (k - 7) ++ (L.drop k).takeWhile lowB ∧ (L.drop 7).dropWhile lowB = (L.drop k).dropWhile lowB
theorem part_start (L : List UInt8) : PartAt L 7 := by unfold PartAt; simp
theorem part_step (L : List UInt8) (k : Nat) (h7 : 7 ≤ k) (h : k < L.length) (hl : lowB L[k] = true) (hp : PartAt L k) : PartAt L (k + 1) := by
  obtain ⟨h1, h2⟩ := hp
  obtain ⟨l1, l2⟩ := low_on L k h hl
  refine ⟨?_, h2.trans l2⟩
  rw [h1, l1]
  have h3 : k - 7 < (L.drop 7).length := by rw [List.length_drop]; omega
  have h4 : (L.drop 7)[k - 7] = L[k] := by rw [List.getElem_drop]; congr 1; omega
  rw [show k + 1 - 7 = (k - 7) + 1 from by omega, List.take_succ_eq_append_getElem h3, h4, List.append_assoc]
  rfl
theorem part_none (L : List UInt8) (h : ¬ L.take 7 = shareL) : partS L = ([], L) := by unfold partS; rw [if_neg h]
def partM (L : List UInt8) : List UInt8 → List UInt8 → List UInt8 × List UInt8
  | [], _ => ([], L)
  | _ :: _, [] => ([], L)
  | a :: g, b :: r => if b = 47 then (a :: g, r) else ([], L)
theorem part_of (L tw dw : List UInt8) (h : L.take 7 = shareL) (h1 : (L.drop 7).takeWhile lowB = tw) (h2 : (L.drop 7).dropWhile lowB = dw) : partS L = partM L tw dw := by
  unfold partS
  rw [if_pos h]
  subst h1
  subst h2
  generalize (L.drop 7).takeWhile lowB = tw
  generalize (L.drop 7).dropWhile lowB = dw
  cases tw <;> cases dw <;> rfl
theorem part_stop {L : List UInt8} {k : Nat} (hp : PartAt L k) (hs : (L.drop k).takeWhile lowB = [] ∧ (L.drop k).dropWhile lowB = L.drop k) : (L.drop 7).takeWhile lowB = (L.drop 7).take (k - 7) ∧ (L.drop 7).dropWhile lowB = L.drop k := by
  obtain ⟨h1, h2⟩ := hp
  rw [hs.1, List.append_nil] at h1
  rw [hs.2] at h2
  exact ⟨h1, h2⟩
theorem part_bad {L : List UInt8} {k : Nat} (h : L.take 7 = shareL) (hp : PartAt L k) (hs : (L.drop k).takeWhile lowB = [] ∧ (L.drop k).dropWhile lowB = L.drop k) (hb : k = 7 ∨ ¬ k < L.length ∨ ∃ hk : k < L.length, L[k] ≠ 47) : partS L = ([], L) := by
  obtain ⟨h1, h2⟩ := part_stop hp hs
  rw [part_of L _ _ h h1 h2]
  rcases hb with rfl | hb | ⟨hk, hb⟩
  · rw [Nat.sub_self, List.take_zero]; rfl
  · rw [List.drop_eq_nil_of_le (show L.length ≤ k by omega)]
    cases (L.drop 7).take (k - 7) <;> rfl
  · rw [List.drop_eq_getElem_cons hk]
    cases (L.drop 7).take (k - 7) with
    | nil => rfl
    | cons a g => simp only [partM]; rw [if_neg hb]
theorem part_good {L : List UInt8} {k : Nat} (h : L.take 7 = shareL) (hp : PartAt L k) (hs : (L.drop k).takeWhile lowB = [] ∧ (L.drop k).dropWhile lowB = L.drop k) (h7 : 7 < k) (hk : k < L.length) (hb : L[k] = 47) : partS L = ((L.drop 7).take (k - 7), L.drop (k + 1)) := by
  obtain ⟨h1, h2⟩ := part_stop hp hs
  rw [part_of L _ _ h h1 h2, List.drop_eq_getElem_cons hk]
  have hne : 0 < ((L.drop 7).take (k - 7)).length := by rw [List.length_take, List.length_drop]; omega
  cases hc : (L.drop 7).take (k - 7) with
  | nil => rw [hc] at hne; simp at hne
  | cons a g => simp only [partM]; rw [if_pos hb]

theorem cut_to (s : ByteArray) (a b : Nat) : (s.extract a b).data.toList = (s.data.toList.drop a).take (b - a) := by rw [Lib.extract_eq]
theorem cut_end (s : ByteArray) (a : Nat) : (s.extract a s.size).data.toList = s.data.toList.drop a := by
  rw [cut_to, List.take_of_length_le (by rw [List.length_drop, len_list]; omega)]

/-- what splitSubscription answers -/
def PartPost (w : World) (L : List UInt8) (e : Ending) (w' : World) : Prop := ∃ g f : ByteArray, e = .returned (.tuple #[.string g, .string f]) ∧ g.data.toList = (partS L).1 ∧ f.data.toList = (partS L).2 ∧ ∃ n, w' = w.drewN n
theorem PartPost.whole {w : World} {s : ByteArray} (h : partS s.data.toList = ([], s.data.toList)) : PartPost w s.data.toList (.returned (.tuple #[.string ⟨#[]⟩, .string s])) w := ⟨_, s, rfl, by rw [h], by rw [h], 0, rfl⟩
theorem byte_47 (b : UInt8) : (b.toNat : Int) = 47 ↔ b = 47 := by
  constructor
  · intro h
    have : b.toNat = (47 : UInt8).toNat := by simp; omega
    exact UInt8.toNat_inj.1 this
  · intro h; subst h; rfl

set_option maxHeartbeats 2000000 in
theorem split_any' (s : ByteArray) (w : World) (hs : s.size ≤ 24) : Calls Try.prog 29 #[.string s] w (PartPost w s.data.toList) := by
  by_cases h7 : s.size < 7
  · have hI : (s.size : Int) < 7 := by omega
    have HR := hide (part_none s.data.toList (fun h => by have := congrArg List.length h; rw [List.length_take, len_list] at this; simp [shareL] at this; omega))
    go_enter Try.func29, Try.ntmps29
    go_wp2_with fail
    go_ret2
    exact PartPost.whole (unhide HR)
  · have hI : decide ((s.size : Int) < 7) = false := by simp; omega
    have hI7 : (7 : Int) ≤ (s.size : Int) := by omega
    have hcut : (s.extract 0 7).toList = s.data.toList.take 7 := by rw [Lib.toList_data, cut_to]; simp
    by_cases hsh : s.data.toList.take 7 = shareL
    · have q1 : ((s.extract 0 7).toList != [36, 115, 104, 97, 114, 101, 47]) = false := by rw [hcut, hsh]; rfl
      have q2 : ((s.extract 0 7).toList == [36, 115, 104, 97, 114, 101, 47]) = true := by rw [hcut, hsh]; rfl
      have HSH := hide hsh
      have HP0 := hide (part_start s.data.toList)
      clear hcut hsh
      go_enter Try.func29, Try.ntmps29
      go_wp2_with fail
      go_loopg [5] s.size (fun gk en wr => ∃ k : Nat, 7 ≤ k ∧ k ≤ s.size ∧ gk = s.size - k + 7 ∧ en = .int .i64 k ∧ wr = w ∧ Hid (PartAt s.data.toList k))
      case atStart => exact ⟨7, by omega, by omega, by omega, rfl, rfl, HP0⟩
      case round =>
        clear HP0
        obtain ⟨k, hk7, hk, rfl, rfl, hwr, HP⟩ := hrel
        have hwr' := hwr.symm
        subst hwr'
        clear hwr
        have HBAD := hide (fun hs hb => PartPost.whole (w := w) (part_bad (unhide HSH) (unhide HP) hs hb))
        have HGOOD := hide (part_good (unhide HSH) (unhide HP))
        by_cases hlt : k < s.size
        · have hlL : k < s.data.toList.length := by rw [len_list]; exact hlt
          have HST := hide (part_step s.data.toList k hk7 hlL)
          have HOF := hide (low_off s.data.toList k hlL)
          have hge : s.data.toList[k] = s[k] := get_list s k hlt
          have HGE := hide hge
          have hltI : (k : Int) < (s.size : Int) := by omega
          by_cases h97 : (97 : Int) ≤ (s[k].toNat : Int)
          · by_cases h122 : (s[k].toNat : Int) ≤ 122
            · have HZ := hide (unhide HST (by rw [hge]; unfold lowB; simp; omega) (unhide HP))
              clear hge
              go_wp2_with fail
              go_roundg (s.size - (k + 1) + 7)
              case measure => omega
              case rel => exact ⟨k + 1, by omega, by omega, rfl, by go_num, rfl, HZ⟩
            · have HO := hide (unhide HOF (by rw [hge]; unfold lowB; simp; omega))
              have hd : decide ((s[k].toNat : Int) ≤ 122) = false := by simp; omega
              have hne : ((s[k].toNat : Int) != 47) = true := by simp; omega
              have hne2 : ((s[k].toNat : Int) == 47) = false := by simp; omega
              have HPP := hide (unhide HBAD (unhide HO) (Or.inr (Or.inr ⟨hlL, by rw [hge, Ne, ← byte_47]; omega⟩)))
              clear hge
              by_cases hk77 : k = 7
              · subst hk77
                go_wp2_with fail
                go_ret2
                exact unhide HPP
              · have hkb : ((k : Int) == 7) = false := by simp; omega
                have hkn : ((k : Int) == (s.size : Int)) = false := by simp; omega
                go_wp2_with fail
                go_ret2
                exact unhide HPP
          · have HO := hide (unhide HOF (by rw [hge]; unfold lowB; simp; omega))
            have hd : decide ((97 : Int) ≤ (s[k].toNat : Int)) = false := by simp; omega
            by_cases hk77 : k = 7
            · have HPP := hide (unhide HBAD (unhide HO) (Or.inl hk77))
              subst hk77
              clear hge
              go_wp2_with fail
              go_ret2
              exact unhide HPP
            · have hkb : ((k : Int) == 7) = false := by simp; omega
              have hkn : ((k : Int) == (s.size : Int)) = false := by simp; omega
              by_cases h47 : (s[k].toNat : Int) = 47
              · have hne : ((s[k].toNat : Int) != 47) = false := by simp [h47]
                have hne2 : ((s[k].toNat : Int) == 47) = true := by simp [h47]
                have HG := hide (unhide HGOOD (unhide HO) (by omega) hlL (by rw [hge, ← byte_47]; exact h47))
                have hk1 : (k : Int) + 1 ≤ (s.size : Int) := by omega
                have hk70 : (7 : Int) ≤ (k : Int) := by omega
                clear hge h47
                go_wp2_with fail
                go_quiet (fail)
                go_wp2_with fail
                go_ret2
                exact ⟨_, _, rfl, by rw [unhide HG]; exact cut_to s 7 k, by rw [unhide HG]; exact cut_end s (k + 1), _, rfl⟩
              · have hne : ((s[k].toNat : Int) != 47) = true := by simp [h47]
                have hne2 : ((s[k].toNat : Int) == 47) = false := by simp [h47]
                have HPP := hide (unhide HBAD (unhide HO) (Or.inr (Or.inr ⟨hlL, by rw [hge, Ne, ← byte_47]; exact h47⟩)))
                clear hge h47
                go_wp2_with fail
                go_ret2
                exact unhide HPP
        · have hke : k = s.size := by omega
          have HPP := hide (unhide HBAD (low_end s.data.toList k (by rw [len_list]; exact hlt)) (Or.inr (Or.inl (by rw [len_list]; exact hlt))))
          have hltI : decide ((k : Int) < (s.size : Int)) = false := by simp; omega
          have hkn : ((k : Int) == (s.size : Int)) = true := by simp; omega
          by_cases hk77 : k = 7
          · have hkb : ((k : Int) == 7) = true := by simp [hk77]
            clear hk77 hke
            go_wp2_with fail
            go_ret2
            exact unhide HPP
          · have hkb : ((k : Int) == 7) = false := by simp; omega
            clear hke
            go_wp2_with fail
            go_ret2
            exact unhide HPP
    · have q1 : ((s.extract 0 7).toList != [36, 115, 104, 97, 114, 101, 47]) = true := by rw [hcut]; simpa [shareL] using hsh
      have q2 : ((s.extract 0 7).toList == [36, 115, 104, 97, 114, 101, 47]) = false := by rw [hcut]; simpa [shareL] using hsh
      have HR := hide (part_none s.data.toList hsh)
      clear hcut hsh
      go_enter Try.func29, Try.ntmps29
      go_wp2_with fail
      go_ret2
      exact PartPost.whole (unhide HR)

end Go.Proofs.Ytchhmojnoiephab
