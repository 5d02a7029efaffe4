import Derived.Test.YtchhmojnoiephabSit
import Derived.Test.YtchhmojnoiephabKeepP
import Derived.Test.YtchhmojnoiephabWalkRb
namespace Go.Proofs.Ytchhmojnoiephab
open Go.ChangeShapes Go.WideShapes Go.ChangeAt Go.RowKit
set_option linter.unusedVariables false

theorem filB_zero {s : ByteArray} (h : filB s = true) : (filterR s.data.toList).1 = 0 := by unfold filB at h; simpa using h
theorem topB_zero {s : ByteArray} (h : topB s = true) : (topicR s.data.toList).1 = 0 := by unfold topB at h; simpa using h
theorem str_join (s t p : ByteArray) (h : s.data.toList = t.data.toList ++ 61 :: p.data.toList) : s = t ++ ⟨#[61]⟩ ++ p := by
  refine ByteArray.ext ?_
  refine Array.ext' ?_
  rw [h]
  simp

set_option maxHeartbeats 8000000 in
set_option maxRecDepth 1000000 in
theorem keeps_walk (a0 a1 a2 a3 : ByteArray) (w0 : a0.size ≤ maxLen) (w1 : a1.size ≤ maxLen) (w2 : a2.size ≤ maxLen) (w3 : a3.size ≤ maxLen) (w : World) :
    Calls Try.prog 5 #[.string a0, .string a1, .string a2, .string a3] w fun e w' => e = .returned (.bool true) ∧ Below w.heap.size w w' := by
  by_cases hok : topB a0 = true ∧ filB a1 = true ∧ a2.size ≤ 8 ∧ a3.size ≤ 8
  · obtain ⟨ht, hf, h2, h3⟩ := hok
    have htz := topB_zero ht
    have hfz := filB_zero hf
    have hp8 : a2.data.toList.length ≤ 8 := by rw [len_list]; exact h2
    have hq8 : a3.data.toList.length ≤ 8 := by rw [len_list]; exact h3
    have hmr := matchR_ok a1.data.toList a0.data.toList hfz htz
    have hy : yesB a1 a0 = matchB a1.data.toList a0.data.toList := by unfold yesB; rw [hmr]
    have ho : okB a1 a0 = true := by unfold okB; rw [hmr]; rfl
    have h2I : decide ((8 : Int) < (a2.size : Int)) = false := by simp; omega
    have h3I : decide ((8 : Int) < (a3.size : Int)) = false := by simp; omega
    have hcut : (a1.extract 0 7).toList = a1.data.toList.take 7 := by rw [Lib.toList_data, cut_to]; simp
    by_cases hsh : 7 ≤ a1.size ∧ a1.data.toList.take 7 = shareL
    · obtain ⟨h7, hsh⟩ := hsh
      have h7I : (7 : Int) ≤ (a1.size : Int) := by omega
      have q2 : ((a1.extract 0 7).toList == [36, 115, 104, 97, 114, 101, 47]) = true := by rw [hcut, hsh]; rfl
      clear hcut hsh hmr hy
      go_enter Try.func5, Try.ntmps5
      go_wp2_with (first | (go_at_call 8; refine (topic_any _ _ w0).mono ?_; rintro e w' ⟨rfl, rfl⟩) | (go_at_call 12; refine (filter_any _ _ w1).mono ?_; rintro e w' ⟨rfl, rfl⟩) | (go_at_call 16; refine (met_any _ _ _ w1 w0).mono ?_; rintro e w' ⟨rfl, rfl⟩))
      go_ret
      exact ⟨rfl, ((Below.refl _ _).alloc (Nat.le_refl _) _).alloc (by simp) _⟩
    · have hns : ¬ a1.data.toList.take 7 = shareL := fun h => hsh ⟨by have := congrArg List.length h; rw [List.length_take, len_list] at this; simp [shareL] at this; omega, h⟩
      have HNS := hide hns
      have HSQ : Hid (7 ≤ a1.size → ((a1.extract 0 7).toList == [36, 115, 104, 97, 114, 101, 47]) = false) := fun _ => by rw [hcut]; simpa [shareL] using hns
      clear hcut hsh hns hmr
      have HK1 := hide (keep1 a0.data.toList a2.data.toList htz hp8)
      have HK2 := hide (keep2 a0.data.toList a2.data.toList a3.data.toList htz hq8)
      have HK3 := hide (keep3 a0.data.toList a1.data.toList a2.data.toList hfz (unhide HNS))
      have HK5 : Hid (∀ H : HubL, OneS H (newS 0 a1.data.toList) kA.on (kK a0.data.toList a2.data.toList) → OneS (pubH H a0.data.toList [] true).2 (newS 0 a1.data.toList) kA.on []) := fun H h => keep5 a0.data.toList a1.data.toList a2.data.toList htz (unhide HNS) h
      have HK6 : Hid (∀ H : HubL, OneS H (newS 0 a1.data.toList) kA.on [] → subH H 1 a1.data.toList = ((0, 0), addS H 1 a1.data.toList)) := fun H h => keep6 a1.data.toList hfz (unhide HNS) h
      have HON0 := hide (kC_one a0.data.toList a1.data.toList a2.data.toList)
      have HMT := hide (fun x => met_any a1 a0 x w1 w0)
      rw [hy, ho] at HMT
      have HKN := hide (keep4n a0.data.toList a1.data.toList a2.data.toList)
      have HKY := hide (keep4y a0.data.toList a1.data.toList a2.data.toList)
      have hpq : (a2.toList == []) = decide (a2.data.toList = []) := by rw [Lib.toList_data]; cases a2.data.toList <;> simp
      generalize hmbe : matchB a1.data.toList a0.data.toList = mb at *
      have h0s : a0.size ≤ 24 := by have := (topicR_len _ htz).1; rw [len_list] at this; exact this
      have h0j : (a0 ++ ⟨#[61]⟩ : ByteArray).size = a0.size + 1 := by rw [ByteArray.size_append]; rfl
      clear hy ho hmbe htz hfz hp8 hq8
      by_cases h7 : 7 ≤ a1.size
      · have h7I : (7 : Int) ≤ (a1.size : Int) := by omega
        have q2 := unhide HSQ h7
        by_cases hn : a2.data.toList = [] ∨ mb = false
        · have HK4 := hide (unhide HKN hn)
          have HON := HON0
          by_cases hpe : a2.data.toList = []
          · rw [decide_eq_true hpe] at hpq
            clear hpe hn
            have HMB := hide (MapKept.heap_alloc (w.alloc (.cells #[.bool mb, .bool true] 41)) (.cells #[.bool mb, .bool true] 41)).1
            have HBW : Hid (Below w.heap.size w ((w.alloc (.cells #[.bool mb, .bool true] 41)).alloc (.cells #[.bool mb, .bool true] 41))) := ((Below.refl _ _).alloc (Nat.le_refl _) _).alloc (by simp) _
            have HMX : Hid (∀ x, Below ((w.alloc (.cells #[.bool mb, .bool true] 41)).alloc (.cells #[.bool mb, .bool true] 41)).heap.size ((w.alloc (.cells #[.bool mb, .bool true] 41)).alloc (.cells #[.bool mb, .bool true] 41)) x → x.cell? ⟨w.heap.size + 1, 0, none⟩ = some (.bool mb) ∧ x.cell? ⟨w.heap.size + 1, 1, none⟩ = some (.bool true)) := by
              intro x hb
              have h0 := unhide HMB
              rw [show (w.alloc (.cells #[.bool mb, .bool true] 41)).heap.size = w.heap.size + 1 from by simp] at h0
              have h1 := (hb.block (w.heap.size + 1) (by simp)).trans h0
              exact ⟨cell_block (i := 0) h1 rfl, cell_block (i := 1) h1 rfl⟩
            clear HMB
            go_enter Try.func5, Try.ntmps5
            go_wp2_with (first | (go_at_call 8; refine (topic_any _ _ w0).mono ?_; rw [ht]; rintro e w' ⟨rfl, rfl⟩) | (go_at_call 12; refine (filter_any _ _ w1).mono ?_; rw [hf]; rintro e w' ⟨rfl, rfl⟩) | (go_at_call 16; refine (unhide HMT _).mono ?_; rintro e w' ⟨rfl, rfl⟩))
            refine (sit_newP _).mono ?_
            rintro e w4 ⟨P, rfl, hs4⟩
            have HS := hide hs4
            clear hs4
            go_wp2_with fail
            refine (sit_connect (unhide HS) 0 0 (comeH hub0 0) rfl).mono ?_
            rintro e w5 ⟨rfl, hs5⟩
            replace HS := hide hs5
            clear hs5
            go_wp2_with fail
            refine (sit_connect (unhide HS) 1 0 kA rfl).mono ?_
            rintro e w6 ⟨rfl, hs6⟩
            replace HS := hide hs6
            clear hs6
            go_wp2_with fail
            refine (sit_publish (unhide HS) a0 a2 true w0 w2 _ _ _ _ (unhide HK1)).mono ?_
            rintro e w7 ⟨v7, rfl, hv7, hs7⟩
            replace HS := hide hs7
            clear hs7 hv7
            go_wp2_with fail
            refine (sit_publish (unhide HS) a0 a3 false w0 w3 _ _ _ _ (unhide HK2)).mono ?_
            rintro e w8 ⟨v8, rfl, hv8, hs8⟩
            replace HS := hide hs8
            clear hs8 hv8
            go_wp2_with fail
            refine (sit_subscribe (unhide HS) 0 a1 w1 _ _ _ (unhide HK3)).mono ?_
            rintro e w9 ⟨rfl, hs9⟩
            replace HS := hide hs9
            clear hs9
            go_wp2_with fail
            refine (sit_take (unhide HS) 0 _ _ _ (unhide HK4)).mono ?_
            rintro e w10 ⟨s10, rfl, hl10, hs10⟩
            replace HS := hide hs10
            obtain ⟨m0, m1⟩ := unhide HMX _ (unhide HS).bel
            clear hs10 hl10

            have HO5 := hide (unhide HK5 _ (unhide HON))
            go_wp2_with (go_at_call 9; refine (num_any _ _).mono ?_; rintro e w' ⟨rfl, rfl⟩)
            refine (sit_publish (unhide HS) a0 (⟨#[]⟩ : ByteArray) true w0 (Nat.zero_le _) (pubH (kC a0.data.toList a1.data.toList a2.data.toList) a0.data.toList [] true).1.1 (pubH (kC a0.data.toList a1.data.toList a2.data.toList) a0.data.toList [] true).1.2.1 (pubH (kC a0.data.toList a1.data.toList a2.data.toList) a0.data.toList [] true).1.2.2 (pubH (kC a0.data.toList a1.data.toList a2.data.toList) a0.data.toList [] true).2 rfl).mono ?_
            rintro e w11 ⟨v11, rfl, hv11, hs11⟩
            replace HS := hide hs11
            clear hs11 hv11 m0 m1
            go_wp2_with fail
            refine (sit_subscribe (unhide HS) 1 a1 w1 _ _ _ (unhide HK6 _ (unhide HO5))).mono ?_
            rintro e w12 ⟨rfl, hs12⟩
            replace HS := hide hs12
            clear hs12
            go_wp2_with fail
            refine (sit_take (unhide HS) 1 _ _ _ (keep7 a1.data.toList (unhide HO5))).mono ?_
            rintro e w13 ⟨s13, rfl, hl13, hs13⟩
            replace HS := hide hs13
            clear hs13 hl13
            have HE := hide ((unhide HBW).trans ((unhide HS).bel.mono (unhide HBW).size))
            go_wp2_with (go_at_call 9; refine (num_any _ _).mono ?_; rintro e w' ⟨rfl, rfl⟩)
            go_ret
            exact ⟨rfl, unhide HE⟩
          · rw [decide_eq_false hpe] at hpq
            have hmf : mb = false := by rcases hn with h | h; exact absurd h hpe; exact h
            subst hmf
            clear hpe hn
            have HMB := hide (MapKept.heap_alloc (w.alloc (.cells #[.bool false, .bool true] 41)) (.cells #[.bool false, .bool true] 41)).1
            have HBW : Hid (Below w.heap.size w ((w.alloc (.cells #[.bool false, .bool true] 41)).alloc (.cells #[.bool false, .bool true] 41))) := ((Below.refl _ _).alloc (Nat.le_refl _) _).alloc (by simp) _
            have HMX : Hid (∀ x, Below ((w.alloc (.cells #[.bool false, .bool true] 41)).alloc (.cells #[.bool false, .bool true] 41)).heap.size ((w.alloc (.cells #[.bool false, .bool true] 41)).alloc (.cells #[.bool false, .bool true] 41)) x → x.cell? ⟨w.heap.size + 1, 0, none⟩ = some (.bool false) ∧ x.cell? ⟨w.heap.size + 1, 1, none⟩ = some (.bool true)) := by
              intro x hb
              have h0 := unhide HMB
              rw [show (w.alloc (.cells #[.bool false, .bool true] 41)).heap.size = w.heap.size + 1 from by simp] at h0
              have h1 := (hb.block (w.heap.size + 1) (by simp)).trans h0
              exact ⟨cell_block (i := 0) h1 rfl, cell_block (i := 1) h1 rfl⟩
            clear HMB
            go_enter Try.func5, Try.ntmps5
            go_wp2_with (first | (go_at_call 8; refine (topic_any _ _ w0).mono ?_; rw [ht]; rintro e w' ⟨rfl, rfl⟩) | (go_at_call 12; refine (filter_any _ _ w1).mono ?_; rw [hf]; rintro e w' ⟨rfl, rfl⟩) | (go_at_call 16; refine (unhide HMT _).mono ?_; rintro e w' ⟨rfl, rfl⟩))
            refine (sit_newP _).mono ?_
            rintro e w4 ⟨P, rfl, hs4⟩
            have HS := hide hs4
            clear hs4
            go_wp2_with fail
            refine (sit_connect (unhide HS) 0 0 (comeH hub0 0) rfl).mono ?_
            rintro e w5 ⟨rfl, hs5⟩
            replace HS := hide hs5
            clear hs5
            go_wp2_with fail
            refine (sit_connect (unhide HS) 1 0 kA rfl).mono ?_
            rintro e w6 ⟨rfl, hs6⟩
            replace HS := hide hs6
            clear hs6
            go_wp2_with fail
            refine (sit_publish (unhide HS) a0 a2 true w0 w2 _ _ _ _ (unhide HK1)).mono ?_
            rintro e w7 ⟨v7, rfl, hv7, hs7⟩
            replace HS := hide hs7
            clear hs7 hv7
            go_wp2_with fail
            refine (sit_publish (unhide HS) a0 a3 false w0 w3 _ _ _ _ (unhide HK2)).mono ?_
            rintro e w8 ⟨v8, rfl, hv8, hs8⟩
            replace HS := hide hs8
            clear hs8 hv8
            go_wp2_with fail
            refine (sit_subscribe (unhide HS) 0 a1 w1 _ _ _ (unhide HK3)).mono ?_
            rintro e w9 ⟨rfl, hs9⟩
            replace HS := hide hs9
            clear hs9
            go_wp2_with fail
            refine (sit_take (unhide HS) 0 _ _ _ (unhide HK4)).mono ?_
            rintro e w10 ⟨s10, rfl, hl10, hs10⟩
            replace HS := hide hs10
            obtain ⟨m0, m1⟩ := unhide HMX _ (unhide HS).bel
            clear hs10 hl10

            have HO5 := hide (unhide HK5 _ (unhide HON))
            go_wp2_with (go_at_call 9; refine (num_any _ _).mono ?_; rintro e w' ⟨rfl, rfl⟩)
            refine (sit_publish (unhide HS) a0 (⟨#[]⟩ : ByteArray) true w0 (Nat.zero_le _) (pubH (kC a0.data.toList a1.data.toList a2.data.toList) a0.data.toList [] true).1.1 (pubH (kC a0.data.toList a1.data.toList a2.data.toList) a0.data.toList [] true).1.2.1 (pubH (kC a0.data.toList a1.data.toList a2.data.toList) a0.data.toList [] true).1.2.2 (pubH (kC a0.data.toList a1.data.toList a2.data.toList) a0.data.toList [] true).2 rfl).mono ?_
            rintro e w11 ⟨v11, rfl, hv11, hs11⟩
            replace HS := hide hs11
            clear hs11 hv11 m0 m1
            go_wp2_with fail
            refine (sit_subscribe (unhide HS) 1 a1 w1 _ _ _ (unhide HK6 _ (unhide HO5))).mono ?_
            rintro e w12 ⟨rfl, hs12⟩
            replace HS := hide hs12
            clear hs12
            go_wp2_with fail
            refine (sit_take (unhide HS) 1 _ _ _ (keep7 a1.data.toList (unhide HO5))).mono ?_
            rintro e w13 ⟨s13, rfl, hl13, hs13⟩
            replace HS := hide hs13
            clear hs13 hl13
            have HE := hide ((unhide HBW).trans ((unhide HS).bel.mono (unhide HBW).size))
            go_wp2_with (go_at_call 9; refine (num_any _ _).mono ?_; rintro e w' ⟨rfl, rfl⟩)
            go_ret
            exact ⟨rfl, unhide HE⟩
        · have hpe : ¬ a2.data.toList = [] := fun h => hn (Or.inl h)
          have hmt : mb = true := by cases mb; exact absurd (Or.inr rfl) hn; rfl
          subst hmt
          have HK4 := hide (unhide HKY hpe rfl)
          have HON := hide (one_take (unhide HON0))
          rw [decide_eq_false hpe] at hpq
          clear hpe hn
          have HMB := hide (MapKept.heap_alloc (w.alloc (.cells #[.bool true, .bool true] 41)) (.cells #[.bool true, .bool true] 41)).1
          have HBW : Hid (Below w.heap.size w ((w.alloc (.cells #[.bool true, .bool true] 41)).alloc (.cells #[.bool true, .bool true] 41))) := ((Below.refl _ _).alloc (Nat.le_refl _) _).alloc (by simp) _
          have HMX : Hid (∀ x, Below ((w.alloc (.cells #[.bool true, .bool true] 41)).alloc (.cells #[.bool true, .bool true] 41)).heap.size ((w.alloc (.cells #[.bool true, .bool true] 41)).alloc (.cells #[.bool true, .bool true] 41)) x → x.cell? ⟨w.heap.size + 1, 0, none⟩ = some (.bool true) ∧ x.cell? ⟨w.heap.size + 1, 1, none⟩ = some (.bool true)) := by
            intro x hb
            have h0 := unhide HMB
            rw [show (w.alloc (.cells #[.bool true, .bool true] 41)).heap.size = w.heap.size + 1 from by simp] at h0
            have h1 := (hb.block (w.heap.size + 1) (by simp)).trans h0
            exact ⟨cell_block (i := 0) h1 rfl, cell_block (i := 1) h1 rfl⟩
          clear HMB
          go_enter Try.func5, Try.ntmps5
          go_wp2_with (first | (go_at_call 8; refine (topic_any _ _ w0).mono ?_; rw [ht]; rintro e w' ⟨rfl, rfl⟩) | (go_at_call 12; refine (filter_any _ _ w1).mono ?_; rw [hf]; rintro e w' ⟨rfl, rfl⟩) | (go_at_call 16; refine (unhide HMT _).mono ?_; rintro e w' ⟨rfl, rfl⟩))
          refine (sit_newP _).mono ?_
          rintro e w4 ⟨P, rfl, hs4⟩
          have HS := hide hs4
          clear hs4
          go_wp2_with fail
          refine (sit_connect (unhide HS) 0 0 (comeH hub0 0) rfl).mono ?_
          rintro e w5 ⟨rfl, hs5⟩
          replace HS := hide hs5
          clear hs5
          go_wp2_with fail
          refine (sit_connect (unhide HS) 1 0 kA rfl).mono ?_
          rintro e w6 ⟨rfl, hs6⟩
          replace HS := hide hs6
          clear hs6
          go_wp2_with fail
          refine (sit_publish (unhide HS) a0 a2 true w0 w2 _ _ _ _ (unhide HK1)).mono ?_
          rintro e w7 ⟨v7, rfl, hv7, hs7⟩
          replace HS := hide hs7
          clear hs7 hv7
          go_wp2_with fail
          refine (sit_publish (unhide HS) a0 a3 false w0 w3 _ _ _ _ (unhide HK2)).mono ?_
          rintro e w8 ⟨v8, rfl, hv8, hs8⟩
          replace HS := hide hs8
          clear hs8 hv8
          go_wp2_with fail
          refine (sit_subscribe (unhide HS) 0 a1 w1 _ _ _ (unhide HK3)).mono ?_
          rintro e w9 ⟨rfl, hs9⟩
          replace HS := hide hs9
          clear hs9
          go_wp2_with fail
          refine (sit_take (unhide HS) 0 _ _ _ (unhide HK4)).mono ?_
          rintro e w10 ⟨s10, rfl, hl10, hs10⟩
          replace HS := hide hs10
          obtain ⟨m0, m1⟩ := unhide HMX _ (unhide HS).bel
          have hj := str_join s10 a0 a2 hl10
          subst hj
          clear hs10 hl10

          have HO5 := hide (unhide HK5 _ (unhide HON))
          go_wp2_with (go_at_call 9; refine (num_any _ _).mono ?_; rintro e w' ⟨rfl, rfl⟩)
          refine (sit_publish (unhide HS) a0 (⟨#[]⟩ : ByteArray) true w0 (Nat.zero_le _) (pubH { kC a0.data.toList a1.data.toList a2.data.toList with q := updF (kC a0.data.toList a1.data.toList a2.data.toList).q 0 [] } a0.data.toList [] true).1.1 (pubH { kC a0.data.toList a1.data.toList a2.data.toList with q := updF (kC a0.data.toList a1.data.toList a2.data.toList).q 0 [] } a0.data.toList [] true).1.2.1 (pubH { kC a0.data.toList a1.data.toList a2.data.toList with q := updF (kC a0.data.toList a1.data.toList a2.data.toList).q 0 [] } a0.data.toList [] true).1.2.2 (pubH { kC a0.data.toList a1.data.toList a2.data.toList with q := updF (kC a0.data.toList a1.data.toList a2.data.toList).q 0 [] } a0.data.toList [] true).2 rfl).mono ?_
          rintro e w11 ⟨v11, rfl, hv11, hs11⟩
          replace HS := hide hs11
          clear hs11 hv11 m0 m1
          go_wp2_with fail
          refine (sit_subscribe (unhide HS) 1 a1 w1 _ _ _ (unhide HK6 _ (unhide HO5))).mono ?_
          rintro e w12 ⟨rfl, hs12⟩
          replace HS := hide hs12
          clear hs12
          go_wp2_with fail
          refine (sit_take (unhide HS) 1 _ _ _ (keep7 a1.data.toList (unhide HO5))).mono ?_
          rintro e w13 ⟨s13, rfl, hl13, hs13⟩
          replace HS := hide hs13
          clear hs13 hl13
          have HE := hide ((unhide HBW).trans ((unhide HS).bel.mono (unhide HBW).size))
          go_wp2_with (go_at_call 9; refine (num_any _ _).mono ?_; rintro e w' ⟨rfl, rfl⟩)
          go_ret
          exact ⟨rfl, unhide HE⟩
      · have h7I : decide ((7 : Int) ≤ (a1.size : Int)) = false := by simp; omega
        by_cases hn : a2.data.toList = [] ∨ mb = false
        · have HK4 := hide (unhide HKN hn)
          have HON := HON0
          by_cases hpe : a2.data.toList = []
          · rw [decide_eq_true hpe] at hpq
            clear hpe hn
            have HMB := hide (MapKept.heap_alloc (w.alloc (.cells #[.bool mb, .bool true] 41)) (.cells #[.bool mb, .bool true] 41)).1
            have HBW : Hid (Below w.heap.size w ((w.alloc (.cells #[.bool mb, .bool true] 41)).alloc (.cells #[.bool mb, .bool true] 41))) := ((Below.refl _ _).alloc (Nat.le_refl _) _).alloc (by simp) _
            have HMX : Hid (∀ x, Below ((w.alloc (.cells #[.bool mb, .bool true] 41)).alloc (.cells #[.bool mb, .bool true] 41)).heap.size ((w.alloc (.cells #[.bool mb, .bool true] 41)).alloc (.cells #[.bool mb, .bool true] 41)) x → x.cell? ⟨w.heap.size + 1, 0, none⟩ = some (.bool mb) ∧ x.cell? ⟨w.heap.size + 1, 1, none⟩ = some (.bool true)) := by
              intro x hb
              have h0 := unhide HMB
              rw [show (w.alloc (.cells #[.bool mb, .bool true] 41)).heap.size = w.heap.size + 1 from by simp] at h0
              have h1 := (hb.block (w.heap.size + 1) (by simp)).trans h0
              exact ⟨cell_block (i := 0) h1 rfl, cell_block (i := 1) h1 rfl⟩
            clear HMB
            go_enter Try.func5, Try.ntmps5
            go_wp2_with (first | (go_at_call 8; refine (topic_any _ _ w0).mono ?_; rw [ht]; rintro e w' ⟨rfl, rfl⟩) | (go_at_call 12; refine (filter_any _ _ w1).mono ?_; rw [hf]; rintro e w' ⟨rfl, rfl⟩) | (go_at_call 16; refine (unhide HMT _).mono ?_; rintro e w' ⟨rfl, rfl⟩))
            refine (sit_newP _).mono ?_
            rintro e w4 ⟨P, rfl, hs4⟩
            have HS := hide hs4
            clear hs4
            go_wp2_with fail
            refine (sit_connect (unhide HS) 0 0 (comeH hub0 0) rfl).mono ?_
            rintro e w5 ⟨rfl, hs5⟩
            replace HS := hide hs5
            clear hs5
            go_wp2_with fail
            refine (sit_connect (unhide HS) 1 0 kA rfl).mono ?_
            rintro e w6 ⟨rfl, hs6⟩
            replace HS := hide hs6
            clear hs6
            go_wp2_with fail
            refine (sit_publish (unhide HS) a0 a2 true w0 w2 _ _ _ _ (unhide HK1)).mono ?_
            rintro e w7 ⟨v7, rfl, hv7, hs7⟩
            replace HS := hide hs7
            clear hs7 hv7
            go_wp2_with fail
            refine (sit_publish (unhide HS) a0 a3 false w0 w3 _ _ _ _ (unhide HK2)).mono ?_
            rintro e w8 ⟨v8, rfl, hv8, hs8⟩
            replace HS := hide hs8
            clear hs8 hv8
            go_wp2_with fail
            refine (sit_subscribe (unhide HS) 0 a1 w1 _ _ _ (unhide HK3)).mono ?_
            rintro e w9 ⟨rfl, hs9⟩
            replace HS := hide hs9
            clear hs9
            go_wp2_with fail
            refine (sit_take (unhide HS) 0 _ _ _ (unhide HK4)).mono ?_
            rintro e w10 ⟨s10, rfl, hl10, hs10⟩
            replace HS := hide hs10
            obtain ⟨m0, m1⟩ := unhide HMX _ (unhide HS).bel
            clear hs10 hl10

            have HO5 := hide (unhide HK5 _ (unhide HON))
            go_wp2_with (go_at_call 9; refine (num_any _ _).mono ?_; rintro e w' ⟨rfl, rfl⟩)
            refine (sit_publish (unhide HS) a0 (⟨#[]⟩ : ByteArray) true w0 (Nat.zero_le _) (pubH (kC a0.data.toList a1.data.toList a2.data.toList) a0.data.toList [] true).1.1 (pubH (kC a0.data.toList a1.data.toList a2.data.toList) a0.data.toList [] true).1.2.1 (pubH (kC a0.data.toList a1.data.toList a2.data.toList) a0.data.toList [] true).1.2.2 (pubH (kC a0.data.toList a1.data.toList a2.data.toList) a0.data.toList [] true).2 rfl).mono ?_
            rintro e w11 ⟨v11, rfl, hv11, hs11⟩
            replace HS := hide hs11
            clear hs11 hv11 m0 m1
            go_wp2_with fail
            refine (sit_subscribe (unhide HS) 1 a1 w1 _ _ _ (unhide HK6 _ (unhide HO5))).mono ?_
            rintro e w12 ⟨rfl, hs12⟩
            replace HS := hide hs12
            clear hs12
            go_wp2_with fail
            refine (sit_take (unhide HS) 1 _ _ _ (keep7 a1.data.toList (unhide HO5))).mono ?_
            rintro e w13 ⟨s13, rfl, hl13, hs13⟩
            replace HS := hide hs13
            clear hs13 hl13
            have HE := hide ((unhide HBW).trans ((unhide HS).bel.mono (unhide HBW).size))
            go_wp2_with (go_at_call 9; refine (num_any _ _).mono ?_; rintro e w' ⟨rfl, rfl⟩)
            go_ret
            exact ⟨rfl, unhide HE⟩
          · rw [decide_eq_false hpe] at hpq
            have hmf : mb = false := by rcases hn with h | h; exact absurd h hpe; exact h
            subst hmf
            clear hpe hn
            have HMB := hide (MapKept.heap_alloc (w.alloc (.cells #[.bool false, .bool true] 41)) (.cells #[.bool false, .bool true] 41)).1
            have HBW : Hid (Below w.heap.size w ((w.alloc (.cells #[.bool false, .bool true] 41)).alloc (.cells #[.bool false, .bool true] 41))) := ((Below.refl _ _).alloc (Nat.le_refl _) _).alloc (by simp) _
            have HMX : Hid (∀ x, Below ((w.alloc (.cells #[.bool false, .bool true] 41)).alloc (.cells #[.bool false, .bool true] 41)).heap.size ((w.alloc (.cells #[.bool false, .bool true] 41)).alloc (.cells #[.bool false, .bool true] 41)) x → x.cell? ⟨w.heap.size + 1, 0, none⟩ = some (.bool false) ∧ x.cell? ⟨w.heap.size + 1, 1, none⟩ = some (.bool true)) := by
              intro x hb
              have h0 := unhide HMB
              rw [show (w.alloc (.cells #[.bool false, .bool true] 41)).heap.size = w.heap.size + 1 from by simp] at h0
              have h1 := (hb.block (w.heap.size + 1) (by simp)).trans h0
              exact ⟨cell_block (i := 0) h1 rfl, cell_block (i := 1) h1 rfl⟩
            clear HMB
            go_enter Try.func5, Try.ntmps5
            go_wp2_with (first | (go_at_call 8; refine (topic_any _ _ w0).mono ?_; rw [ht]; rintro e w' ⟨rfl, rfl⟩) | (go_at_call 12; refine (filter_any _ _ w1).mono ?_; rw [hf]; rintro e w' ⟨rfl, rfl⟩) | (go_at_call 16; refine (unhide HMT _).mono ?_; rintro e w' ⟨rfl, rfl⟩))
            refine (sit_newP _).mono ?_
            rintro e w4 ⟨P, rfl, hs4⟩
            have HS := hide hs4
            clear hs4
            go_wp2_with fail
            refine (sit_connect (unhide HS) 0 0 (comeH hub0 0) rfl).mono ?_
            rintro e w5 ⟨rfl, hs5⟩
            replace HS := hide hs5
            clear hs5
            go_wp2_with fail
            refine (sit_connect (unhide HS) 1 0 kA rfl).mono ?_
            rintro e w6 ⟨rfl, hs6⟩
            replace HS := hide hs6
            clear hs6
            go_wp2_with fail
            refine (sit_publish (unhide HS) a0 a2 true w0 w2 _ _ _ _ (unhide HK1)).mono ?_
            rintro e w7 ⟨v7, rfl, hv7, hs7⟩
            replace HS := hide hs7
            clear hs7 hv7
            go_wp2_with fail
            refine (sit_publish (unhide HS) a0 a3 false w0 w3 _ _ _ _ (unhide HK2)).mono ?_
            rintro e w8 ⟨v8, rfl, hv8, hs8⟩
            replace HS := hide hs8
            clear hs8 hv8
            go_wp2_with fail
            refine (sit_subscribe (unhide HS) 0 a1 w1 _ _ _ (unhide HK3)).mono ?_
            rintro e w9 ⟨rfl, hs9⟩
            replace HS := hide hs9
            clear hs9
            go_wp2_with fail
            refine (sit_take (unhide HS) 0 _ _ _ (unhide HK4)).mono ?_
            rintro e w10 ⟨s10, rfl, hl10, hs10⟩
            replace HS := hide hs10
            obtain ⟨m0, m1⟩ := unhide HMX _ (unhide HS).bel
            clear hs10 hl10

            have HO5 := hide (unhide HK5 _ (unhide HON))
            go_wp2_with (go_at_call 9; refine (num_any _ _).mono ?_; rintro e w' ⟨rfl, rfl⟩)
            refine (sit_publish (unhide HS) a0 (⟨#[]⟩ : ByteArray) true w0 (Nat.zero_le _) (pubH (kC a0.data.toList a1.data.toList a2.data.toList) a0.data.toList [] true).1.1 (pubH (kC a0.data.toList a1.data.toList a2.data.toList) a0.data.toList [] true).1.2.1 (pubH (kC a0.data.toList a1.data.toList a2.data.toList) a0.data.toList [] true).1.2.2 (pubH (kC a0.data.toList a1.data.toList a2.data.toList) a0.data.toList [] true).2 rfl).mono ?_
            rintro e w11 ⟨v11, rfl, hv11, hs11⟩
            replace HS := hide hs11
            clear hs11 hv11 m0 m1
            go_wp2_with fail
            refine (sit_subscribe (unhide HS) 1 a1 w1 _ _ _ (unhide HK6 _ (unhide HO5))).mono ?_
            rintro e w12 ⟨rfl, hs12⟩
            replace HS := hide hs12
            clear hs12
            go_wp2_with fail
            refine (sit_take (unhide HS) 1 _ _ _ (keep7 a1.data.toList (unhide HO5))).mono ?_
            rintro e w13 ⟨s13, rfl, hl13, hs13⟩
            replace HS := hide hs13
            clear hs13 hl13
            have HE := hide ((unhide HBW).trans ((unhide HS).bel.mono (unhide HBW).size))
            go_wp2_with (go_at_call 9; refine (num_any _ _).mono ?_; rintro e w' ⟨rfl, rfl⟩)
            go_ret
            exact ⟨rfl, unhide HE⟩
        · have hpe : ¬ a2.data.toList = [] := fun h => hn (Or.inl h)
          have hmt : mb = true := by cases mb; exact absurd (Or.inr rfl) hn; rfl
          subst hmt
          have HK4 := hide (unhide HKY hpe rfl)
          have HON := hide (one_take (unhide HON0))
          rw [decide_eq_false hpe] at hpq
          clear hpe hn
          have HMB := hide (MapKept.heap_alloc (w.alloc (.cells #[.bool true, .bool true] 41)) (.cells #[.bool true, .bool true] 41)).1
          have HBW : Hid (Below w.heap.size w ((w.alloc (.cells #[.bool true, .bool true] 41)).alloc (.cells #[.bool true, .bool true] 41))) := ((Below.refl _ _).alloc (Nat.le_refl _) _).alloc (by simp) _
          have HMX : Hid (∀ x, Below ((w.alloc (.cells #[.bool true, .bool true] 41)).alloc (.cells #[.bool true, .bool true] 41)).heap.size ((w.alloc (.cells #[.bool true, .bool true] 41)).alloc (.cells #[.bool true, .bool true] 41)) x → x.cell? ⟨w.heap.size + 1, 0, none⟩ = some (.bool true) ∧ x.cell? ⟨w.heap.size + 1, 1, none⟩ = some (.bool true)) := by
            intro x hb
            have h0 := unhide HMB
            rw [show (w.alloc (.cells #[.bool true, .bool true] 41)).heap.size = w.heap.size + 1 from by simp] at h0
            have h1 := (hb.block (w.heap.size + 1) (by simp)).trans h0
            exact ⟨cell_block (i := 0) h1 rfl, cell_block (i := 1) h1 rfl⟩
          clear HMB
          go_enter Try.func5, Try.ntmps5
          go_wp2_with (first | (go_at_call 8; refine (topic_any _ _ w0).mono ?_; rw [ht]; rintro e w' ⟨rfl, rfl⟩) | (go_at_call 12; refine (filter_any _ _ w1).mono ?_; rw [hf]; rintro e w' ⟨rfl, rfl⟩) | (go_at_call 16; refine (unhide HMT _).mono ?_; rintro e w' ⟨rfl, rfl⟩))
          refine (sit_newP _).mono ?_
          rintro e w4 ⟨P, rfl, hs4⟩
          have HS := hide hs4
          clear hs4
          go_wp2_with fail
          refine (sit_connect (unhide HS) 0 0 (comeH hub0 0) rfl).mono ?_
          rintro e w5 ⟨rfl, hs5⟩
          replace HS := hide hs5
          clear hs5
          go_wp2_with fail
          refine (sit_connect (unhide HS) 1 0 kA rfl).mono ?_
          rintro e w6 ⟨rfl, hs6⟩
          replace HS := hide hs6
          clear hs6
          go_wp2_with fail
          refine (sit_publish (unhide HS) a0 a2 true w0 w2 _ _ _ _ (unhide HK1)).mono ?_
          rintro e w7 ⟨v7, rfl, hv7, hs7⟩
          replace HS := hide hs7
          clear hs7 hv7
          go_wp2_with fail
          refine (sit_publish (unhide HS) a0 a3 false w0 w3 _ _ _ _ (unhide HK2)).mono ?_
          rintro e w8 ⟨v8, rfl, hv8, hs8⟩
          replace HS := hide hs8
          clear hs8 hv8
          go_wp2_with fail
          refine (sit_subscribe (unhide HS) 0 a1 w1 _ _ _ (unhide HK3)).mono ?_
          rintro e w9 ⟨rfl, hs9⟩
          replace HS := hide hs9
          clear hs9
          go_wp2_with fail
          refine (sit_take (unhide HS) 0 _ _ _ (unhide HK4)).mono ?_
          rintro e w10 ⟨s10, rfl, hl10, hs10⟩
          replace HS := hide hs10
          obtain ⟨m0, m1⟩ := unhide HMX _ (unhide HS).bel
          have hj := str_join s10 a0 a2 hl10
          subst hj
          clear hs10 hl10

          have HO5 := hide (unhide HK5 _ (unhide HON))
          go_wp2_with (go_at_call 9; refine (num_any _ _).mono ?_; rintro e w' ⟨rfl, rfl⟩)
          refine (sit_publish (unhide HS) a0 (⟨#[]⟩ : ByteArray) true w0 (Nat.zero_le _) (pubH { kC a0.data.toList a1.data.toList a2.data.toList with q := updF (kC a0.data.toList a1.data.toList a2.data.toList).q 0 [] } a0.data.toList [] true).1.1 (pubH { kC a0.data.toList a1.data.toList a2.data.toList with q := updF (kC a0.data.toList a1.data.toList a2.data.toList).q 0 [] } a0.data.toList [] true).1.2.1 (pubH { kC a0.data.toList a1.data.toList a2.data.toList with q := updF (kC a0.data.toList a1.data.toList a2.data.toList).q 0 [] } a0.data.toList [] true).1.2.2 (pubH { kC a0.data.toList a1.data.toList a2.data.toList with q := updF (kC a0.data.toList a1.data.toList a2.data.toList).q 0 [] } a0.data.toList [] true).2 rfl).mono ?_
          rintro e w11 ⟨v11, rfl, hv11, hs11⟩
          replace HS := hide hs11
          clear hs11 hv11 m0 m1
          go_wp2_with fail
          refine (sit_subscribe (unhide HS) 1 a1 w1 _ _ _ (unhide HK6 _ (unhide HO5))).mono ?_
          rintro e w12 ⟨rfl, hs12⟩
          replace HS := hide hs12
          clear hs12
          go_wp2_with fail
          refine (sit_take (unhide HS) 1 _ _ _ (keep7 a1.data.toList (unhide HO5))).mono ?_
          rintro e w13 ⟨s13, rfl, hl13, hs13⟩
          replace HS := hide hs13
          clear hs13 hl13
          have HE := hide ((unhide HBW).trans ((unhide HS).bel.mono (unhide HBW).size))
          go_wp2_with (go_at_call 9; refine (num_any _ _).mono ?_; rintro e w' ⟨rfl, rfl⟩)
          go_ret
          exact ⟨rfl, unhide HE⟩
  · have hbad : topB a0 = false ∨ (topB a0 = true ∧ filB a1 = false) ∨ (topB a0 = true ∧ filB a1 = true ∧ 8 < a2.size) ∨ (topB a0 = true ∧ filB a1 = true ∧ a2.size ≤ 8 ∧ 8 < a3.size) := by
      cases h1 : topB a0
      · exact Or.inl rfl
      · cases h2 : filB a1
        · exact Or.inr (Or.inl ⟨rfl, rfl⟩)
        · by_cases h3 : 8 < a2.size
          · exact Or.inr (Or.inr (Or.inl ⟨rfl, rfl, h3⟩))
          · exact Or.inr (Or.inr (Or.inr ⟨rfl, rfl, by omega, by
              refine Nat.lt_of_not_le fun h4 => hok ⟨h1, h2, by omega, h4⟩⟩))
    clear hok
    rcases hbad with ht | ⟨ht, hf⟩ | ⟨ht, hf, h8⟩ | ⟨ht, hf, h8, h9⟩
    · skip
      go_enter Try.func5, Try.ntmps5
      go_wp2_with (first | (go_at_call 8; refine (topic_any _ _ w0).mono ?_; rw [ht]; rintro e w' ⟨rfl, rfl⟩))
      go_ret
      exact ⟨rfl, Below.refl _ _⟩
    · skip
      go_enter Try.func5, Try.ntmps5
      go_wp2_with (first | (go_at_call 8; refine (topic_any _ _ w0).mono ?_; rw [ht]; rintro e w' ⟨rfl, rfl⟩) | (go_at_call 12; refine (filter_any _ _ w1).mono ?_; rw [hf]; rintro e w' ⟨rfl, rfl⟩))
      go_ret
      exact ⟨rfl, Below.refl _ _⟩
    · have h8I : (8 : Int) < (a2.size : Int) := by omega
      go_enter Try.func5, Try.ntmps5
      go_wp2_with (first | (go_at_call 8; refine (topic_any _ _ w0).mono ?_; rw [ht]; rintro e w' ⟨rfl, rfl⟩) | (go_at_call 12; refine (filter_any _ _ w1).mono ?_; rw [hf]; rintro e w' ⟨rfl, rfl⟩))
      go_ret
      exact ⟨rfl, Below.refl _ _⟩
    · have h8I : decide ((8 : Int) < (a2.size : Int)) = false := by simp; omega
      have h9I : (8 : Int) < (a3.size : Int) := by omega
      go_enter Try.func5, Try.ntmps5
      go_wp2_with (first | (go_at_call 8; refine (topic_any _ _ w0).mono ?_; rw [ht]; rintro e w' ⟨rfl, rfl⟩) | (go_at_call 12; refine (filter_any _ _ w1).mono ?_; rw [hf]; rintro e w' ⟨rfl, rfl⟩))
      go_ret
      exact ⟨rfl, Below.refl _ _⟩

end Go.Proofs.Ytchhmojnoiephab
