import Derived.Test.YtchhmojnoiephabGreatDoorZmRefL
/- The document's hub: Subscribe, walked. -/
namespace Go.Proofs.YtchhmojnoiephabGreatDoor
open Go.ChangeShapes Go.WideShapes Go.ChangeAt Go.RowKit
set_option linter.unusedVariables false

set_option maxHeartbeats 8000000 in
set_option maxRecDepth 1000000 in
theorem rsub_any (d : Nat) (S : Nat → Prop) (R : RHub) (c : Int) (s : ByteArray) (hs : s.size ≤ maxLen) (w : World) (h : RefAt w d S R) :
    Calls Tryz.prog 33 #[.pointer (some ⟨d, 0, none⟩), .int .i64 c, .string s] w (RefPost w d S (pairV (rsub R c s.data.toList).1) (rsub R c s.data.toList).2) := by
  obtain ⟨i0, hi, hz0, hz1, hz2⟩ := info_parts info_rsub
  have HH := hide h
  have HME := hide (meant_any d S R c s hs w h)
  by_cases hk0 : (rcheck R c s.data.toList).1 = 0
  · obtain ⟨n, rfl, hn, hs24, hf0, hon⟩ := rcheck_zero hk0
    have hb0 : ((rcheck R n s.data.toList).1 != 0) = false := by simp [hk0]
    have HR0 : Hid (rsub R n s.data.toList = if rseek R n s.data.toList < R.subs.length then ((5, 0), R) else if 8 ≤ R.subs.length then ((7, 0), R)
        else ((0, 0), tellF n (partS s.data.toList).1 (partS s.data.toList).2 (moreR R (newR n (partS s.data.toList).1 (partS s.data.toList).2)) R.kept R.kept.length)) := by
      unfold Hid rsub; rw [if_neg (by simp [hk0]), Int.toNat_natCast]
    have HFD : Hid (∀ g f : ByteArray, g.data.toList = (partS s.data.toList).1 → f.data.toList = (partS s.data.toList).2 → ∀ x, Below w.heap.size w x → Calls Tryz.prog 71 #[.pointer (some ⟨d, 0, none⟩), .agg #[.int .i64 n, .string g, .string f, .int .i64 0]] x fun e w' => e = .returned (.int .i64 (idxR (rseek R n s.data.toList) R.subs.length)) ∧ Below x.heap.size x w') := fun g f hg hf x hb => by
      have := rfind_any d S R n g f x (h.below hb)
      rw [hg, hf] at this
      exact this
    have hpl := partS_len s.data.toList
    have HOK : Hid (okR (newR n (partS s.data.toList).1 (partS s.data.toList).2)) := ⟨hn, Nat.le_trans hpl.1 hs24, Nat.le_trans hpl.2 hs24, rfilter_pos hf0⟩
    clear hpl
    obtain ⟨a, cc, c0, hp, hl8, hat⟩ := h.subsAt
    have HZ := hide hk0
    clear hat hk0
    generalize hck : rcheck R n s.data.toList = ck at *
    clear hck
    by_cases hse : rseek R n s.data.toList < R.subs.length
    · have HR : Hid (rsub R n s.data.toList = ((5, 0), R)) := (unhide HR0).trans (if_pos hse)
      rw [unhide HR]
      rw [show idxR (rseek R n s.data.toList) R.subs.length = ((rseek R n s.data.toList : Nat) : Int) from by unfold idxR; rw [if_pos hse]] at HFD
      clear h HR HR0 hse
      generalize rseek R n s.data.toList = sk at *
      go_enter Tryz.func33, Tryz.ntmps33
      go_wp2_with fail
      refine (unhide HME).mono ?_
      rintro e w1 ⟨k0, g, f, rfl, hb1, hx⟩
      obtain ⟨rfl, hg, hf⟩ := hx (unhide HZ)
      have HF2 := hide (unhide HFD g f hg hf (w1.alloc (.cells #[.int .i64 (n : Int), .string g, .string f, .int .i64 0] 121)) (hb1.alloc hb1.size _))
      have HB1 := hide hb1
      clear hb1 hx
      go_wp2_with fail
      refine (unhide HF2).mono ?_
      rintro e w3 ⟨rfl, hb3⟩
      have HB3 := hide (((unhide HB1).alloc (unhide HB1).size _).trans (hb3.mono (by have := (unhide HB1).size; simp; omega)))
      clear hb3
      go_wp2_with fail
      go_ret2
      exact RefPost.same (unhide HH) (unhide HB3)
    · rw [if_neg hse] at HR0
      rw [show idxR (rseek R n s.data.toList) R.subs.length = -1 from by unfold idxR; rw [if_neg hse]] at HFD
      clear hse
      by_cases h8 : 8 ≤ R.subs.length
      · have HR : Hid (rsub R n s.data.toList = ((7, 0), R)) := (unhide HR0).trans (if_pos h8)
        rw [unhide HR]
        have h8I : (8 : Int) ≤ (R.subs.length : Int) := by omega
        clear h HR HR0
        go_enter Tryz.func33, Tryz.ntmps33
        go_wp2_with fail
        refine (unhide HME).mono ?_
        rintro e w1 ⟨k0, g, f, rfl, hb1, hx⟩
        obtain ⟨rfl, hg, hf⟩ := hx (unhide HZ)
        have HF2 := hide (unhide HFD g f hg hf (w1.alloc (.cells #[.int .i64 (n : Int), .string g, .string f, .int .i64 0] 121)) (hb1.alloc hb1.size _))
        have HB1 := hide hb1
        clear hb1 hx
        go_wp2_with fail
        refine (unhide HF2).mono ?_
        rintro e w3 ⟨rfl, hb3⟩
        have HB3 := hide (((unhide HB1).alloc (unhide HB1).size _).trans (hb3.mono (by have := (unhide HB1).size; simp; omega)))
        have c2 : w3.cell? ⟨d, 1, none⟩ = some (.slice a R.subs.length cc) := ((unhide HB3).cell (p := ⟨d, 1, none⟩) hp).trans c0
        clear hb3 c0
        go_wp2_with fail
        go_ret2
        exact RefPost.same (unhide HH) (unhide HB3)
      · have HR : Hid (rsub R n s.data.toList = ((0, 0), tellF n (partS s.data.toList).1 (partS s.data.toList).2 (moreR R (newR n (partS s.data.toList).1 (partS s.data.toList).2)) R.kept R.kept.length)) := (unhide HR0).trans (if_neg h8)
        rw [unhide HR]
        have h8I : ¬ (8 : Int) ≤ (R.subs.length : Int) := by omega
        have HMG := hide (moreR_good h.good (unhide HOK) (by omega))
        have HKM := hide h.good.kept
        have HSL : Hid (∀ k, S k → k < w.heap.size) := fun k hk => h.lt hk
        clear h HR HR0
        go_enter Tryz.func33, Tryz.ntmps33
        go_wp2_with fail
        refine (unhide HME).mono ?_
        rintro e w1 ⟨k0, g, f, rfl, hb1, hx⟩
        obtain ⟨rfl, hg, hf⟩ := hx (unhide HZ)
        rw [← hg, ← hf] at HOK HMG ⊢
        have HF2 := hide (unhide HFD g f hg hf (w1.alloc (.cells #[.int .i64 (n : Int), .string g, .string f, .int .i64 0] 121)) (hb1.alloc hb1.size _))
        have HB1 := hide hb1
        clear hb1 hx
        go_wp2_with fail
        refine (unhide HF2).mono ?_
        rintro e w3 ⟨rfl, hb3⟩
        have hb : Below w.heap.size w w3 := ((unhide HB1).alloc (unhide HB1).size _).trans (hb3.mono (by have := (unhide HB1).size; simp; omega))
        have HB3 := hide hb
        have c2 : w3.cell? ⟨d, 1, none⟩ = some (.slice a R.subs.length cc) := (hb.cell (p := ⟨d, 1, none⟩) hp).trans c0
        have hd3 : d < w3.heap.size := Nat.lt_of_lt_of_le hp hb.size
        have hX3 : w1.heap.size < w3.heap.size := by have := hb3.size; simp at this; omega
        have HX : Hid (w3.heap[w1.heap.size]? = some (.cells #[.int .i64 (n : Int), .string g, .string f, .int .i64 0] 121 (0, 0))) := by
          unfold Hid; rw [hb3.block _ (by simp)]; exact (MapKept.heap_alloc w1 _).1
        have hXS : ¬ S w1.heap.size := fun hx => by have := unhide HSL _ hx; have := (unhide HB1).size; omega
        have x0 := cell_block (i := 0) (unhide HX) rfl
        have x1 := cell_block (i := 1) (unhide HX) rfl
        have x2 := cell_block (i := 2) (unhide HX) rfl
        have x3 := cell_block (i := 3) (unhide HX) rfl
        have hbW : Below w3.heap.size w3 (w3.alloc (.cells #[.int .i64 (n : Int), .string g, .string f, .int .i64 0] 121)).drew := ((Below.refl _ w3).alloc (Nat.le_refl _) _).drew
        have HH3 := hide ((unhide HH).below hb)
        have HOW : Hid ((w3.alloc (.cells #[.int .i64 (n : Int), .string g, .string f, .int .i64 0] 121)).drew.ownsRow 0 121 4 (.slice a R.subs.length cc) R.subs.length (rsubCells R.subs)) := by
          obtain ⟨cb, A, qv, sv0, kv, hw, _⟩ := (unhide HH3).body
          have he : sv0 = .slice a R.subs.length cc := by
            have := cell_block (i := 1) hw.blk rfl
            rw [c2] at this
            simpa using this.symm
          subst he
          exact own_below hw.sown hbW
        have HPQ : Hid (∀ v' w4, w4.ownsRow 0 121 4 v' (R.subs.length + 1) (rsubCells R.subs ++ [.int .i64 (n : Int), .string g, .string f, .int .i64 0]) → (w3.alloc (.cells #[.int .i64 (n : Int), .string g, .string f, .int .i64 0] 121)).drew.grownBy w4 (Value.slice a R.subs.length cc).ownBlock → (∀ k, v'.ownBlock = some k → (Value.slice a R.subs.length cc).ownBlock = some k ∨ (w3.alloc (.cells #[.int .i64 (n : Int), .string g, .string f, .int .i64 0] 121)).drew.heap.size ≤ k) →
            (w4.cell? ⟨d, 1, none⟩ = some (.slice a R.subs.length cc) ∧ w4.frozen? ⟨d, 1, none⟩ = false) ∧ ∃ S2, RefAt (w4.setCell ⟨d, 1, none⟩ v') d S2 (moreR R (newR n g.data.toList f.data.toList)) ∧ Fr S w3 (w4.setCell ⟨d, 1, none⟩ v') S2 ∧ (w4.setCell ⟨d, 1, none⟩ v').heap[w1.heap.size]? = w3.heap[w1.heap.size]? ∧ ¬ S2 w1.heap.size) := fun v' w4 y1 y2 y3 =>
          more_end (x := newR n g.data.toList f.data.toList) (unhide HH3) (unhide HMG) hbW c2 y1 y2 y3 hX3 hXS
        obtain ⟨K, hK⟩ : ∃ K, K = R.kept := ⟨_, rfl⟩
        obtain ⟨G, hG⟩ : ∃ G : Nat → RHub, G = tellF n g.data.toList f.data.toList (moreR R (newR n g.data.toList f.data.toList)) K := ⟨_, rfl⟩
        have HG0 : Hid (G 0 = moreR R (newR n g.data.toList f.data.toList)) := by subst hG; unfold Hid tellF; simp
        have HGS : Hid (∀ k (hk : k < K.length), G (k + 1) = tellS n g.data.toList f.data.toList (G k) K[k]) := fun k hk => by subst hG; exact tellF_step _ _ _ _ _ k hk
        have HGK : Hid (∀ k, (G k).kept = K) := fun k => by subst hG; rw [tellF_kept]; exact hK.symm
        have HGE : Hid (tellF n (partS s.data.toList).1 (partS s.data.toList).2 (moreR R (newR n (partS s.data.toList).1 (partS s.data.toList).2)) R.kept R.kept.length = G K.length) := by subst hG; unfold Hid; rw [hK, hg, hf]
        have hf24 : f.size ≤ 24 := by have := (unhide HOK).2.2.1; rw [← len_list]; exact this
        have hf0' : 0 < f.size := by have := (unhide HOK).2.2.2; rw [← len_list]; exact this
        have q2 : (g.toList == []) = decide (g.data.toList = []) := by have := strNil g.data.toList; simpa using this
        rw [← hK] at HKM
        clear hG hK
        generalize hbg : decide (g.data.toList = []) = bg at *
        have HBG := hide hbg
        clear hbg
        clear hb3 hb c0 HH HFD HF2 HME HMG hbW HB1 HSL
        go_upto_region 9 with fail
        go_cut [44] (fun _ wd => ∃ S2 wz, wz = wd ∧ Hid (RefAt wd d S2 (moreR R (newR n g.data.toList f.data.toList)) ∧ Fr S w3 wd S2 ∧ wd.heap[w1.heap.size]? = w3.heap[w1.heap.size]? ∧ ¬ S2 w1.heap.size))
        case first =>
          go_wp2_with fail
          go_region_law (refine step_append_moves rfl (.tmp 41) (.tmp 43) 75 rfl 121 i0 (.agg #[.int .i64 0, .string ByteArray.empty, .string ByteArray.empty, .int .i64 0]) 4 48 Tryz.underlying75 hi hz0 hz1 hz2 rfl (by decide) (.slice a R.subs.length cc) R.subs.length (rsubCells R.subs) (by simp [Act.eval]) (unhide HOW) ⟨w3.heap.size, 0, none⟩ 1 1 [.int .i64 (n : Int), .string g, .string f, .int .i64 0] (by simp [Act.eval]) rfl (by
              intro j u hj
              match j, hj with
              | 0, hj => simp at hj; subst hj; simp [Addr.add]
              | 1, hj => simp at hj; subst hj; simp [Addr.add]
              | 2, hj => simp at hj; subst hj; simp [Addr.add]
              | 3, hj => simp at hj; subst hj; simp [Addr.add]) (by intro u hu; simp at hu; rcases hu with rfl | rfl | rfl | rfl <;> rfl) (by unfold maxLen; omega) (by omega) ?_; intro v' w4 hown' hgrow hmv; obtain ⟨⟨z4, f5⟩, hst⟩ := unhide HPQ v' w4 hown' hgrow hmv; have HST := hide hst; obtain ⟨a5, l5, c5, h5⟩ := own_slice hown'; subst h5; clear hown' hgrow hmv hst)
          all_goals
            go_wp2_with fail
            obtain ⟨S2, hst2⟩ := unhide HST
            go_meet
            exact ⟨S2, _, rfl, hst2⟩
        case rest =>
          obtain ⟨S2, w2, hw2, HST⟩ := hcut
          subst hw2
          obtain ⟨hr2, hfr2, hxb, hxn⟩ := unhide HST
          have HX2 := hide (hxb.trans (unhide HX))
          have HR2 := hide hr2
          have HF3 := hide ((Fr.of_below (S := S) (unhide HB3)).trans hfr2)
          have hX2 := Nat.lt_of_lt_of_le hX3 hfr2.size
          clear hr2 hfr2 hxb HST HPQ HOW HH3 c2 x0 x1 x2 x3 HX hd3 hp HB3 hX3
          generalize w1.heap.size = X at *
          go_wp2_with fail
          go_loopg [12, 13] K.length (fun gk i _ wr => ∃ k : Nat, k ≤ K.length ∧ gk = K.length - k ∧ i = .int .i64 k ∧ Hid (∃ S', RefAt wr d S' (G k) ∧ Fr S2 w2 wr S'))
          case atStart => exact ⟨0, by omega, by omega, rfl, ⟨S2, by rw [unhide HG0]; exact unhide HR2, Fr.of_below (Below.refl _ _)⟩⟩
          case round =>
            obtain ⟨k, hk, rfl, rfl, HJ⟩ := hrel
            obtain ⟨S', hr, hfr⟩ := unhide HJ
            obtain ⟨ka, kc, k1, hdp, hl4, hkat⟩ := hr.keptAt
            rw [unhide HGK k] at k1 hl4 hkat
            have hxw : wr.heap[X]? = _ := (hfr.keep X hX2 hxn).trans (unhide HX2)
            have hXr := heap_lt hxw
            have y1 := cell_block (i := 1) hxw rfl
            have y2 := cell_block (i := 2) hxw rfl
            have HXW := hide hxw
            have HRW := hide hr
            have HFR := hide hfr
            clear hr hfr hxw HJ
            by_cases hlt : k < K.length
            · obtain ⟨b, rfl, hc1, hc2, hcs⟩ := hkat k hlt
              have HCS := hide hcs
              obtain ⟨e1, e2⟩ := hcs wr (Below.refl _ _)
              have hkI : (k : Int) < (K.length : Int) := by omega
              have hsm := (unhide HKM).2 K[k] (List.getElem_mem hlt)
              have HM : Hid (∀ x, Calls Tryz.prog 64 #[.string f, .string ⟨K[k].1.toArray⟩] x fun e w' => e = .returned (.bool (matchB f.data.toList K[k].1)) ∧ Below x.heap.size x w') := fun x => by
                have := refMatches_any f ⟨K[k].1.toArray⟩ x hf24 (by rw [Lib.size_eq]; simpa using hsm.1.1) hf0' (by rw [Lib.size_eq]; simpa using hsm.2)
                simpa using this
              have HDL : Hid (∀ x, RefAt x d S' (G k) → Calls Tryz.prog 30 #[.pointer (some ⟨d, 0, none⟩), .int .i64 n, .string ⟨K[k].1.toArray⟩, .string ⟨K[k].2.toArray⟩] x (RefDone x d S' (rdel (G k) n (K[k].1 ++ 61 :: K[k].2)))) := fun x hx => by
                have := rdeliver_any d S' (G k) n hn ⟨K[k].1.toArray⟩ ⟨K[k].2.toArray⟩ (by rw [Lib.size_eq]; simpa using hsm.1.1) (by rw [Lib.size_eq]; simpa using hsm.1.2) x hx
                simpa using this
              have HGK1 := hide (unhide HGS k hlt)
              unfold tellS at HGK1
              rw [unhide HBG] at HGK1
              clear HBG
              clear hkat hcs hsm HGS HGE HKM HOK HG0 HR2 HF3 HX2
              generalize (⟨K[k].1.toArray⟩ : ByteArray) = ks at *
              generalize (⟨K[k].2.toArray⟩ : ByteArray) = kp at *
              generalize K[k] = x at *
              generalize matchB f.data.toList x.1 = bm at *
              go_upto_region 13 with fail
              go_cut [13] (fun cv w5 => ∃ wz, wz = w5 ∧ cv = .bool bm ∧ Hid (Below wr.heap.size wr w5))
              case first =>
                go_wp2_with fail
                go_region_with (go_at_call 64; refine (unhide HM _).mono ?_; rintro e w5 ⟨rfl, hb5⟩)
                all_goals
                  have HB5 : Hid (Below wr.heap.size wr w5) := (⟨rfl, rfl, rfl, Nat.le_refl _, fun _ _ => rfl⟩ : Below wr.heap.size wr wr.drew).trans hb5
                  clear hb5
                  go_wp2_with fail
                  go_meet
                  exact ⟨_, rfl, rfl, HB5⟩
              case rest =>
                obtain ⟨w5, hw5, rfl, HB5⟩ := hcut
                subst hw5
                have hB5 := unhide HB5
                have k5 : w5.cell? ⟨d, 2, none⟩ = some (.slice (some ⟨b, 0, none⟩) K.length kc) := (hB5.cell (p := ⟨d, 2, none⟩) hdp).trans k1
                have y5 : w5.cell? ⟨X, 1, none⟩ = some (.string g) := (hB5.cell (p := ⟨X, 1, none⟩) hXr).trans y1
                obtain ⟨e5, e6⟩ := unhide HCS w5 hB5
                have HR5 := hide ((unhide HRW).below hB5)
                have HF5 := hide ((unhide HFR).trans (Fr.of_below hB5))
                clear hB5 HB5 k1 y1 y2 e1 e2 HRW HFR HCS HM
                cases bm
                · have HE : Hid (G (k + 1) = G k) := (unhide HGK1).trans (by simp)
                  go_wp2_with fail
                  go_roundg (K.length - (k + 1))
                  case measure => omega
                  case rel => exact ⟨k + 1, by omega, rfl, by go_num, ⟨S', by rw [unhide HE]; exact unhide HR5, unhide HF5⟩⟩
                · cases bg
                  · have HE : Hid (G (k + 1) = G k) := (unhide HGK1).trans (by simp)
                    go_wp2_with fail
                    go_roundg (K.length - (k + 1))
                    case measure => omega
                    case rel => exact ⟨k + 1, by omega, rfl, by go_num, ⟨S', by rw [unhide HE]; exact unhide HR5, unhide HF5⟩⟩
                  · have HE : Hid (G (k + 1) = rdel (G k) n (x.1 ++ 61 :: x.2)) := (unhide HGK1).trans (by simp)
                    go_wp2_with fail
                    go_region_with (go_at_call 30; refine (unhide HDL _ ?_).mono ?_; (exact (unhide HR5).below ⟨rfl, rfl, rfl, Nat.le_refl _, fun _ _ => rfl⟩); rintro e w6 ⟨⟨v6, rfl⟩, S6, hr6, hf6⟩)
                    all_goals
                      have HZ6 : Hid (∃ S', RefAt w6 d S' (G (k + 1)) ∧ Fr S2 w2 w6 S') := ⟨S6, by rw [unhide HE]; exact hr6, (unhide HF5).trans ((show Fr S' w5 w5.drew S' from Fr.of_below ⟨rfl, rfl, rfl, Nat.le_refl _, fun _ _ => rfl⟩).trans hf6)⟩
                      clear hr6 hf6
                      go_wp2_with fail
                      go_roundg (K.length - (k + 1))
                      case measure => omega
                      case rel => exact ⟨k + 1, by omega, rfl, by go_num, HZ6⟩
            · have hke : k = K.length := by omega
              subst hke
              clear hkat
              go_wp2_with fail
              go_ret2
              rw [unhide HGE]
              exact ⟨rfl, S', unhide HRW, (unhide HF3).trans (unhide HFR)⟩
  · have hb0 : ((rcheck R c s.data.toList).1 != 0) = true := by simp [hk0]
    have HR : Hid (rsub R c s.data.toList = (rcheck R c s.data.toList, R)) := by unfold Hid rsub; rw [if_pos hk0]
    rw [unhide HR]
    clear h HR hk0
    generalize rcheck R c s.data.toList = ck at *
    go_enter Tryz.func33, Tryz.ntmps33
    go_wp2_with fail
    refine (unhide HME).mono ?_
    rintro e w1 ⟨k0, g, f, rfl, hb1, hx⟩
    have HB1 := hide (hb1.alloc hb1.size (.cells #[.int .i64 k0, .string g, .string f, .int .i64 0] 121))
    clear hb1 hx
    go_wp2_with fail
    go_ret2
    exact RefPost.same (unhide HH) (unhide HB1)

end Go.Proofs.YtchhmojnoiephabGreatDoor
