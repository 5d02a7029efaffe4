import Derived.Test.YtchhmojnoiephabHubL
/- The program's hub: Subscribe. -/
namespace Go.Proofs.Ytchhmojnoiephab
open Go.ChangeShapes Go.WideShapes Go.ChangeAt Go.RowKit
set_option linter.unusedVariables false

def checkS (H : HubL) (c : Int) (s : List UInt8) : Int × Int :=
  if cliB c = true then (if 24 < s.length then (1, 0) else if (filterR (partS s).2).1 ≠ 0 then ((filterR (partS s).2).1, (s.length : Int) - ((partS s).2.length : Int) + (filterR (partS s).2).2) else if H.on c.toNat = true then (0, 0) else (9, 0)) else (4, 0)
theorem badF_le (l : List UInt8) : ∀ (p : Int) (sl i j : Nat), badF p sl i l = some j → j < i + l.length := by
  induction l with
  | nil => intro p sl i j h; simp [badF] at h
  | cons c r ih =>
    intro p sl i j h
    simp only [badF] at h
    split at h
    · have := ih _ _ _ _ h
      simp; omega
    · simp at h; subst h; simp
theorem filterR_place (l : List UInt8) : 0 ≤ (filterR l).2 ∧ (filterR l).2 ≤ 24 := by
  unfold filterR
  split
  · simp
  · split
    · simp
    · cases hb : badF 47 0 0 l with
      | none => simp
      | some j => have := badF_le l _ _ _ _ hb; simp only; omega
theorem partS_len (L : List UInt8) : (partS L).1.length ≤ L.length ∧ (partS L).2.length ≤ L.length := by
  by_cases h : L.take 7 = shareL
  · rw [part_of L _ _ h rfl rfl]
    have h1 : ((L.drop 7).takeWhile lowB).length ≤ L.length := Nat.le_trans (List.takeWhile_sublist _).length_le (by rw [List.length_drop]; omega)
    have h2 : ((L.drop 7).dropWhile lowB).length ≤ L.length := Nat.le_trans (List.dropWhile_sublist _).length_le (by rw [List.length_drop]; omega)
    generalize (L.drop 7).takeWhile lowB = tw at *
    generalize (L.drop 7).dropWhile lowB = dw at *
    cases tw with
    | nil => simp [partM]
    | cons a g =>
      cases dw with
      | nil => simp [partM]
      | cons b r =>
        simp only [partM]
        split
        · exact ⟨h1, by show r.length ≤ L.length; simp at h2; omega⟩
        · simp
  · rw [part_none L h]; simp

set_option maxHeartbeats 2000000 in
theorem checkSub_any (p : Nat) (S : Nat → Prop) (H : HubL) (c : Int) (s : ByteArray) (hs : s.size ≤ maxLen) (w : World) (h : HubAt w p S H) :
    Calls Try.prog 28 #[.pointer (some ⟨p, 0, none⟩), .int .i64 c, .string s] w fun e w' => e = .returned (.tuple #[.int .i64 (checkS H c s.data.toList).1, .int .i64 (checkS H c s.data.toList).2]) ∧ ∃ n, w' = w.drewN n := by
  unfold maxLen at hs
  have HHE := hide (fun x (hb : Below w.heap.size w x) => isHere_any p S H c x (h.below hb))
  clear h
  cases hc : cliB c with
  | false =>
    have HR : Hid (checkS H c s.data.toList = (4, 0)) := by unfold Hid checkS; rw [if_neg (by simp [hc])]
    rw [unhide HR]
    go_enter Try.func28, Try.ntmps28
    go_wp2_with fail
    refine (isClient_any _ _).mono ?_
    rw [hc]
    rintro e w' ⟨rfl, rfl⟩
    go_wp2_with fail
    go_ret2
    exact ⟨rfl, 0, rfl⟩
  | true =>
    by_cases h24 : 24 < s.size
    · have HR : Hid (checkS H c s.data.toList = (1, 0)) := by unfold Hid checkS; rw [if_pos hc, if_pos (by rw [len_list]; exact h24)]
      rw [unhide HR]
      have hI : (24 : Int) < (s.size : Int) := by omega
      go_enter Try.func28, Try.ntmps28
      go_wp2_with fail
      refine (isClient_any _ _).mono ?_
      rw [hc]
      rintro e w' ⟨rfl, rfl⟩
      go_wp2_with fail
      go_ret2
      exact ⟨rfl, 0, rfl⟩
    · have hI : decide ((24 : Int) < (s.size : Int)) = false := by simp; omega
      have hpl := (partS_len s.data.toList).2
      rw [len_list] at hpl
      by_cases hf0 : (filterR (partS s.data.toList).2).1 = 0
      · have hfb : ((filterR (partS s.data.toList).2).1 != 0) = false := by simp [hf0]
        have HR : Hid (checkS H c s.data.toList = if H.on c.toNat = true then (0, 0) else (9, 0)) := by unfold Hid checkS; rw [if_pos hc, if_neg (by rw [len_list]; exact h24), if_neg (by simp [hf0])]
        rw [unhide HR]
        obtain ⟨n, rfl, hn⟩ := cliB_nat hc
        rw [hereB_of H n hn] at HHE
        rw [Int.toNat_natCast]
        cases hon : H.on n with
        | true =>
          rw [hon] at HHE
          rw [if_pos rfl]
          go_enter Try.func28, Try.ntmps28
          go_wp2_with fail
          refine (isClient_any _ _).mono ?_
          rw [hc]
          rintro e w' ⟨rfl, rfl⟩
          go_wp2_with fail
          refine (split_any' s _ (by omega)).mono ?_
          rintro e w2 ⟨g, f, rfl, hg, hf, nn, rfl⟩
          go_wp2_with fail
          refine (hubFilter_any f _ (by rw [← len_list, hf]; unfold maxLen; omega)).mono ?_
          rw [hf]
          rintro e w3 ⟨rfl, rfl⟩
          go_wp2_with fail
          refine (unhide HHE (w'.drewN nn) ⟨rfl, rfl, rfl, Nat.le_refl _, fun _ _ => rfl⟩).mono ?_
          rintro e w4 ⟨rfl, rfl⟩
          go_wp2_with fail
          go_ret2
          exact ⟨rfl, nn, rfl⟩
        | false =>
          rw [hon] at HHE
          rw [if_neg (by simp)]
          go_enter Try.func28, Try.ntmps28
          go_wp2_with fail
          refine (isClient_any _ _).mono ?_
          rw [hc]
          rintro e w' ⟨rfl, rfl⟩
          go_wp2_with fail
          refine (split_any' s _ (by omega)).mono ?_
          rintro e w2 ⟨g, f, rfl, hg, hf, nn, rfl⟩
          go_wp2_with fail
          refine (hubFilter_any f _ (by rw [← len_list, hf]; unfold maxLen; omega)).mono ?_
          rw [hf]
          rintro e w3 ⟨rfl, rfl⟩
          go_wp2_with fail
          refine (unhide HHE (w'.drewN nn) ⟨rfl, rfl, rfl, Nat.le_refl _, fun _ _ => rfl⟩).mono ?_
          rintro e w4 ⟨rfl, rfl⟩
          go_wp2_with fail
          go_ret2
          exact ⟨rfl, nn, rfl⟩
      · have hfb : ((filterR (partS s.data.toList).2).1 != 0) = true := by simp [hf0]
        have HR : Hid (checkS H c s.data.toList = ((filterR (partS s.data.toList).2).1, (s.size : Int) - ((partS s.data.toList).2.length : Int) + (filterR (partS s.data.toList).2).2)) := by
          unfold Hid checkS; rw [if_pos hc, if_neg (by rw [len_list]; exact h24), if_pos hf0, len_list]
        rw [unhide HR]
        have hfp := filterR_place (partS s.data.toList).2
        generalize hfr : filterR (partS s.data.toList).2 = fr at *
        have HFR := hide hfr
        clear hfr
        go_enter Try.func28, Try.ntmps28
        go_wp2_with fail
        refine (isClient_any _ _).mono ?_
        rw [hc]
        rintro e w' ⟨rfl, rfl⟩
        go_wp2_with fail
        refine (split_any' s _ (by omega)).mono ?_
        rintro e w2 ⟨g, f, rfl, hg, hf, nn, rfl⟩
        have hfl : f.size = (partS s.data.toList).2.length := by rw [← hf, len_list]
        go_wp2_with fail
        refine (hubFilter_any f _ (by rw [hfl]; unfold maxLen; omega)).mono ?_
        rw [hf, unhide HFR]
        rintro e w3 ⟨rfl, rfl⟩
        have hw1 : IntKind.i64.wrap ((s.size : Int) - (f.size : Int)) = (s.size : Int) - (f.size : Int) := by rw [IntKind.wrap_i64]; omega
        have hw2 : IntKind.i64.wrap ((s.size : Int) - (f.size : Int) + fr.2) = (s.size : Int) - (f.size : Int) + fr.2 := by rw [IntKind.wrap_i64]; omega
        go_wp2_with fail
        go_ret2
        exact ⟨by rw [← hfl]; rfl, nn, rfl⟩

/-- what is kept is delivered to who subscribes -/
def delK (n : Nat) (f : List UInt8) : HubL → List MsgL → HubL
  | H, [] => H
  | H, m :: K => delK n f (if matchB f m.1 = true then delH H n m else H) K
theorem delK_step (n : Nat) (f : List UInt8) (H : HubL) (K : List MsgL) (k : Nat) (h : k < K.length) : delK n f H (K.drop k) = delK n f (if matchB f K[k].1 = true then delH H n K[k] else H) (K.drop (k + 1)) := by
  rw [List.drop_eq_getElem_cons h]; rfl
theorem delK_good (n : Nat) (f : List UInt8) (K : List MsgL) (hK : ∀ m ∈ K, smallM m) : ∀ H, goodH H → goodH (delK n f H K) := by
  induction K with
  | nil => intro H h; exact h
  | cons m K ih =>
    intro H h
    simp only [delK]
    refine ih (fun x hx => hK x (by simp [hx])) _ ?_
    split
    · exact del_good h n m (hK m (by simp))
    · exact h

/-- the hub while its kept messages are delivered -/
structure Dlv (w wr : World) (p : Nat) (qv : Nat → Value) (sv kv : Value) (K : List MsgL) (H : HubL) : Prop where
  hub : ∃ A' qv', HubW wr p A' qv' sv kv H ∧ Fr (blkS p qv sv kv) w wr (blkS p qv' sv kv)
  good : goodH H
  kept : H.kept = K
theorem Dlv.on {w wr w2 : World} {p : Nat} {qv : Nat → Value} {sv kv : Value} {K : List MsgL} {H : HubL} (h : Dlv w wr p qv sv kv K H) (hb : Below wr.heap.size wr w2) : Dlv w w2 p qv sv kv K H := by
  obtain ⟨A', qv', h1, h2⟩ := h.hub
  exact ⟨⟨A', qv', h1.below hb, h2.trans (Fr.of_below hb)⟩, h.good, h.kept⟩

set_option maxHeartbeats 2000000 in
theorem delKept_any (p : Nat) (S : Nat → Prop) (H : HubL) (n : Nat) (hn : n < 6) (f : ByteArray) (hf : f.size ≤ 24) (w : World) (h : HubAt w p S H) :
    Calls Try.prog 31 #[.pointer (some ⟨p, 0, none⟩), .int .i64 n, .string f] w (HubDone w p S (delK n f.data.toList H H.kept)) := by
  obtain ⟨A, qv, sv, kv, hw, rfl⟩ := h.body
  have hDL : Dlv w w p qv sv kv H.kept H := ⟨⟨A, qv, hw, Fr.of_below (Below.refl _ _)⟩, h.good, rfl⟩
  obtain ⟨a, l, c, rfl⟩ := own_slice hw.kown
  have hl : l = H.kept.length := own_len hw.kown
  subst hl
  have z0 := cell_block hw.blk hw.keptc
  have hp := hw.lt
  have hk4 := h.good.kept.1
  have HKS := hide h.good.kept.2
  have HD := hide hDL
  have HA : Hid (delK n f.data.toList H H.kept = delK n f.data.toList H (H.kept.drop 0)) := by unfold Hid; rw [List.drop_zero]
  clear h hw hDL
  generalize hfin : delK n f.data.toList H H.kept = fin at *
  clear hfin
  generalize H.kept = K at *
  go_enter Try.func31, Try.ntmps31
  go_wp2_with fail
  go_loopg [7, 13] K.length (fun gk _ i wr => ∃ (k : Nat) (H' : HubL), k ≤ K.length ∧ gk = K.length - k ∧ i = .int .i64 k ∧ Hid (fin = delK n f.data.toList H' (K.drop k)) ∧ Hid (Dlv w wr p qv sv (.slice a K.length c) K H'))
  case atStart => exact ⟨0, H, by omega, by omega, rfl, HA, HD⟩
  case round =>
    clear HD HA z0
    obtain ⟨k, H', hk, rfl, rfl, HA, HD⟩ := hrel
    by_cases hlt : k < K.length
    · obtain ⟨A', qv', hw', hf'⟩ := (unhide HD).hub
      have hkn := hw'.kown
      rw [(unhide HD).kept] at hkn
      obtain ⟨g, cap, hv⟩ := own_form hkn (by omega)
      simp only [Value.slice.injEq] at hv
      obtain ⟨rfl, _, rfl⟩ := hv
      have hcc := own_cap hkn
      unfold maxLen at hcc
      obtain ⟨hcc1, hcc2⟩ := hcc
      obtain ⟨e1, e2⟩ := own_msg hkn hlt
      have hsm := unhide HKS _ (List.getElem_mem hlt)
      have HST := hide (delK_step n f.data.toList H' K k hlt)
      have HMT : Hid (∀ x, Calls Try.prog 40 #[.string f, .string ⟨K[k].1.toArray⟩] x fun e w' => e = .returned (.bool (matchB f.data.toList K[k].1)) ∧ w' = x) := by
        intro x
        have := matches_any f (⟨K[k].1.toArray⟩ : ByteArray) x hf (by rw [Lib.size_eq]; simpa using hsm.1)
        simpa using this
      have hbA : Below wr.heap.size wr (wr.alloc (.cells #[.string ⟨K[k].1.toArray⟩, .string ⟨K[k].2.toArray⟩] 48)) := (Below.refl _ wr).alloc (Nat.le_refl _) _
      have HDL : Hid (Calls Try.prog 36 #[.pointer (some ⟨p, 0, none⟩), .int .i64 n, .agg #[.string ⟨K[k].1.toArray⟩, .string ⟨K[k].2.toArray⟩]] (wr.alloc (.cells #[.string ⟨K[k].1.toArray⟩, .string ⟨K[k].2.toArray⟩] 48)) (DelPost (wr.alloc (.cells #[.string ⟨K[k].1.toArray⟩, .string ⟨K[k].2.toArray⟩] 48)) p qv' sv (.slice (some ⟨g, 0, none⟩) K.length c) (delH H' n K[k]))) :=
        deliver_w p A' qv' sv _ H' n hn K[k] hsm _ (hw'.below hbA) (unhide HD).good
      have HNX : Hid (∀ w3 A3 qv3, HubW w3 p A3 qv3 sv (.slice (some ⟨g, 0, none⟩) K.length c) (delH H' n K[k]) → Fr (blkS p qv' sv (.slice (some ⟨g, 0, none⟩) K.length c)) (wr.alloc (.cells #[.string ⟨K[k].1.toArray⟩, .string ⟨K[k].2.toArray⟩] 48)) w3 (blkS p qv3 sv (.slice (some ⟨g, 0, none⟩) K.length c)) → Dlv w w3 p qv sv (.slice (some ⟨g, 0, none⟩) K.length c) K (delH H' n K[k])) := by
        intro w3 A3 qv3 x1 x2
        exact ⟨⟨A3, qv3, x1, (hf'.trans (Fr.of_below hbA)).trans x2⟩, del_good (unhide HD).good n _ hsm, (del_subs H' n K[k]).2.1.trans (unhide HD).kept⟩
      have HON := hide ((unhide HD).on hbA)
      clear hw' hf' hkn hsm hbA HD
      generalize matchB f.data.toList K[k].1 = mb at *
      generalize delH H' n K[k] = H2 at *
      generalize (⟨K[k].1.toArray⟩ : ByteArray) = ks at *
      generalize (⟨K[k].2.toArray⟩ : ByteArray) = kp at *
      cases mb
      · have HZ := hide ((unhide HA).trans (unhide HST))
        rw [if_neg (by simp)] at HZ
        go_wp2_with fail
        refine (unhide HMT _).mono ?_
        rintro e w2 ⟨rfl, rfl⟩
        go_wp2_with fail
        go_roundg (K.length - (k + 1))
        case measure => omega
        case rel => exact ⟨k + 1, H', by omega, rfl, by go_num, HZ, HON⟩
      · have HZ := hide ((unhide HA).trans (unhide HST))
        rw [if_pos rfl] at HZ
        go_wp2_with fail
        refine (unhide HMT _).mono ?_
        rintro e w2 ⟨rfl, rfl⟩
        go_wp2_with fail
        refine (unhide HDL).mono ?_
        rintro e w3 ⟨⟨v3, rfl⟩, A3, qv3, x1, x2⟩
        have HD3 := hide (unhide HNX w3 A3 qv3 x1 x2)
        clear x1 x2
        go_wp2_with fail
        go_roundg (K.length - (k + 1))
        case measure => omega
        case rel => exact ⟨k + 1, H2, by omega, rfl, by go_num, HZ, HD3⟩
    · rw [List.drop_eq_nil_of_le (by omega)] at HA
      have HEN : Hid (∃ S', HubAt wr p S' fin ∧ Fr (blkS p qv sv (.slice a K.length c)) w wr S') := by
        obtain ⟨A', qv', hw', hf'⟩ := (unhide HD).hub
        have hfe : fin = H' := unhide HA
        rw [hfe]
        exact ⟨_, ⟨⟨A', qv', sv, _, hw', rfl⟩, (unhide HD).good⟩, hf'⟩
      go_wp2_with fail
      go_end0
      obtain ⟨S', t1, t2⟩ := unhide HEN
      exact ⟨⟨_, rfl⟩, S', t1, t2⟩

end Go.Proofs.Ytchhmojnoiephab
