import Derived.Test.YtchhmojnoiephabHubH
import GoSem.Op.String
/- The program's hub: what is kept. -/
namespace Go.Proofs.Ytchhmojnoiephab
open Go.ChangeShapes Go.WideShapes Go.ChangeAt Go.RowKit
set_option linter.unusedVariables false

def ltL (m k : List UInt8) : Bool := Go.Op.bytesLess k m
def gtL (m k : List UInt8) : Bool := !(Go.Op.bytesLess k m || k == m)
def putK (K : List MsgL) (m : MsgL) : List MsgL := (K.filter (fun k => ltL m.1 k.1) ++ (if decide (m.2 = []) = true then [] else [m])) ++ K.filter (fun k => gtL m.1 k.1)
def roomB (K : List MsgL) (m : MsgL) : Bool := decide (m.2 = []) || (decide (K.length < 4) || K.any (fun k => decide (k.1 = m.1)))
theorem less_irr (a : List UInt8) : Go.Op.bytesLess a a = false := by
  induction a with
  | nil => rfl
  | cons x a ih => simp [Go.Op.bytesLess, ih]
theorem filt_succ (q : MsgL → Bool) (K : List MsgL) (k : Nat) (h : k < K.length) : (K.take (k + 1)).filter q = if q K[k] = true then (K.take k).filter q ++ [K[k]] else (K.take k).filter q := by
  rw [List.take_succ_eq_append_getElem h, List.filter_append]
  cases hq : q K[k] <;> simp [hq]

/-- the hub's kept messages in memory -/
theorem HubAt.keptAt {w : World} {p : Nat} {S : Nat → Prop} {H : HubL} (h : HubAt w p S H) : ∃ a c, w.cell? ⟨p, 19, none⟩ = some (.slice a H.kept.length c) ∧ p < w.heap.size ∧ H.kept.length ≤ 4 ∧
    ∀ k (hk : k < H.kept.length), ∃ g, a = some ⟨g, 0, none⟩ ∧ H.kept.length ≤ c ∧ c ≤ 9223372036854775807 ∧ ∀ w', Below w.heap.size w w' →
      w'.cell? ⟨g, k * 2, none⟩ = some (.string ⟨H.kept[k].1.toArray⟩) ∧ w'.cell? ⟨g, k * 2 + 1, none⟩ = some (.string ⟨H.kept[k].2.toArray⟩) := by
  obtain ⟨A, qv, sv, kv, hw, rfl⟩ := h.body
  obtain ⟨a, l, c, rfl⟩ := own_slice hw.kown
  have hl : l = H.kept.length := own_len hw.kown
  subst hl
  refine ⟨a, c, cell_block hw.blk hw.keptc, hw.lt, h.good.kept.1, fun k hk => ?_⟩
  obtain ⟨g, cap, hv⟩ := own_form hw.kown (by omega)
  simp only [Value.slice.injEq] at hv
  obtain ⟨rfl, _, rfl⟩ := hv
  have hcc := own_cap hw.kown
  unfold maxLen at hcc
  exact ⟨g, rfl, hcc.1, by omega, fun w' hb => own_msg (own_below hw.kown hb) hk⟩

set_option maxHeartbeats 2000000 in
theorem hasRoom_any (p : Nat) (S : Nat → Prop) (H : HubL) (m : MsgL) (w : World) (h : HubAt w p S H) :
    Calls Try.prog 21 #[.pointer (some ⟨p, 0, none⟩), msgV m] w fun e w' => e = .returned (.bool (roomB H.kept m)) ∧ Below w.heap.size w w' := by
  obtain ⟨a, c, c0, hp, hl4, hat⟩ := h.keptAt
  have HAT := hide hat
  clear h hat
  have hAB : Below w.heap.size w (w.alloc (.cells #[strV m.1, strV m.2] 48)) := (Below.refl _ w).alloc (Nat.le_refl _) _
  have HMB := hide (MapKept.heap_alloc w (.cells #[strV m.1, strV m.2] 48)).1
  have HAB := hide hAB
  clear hAB
  have q2 := strNil m.2
  have HQ := hide (fun l => strEq l (⟨m.1.toArray⟩ : ByteArray))
  have hmd : (⟨m.1.toArray⟩ : ByteArray).data.toList = m.1 := by simp
  rw [hmd] at HQ
  have HR : Hid (roomB H.kept m = (decide (m.2 = []) || (decide (H.kept.length < 4) || (H.kept.drop 0).any (fun k => decide (k.1 = m.1))))) := rfl
  clear hmd
  unfold msgV strV at *
  generalize (⟨m.1.toArray⟩ : ByteArray) = mt at *
  generalize (⟨m.2.toArray⟩ : ByteArray) = mp at *
  generalize roomB H.kept m = rr at *
  generalize H.kept = K at *
  cases hpe : decide (m.2 = [])
  · rw [hpe] at q2 HR
    clear hpe
    by_cases h4 : K.length < 4
    · have h4I : decide ((K.length : Int) < 4) = true := by simp; omega
      rw [decide_eq_true h4] at HR
      go_enter Try.func21, Try.ntmps21
      go_wp2_with fail
      go_ret
      exact ⟨ret_bool (unhide HR).symm, unhide HAB⟩
    · have h4I : decide ((K.length : Int) < 4) = false := by simp; omega
      rw [decide_eq_false h4, Bool.false_or, Bool.false_or] at HR
      go_enter Try.func21, Try.ntmps21
      go_wp2_with fail
      go_loopg [6, 23] K.length (fun gk _ i wr => ∃ k : Nat, k ≤ K.length ∧ gk = K.length - k ∧ i = .int .i64 k ∧ Hid (Below w.heap.size w wr) ∧ Hid (rr = (K.drop k).any (fun k => decide (k.1 = m.1))) ∧ Hid (wr.heap[w.heap.size]? = some (.cells #[.string mt, .string mp] 48 (0, 0))))
      case atStart => exact ⟨0, by omega, by omega, rfl, HAB, HR, HMB⟩
      case round =>
        clear HR HMB HAB
        obtain ⟨k, hk, rfl, rfl, HB, HA, HM⟩ := hrel
        have hbs := (unhide HB).size
        have m0 := cell_block (i := 0) (unhide HM) rfl
        have hXr := heap_lt (unhide HM)
        clear c0
        by_cases hlt : k < K.length
        · obtain ⟨b, rfl, hc1, hc2, hcs⟩ := unhide HAT k hlt
          obtain ⟨e1, e2⟩ := hcs wr (unhide HB)
          clear hcs
          have q1 := unhide HQ K[k].1
          rw [List.drop_eq_getElem_cons hlt, List.any_cons] at HA
          generalize (⟨K[k].1.toArray⟩ : ByteArray) = ks at *
          generalize (⟨K[k].2.toArray⟩ : ByteArray) = kp at *
          generalize decide (K[k].1 = m.1) = d at *
          cases d
          · rw [Bool.false_or] at HA
            go_wp2_with fail
            go_roundg (K.length - (k + 1))
            case measure => omega
            case rel => exact ⟨k + 1, by omega, rfl, by go_num, (unhide HB).alloc hbs _, HA, by unfold Hid; rw [Below.heap_alloc _ _ _ hXr]; exact unhide HM⟩
          · rw [Bool.true_or] at HA
            go_wp2_with fail
            go_ret
            exact ⟨ret_bool (unhide HA).symm, (unhide HB).alloc hbs _⟩
        · rw [List.drop_eq_nil_of_le (by omega)] at HA
          go_wp2_with fail
          go_ret
          exact ⟨ret_bool (unhide HA).symm, unhide HB⟩
  · rw [hpe] at q2 HR
    clear hpe
    go_enter Try.func21, Try.ntmps21
    go_wp2_with fail
    go_ret
    exact ⟨ret_bool (unhide HR).symm, unhide HAB⟩

/-- the row of kept messages that is being built; the message at the first new block -/
structure Kpt (w wr : World) (av : Value) (mt mp : ByteArray) (L : List MsgL) : Prop where
  row : wr.ownsRow (w.heap.size + 1) 48 2 av L.length (msgCells L)
  bel : Below w.heap.size w wr
  m : wr.heap[w.heap.size]? = some (.cells #[.string mt, .string mp] 48 (0, 0))
theorem Kpt.on {w wr w2 : World} {av : Value} {mt mp : ByteArray} {L : List MsgL} (h : Kpt w wr av mt mp L) (hb : Below wr.heap.size wr w2) : Kpt w w2 av mt mp L :=
  ⟨own_below h.row hb, h.bel.trans (hb.mono h.bel.size), (hb.block _ (heap_lt h.m)).trans h.m⟩
theorem Kpt.push {w wr w3 : World} {av v' : Value} {mt mp : ByteArray} {L : List MsgL} {x : MsgL} (h : Kpt w wr av mt mp L) (hown : w3.ownsRow (w.heap.size + 1) 48 2 v' (L.length + 1) (msgCells L ++ [strV x.1, strV x.2])) (hgrow : wr.grownBy w3 av.ownBlock) : Kpt w w3 v' mt mp (L ++ [x]) :=
  ⟨by rw [msgCells_snoc, List.length_append]; exact hown, grown_below h.bel hgrow (fun k hk => by have := (h.row.lt k hk).1; omega), by
    rw [hgrow.block _ (heap_lt h.m) (fun e => by have := (h.row.lt _ e.symm).1; omega)]; exact h.m⟩
theorem kept_end {w wr : World} {p : Nat} {A : Array Value} {qv : Nat → Value} {sv kv av : Value} {H : HubL} {mt mp : ByteArray} {L : List MsgL} (hw : HubW w p A qv sv kv H) (hg : goodH { H with kept := L }) (h : Kpt w wr av mt mp L) :
    (wr.cell? ⟨p, 19, none⟩ = some kv ∧ wr.frozen? ⟨p, 19, none⟩ = false) ∧ ∃ S', HubAt (wr.setCell ⟨p, 19, none⟩ av) p S' { H with kept := L } ∧ Fr (blkS p qv sv kv) w (wr.setCell ⟨p, 19, none⟩ av) S' := by
  have hp3 : wr.heap[p]? = some (.cells A 61 (0, 0)) := by rw [h.bel.block p hw.lt]; exact hw.blk
  exact ⟨⟨cell_block hp3 hw.keptc, free_block hp3⟩, hub_setK hw h.bel (own_mono h.row (by omega)) hg⟩

set_option maxHeartbeats 8000000 in
set_option maxRecDepth 1000000 in
theorem putKept_any (p : Nat) (S : Nat → Prop) (H : HubL) (m : MsgL) (hgd : goodH { H with kept := putK H.kept m }) (w : World) (h : HubAt w p S H) :
    Calls Try.prog 22 #[.pointer (some ⟨p, 0, none⟩), msgV m] w (HubDone w p S { H with kept := putK H.kept m }) := by
  obtain ⟨i0, hi, hz0, hz1, hz2⟩ := info_parts info_msg
  obtain ⟨a, c, c0, hp, hl4, hat⟩ := h.keptAt
  obtain ⟨A, qv, sv0, kv, hw, rfl⟩ := h.body
  obtain ⟨a0, l0, cc0, hkv⟩ := own_slice hw.kown
  subst hkv
  have HAT := hide hat
  have HC0 := hide c0
  have HSM : Hid (strV m.1 = .string ⟨m.1.toArray⟩ ∧ strV m.2 = .string ⟨m.2.toArray⟩) := ⟨rfl, rfl⟩
  have HEND := hide (fun wr av => kept_end (wr := wr) (av := av) (mt := (⟨m.1.toArray⟩ : ByteArray)) (mp := (⟨m.2.toArray⟩ : ByteArray)) hw hgd)
  have HK0 : Hid (Kpt w (w.alloc (.cells #[.string ⟨m.1.toArray⟩, .string ⟨m.2.toArray⟩] 48)) (.slice none 0 0) ⟨m.1.toArray⟩ ⟨m.2.toArray⟩ []) :=
    ⟨World.ownsRow_nil _ _ _ _, (Below.refl _ w).alloc (Nat.le_refl _) _, (MapKept.heap_alloc w _).1⟩
  have HQ1 : Hid (∀ l : List UInt8, Go.Op.bytesLess (⟨l.toArray⟩ : ByteArray).toList (⟨m.1.toArray⟩ : ByteArray).toList = ltL m.1 l) := fun l => by rw [Lib.toList_data, Lib.toList_data]; unfold ltL; simp
  have HQ2 : Hid (∀ l : List UInt8, (!(Go.Op.bytesLess (⟨l.toArray⟩ : ByteArray).toList (⟨m.1.toArray⟩ : ByteArray).toList || (⟨l.toArray⟩ : ByteArray).toList == (⟨m.1.toArray⟩ : ByteArray).toList)) = gtL m.1 l) := fun l => by rw [Lib.toList_data, Lib.toList_data]; unfold gtL; simp
  have HMP := hide (strNnil m.2)
  clear h hat hw hgd
  generalize H.kept = K at *
  obtain ⟨FA, hFA⟩ : ∃ F : Nat → List MsgL, F = fun k => (K.take k).filter (fun k => ltL m.1 k.1) := ⟨_, rfl⟩
  obtain ⟨FB, hFB⟩ : ∃ F : Nat → List MsgL, F = fun k => (FA K.length ++ (if decide (m.2 = []) = true then [] else [m])) ++ (K.take k).filter (fun k => gtL m.1 k.1) := ⟨_, rfl⟩
  have HF10 : Hid (FA 0 = []) := by subst hFA; rfl
  have HF1S : Hid (∀ k (hk : k < K.length), FA (k + 1) = if ltL m.1 K[k].1 = true then FA k ++ [K[k]] else FA k) := fun k hk => by subst hFA; exact filt_succ _ K k hk
  have HF1L : Hid (∀ k, (FA k).length ≤ 4) := fun k => by subst hFA; exact Nat.le_trans (List.length_filter_le _ _) (by rw [List.length_take]; omega)
  have HFB0 : Hid (FB 0 = FA K.length ++ (if decide (m.2 = []) = true then [] else [m])) := by subst hFB; unfold Hid; simp
  have HFBS : Hid (∀ k (hk : k < K.length), FB (k + 1) = if gtL m.1 K[k].1 = true then FB k ++ [K[k]] else FB k) := fun k hk => by
    subst hFB
    show _ ++ (K.take (k + 1)).filter _ = _
    rw [filt_succ _ K k hk]
    cases hq : gtL m.1 K[k].1 <;> simp
  have HFBL : Hid (∀ k, (FB k).length ≤ 9) := fun k => by
    subst hFB
    have h1 := unhide HF1L K.length
    have h2 := List.length_filter_le (fun k : MsgL => gtL m.1 k.1) (K.take k)
    rw [List.length_take] at h2
    rw [List.length_append, List.length_append]
    split <;> simp <;> omega
  have HFBE : Hid (FB K.length = putK K m) := by subst hFB; subst hFA; unfold Hid putK; simp
  clear hFA hFB
  unfold msgV strV
  generalize (⟨m.1.toArray⟩ : ByteArray) = mt at *
  generalize (⟨m.2.toArray⟩ : ByteArray) = mp at *
  go_enter Try.func22, Try.ntmps22
  go_wp2_with fail
  go_loopg [4, 6, 14] K.length (fun gk av _ i wr => ∃ k : Nat, k ≤ K.length ∧ gk = K.length - k ∧ i = .int .i64 k ∧ Hid (Kpt w wr av mt mp (FA k)))
  case atStart => exact ⟨0, by omega, by omega, rfl, by rw [unhide HF10]; exact HK0⟩
  case round =>
    clear HK0
    obtain ⟨k, hk, rfl, rfl, HK⟩ := hrel
    have hbs := (unhide HK).bel.size
    have m0 := cell_block (i := 0) (unhide HK).m rfl
    have m1 := cell_block (i := 1) (unhide HK).m rfl
    have hXr := heap_lt (unhide HK).m
    have c1 : wr.cell? ⟨p, 19, none⟩ = some (.slice a K.length c) := ((unhide HK).bel.cell (p := ⟨p, 19, none⟩) hp).trans (unhide HC0)
    obtain ⟨av, lv, cv, rfl⟩ := own_slice (unhide HK).row
    by_cases hlt : k < K.length
    · obtain ⟨b, rfl, hc1, hc2, hcs⟩ := unhide HAT k hlt
      obtain ⟨e1, e2⟩ := hcs wr (unhide HK).bel
      clear hcs
      have q1 := unhide HQ1 K[k].1
      have HFS := hide (unhide HF1S k hlt)
      have hfl := unhide HF1L k
      have HS1 : Hid (strV K[k].1 = .string ⟨K[k].1.toArray⟩ ∧ strV K[k].2 = .string ⟨K[k].2.toArray⟩) := ⟨rfl, rfl⟩
      generalize (⟨K[k].1.toArray⟩ : ByteArray) = ks at *
      generalize (⟨K[k].2.toArray⟩ : ByteArray) = kp at *
      generalize K[k] = x at *
      cases hbl : ltL m.1 x.1
      · rw [hbl] at q1 HFS
        rw [if_neg (by simp)] at HFS
        clear hbl
        go_wp2_with fail
        go_roundg (K.length - (k + 1))
        case measure => omega
        case rel => exact ⟨k + 1, by omega, rfl, by go_num, by rw [unhide HFS]; exact (unhide HK).on ((Below.refl _ _).alloc (Nat.le_refl _) _)⟩
      · rw [hbl] at q1 HFS
        rw [if_pos rfl] at HFS
        clear hbl
        have HKA := hide (((unhide HK).on ((Below.refl _ wr).alloc (Nat.le_refl _) (.cells #[.string ks, .string kp] 48))).on ((Below.refl _ _).alloc (Nat.le_refl _) (.cells #[.string ks, .string kp] 48)))
        go_wp2_with (at_builtin; refine wpList_append_own _ rfl _ _ 55 rfl (w.heap.size + 1) 48 i0 (.agg #[.string ByteArray.empty, .string ByteArray.empty]) 2 32 Try.underlying55 hi hz0 hz1 hz2 rfl (by decide) _ _ _ rfl (unhide HKA).row ⟨wr.heap.size + 1, 0, none⟩ 1 1 [.string ks, .string kp] rfl rfl ?c1 ?c2 ?c3 ?c4 ?c5 ?_)
        first
          | (case c1 =>
              intro j u hj
              match j, hj with
              | 0, hj => simp at hj; subst hj; simp [Addr.add]
              | 1, hj => simp at hj; subst hj; simp [Addr.add])
          | skip
        case c2 => intro u hu; simp at hu; rcases hu with rfl | rfl <;> rfl
        case c3 => unfold maxLen; omega
        case c4 => omega
        case c5 => first | omega | (simp; omega)
        intro v' w3 hown' hgrow _
        have HK3 := hide ((unhide HKA).push (x := x) (by rw [(unhide HS1).1, (unhide HS1).2]; exact hown') hgrow)
        clear hown' hgrow HKA
        go_wp2_with fail
        go_roundg (K.length - (k + 1))
        case measure => omega
        case rel => exact ⟨k + 1, by omega, rfl, by go_num, by rw [unhide HFS]; exact HK3⟩
    · have hke : k = K.length := by omega
      subst hke
      clear hlt
      have hpl := unhide HF1L K.length
      cases hpe : decide (m.2 = [])
      · have q2 : (mp.toList != []) = true := by rw [unhide HMP, hpe]; rfl
        have q3 : (mp.toList == []) = false := by
          have h := q2
          cases hh : (mp.toList == []) with
          | true => rw [bne, hh] at h; cases h
          | false => rfl
        rw [hpe, if_neg (by simp)] at HFB0
        clear hpe
        have HKA := hide ((unhide HK).on ((Below.refl _ wr).alloc (Nat.le_refl _) (.cells #[.string mt, .string mp] 48)))
        go_wp2_with (at_builtin; refine wpList_append_own _ rfl _ _ 55 rfl (w.heap.size + 1) 48 i0 (.agg #[.string ByteArray.empty, .string ByteArray.empty]) 2 32 Try.underlying55 hi hz0 hz1 hz2 rfl (by decide) _ _ _ rfl (unhide HKA).row ⟨wr.heap.size, 0, none⟩ 1 1 [.string mt, .string mp] rfl rfl ?c1 ?c2 ?c3 ?c4 ?c5 ?_)
        first
          | (case c1 =>
              intro j u hj
              match j, hj with
              | 0, hj => simp at hj; subst hj; simp [Addr.add]
              | 1, hj => simp at hj; subst hj; simp [Addr.add])
          | skip
        case c2 => intro u hu; simp at hu; rcases hu with rfl | rfl <;> rfl
        case c3 => unfold maxLen; omega
        case c4 => omega
        case c5 => first | omega | (simp; omega)
        intro v' w3 hown' hgrow _
        have HK0 := hide ((unhide HKA).push (x := m) (by rw [(unhide HSM).1, (unhide HSM).2]; exact hown') hgrow)
        clear hown' hgrow HKA HK m0 m1 c1
        rw [← unhide HFB0] at HK0
        have c1 : w3.cell? ⟨p, 19, none⟩ = some (.slice a K.length c) := ((unhide HK0).bel.cell (p := ⟨p, 19, none⟩) hp).trans (unhide HC0)
        obtain ⟨av2, lv2, cv2, rfl⟩ := own_slice (unhide HK0).row
        go_wp2_with fail
        clear c1
        go_loopg [4, 8, 40] K.length (fun gk av _ i wr => ∃ k : Nat, k ≤ K.length ∧ gk = K.length - k ∧ i = .int .i64 k ∧ Hid (Kpt w wr av mt mp (FB k)))
        case atStart => exact ⟨0, by omega, by omega, rfl, HK0⟩
        case round =>
          clear HK0
          obtain ⟨k, hk, rfl, rfl, HK⟩ := hrel
          have hbs := (unhide HK).bel.size
          have m0 := cell_block (i := 0) (unhide HK).m rfl
          have m1 := cell_block (i := 1) (unhide HK).m rfl
          have hXr := heap_lt (unhide HK).m
          have c1 : wr.cell? ⟨p, 19, none⟩ = some (.slice a K.length c) := ((unhide HK).bel.cell (p := ⟨p, 19, none⟩) hp).trans (unhide HC0)
          obtain ⟨av, lv, cv, rfl⟩ := own_slice (unhide HK).row
          by_cases hlt : k < K.length
          · obtain ⟨b, rfl, hc1, hc2, hcs⟩ := unhide HAT k hlt
            obtain ⟨e1, e2⟩ := hcs wr (unhide HK).bel
            clear hcs
            have q1 := unhide HQ2 K[k].1
            have HFS := hide (unhide HFBS k hlt)
            have hfl := unhide HFBL k
            have HS1 : Hid (strV K[k].1 = .string ⟨K[k].1.toArray⟩ ∧ strV K[k].2 = .string ⟨K[k].2.toArray⟩) := ⟨rfl, rfl⟩
            generalize (⟨K[k].1.toArray⟩ : ByteArray) = ks at *
            generalize (⟨K[k].2.toArray⟩ : ByteArray) = kp at *
            generalize K[k] = x at *
            cases hbl : gtL m.1 x.1
            · rw [hbl] at q1 HFS
              rw [if_neg (by simp)] at HFS
              clear hbl
              go_wp2_with fail
              go_roundg (K.length - (k + 1))
              case measure => omega
              case rel => exact ⟨k + 1, by omega, rfl, by go_num, by rw [unhide HFS]; exact (unhide HK).on ((Below.refl _ _).alloc (Nat.le_refl _) _)⟩
            · rw [hbl] at q1 HFS
              rw [if_pos rfl] at HFS
              clear hbl
              have HKA := hide (((unhide HK).on ((Below.refl _ wr).alloc (Nat.le_refl _) (.cells #[.string ks, .string kp] 48))).on ((Below.refl _ _).alloc (Nat.le_refl _) (.cells #[.string ks, .string kp] 48)))
              go_wp2_with (at_builtin; refine wpList_append_own _ rfl _ _ 55 rfl (w.heap.size + 1) 48 i0 (.agg #[.string ByteArray.empty, .string ByteArray.empty]) 2 32 Try.underlying55 hi hz0 hz1 hz2 rfl (by decide) _ _ _ rfl (unhide HKA).row ⟨wr.heap.size + 1, 0, none⟩ 1 1 [.string ks, .string kp] rfl rfl ?c1 ?c2 ?c3 ?c4 ?c5 ?_)
              first
                | (case c1 =>
                    intro j u hj
                    match j, hj with
                    | 0, hj => simp at hj; subst hj; simp [Addr.add]
                    | 1, hj => simp at hj; subst hj; simp [Addr.add])
                | skip
              case c2 => intro u hu; simp at hu; rcases hu with rfl | rfl <;> rfl
              case c3 => unfold maxLen; omega
              case c4 => omega
              case c5 => first | omega | (simp; omega)
              intro v' w3 hown' hgrow _
              have HK3 := hide ((unhide HKA).push (x := x) (by rw [(unhide HS1).1, (unhide HS1).2]; exact hown') hgrow)
              clear hown' hgrow HKA
              go_wp2_with fail
              go_roundg (K.length - (k + 1))
              case measure => omega
              case rel => exact ⟨k + 1, by omega, rfl, by go_num, by rw [unhide HFS]; exact HK3⟩
          · have hke : k = K.length := by omega
            subst hke
            rw [unhide HFBE] at HK
            clear m0 m1
            obtain ⟨⟨z1, f1⟩, hst⟩ := unhide HEND _ _ (unhide HK)
            have HST := hide hst
            clear hst
            go_wp2_with fail
            go_end0
            obtain ⟨S', t1, t2⟩ := unhide HST
            exact ⟨⟨_, rfl⟩, S', t1, t2⟩

      · have q2 : (mp.toList != []) = false := by rw [unhide HMP, hpe]; rfl
        have q3 : (mp.toList == []) = true := by
          have h := q2
          cases hh : (mp.toList == []) with
          | false => rw [bne, hh] at h; cases h
          | true => rfl
        rw [hpe, if_pos rfl, List.append_nil] at HFB0
        clear hpe
        go_wp2_with fail
        have HK0 := HK
        clear HK m0 m1 c1
        rw [← unhide HFB0] at HK0
        go_loopg [4, 8, 40] K.length (fun gk av _ i wr => ∃ k : Nat, k ≤ K.length ∧ gk = K.length - k ∧ i = .int .i64 k ∧ Hid (Kpt w wr av mt mp (FB k)))
        case atStart => exact ⟨0, by omega, by omega, rfl, HK0⟩
        case round =>
          clear HK0
          obtain ⟨k, hk, rfl, rfl, HK⟩ := hrel
          have hbs := (unhide HK).bel.size
          have m0 := cell_block (i := 0) (unhide HK).m rfl
          have m1 := cell_block (i := 1) (unhide HK).m rfl
          have hXr := heap_lt (unhide HK).m
          have c1 : wr.cell? ⟨p, 19, none⟩ = some (.slice a K.length c) := ((unhide HK).bel.cell (p := ⟨p, 19, none⟩) hp).trans (unhide HC0)
          obtain ⟨av, lv, cv, rfl⟩ := own_slice (unhide HK).row
          by_cases hlt : k < K.length
          · obtain ⟨b, rfl, hc1, hc2, hcs⟩ := unhide HAT k hlt
            obtain ⟨e1, e2⟩ := hcs wr (unhide HK).bel
            clear hcs
            have q1 := unhide HQ2 K[k].1
            have HFS := hide (unhide HFBS k hlt)
            have hfl := unhide HFBL k
            have HS1 : Hid (strV K[k].1 = .string ⟨K[k].1.toArray⟩ ∧ strV K[k].2 = .string ⟨K[k].2.toArray⟩) := ⟨rfl, rfl⟩
            generalize (⟨K[k].1.toArray⟩ : ByteArray) = ks at *
            generalize (⟨K[k].2.toArray⟩ : ByteArray) = kp at *
            generalize K[k] = x at *
            cases hbl : gtL m.1 x.1
            · rw [hbl] at q1 HFS
              rw [if_neg (by simp)] at HFS
              clear hbl
              go_wp2_with fail
              go_roundg (K.length - (k + 1))
              case measure => omega
              case rel => exact ⟨k + 1, by omega, rfl, by go_num, by rw [unhide HFS]; exact (unhide HK).on ((Below.refl _ _).alloc (Nat.le_refl _) _)⟩
            · rw [hbl] at q1 HFS
              rw [if_pos rfl] at HFS
              clear hbl
              have HKA := hide (((unhide HK).on ((Below.refl _ wr).alloc (Nat.le_refl _) (.cells #[.string ks, .string kp] 48))).on ((Below.refl _ _).alloc (Nat.le_refl _) (.cells #[.string ks, .string kp] 48)))
              go_wp2_with (at_builtin; refine wpList_append_own _ rfl _ _ 55 rfl (w.heap.size + 1) 48 i0 (.agg #[.string ByteArray.empty, .string ByteArray.empty]) 2 32 Try.underlying55 hi hz0 hz1 hz2 rfl (by decide) _ _ _ rfl (unhide HKA).row ⟨wr.heap.size + 1, 0, none⟩ 1 1 [.string ks, .string kp] rfl rfl ?c1 ?c2 ?c3 ?c4 ?c5 ?_)
              first
                | (case c1 =>
                    intro j u hj
                    match j, hj with
                    | 0, hj => simp at hj; subst hj; simp [Addr.add]
                    | 1, hj => simp at hj; subst hj; simp [Addr.add])
                | skip
              case c2 => intro u hu; simp at hu; rcases hu with rfl | rfl <;> rfl
              case c3 => unfold maxLen; omega
              case c4 => omega
              case c5 => first | omega | (simp; omega)
              intro v' w3 hown' hgrow _
              have HK3 := hide ((unhide HKA).push (x := x) (by rw [(unhide HS1).1, (unhide HS1).2]; exact hown') hgrow)
              clear hown' hgrow HKA
              go_wp2_with fail
              go_roundg (K.length - (k + 1))
              case measure => omega
              case rel => exact ⟨k + 1, by omega, rfl, by go_num, by rw [unhide HFS]; exact HK3⟩
          · have hke : k = K.length := by omega
            subst hke
            rw [unhide HFBE] at HK
            clear m0 m1
            obtain ⟨⟨z1, f1⟩, hst⟩ := unhide HEND _ _ (unhide HK)
            have HST := hide hst
            clear hst
            go_wp2_with fail
            go_end0
            obtain ⟨S', t1, t2⟩ := unhide HST
            exact ⟨⟨_, rfl⟩, S', t1, t2⟩



end Go.Proofs.Ytchhmojnoiephab
