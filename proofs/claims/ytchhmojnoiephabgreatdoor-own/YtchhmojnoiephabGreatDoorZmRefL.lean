import Derived.Test.YtchhmojnoiephabGreatDoorZmRefF
import Derived.Test.YtchhmojnoiephabGreatDoorZmHubH
/- The document's hub: what is kept. -/
namespace Go.Proofs.YtchhmojnoiephabGreatDoor
open Go.ChangeShapes Go.WideShapes Go.ChangeAt Go.RowKit
set_option linter.unusedVariables false

theorem info_rkept : (Tryz.prog.info? 118).map (fun i => (i.zero, i.size, i.bytes)) = some (some (.agg #[.string ByteArray.empty, .string ByteArray.empty]), 2, 32) := by kernel_rfl
def leqL (t k : List UInt8) : Bool := Go.Op.bytesLess t k || t == k
def keepS (t p : List UInt8) (a : List MsgL × Bool) (m : MsgL) : List MsgL × Bool :=
  ((if (!a.2 && leqL t m.1) = true then a.1 ++ [(t, p)] else a.1) ++ (if decide (m.1 = t) = true then [] else [m]), a.2 || leqL t m.1)
def keepF (t p : List UInt8) (K : List MsgL) (k : Nat) : List MsgL × Bool := (K.take k).foldl (keepS t p) ([], decide (p = []))
def keepL (t p : List UInt8) (K : List MsgL) : List MsgL := (keepF t p K K.length).1 ++ (if (keepF t p K K.length).2 = true then [] else [(t, p)])
def rkept (R : RHub) (t p : List UInt8) : Bool × RHub := if 4 < (keepL t p R.kept).length then (false, R) else (true, { R with kept := keepL t p R.kept })
theorem keepF_step (t p : List UInt8) (K : List MsgL) (k : Nat) (h : k < K.length) : keepF t p K (k + 1) = keepS t p (keepF t p K k) K[k] := by
  unfold keepF; rw [List.take_succ_eq_append_getElem h, List.foldl_append]; rfl
theorem keepF_len (t p : List UInt8) (K : List MsgL) (k : Nat) : (keepF t p K k).1.length ≤ 2 * k := by
  induction k with
  | zero => simp [keepF]
  | succ k ih =>
    by_cases h : k < K.length
    · rw [keepF_step t p K k h]
      unfold keepS
      simp only [List.length_append]
      split <;> split <;> simp <;> omega
    · have : keepF t p K (k + 1) = keepF t p K k := by unfold keepF; rw [List.take_of_length_le (by omega), List.take_of_length_le (by omega)]
      rw [this]; omega
theorem keepF_mem (t p : List UInt8) (K : List MsgL) (k : Nat) : ∀ m ∈ (keepF t p K k).1, m ∈ K ∨ m = (t, p) := by
  induction k with
  | zero => intro m hm; simp [keepF] at hm
  | succ k ih =>
    intro m hm
    by_cases h : k < K.length
    · rw [keepF_step t p K k h] at hm
      unfold keepS at hm
      rcases List.mem_append.1 hm with hm | hm
      · split at hm
        · rcases List.mem_append.1 hm with hm | hm
          · exact ih m hm
          · exact Or.inr (List.mem_singleton.1 hm)
        · exact ih m hm
      · split at hm
        · cases hm
        · rw [List.mem_singleton.1 hm]; exact Or.inl (List.getElem_mem h)
    · have : keepF t p K (k + 1) = keepF t p K k := by unfold keepF; rw [List.take_of_length_le (by omega), List.take_of_length_le (by omega)]
      rw [this] at hm
      exact ih m hm
theorem keepL_mem {t p : List UInt8} {K : List MsgL} {m : MsgL} (hm : m ∈ keepL t p K) : m ∈ K ∨ m = (t, p) := by
  unfold keepL at hm
  rcases List.mem_append.1 hm with hm | hm
  · exact keepF_mem t p K _ m hm
  · split at hm
    · cases hm
    · exact Or.inr (List.mem_singleton.1 hm)
theorem keepL_good {R : RHub} (hg : goodR R) {t p : List UInt8} (ht : t.length ≤ 24) (ht0 : 0 < t.length) (hp : p.length ≤ 8) (hl : (keepL t p R.kept).length ≤ 4) : goodR { R with kept := keepL t p R.kept } :=
  ⟨hg.queue, hg.subs, hl, fun m hm => by
    rcases keepL_mem hm with hm | rfl
    · exact hg.kept.2 m hm
    · exact ⟨⟨ht, hp⟩, ht0⟩⟩
def RKeptRow (w : World) (a : Option Addr) (c : Nat) (K : List MsgL) : Prop := ∀ k (hk : k < K.length), ∃ g, a = some ⟨g, 0, none⟩ ∧ K.length ≤ c ∧ c ≤ 9223372036854775807 ∧ ∀ w', Below w.heap.size w w' →
      w'.cell? ⟨g, k * 2, none⟩ = some (.string ⟨K[k].1.toArray⟩) ∧ w'.cell? ⟨g, k * 2 + 1, none⟩ = some (.string ⟨K[k].2.toArray⟩)
theorem RefAt.keptAt {w : World} {d : Nat} {S : Nat → Prop} {R : RHub} (h : RefAt w d S R) : ∃ a c, w.cell? ⟨d, 2, none⟩ = some (.slice a R.kept.length c) ∧ d < w.heap.size ∧ R.kept.length ≤ 4 ∧ RKeptRow w a c R.kept := by
  obtain ⟨cb, A, qv, sv, kv, hw, rfl⟩ := h.body
  obtain ⟨a, l, c, rfl⟩ := own_slice hw.kown
  have hl : l = R.kept.length := own_len hw.kown
  subst hl
  refine ⟨a, c, cell_block (i := 2) hw.blk rfl, heap_lt hw.blk, h.good.kept.1, fun k hk => ?_⟩
  obtain ⟨g, cap, hv⟩ := own_form hw.kown (by omega)
  simp only [Value.slice.injEq] at hv
  obtain ⟨rfl, _, rfl⟩ := hv
  have hcc := own_cap hw.kown
  unfold maxLen at hcc
  exact ⟨g, rfl, hcc.1, by omega, fun w' hb => own_msg (own_below hw.kown hb) hk⟩
/-- the row of kept messages that is being built -/
structure KR (w wr : World) (av : Value) (L : List MsgL) : Prop where
  row : wr.ownsRow w.heap.size 118 2 av L.length (msgCells L)
  bel : Below w.heap.size w wr
theorem KR.on {w wr w2 : World} {av : Value} {L : List MsgL} (h : KR w wr av L) (hb : Below wr.heap.size wr w2) : KR w w2 av L := ⟨own_below h.row hb, h.bel.trans (hb.mono h.bel.size)⟩
theorem KR.push {w wr w3 : World} {av v' : Value} {L : List MsgL} {x : MsgL} (h : KR w wr av L) (hown : w3.ownsRow w.heap.size 118 2 v' (L.length + 1) (msgCells L ++ [strV x.1, strV x.2])) (hgrow : wr.grownBy w3 av.ownBlock) : KR w w3 v' (L ++ [x]) :=
  ⟨by rw [msgCells_snoc, List.length_append]; exact hown, grown_below h.bel hgrow (fun k hk => by have := (h.row.lt k hk).1; omega)⟩
theorem rkept_end {w wr : World} {d : Nat} {S : Nat → Prop} {av : Value} {R : RHub} {L : List MsgL} (h : RefAt w d S R) (hg : goodR { R with kept := L }) (hk : KR w wr av L) :
    (∃ u, wr.cell? ⟨d, 2, none⟩ = some u ∧ wr.frozen? ⟨d, 2, none⟩ = false) ∧ ∃ S', RefAt (wr.setCell ⟨d, 2, none⟩ av) d S' { R with kept := L } ∧ Fr S w (wr.setCell ⟨d, 2, none⟩ av) S' := by
  obtain ⟨cb, A, qv, sv, kv, hw, rfl⟩ := h.body
  have hp4 : wr.heap[d]? = _ := (hk.bel.block d (heap_lt hw.blk)).trans hw.blk
  obtain ⟨t1, t2⟩ := hw.setK hk.bel hk.row
  exact ⟨⟨_, cell_block (i := 2) hp4 rfl, free_block hp4⟩, _, ⟨⟨_, _, _, _, _, t1, rfl⟩, hg⟩, t2⟩

set_option maxHeartbeats 8000000 in
set_option maxRecDepth 1000000 in
theorem rkept_any (d : Nat) (S : Nat → Prop) (R : RHub) (t p : ByteArray) (ht : t.size ≤ 24) (ht0 : 0 < t.size) (hps : p.size ≤ 8) (w : World) (h : RefAt w d S R) :
    Calls Tryz.prog 28 #[.pointer (some ⟨d, 0, none⟩), .string t, .string p] w (RefPost w d S (.bool (rkept R t.data.toList p.data.toList).1) (rkept R t.data.toList p.data.toList).2) := by
  obtain ⟨i0, hi, hz0, hz1, hz2⟩ := info_parts info_rkept
  obtain ⟨a, c, c0, hp, hl4, hat⟩ := h.keptAt
  have HAT := hide hat
  have HC0 := hide c0
  have HH := hide h
  have HSM : Hid (strV t.data.toList = .string t ∧ strV p.data.toList = .string p) := ⟨by unfold strV; congr 1, by unfold strV; congr 1⟩
  have HENDG := hide (fun (hl : (keepL t.data.toList p.data.toList R.kept).length ≤ 4) wr av (hk : KR w wr av (keepL t.data.toList p.data.toList R.kept)) => rkept_end h (keepL_good h.good (by rw [len_list]; exact ht) (by rw [len_list]; exact ht0) (by rw [len_list]; exact hps) hl) hk)
  have hnil : (p.toList == []) = decide (p.data.toList = []) := by have := strNil p.data.toList; simpa using this
  have HQ1 : Hid (∀ l : List UInt8, (Go.Op.bytesLess t.toList (⟨l.toArray⟩ : ByteArray).toList || t.toList == (⟨l.toArray⟩ : ByteArray).toList) = leqL t.data.toList l) := fun l => by rw [Lib.toList_data, Lib.toList_data]; unfold leqL; simp
  have HQ2 : Hid (∀ l : List UInt8, ((⟨l.toArray⟩ : ByteArray).toList == t.toList) = decide (l = t.data.toList)) := fun l => strEq l t
  have HK0 : Hid (KR w w (.slice none 0 0) []) := ⟨World.ownsRow_nil _ _ _ _, Below.refl _ _⟩
  obtain ⟨F, hF⟩ : ∃ F : Nat → List MsgL × Bool, F = keepF t.data.toList p.data.toList R.kept := ⟨_, rfl⟩
  have HF0 : Hid (F 0 = ([], decide (p.data.toList = []))) := by subst hF; rfl
  have HFS0 : Hid (∀ k (hk : k < R.kept.length), F (k + 1) = keepS t.data.toList p.data.toList (F k) R.kept[k]) := fun k hk => by subst hF; exact keepF_step _ _ _ k hk
  have HFL : Hid (∀ k, (F k).1.length ≤ 2 * k) := fun k => by subst hF; exact keepF_len _ _ _ k
  have HFE : Hid (keepL t.data.toList p.data.toList R.kept = (F R.kept.length).1 ++ (if (F R.kept.length).2 = true then [] else [(t.data.toList, p.data.toList)])) := by subst hF; rfl
  have HR : Hid (rkept R t.data.toList p.data.toList = if 4 < (keepL t.data.toList p.data.toList R.kept).length then (false, R) else (true, { R with kept := keepL t.data.toList p.data.toList R.kept })) := rfl
  clear h hat c0 hF ht ht0 hps
  generalize decide (p.data.toList = []) = p0 at *
  generalize keepL t.data.toList p.data.toList R.kept = KL at *
  generalize rkept R t.data.toList p.data.toList = RR at *
  obtain ⟨K, hK⟩ : ∃ K, K = R.kept := ⟨_, rfl⟩
  rw [← hK] at hl4 HAT HC0 HFS0 HFE
  clear hK
  go_enter Tryz.func28, Tryz.ntmps28
  go_wp2_with fail
  go_loopg [7, 8, 9] K.length (fun gk av dv i wr => ∃ k : Nat, k ≤ K.length ∧ gk = K.length - k ∧ i = .int .i64 k ∧ dv = .bool (F k).2 ∧ Hid (KR w wr av (F k).1))
  case atStart => exact ⟨0, by omega, by omega, rfl, by rw [unhide HF0], by rw [unhide HF0]; exact HK0⟩
  case round =>
    clear HK0 HF0
    obtain ⟨k, hk, rfl, rfl, rfl, HK⟩ := hrel
    have hbs := (unhide HK).bel.size
    have c1 : wr.cell? ⟨d, 2, none⟩ = some (.slice a K.length c) := ((unhide HK).bel.cell (p := ⟨d, 2, none⟩) hp).trans (unhide HC0)
    have hfl := unhide HFL k
    have hdr : d < wr.heap.size := by omega
    obtain ⟨av, lv, cv, rfl⟩ := own_slice (unhide HK).row
    have hlv := own_len (unhide HK).row
    subst hlv
    by_cases hlt : k < K.length
    · obtain ⟨b, rfl, hc1, hc2, hcs⟩ := unhide HAT k hlt
      have HCS := hide hcs
      obtain ⟨e1, e2⟩ := hcs wr (unhide HK).bel
      clear hcs
      have hkI : (k : Int) < (K.length : Int) := by omega
      have q1 := unhide HQ1 K[k].1
      have q2 := unhide HQ2 K[k].1
      have HFS := hide (unhide HFS0 k hlt)
      unfold keepS at HFS
      have HS1 : Hid (strV K[k].1 = .string ⟨K[k].1.toArray⟩ ∧ strV K[k].2 = .string ⟨K[k].2.toArray⟩) := ⟨rfl, rfl⟩
      clear HENDG HFE HH HR
      generalize (⟨K[k].1.toArray⟩ : ByteArray) = ks at *
      generalize (⟨K[k].2.toArray⟩ : ByteArray) = kp at *
      generalize K[k] = x at *
      generalize leqL t.data.toList x.1 = b1 at *
      generalize decide (x.1 = t.data.toList) = b2 at *
      generalize hFk : F k = r at *
      obtain ⟨L, dn⟩ := r
      clear hFk
      simp only at HFS HK hfl ⊢
      cases dn
      · cases b1
        · cases b2
          · replace HFS : Hid (F (k + 1) = (L ++ [x], false)) := by unfold Hid; rw [unhide HFS]; simp
            have HKA := hide ((unhide HK).on ((Below.refl _ wr).alloc (Nat.le_refl _) (.cells #[.string ks, .string kp] 118)))
            go_wp2_with (at_builtin; refine wpList_append_own _ rfl _ _ 76 rfl w.heap.size 118 i0 (.agg #[.string ByteArray.empty, .string ByteArray.empty]) 2 32 Tryz.underlying76 hi hz0 hz1 hz2 rfl (by decide) _ _ _ rfl (unhide HKA).row ⟨wr.heap.size, 0, none⟩ 1 1 [.string ks, .string kp] rfl rfl ?c1 ?c2 ?c3 ?c4 ?c5 ?_)
            first
              | (case c1 =>
                  intro j u hj
                  match j, hj with
                  | 0, hj => simp at hj; subst hj; simp [Addr.add]
                  | 1, hj => simp at hj; subst hj; simp [Addr.add])
              | skip
            case c2 => intro u hu; simp at hu; rcases hu with rfl | rfl <;> rfl
            case c3 => unfold maxLen; first | omega | (simp; omega)
            case c4 => first | omega | (simp; omega)
            case c5 => first | omega | (simp; omega)
            intro v2 w8 hown' hgrow _
            have HKE := hide ((unhide HKA).push (x := x) (by rw [(unhide HS1).1, (unhide HS1).2]; exact hown') hgrow)
            clear hown' hgrow HKA
            go_wp2_with fail
            go_roundg (K.length - (k + 1))
            case measure => omega
            case rel => exact ⟨k + 1, by omega, rfl, by go_num, by rw [unhide HFS], by rw [unhide HFS]; exact HKE⟩
          · replace HFS : Hid (F (k + 1) = (L, false)) := by unfold Hid; rw [unhide HFS]; simp
            have HKE := HK
            go_wp2_with fail
            go_roundg (K.length - (k + 1))
            case measure => omega
            case rel => exact ⟨k + 1, by omega, rfl, by go_num, by rw [unhide HFS], by rw [unhide HFS]; exact HKE⟩
        · cases b2
          · replace HFS : Hid (F (k + 1) = (L ++ [(t.data.toList, p.data.toList)] ++ [x], true)) := by unfold Hid; rw [unhide HFS]; simp
            have HKA := hide ((unhide HK).on ((Below.refl _ wr).alloc (Nat.le_refl _) (.cells #[.string t, .string p] 118)))
            go_wp2_with (at_builtin; refine wpList_append_own _ rfl _ _ 76 rfl w.heap.size 118 i0 (.agg #[.string ByteArray.empty, .string ByteArray.empty]) 2 32 Tryz.underlying76 hi hz0 hz1 hz2 rfl (by decide) _ _ _ rfl (unhide HKA).row ⟨wr.heap.size, 0, none⟩ 1 1 [.string t, .string p] rfl rfl ?c1 ?c2 ?c3 ?c4 ?c5 ?_)
            first
              | (case c1 =>
                  intro j u hj
                  match j, hj with
                  | 0, hj => simp at hj; subst hj; simp [Addr.add]
                  | 1, hj => simp at hj; subst hj; simp [Addr.add])
              | skip
            case c2 => intro u hu; simp at hu; rcases hu with rfl | rfl <;> rfl
            case c3 => unfold maxLen; first | omega | (simp; omega)
            case c4 => first | omega | (simp; omega)
            case c5 => first | omega | (simp; omega)
            intro v1 w7 hown' hgrow _
            have HKM := hide ((unhide HKA).push (x := (t.data.toList, p.data.toList)) (by rw [(unhide HSM).1, (unhide HSM).2]; exact hown') hgrow)
            clear hown' hgrow HKA
            clear c1 e1 e2
            have hbs7 := (unhide HKM).bel.size
            obtain ⟨av7, lv7, cv7, rfl⟩ := own_slice (unhide HKM).row
            have hlv7 := own_len (unhide HKM).row
            subst hlv7
            have c1 : w7.cell? ⟨d, 2, none⟩ = some (.slice (some ⟨b, 0, none⟩) K.length c) := ((unhide HKM).bel.cell (p := ⟨d, 2, none⟩) hp).trans (unhide HC0)
            obtain ⟨e1, e2⟩ := unhide HCS w7 (unhide HKM).bel
            have HKB := hide ((unhide HKM).on ((Below.refl _ w7).alloc (Nat.le_refl _) (.cells #[.string ks, .string kp] 118)))
            go_wp2_with (at_builtin; refine wpList_append_own _ rfl _ _ 76 rfl w.heap.size 118 i0 (.agg #[.string ByteArray.empty, .string ByteArray.empty]) 2 32 Tryz.underlying76 hi hz0 hz1 hz2 rfl (by decide) _ _ _ rfl (unhide HKB).row ⟨w7.heap.size, 0, none⟩ 1 1 [.string ks, .string kp] rfl rfl ?c1 ?c2 ?c3 ?c4 ?c5 ?_)
            first
              | (case c1 =>
                  intro j u hj
                  match j, hj with
                  | 0, hj => simp at hj; subst hj; simp [Addr.add]
                  | 1, hj => simp at hj; subst hj; simp [Addr.add])
              | skip
            case c2 => intro u hu; simp at hu; rcases hu with rfl | rfl <;> rfl
            case c3 => unfold maxLen; first | omega | (simp; omega)
            case c4 => first | omega | (simp; omega)
            case c5 => first | omega | (simp; omega)
            intro v2 w8 hown' hgrow _
            have HKE := hide ((unhide HKB).push (x := x) (by rw [List.length_append, (unhide HS1).1, (unhide HS1).2]; exact hown') (by rw [List.length_append]; exact hgrow))
            clear hown' hgrow HKB
            go_wp2_with fail
            go_roundg (K.length - (k + 1))
            case measure => omega
            case rel => exact ⟨k + 1, by omega, rfl, by go_num, by rw [unhide HFS], by rw [unhide HFS]; exact HKE⟩
          · replace HFS : Hid (F (k + 1) = (L ++ [(t.data.toList, p.data.toList)], true)) := by unfold Hid; rw [unhide HFS]; simp
            have HKA := hide ((unhide HK).on ((Below.refl _ wr).alloc (Nat.le_refl _) (.cells #[.string t, .string p] 118)))
            go_wp2_with (at_builtin; refine wpList_append_own _ rfl _ _ 76 rfl w.heap.size 118 i0 (.agg #[.string ByteArray.empty, .string ByteArray.empty]) 2 32 Tryz.underlying76 hi hz0 hz1 hz2 rfl (by decide) _ _ _ rfl (unhide HKA).row ⟨wr.heap.size, 0, none⟩ 1 1 [.string t, .string p] rfl rfl ?c1 ?c2 ?c3 ?c4 ?c5 ?_)
            first
              | (case c1 =>
                  intro j u hj
                  match j, hj with
                  | 0, hj => simp at hj; subst hj; simp [Addr.add]
                  | 1, hj => simp at hj; subst hj; simp [Addr.add])
              | skip
            case c2 => intro u hu; simp at hu; rcases hu with rfl | rfl <;> rfl
            case c3 => unfold maxLen; first | omega | (simp; omega)
            case c4 => first | omega | (simp; omega)
            case c5 => first | omega | (simp; omega)
            intro v1 w7 hown' hgrow _
            have HKM := hide ((unhide HKA).push (x := (t.data.toList, p.data.toList)) (by rw [(unhide HSM).1, (unhide HSM).2]; exact hown') hgrow)
            clear hown' hgrow HKA
            clear c1 e1 e2
            have hbs7 := (unhide HKM).bel.size
            obtain ⟨av7, lv7, cv7, rfl⟩ := own_slice (unhide HKM).row
            have hlv7 := own_len (unhide HKM).row
            subst hlv7
            have c1 : w7.cell? ⟨d, 2, none⟩ = some (.slice (some ⟨b, 0, none⟩) K.length c) := ((unhide HKM).bel.cell (p := ⟨d, 2, none⟩) hp).trans (unhide HC0)
            obtain ⟨e1, e2⟩ := unhide HCS w7 (unhide HKM).bel
            have HKE := HKM
            go_wp2_with fail
            go_roundg (K.length - (k + 1))
            case measure => omega
            case rel => exact ⟨k + 1, by omega, rfl, by go_num, by rw [unhide HFS], by rw [unhide HFS]; exact HKE⟩
      · cases b2
        · replace HFS : Hid (F (k + 1) = (L ++ [x], true)) := by unfold Hid; rw [unhide HFS]; simp
          have HKA := hide ((unhide HK).on ((Below.refl _ wr).alloc (Nat.le_refl _) (.cells #[.string ks, .string kp] 118)))
          go_wp2_with (at_builtin; refine wpList_append_own _ rfl _ _ 76 rfl w.heap.size 118 i0 (.agg #[.string ByteArray.empty, .string ByteArray.empty]) 2 32 Tryz.underlying76 hi hz0 hz1 hz2 rfl (by decide) _ _ _ rfl (unhide HKA).row ⟨wr.heap.size, 0, none⟩ 1 1 [.string ks, .string kp] rfl rfl ?c1 ?c2 ?c3 ?c4 ?c5 ?_)
          first
            | (case c1 =>
                intro j u hj
                match j, hj with
                | 0, hj => simp at hj; subst hj; simp [Addr.add]
                | 1, hj => simp at hj; subst hj; simp [Addr.add])
            | skip
          case c2 => intro u hu; simp at hu; rcases hu with rfl | rfl <;> rfl
          case c3 => unfold maxLen; first | omega | (simp; omega)
          case c4 => first | omega | (simp; omega)
          case c5 => first | omega | (simp; omega)
          intro v2 w8 hown' hgrow _
          have HKE := hide ((unhide HKA).push (x := x) (by rw [(unhide HS1).1, (unhide HS1).2]; exact hown') hgrow)
          clear hown' hgrow HKA
          go_wp2_with fail
          go_roundg (K.length - (k + 1))
          case measure => omega
          case rel => exact ⟨k + 1, by omega, rfl, by go_num, by rw [unhide HFS], by rw [unhide HFS]; exact HKE⟩
        · replace HFS : Hid (F (k + 1) = (L, true)) := by unfold Hid; rw [unhide HFS]; simp
          have HKE := HK
          go_wp2_with fail
          go_roundg (K.length - (k + 1))
          case measure => omega
          case rel => exact ⟨k + 1, by omega, rfl, by go_num, by rw [unhide HFS], by rw [unhide HFS]; exact HKE⟩
    · have hke : k = K.length := by omega
      subst hke
      clear hlt HQ1 HQ2 HFS0 HFL HAT
      generalize hFk : F K.length = r at *
      obtain ⟨L, dn⟩ := r
      clear hFk
      simp only at HFE HK hfl ⊢
      cases dn
      · rw [if_neg (by simp)] at HFE
        have HKA := hide ((unhide HK).on ((Below.refl _ wr).alloc (Nat.le_refl _) (.cells #[.string t, .string p] 118)))
        go_wp2_with (at_builtin; refine wpList_append_own _ rfl _ _ 76 rfl w.heap.size 118 i0 (.agg #[.string ByteArray.empty, .string ByteArray.empty]) 2 32 Tryz.underlying76 hi hz0 hz1 hz2 rfl (by decide) _ _ _ rfl (unhide HKA).row ⟨wr.heap.size, 0, none⟩ 1 1 [.string t, .string p] rfl rfl ?c1 ?c2 ?c3 ?c4 ?c5 ?_)
        first
          | (case c1 =>
              intro j u hj
              match j, hj with
              | 0, hj => simp at hj; subst hj; simp [Addr.add]
              | 1, hj => simp at hj; subst hj; simp [Addr.add])
          | skip
        case c2 => intro u hu; simp at hu; rcases hu with rfl | rfl <;> rfl
        case c3 => unfold maxLen; first | omega | (simp; omega)
        case c4 => first | omega | (simp; omega)
        case c5 => first | omega | (simp; omega)
        intro v1 w7 hown' hgrow _
        have HKE := hide ((unhide HKA).push (x := (t.data.toList, p.data.toList)) (by rw [(unhide HSM).1, (unhide HSM).2]; exact hown') hgrow)
        clear hown' hgrow HKA
        clear c1
        rw [← unhide HFE] at HKE
        obtain ⟨av7, lv7, cv7, rfl⟩ := own_slice (unhide HKE).row
        have hlv7 := own_len (unhide HKE).row
        subst hlv7
        by_cases h5 : 4 < KL.length
        · rw [if_pos h5] at HR
          have hrr := unhide HR
          subst hrr
          clear HR
          have hg : (4 : Int) < (KL.length : Int) := by omega
          go_wp2_with fail
          go_ret
          exact RefPost.same (unhide HH) (unhide HKE).bel
        · rw [if_neg h5] at HR
          have hrr := unhide HR
          subst hrr
          clear HR
          have hg : ¬ (4 : Int) < (KL.length : Int) := by omega
          obtain ⟨⟨u, z1, f1⟩, hst⟩ := unhide HENDG (by omega) w7 _ (unhide HKE)
          have HST := hide hst
          clear hst
          go_wp2_with fail
          go_ret
          exact ⟨rfl, unhide HST⟩
      · rw [if_pos rfl, List.append_nil] at HFE
        have hfe := (unhide HFE).symm
        subst hfe
        have HKE := HK
        by_cases h5 : 4 < L.length
        · rw [if_pos h5] at HR
          have hrr := unhide HR
          subst hrr
          clear HR
          have hg : (4 : Int) < (L.length : Int) := by omega
          go_wp2_with fail
          go_ret
          exact RefPost.same (unhide HH) (unhide HKE).bel
        · rw [if_neg h5] at HR
          have hrr := unhide HR
          subst hrr
          clear HR
          have hg : ¬ (4 : Int) < (L.length : Int) := by omega
          obtain ⟨⟨u, z1, f1⟩, hst⟩ := unhide HENDG (by omega) wr _ (unhide HKE)
          have HST := hide hst
          clear hst
          go_wp2_with fail
          go_ret
          exact ⟨rfl, unhide HST⟩

end Go.Proofs.YtchhmojnoiephabGreatDoor

/- The document's hub: Subscribe. -/
namespace Go.Proofs.YtchhmojnoiephabGreatDoor
open Go.ChangeShapes Go.WideShapes Go.ChangeAt Go.RowKit
set_option linter.unusedVariables false

def tellS (n : Nat) (g f : List UInt8) (R : RHub) (m : MsgL) : RHub := if (matchB f m.1 && decide (g = [])) = true then rdel R n (m.1 ++ 61 :: m.2) else R
def tellF (n : Nat) (g f : List UInt8) (R : RHub) (K : List MsgL) (k : Nat) : RHub := (K.take k).foldl (tellS n g f) R
def newR (n : Nat) (g f : List UInt8) : RSub := ⟨n, g, f, 0⟩
def moreR (R : RHub) (x : RSub) : RHub := { R with subs := R.subs ++ [x] }
def rsub (R : RHub) (c : Int) (s : List UInt8) : (Int × Int) × RHub :=
  if (rcheck R c s).1 ≠ 0 then (rcheck R c s, R) else if rseek R c.toNat s < R.subs.length then ((5, 0), R) else if 8 ≤ R.subs.length then ((7, 0), R)
  else ((0, 0), tellF c.toNat (partS s).1 (partS s).2 (moreR R (newR c.toNat (partS s).1 (partS s).2)) R.kept R.kept.length)
theorem tellF_step (n : Nat) (g f : List UInt8) (R : RHub) (K : List MsgL) (k : Nat) (h : k < K.length) : tellF n g f R K (k + 1) = tellS n g f (tellF n g f R K k) K[k] := by
  unfold tellF; rw [List.take_succ_eq_append_getElem h, List.foldl_append]; rfl
theorem rdel_kept (R : RHub) (n : Nat) (m : List UInt8) : (rdel R n m).kept = R.kept := by unfold rdel; split <;> rfl
theorem tellS_kept (n : Nat) (g f : List UInt8) (R : RHub) (m : MsgL) : (tellS n g f R m).kept = R.kept := by
  unfold tellS; split
  · exact rdel_kept _ _ _
  · rfl
theorem tellF_kept (n : Nat) (g f : List UInt8) (R : RHub) (K : List MsgL) (k : Nat) : (tellF n g f R K k).kept = R.kept := by
  induction k with
  | zero => simp [tellF]
  | succ k ih =>
    by_cases h : k < K.length
    · rw [tellF_step _ _ _ _ _ k h, tellS_kept]; exact ih
    · have : tellF n g f R K (k + 1) = tellF n g f R K k := by unfold tellF; rw [List.take_of_length_le (by omega), List.take_of_length_le (by omega)]
      rw [this]; exact ih
theorem rfilter_pos {l : List UInt8} (h : (filterR l).1 = 0) : 0 < l.length := by
  cases l with
  | nil => simp [filterR] at h
  | cons a l => simp
theorem moreR_good {R : RHub} (hg : goodR R) {x : RSub} (hx : okR x) (hl : R.subs.length < 8) : goodR (moreR R x) :=
  ⟨hg.queue, ⟨by show (R.subs ++ [x]).length ≤ 8; simp; omega, fun s hs => by
    rcases List.mem_append.1 hs with hs | hs
    · exact hg.subs.2 s hs
    · rw [List.mem_singleton.1 hs]; exact hx⟩, hg.kept⟩
theorem rdeliver_any (d : Nat) (S : Nat → Prop) (R : RHub) (n : Nat) (hn : n < 6) (t p : ByteArray) (ht : t.size ≤ 24) (hp : p.size ≤ 8) (w : World) (h : RefAt w d S R) :
    Calls Tryz.prog 30 #[.pointer (some ⟨d, 0, none⟩), .int .i64 n, .string t, .string p] w (RefDone w d S (rdel R n (t.data.toList ++ 61 :: p.data.toList))) := by
  obtain ⟨cb, A, qv, sv, kv, hw, rfl⟩ := h.body
  refine (rdeliver_w d cb A qv sv kv R n hn t p ht hp w hw h.good).mono ?_
  rintro e w' ⟨he, A', qv', h1, h2⟩
  exact ⟨he, _, ⟨⟨cb, A', qv', sv, kv, h1, rfl⟩, rdel_good h.good n _ (by rw [List.length_append, List.length_cons, len_list, len_list]; omega)⟩, h2⟩
/-- behind the store: one more subscription, and a block that is not the hub's stays as it is -/
theorem more_end {w3 W w4 : World} {d : Nat} {S : Nat → Prop} {R : RHub} {x : RSub} {sv v' : Value} {X : Nat} (h : RefAt w3 d S R) (hg : goodR (moreR R x)) (hbW : Below w3.heap.size w3 W) (hsv : w3.cell? ⟨d, 1, none⟩ = some sv)
    (hown : w4.ownsRow 0 121 4 v' (R.subs.length + 1) (rsubCells R.subs ++ [.int .i64 (x.who : Int), strV x.grp, strV x.fil, .int .i64 (x.last : Int)])) (hgrow : W.grownBy w4 sv.ownBlock) (hmv : ∀ k, v'.ownBlock = some k → sv.ownBlock = some k ∨ W.heap.size ≤ k) (hX : X < w3.heap.size) (hXS : ¬ S X) :
    (w4.cell? ⟨d, 1, none⟩ = some sv ∧ w4.frozen? ⟨d, 1, none⟩ = false) ∧ ∃ S2, RefAt (w4.setCell ⟨d, 1, none⟩ v') d S2 (moreR R x) ∧ Fr S w3 (w4.setCell ⟨d, 1, none⟩ v') S2 ∧ (w4.setCell ⟨d, 1, none⟩ v').heap[X]? = w3.heap[X]? ∧ ¬ S2 X := by
  obtain ⟨cb, A, qv, sv0, kv, hw, rfl⟩ := h.body
  have he : sv0 = sv := by
    have := cell_block (i := 1) hw.blk rfl
    rw [hsv] at this
    simpa using this.symm
  subst he
  have hkeep : ∀ k, k < w3.heap.size → sv0.ownBlock ≠ some k → w4.heap[k]? = w3.heap[k]? := fun k hk hne => by
    rw [hgrow.block k (Nat.lt_of_lt_of_le hk hbW.size) (fun e => hne e.symm)]; exact hbW.block k hk
  have hd4 : w4.heap[d]? = _ := (hkeep d (heap_lt hw.blk) hw.nd.2.1.1).trans hw.blk
  obtain ⟨t1, t2⟩ := hw.setS (L := R.subs ++ [x]) (hgrow.os.trans hbW.os) (hgrow.tape.trans hbW.tape) (hgrow.output.trans hbW.output) (Nat.le_trans hbW.size hgrow.size) hkeep (by rw [rsubCells_snoc, List.length_append]; exact hown) (fun k hk => by
    rcases hmv k hk with h1 | h1
    · exact Or.inl h1
    · exact Or.inr (Nat.le_trans hbW.size h1))
  refine ⟨⟨cell_block (i := 1) hd4 rfl, free_block hd4⟩, _, ⟨⟨_, _, _, _, _, t1, rfl⟩, hg⟩, t2, t2.keep X hX hXS, fun hx => ?_⟩
  rcases t2.new X hx with h1 | h1
  · exact hXS h1
  · omega

end Go.Proofs.YtchhmojnoiephabGreatDoor
