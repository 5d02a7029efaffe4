import Derived.Test.YtchhmojnoiephabHubJ
/- The program's hub: Take, and a subscription's two parts. -/
namespace Go.Proofs.Ytchhmojnoiephab
open Go.ChangeShapes Go.WideShapes Go.ChangeAt Go.RowKit
set_option linter.unusedVariables false

def takeQ (H : HubL) (c : Int) : (List UInt8 × Int) × HubL :=
  if cliB c = true then (if H.on c.toNat = true then (match H.q c.toNat with
    | [] => (([], 6), H)
    | m :: r => ((m.1 ++ 61 :: m.2, 0), { H with q := updF H.q c.toNat r })) else (([], 9), H)) else (([], 4), H)
/-- what Take answers -/
def TakePost (w : World) (p : Nat) (S : Nat → Prop) (r : (List UInt8 × Int) × HubL) (e : Ending) (w' : World) : Prop :=
  ∃ (s : ByteArray) (S' : Nat → Prop), e = .returned (.tuple #[.string s, .int .i64 r.1.2]) ∧ s.data.toList = r.1.1 ∧ HubAt w' p S' r.2 ∧ Fr S w w' S'
theorem TakePost.none {w : World} {p : Nat} {S : Nat → Prop} {H : HubL} {a : Int} (h : HubAt w p S H) : TakePost w p S (([], a), H) (.returned (.tuple #[.string ⟨#[]⟩, .int .i64 a])) w :=
  ⟨_, S, rfl, by simp, h, Fr.of_below (Below.refl _ _)⟩
theorem rest_good {H : HubL} (hg : goodH H) (n : Nat) (m : MsgL) (r : List MsgL) (hq : H.q n = m :: r) : goodH { H with q := updF H.q n r } := by
  refine ⟨fun k => ?_, hg.subs, hg.kept⟩
  by_cases hk : k = n
  · subst hk
    have h := hg.queue k
    rw [hq] at h
    rw [show ({ H with q := updF H.q k r } : HubL).q k = r from updF_same _ _ _]
    exact ⟨by have := h.1; simp at this; omega, fun x hx => h.2 x (by simp [hx])⟩
  · rw [show ({ H with q := updF H.q n r } : HubL).q k = H.q k from updF_other _ _ hk]
    exact hg.queue k

set_option maxHeartbeats 4000000 in
set_option maxRecDepth 1000000 in
theorem take_any (p : Nat) (S : Nat → Prop) (H : HubL) (c : Int) (w : World) (h : HubAt w p S H) :
    Calls Try.prog 11 #[.pointer (some ⟨p, 0, none⟩), .int .i64 c] w (TakePost w p S (takeQ H c)) := by
  obtain ⟨i0, hi, hz0, hz1, hz2⟩ := info_parts info_msg
  have HH := hide h
  have HHE := hide (isHere_any p S H c w h)
  cases hc : cliB c with
  | false =>
    have HR : Hid (takeQ H c = (([], 4), H)) := by unfold Hid takeQ; rw [if_neg (by simp [hc])]
    rw [unhide HR]
    clear h HHE
    go_enter Try.func11, Try.ntmps11
    go_wp2_with fail
    refine (isClient_any _ _).mono ?_
    rw [hc]
    rintro e w' ⟨rfl, rfl⟩
    go_wp2_with fail
    go_ret2
    exact TakePost.none (unhide HH)
  | true =>
    obtain ⟨n, rfl, hn⟩ := cliB_nat hc
    rw [hereB_of H n hn] at HHE
    cases hon : H.on n with
    | false =>
      have HR : Hid (takeQ H n = (([], 9), H)) := by unfold Hid takeQ; rw [if_pos hc, if_neg (by simp [hon])]
      rw [unhide HR]
      rw [hon] at HHE
      clear h
      go_enter Try.func11, Try.ntmps11
      go_wp2_with fail
      refine (isClient_any _ _).mono ?_
      rw [hc]
      rintro e w' ⟨rfl, rfl⟩
      go_wp2_with fail
      refine (unhide HHE).mono ?_
      rintro e w' ⟨rfl, rfl⟩
      go_wp2_with fail
      go_ret2
      exact TakePost.none (unhide HH)
    | true =>
      rw [hon] at HHE
      obtain ⟨A, qv, sv, kv, hw, rfl⟩ := h.body
      obtain ⟨c1, c2, c3⟩ := hw.cli n hn
      have hq := hw.qown n hn
      obtain ⟨aq, lq, cq, hqe⟩ := own_slice hq
      rw [hqe] at hq c3
      have hlq : lq = (H.q n).length := own_len hq
      subst hlq
      have z3 := cell_block hw.blk c3
      have hp := hw.lt
      have hn6 : (n : Int) < 6 := by omega
      cases hQ : H.q n with
      | nil =>
        have HR : Hid (takeQ H n = (([], 6), H)) := by unfold Hid takeQ; rw [if_pos hc, if_pos (by simpa using hon)]; simp [hQ]
        rw [unhide HR]
        rw [hQ] at z3
        clear h hw hq c1 c2 c3 hqe
        go_enter Try.func11, Try.ntmps11
        go_wp2_with fail
        refine (isClient_any _ _).mono ?_
        rw [hc]
        rintro e w' ⟨rfl, rfl⟩
        go_wp2_with fail
        refine (unhide HHE).mono ?_
        rintro e w' ⟨rfl, rfl⟩
        go_wp2_with fail
        go_ret2
        exact TakePost.none (unhide HH)
      | cons m r =>
        have HR : Hid (takeQ H n = ((m.1 ++ 61 :: m.2, 0), { H with q := updF H.q n r })) := by unfold Hid takeQ; rw [if_pos hc, if_pos (by simpa using hon)]; simp [hQ]
        rw [unhide HR]
        have hgr := rest_good h.good n m r hQ
        have hsm := (h.good.queue n).2 m (by rw [hQ]; simp)
        have hl3 := (h.good.queue n).1
        rw [hQ] at z3 hq hl3
        obtain ⟨g, cap, hv⟩ := own_form hq (by simp)
        simp only [Value.slice.injEq] at hv
        obtain ⟨rfl, _, rfl⟩ := hv
        have hcc := own_cap hq
        unfold maxLen at hcc
        obtain ⟨hcc1, hcc2⟩ := hcc
        have HCE := hide (fun (x : World) (hb : Below w.heap.size w x) (k : Nat) (hk : k < (m :: r).length) => own_msg (own_below hq hb) hk)
        have hql : (m :: r).length = r.length + 1 := by simp
        rw [hql] at z3 hcc1 hl3
        obtain ⟨e1, e2⟩ := unhide HCE w (Below.refl _ _) 0 (by simp)
        have HEND : Hid (∀ (wr : World) (v' : Value), wr.ownsRow (w.heap.size + 1) 48 2 v' r.length (msgCells r) → Below w.heap.size w wr → (wr.cell? ⟨p, n * 3 + 2, none⟩ = some (.slice (some ⟨g, 0, none⟩) (r.length + 1) cq) ∧ wr.frozen? ⟨p, n * 3 + 2, none⟩ = false) ∧
            HubW (wr.setCell ⟨p, n * 3 + 2, none⟩ v') p (A.setIfInBounds (n * 3 + 2) v') (updF qv n v') sv kv { H with q := updF H.q n r } ∧ Fr (blkS p qv sv kv) w (wr.setCell ⟨p, n * 3 + 2, none⟩ v') (blkS p (updF qv n v') sv kv)) := by
          intro wr v' ho hb
          have hp3 : wr.heap[p]? = some (.cells A 61 (0, 0)) := by rw [hb.block p hw.lt]; exact hw.blk
          refine ⟨⟨?_, free_block hp3⟩, hub_setQw hw hn hb.os hb.tape hb.output hb.size (fun k hk _ => hb.block k hk) (own_mono ho (Nat.zero_le _)) (fun k hk => Or.inr (by have := (ho.lt k hk).1; omega))⟩
          rw [cell_block hp3 (hw.cli n hn).2.2, hqe, hQ]; rfl
        have HSM := hide hsm
        have HGR := hide hgr
        have HK0 : Hid (Kpt w (w.alloc (.cells #[.string ⟨m.1.toArray⟩, .string ⟨m.2.toArray⟩] 48)) (.slice none 0 0) ⟨m.1.toArray⟩ ⟨m.2.toArray⟩ (r.take 0)) :=
          ⟨World.ownsRow_nil _ _ _ _, (Below.refl _ w).alloc (Nat.le_refl _) _, (MapKept.heap_alloc w _).1⟩
        have hm1 : (⟨m.1.toArray⟩ : ByteArray).data.toList = m.1 := by simp
        have hm2 : (⟨m.2.toArray⟩ : ByteArray).data.toList = m.2 := by simp
        have hmz1 : (⟨m.1.toArray⟩ : ByteArray).size ≤ 24 := by rw [Lib.size_eq]; simpa using hsm.1
        have hmz2 : (⟨m.2.toArray⟩ : ByteArray).size ≤ 8 := by rw [Lib.size_eq]; simpa using hsm.2
        have HM1 := hide hm1
        have HM2 := hide hm2
        simp only [Nat.zero_mul, List.getElem_cons_zero, Nat.zero_add] at e1 e2
        clear h hw hq c1 c2 c3 hqe hsm hgr hm1 hm2 HR HH hQ
        generalize (⟨m.1.toArray⟩ : ByteArray) = mt at *
        generalize (⟨m.2.toArray⟩ : ByteArray) = mp at *
        go_enter Try.func11, Try.ntmps11
        go_wp2_with fail
        refine (isClient_any _ _).mono ?_
        rw [hc]
        rintro e w' ⟨rfl, rfl⟩
        go_wp2_with fail
        refine (unhide HHE).mono ?_
        rintro e w' ⟨rfl, rfl⟩
        go_wp2_with fail
        go_loopg [8, 9] r.length (fun gk av ii wr => ∃ k : Nat, k ≤ r.length ∧ gk = r.length - k ∧ ii = .int .i64 ((k : Int) + 1) ∧ Hid (Kpt w' wr av mt mp (r.take k)))
        case atStart => exact ⟨0, by omega, by omega, rfl, HK0⟩
        case round =>
          clear HK0 e1 e2
          obtain ⟨k, hk, rfl, rfl, HK⟩ := hrel
          have hbs := (unhide HK).bel.size
          obtain ⟨av, lv, cv, rfl⟩ := own_slice (unhide HK).row
          by_cases hlt : k < r.length
          · obtain ⟨e1, e2⟩ := unhide HCE wr (unhide HK).bel (k + 1) (by simp; omega)
            simp only [List.getElem_cons_succ] at e1 e2
            have HNX : Hid (r.take (k + 1) = r.take k ++ [r[k]]) := List.take_succ_eq_append_getElem hlt
            have HS1 : Hid (strV r[k].1 = .string ⟨r[k].1.toArray⟩ ∧ strV r[k].2 = .string ⟨r[k].2.toArray⟩) := ⟨rfl, rfl⟩
            have htl : (r.take k).length ≤ 3 := by rw [List.length_take]; omega
            generalize r.take k = now at *
            generalize (⟨r[k].1.toArray⟩ : ByteArray) = ks at *
            generalize (⟨r[k].2.toArray⟩ : ByteArray) = kp at *
            generalize r[k] = x at *
            have HKA := hide ((unhide HK).on ((Below.refl _ wr).alloc (Nat.le_refl _) (.cells #[.string ks, .string kp] 48)))
            have hw1 : IntKind.i64.wrap ((k : Int) + 1 + 1) = (k : Int) + 1 + 1 := by rw [IntKind.wrap_i64]; omega
            have hk1 : (k : Int) + 1 < (r.length : Int) + 1 := by omega
            go_wp2_with (at_builtin; refine wpList_append_own _ rfl _ _ 55 rfl (w'.heap.size + 1) 48 i0 (.agg #[.string ByteArray.empty, .string ByteArray.empty]) 2 32 Try.underlying55 hi hz0 hz1 hz2 rfl (by decide) _ _ _ rfl (unhide HKA).row ⟨wr.heap.size, 0, none⟩ 1 1 [.string ks, .string kp] rfl rfl ?c1 ?c2 ?c3 ?c4 ?c5 ?_)
            first
              | (case c1 =>
                  intro j u hj
                  match j, hj with
                  | 0, hj => simp at hj; subst hj; simp [Addr.add]
                  | 1, hj => simp at hj; subst hj; simp [Addr.add])
              | skip
            case c2 => intro u hu; simp at hu; rcases hu with rfl | rfl <;> rfl
            case c3 => unfold maxLen; omega
            case c4 => omega
            case c5 => have := heap_lt (unhide HK).m; first | omega | (simp; omega)
            intro v' w3 hown' hgrow _
            have HK3 := hide ((unhide HKA).push (x := x) (by rw [(unhide HS1).1, (unhide HS1).2]; exact hown') hgrow)
            clear hown' hgrow HKA
            go_wp2_with fail
            go_roundg (r.length - (k + 1))
            case measure => omega
            case rel => exact ⟨k + 1, by omega, rfl, by go_num, by rw [unhide HNX]; exact HK3⟩
          · have hke : k = r.length := by omega
            subst hke
            rw [List.take_length] at HK
            have hk1 : decide (((r.length : Nat) : Int) + 1 < (r.length : Int) + 1) = false := by simp
            obtain ⟨⟨z4, f4⟩, hst1, hst2⟩ := unhide HEND wr _ (unhide HK).row (unhide HK).bel
            have hX : (wr.setCell ⟨p, n * 3 + 2, none⟩ (.slice av lv cv)).heap[w'.heap.size]? = some (.cells #[.string mt, .string mp] 48 (0, 0)) := by
              rw [Below.heap_setCell _ _ _ _ (by simp; omega)]; exact (unhide HK).m
            have y0 := cell_block (i := 0) hX rfl
            have y1 := cell_block (i := 1) hX rfl
            have HST1 := hide hst1
            have HST2 := hide hst2
            clear hst1 hst2 hX
            go_wp2_with fail
            go_ret2
            exact ⟨_, _, rfl, by rw [← unhide HM1, ← unhide HM2]; simp, ⟨⟨_, _, _, _, unhide HST1, rfl⟩, unhide HGR⟩, unhide HST2⟩

end Go.Proofs.Ytchhmojnoiephab
