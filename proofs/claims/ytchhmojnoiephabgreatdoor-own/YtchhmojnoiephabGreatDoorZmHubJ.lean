import Derived.Test.YtchhmojnoiephabGreatDoorZmHubH
import Derived.Test.YtchhmojnoiephabGreatDoorPureC
/- The program's hub: Publish. -/
namespace Go.Proofs.YtchhmojnoiephabGreatDoor
open Go.ChangeShapes Go.WideShapes Go.ChangeAt Go.RowKit
set_option linter.unusedVariables false

theorem arr_back (t : ByteArray) : (⟨t.data.toList.toArray⟩ : ByteArray) = t := by cases t; simp
theorem putK_len (K : List MsgL) (t : List UInt8) : (K.filter (fun k => ltL t k.1)).length + (K.filter (fun k => gtL t k.1)).length + (K.filter (fun k => decide (k.1 = t))).length ≤ K.length := by
  induction K with
  | nil => simp
  | cons k K ih =>
    simp only [List.filter_cons, List.length_cons]
    by_cases he : k.1 = t
    · have h1 : ltL t k.1 = false := by unfold ltL; rw [he]; exact less_irr t
      have h2 : gtL t k.1 = false := by unfold gtL; rw [he]; simp
      rw [h1, h2]
      simp [he]
      omega
    · have h3 : decide (k.1 = t) = false := by simpa using he
      rw [h3]
      cases h1 : ltL t k.1 with
      | true =>
        have h2 : gtL t k.1 = false := by unfold gtL; unfold ltL at h1; rw [h1]; rfl
        rw [h2]; simp; omega
      | false =>
        cases h2 : gtL t k.1 <;> simp <;> omega
theorem putK_good {H : HubL} (hg : goodH H) (m : MsgL) (hm : smallM m) (hr : roomB H.kept m = true) : goodH { H with kept := putK H.kept m } := by
  refine ⟨hg.queue, hg.subs, ?_, fun x hx => ?_⟩
  · have h1 := putK_len H.kept m.1
    have h4 := hg.kept.1
    show (putK H.kept m).length ≤ 4
    unfold putK
    rw [List.length_append, List.length_append]
    unfold roomB at hr
    simp only [Bool.or_eq_true, decide_eq_true_eq] at hr
    split
    · simp; omega
    · rename_i hne
      simp only [List.length_singleton]
      rcases hr with h | h | h
      · rw [decide_eq_true h] at hne; exact absurd rfl hne
      · omega
      · have h5 : 0 < (H.kept.filter (fun k => decide (k.1 = m.1))).length := by
          rw [List.length_pos_iff_exists_mem]
          rw [List.any_eq_true] at h
          obtain ⟨x, hx, hxe⟩ := h
          exact ⟨x, List.mem_filter.2 ⟨hx, hxe⟩⟩
        omega
  · have hx' : x ∈ putK H.kept m := hx
    unfold putK at hx'
    rcases List.mem_append.1 hx' with h | h
    · rcases List.mem_append.1 h with h | h
      · exact hg.kept.2 x (List.mem_filter.1 h).1
      · split at h
        · cases h
        · rw [List.mem_singleton.1 h]; exact hm
    · exact hg.kept.2 x (List.mem_filter.1 h).1

def pubH (H : HubL) (t p : List UInt8) (keep : Bool) : (List Int × Int × Int) × HubL :=
  if (topicR t).1 ≠ 0 then (([], (topicR t).1, (topicR t).2), H)
  else if 8 < p.length then (([], 10, 0), H)
  else if keep = true then (if roomB H.kept (t, p) = true then (((spreadH { H with kept := putK H.kept (t, p) } (t, p)).1, 0, 0), (spreadH { H with kept := putK H.kept (t, p) } (t, p)).2) else (([], 7, 0), H))
  else (((spreadH H (t, p)).1, 0, 0), (spreadH H (t, p)).2)

/-- what Publish answers -/
def PubPost (w : World) (p : Nat) (S : Nat → Prop) (r : (List Int × Int × Int) × HubL) (e : Ending) (w' : World) : Prop :=
  ∃ v S', e = .returned (.tuple #[v, .int .i64 r.1.2.1, .int .i64 r.1.2.2]) ∧ w'.ownsRow w.heap.size 3 1 v r.1.1.length (r.1.1.map (Value.int .i64)) ∧ (∀ k, v.ownBlock = some k → ¬ S' k) ∧ HubAt w' p S' r.2 ∧ Fr S w w' S'
theorem PubPost.none {w w' : World} {p : Nat} {S : Nat → Prop} {H : HubL} {a b : Int} (h : HubAt w p S H) (hb : Below w.heap.size w w') : PubPost w p S (([], a, b), H) (.returned (.tuple #[.slice none 0 0, .int .i64 a, .int .i64 b])) w' :=
  ⟨_, S, rfl, World.ownsRow_nil _ _ _ _, (fun k hk => by cases hk), h.below hb, Fr.of_below hb⟩
theorem PubPost.of_spr {w w1 w' : World} {p : Nat} {S S1 : Nat → Prop} {H : HubL} {m : MsgL} {v : Value} {S' : Nat → Prop} (hf : Fr S w w1 S1) (h1 : w'.ownsRow w1.heap.size 3 1 v (spreadH H m).1.length ((spreadH H m).1.map (Value.int .i64))) (h2 : ∀ k, v.ownBlock = some k → ¬ S' k) (h3 : HubAt w' p S' (spreadH H m).2) (h4 : Fr S1 w1 w' S') :
    PubPost w p S (((spreadH H m).1, 0, 0), (spreadH H m).2) (.returned (.tuple #[v, .int .i64 0, .int .i64 0])) w' := ⟨v, S', rfl, own_mono h1 hf.size, h2, h3, hf.trans h4⟩

set_option maxHeartbeats 4000000 in
set_option maxRecDepth 1000000 in
theorem publish_any (p : Nat) (S : Nat → Prop) (H : HubL) (t q : ByteArray) (keep : Bool) (ht : t.size ≤ maxLen) (hq : q.size ≤ maxLen) (w : World) (h : HubAt w p S H) :
    Calls Tryz.prog 11 #[.pointer (some ⟨p, 0, none⟩), .string t, .string q, .bool keep] w (PubPost w p S (pubH H t.data.toList q.data.toList keep)) := by
  have HH := hide h
  by_cases h0 : (topicR t.data.toList).1 = 0
  · have hb0 : ((topicR t.data.toList).1 != 0) = false := by simp [h0]
    by_cases h8 : 8 < q.size
    · have HR : Hid (pubH H t.data.toList q.data.toList keep = (([], 10, 0), H)) := by unfold Hid pubH; rw [if_neg (by simp [h0]), if_pos (by rw [len_list]; exact h8)]
      rw [unhide HR]
      clear h h0 HR
      have h8I : (8 : Int) < (q.size : Int) := by omega
      go_enter Tryz.func11, Tryz.ntmps11
      go_wp2_with fail
      refine (hubTopic_any t _ ht).mono ?_
      rintro e w1 ⟨rfl, rfl⟩
      go_wp2_with fail
      go_ret3
      exact PubPost.none (unhide HH) (Below.refl _ _)
    · have h8I : decide ((8 : Int) < (q.size : Int)) = false := by simp; omega
      have hsm : smallM (t.data.toList, q.data.toList) := ⟨by have := (topicR_len _ h0).1; simpa using this, by simp only [len_list]; omega⟩
      have hmv : msgV (t.data.toList, q.data.toList) = .agg #[.string t, .string q] := by unfold msgV strV; rw [arr_back, arr_back]
      have HSP := hide (fun (S' : Nat → Prop) (H' : HubL) (x : World) (hx : HubAt x p S' H') => spread_any p S' H' (t.data.toList, q.data.toList) hsm x hx)
      rw [hmv] at HSP
      have HAL := hide (h.below ((Below.refl _ w).alloc (Nat.le_refl _) (.cells #[.string t, .string q] 82)))
      have HFA := hide (Fr.alloc (S := S) w (.cells #[.string t, .string q] 82))
      have hSw : ¬ S w.heap.size := fun hs => by have := h.lt hs; omega
      cases keep
      · have HR : Hid (pubH H t.data.toList q.data.toList false = (((spreadH H (t.data.toList, q.data.toList)).1, 0, 0), (spreadH H (t.data.toList, q.data.toList)).2)) := by unfold Hid pubH; rw [if_neg (by simp [h0]), if_neg (by rw [len_list]; exact h8), if_neg (by simp)]
        rw [unhide HR]
        clear h h0 HR h8 hmv
        go_enter Tryz.func11, Tryz.ntmps11
        go_wp2_with fail
        refine (hubTopic_any t _ ht).mono ?_
        rintro e w1 ⟨rfl, rfl⟩
        go_wp2_with fail
        refine (unhide HSP _ _ _ (unhide HAL)).mono ?_
        rintro e w2 ⟨ov, S2, rfl, h1, h2, h3, h4⟩
        have HEN := hide (PubPost.of_spr (unhide HFA) h1 h2 h3 h4)
        obtain ⟨ao, lo, co, rfl⟩ := own_slice h1
        clear h1 h2 h3 h4
        go_wp2_with fail
        go_ret3
        exact unhide HEN
      · cases hrb : roomB H.kept (t.data.toList, q.data.toList)
        · have HR : Hid (pubH H t.data.toList q.data.toList true = (([], 7, 0), H)) := by unfold Hid pubH; rw [if_neg (by simp [h0]), if_neg (by rw [len_list]; exact h8), if_pos rfl, if_neg (by simp [hrb])]
          rw [unhide HR]
          have HRM := hide (hasRoom_any p S H (t.data.toList, q.data.toList) _ (unhide HAL))
          rw [hmv, hrb] at HRM
          clear h h0 HR h8 hmv hrb
          go_enter Tryz.func11, Tryz.ntmps11
          go_wp2_with fail
          refine (hubTopic_any t _ ht).mono ?_
          rintro e w1 ⟨rfl, rfl⟩
          go_wp2_with fail
          refine (unhide HRM).mono ?_
          rintro e w2 ⟨rfl, hb2⟩
          have HB2 : Hid (Below w1.heap.size w1 w2) := ((Below.refl _ w1).alloc (Nat.le_refl _) _).trans (hb2.mono (by simp))
          clear hb2
          go_wp2_with fail
          go_ret3
          exact PubPost.none (unhide HH) (unhide HB2)
        · have HR : Hid (pubH H t.data.toList q.data.toList true = (((spreadH { H with kept := putK H.kept (t.data.toList, q.data.toList) } (t.data.toList, q.data.toList)).1, 0, 0), (spreadH { H with kept := putK H.kept (t.data.toList, q.data.toList) } (t.data.toList, q.data.toList)).2)) := by
            unfold Hid pubH; rw [if_neg (by simp [h0]), if_neg (by rw [len_list]; exact h8), if_pos rfl, if_pos hrb]
          rw [unhide HR]
          have HRM := hide (hasRoom_any p S H (t.data.toList, q.data.toList) _ (unhide HAL))
          rw [hmv, hrb] at HRM
          have HPK := hide (fun (x : World) (hx : HubAt x p S H) => putKept_any p S H (t.data.toList, q.data.toList) (putK_good h.good _ hsm hrb) x hx)
          rw [hmv] at HPK
          have HMB := hide (MapKept.heap_alloc w (.cells #[.string t, .string q] 82)).1
          clear h h0 HR h8 hmv hrb
          go_enter Tryz.func11, Tryz.ntmps11
          go_wp2_with fail
          refine (hubTopic_any t _ ht).mono ?_
          rintro e w1 ⟨rfl, rfl⟩
          go_wp2_with fail
          refine (unhide HRM).mono ?_
          rintro e w2 ⟨rfl, hb2⟩
          have hX2 := (hb2.block w1.heap.size (by simp)).trans (unhide HMB)
          have HH2 := hide ((unhide HAL).below hb2)
          have HF2 := hide ((unhide HFA).trans (Fr.of_below hb2))
          have x0 := cell_block (i := 0) hX2 rfl
          have x1 := cell_block (i := 1) hX2 rfl
          have HX2 := hide hX2
          clear hb2 hX2 HMB HAL HFA HRM
          go_wp2_with fail
          refine (unhide HPK _ (unhide HH2)).mono ?_
          rintro e w3 ⟨⟨v3, rfl⟩, S3, hH3, hF3⟩
          have hX3 := (hF3.keep w1.heap.size (heap_lt (unhide HX2)) hSw).trans (unhide HX2)
          have y0 := cell_block (i := 0) hX3 rfl
          have y1 := cell_block (i := 1) hX3 rfl
          have HF3 := hide ((unhide HF2).trans hF3)
          have HH3 := hide hH3
          clear hX3 hF3 hH3 HX2 HF2 HH2 x0 x1 HPK
          go_wp2_with fail
          refine (unhide HSP _ _ _ (unhide HH3)).mono ?_
          rintro e w4 ⟨ov, S4, rfl, h1, h2, h3, h4⟩
          have HEN := hide (PubPost.of_spr (unhide HF3) h1 h2 h3 h4)
          obtain ⟨ao, lo, co, rfl⟩ := own_slice h1
          clear h1 h2 h3 h4
          go_wp2_with fail
          go_ret3
          exact unhide HEN
  · have hb0 : ((topicR t.data.toList).1 != 0) = true := by simp [h0]
    have HR : Hid (pubH H t.data.toList q.data.toList keep = (([], (topicR t.data.toList).1, (topicR t.data.toList).2), H)) := by unfold Hid pubH; rw [if_pos h0]
    rw [unhide HR]
    clear h h0 HR
    go_enter Tryz.func11, Tryz.ntmps11
    go_wp2_with fail
    refine (hubTopic_any t _ ht).mono ?_
    rintro e w1 ⟨rfl, rfl⟩
    go_wp2_with fail
    go_ret3
    exact PubPost.none (unhide HH) (Below.refl _ _)

end Go.Proofs.YtchhmojnoiephabGreatDoor

/- The program's hub: Take, and a subscription's two parts. -/
namespace Go.Proofs.YtchhmojnoiephabGreatDoor
open Go.ChangeShapes Go.WideShapes Go.ChangeAt Go.RowKit
set_option linter.unusedVariables false

def takeQ (H : HubL) (c : Int) : (List UInt8 × Int) × HubL :=
  if cliB c = true then (if H.on c.toNat = true then (match H.q c.toNat with
    | [] => (([], 6), H)
    | m :: r => ((m.1 ++ 61 :: m.2, 0), { H with q := updF H.q c.toNat r })) else (([], 9), H)) else (([], 4), H)
/-- what Take answers -/
def TakePost (w : World) (p : Nat) (S : Nat → Prop) (r : (List UInt8 × Int) × HubL) (e : Ending) (w' : World) : Prop :=
  ∃ (s : ByteArray) (S' : Nat → Prop), e = .returned (.tuple #[.string s, .int .i64 r.1.2]) ∧ s.data.toList = r.1.1 ∧ HubAt w' p S' r.2 ∧ Fr S w w' S'
theorem TakePost.none {w : World} {p : Nat} {S : Nat → Prop} {H : HubL} {a : Int} (h : HubAt w p S H) : TakePost w p S (([], a), H) (.returned (.tuple #[.string ⟨#[]⟩, .int .i64 a])) w :=
  ⟨_, S, rfl, by simp, h, Fr.of_below (Below.refl _ _)⟩
theorem rest_good {H : HubL} (hg : goodH H) (n : Nat) (m : MsgL) (r : List MsgL) (hq : H.q n = m :: r) : goodH { H with q := updF H.q n r } := by
  refine ⟨fun k => ?_, hg.subs, hg.kept⟩
  by_cases hk : k = n
  · subst hk
    have h := hg.queue k
    rw [hq] at h
    rw [show ({ H with q := updF H.q k r } : HubL).q k = r from updF_same _ _ _]
    exact ⟨by have := h.1; simp at this; omega, fun x hx => h.2 x (by simp [hx])⟩
  · rw [show ({ H with q := updF H.q n r } : HubL).q k = H.q k from updF_other _ _ hk]
    exact hg.queue k

set_option maxHeartbeats 4000000 in
set_option maxRecDepth 1000000 in
theorem take_any (p : Nat) (S : Nat → Prop) (H : HubL) (c : Int) (w : World) (h : HubAt w p S H) :
    Calls Tryz.prog 78 #[.pointer (some ⟨p, 0, none⟩), .int .i64 c] w (TakePost w p S (takeQ H c)) := by
  obtain ⟨i0, hi, hz0, hz1, hz2⟩ := info_parts info_msg
  have HH := hide h
  have HHE := hide (isHere_any p S H c w h)
  cases hc : cliB c with
  | false =>
    have HR : Hid (takeQ H c = (([], 4), H)) := by unfold Hid takeQ; rw [if_neg (by simp [hc])]
    rw [unhide HR]
    clear h HHE
    go_enter Tryz.func78, Tryz.ntmps78
    go_wp2_with fail
    refine (isClient_any _ _).mono ?_
    rw [hc]
    rintro e w' ⟨rfl, rfl⟩
    go_wp2_with fail
    go_ret2
    exact TakePost.none (unhide HH)
  | true =>
    obtain ⟨n, rfl, hn⟩ := cliB_nat hc
    rw [hereB_of H n hn] at HHE
    cases hon : H.on n with
    | false =>
      have HR : Hid (takeQ H n = (([], 9), H)) := by unfold Hid takeQ; rw [if_pos hc, if_neg (by simp [hon])]
      rw [unhide HR]
      rw [hon] at HHE
      clear h
      go_enter Tryz.func78, Tryz.ntmps78
      go_wp2_with fail
      refine (isClient_any _ _).mono ?_
      rw [hc]
      rintro e w' ⟨rfl, rfl⟩
      go_wp2_with fail
      refine (unhide HHE).mono ?_
      rintro e w' ⟨rfl, rfl⟩
      go_wp2_with fail
      go_ret2
      exact TakePost.none (unhide HH)
    | true =>
      rw [hon] at HHE
      obtain ⟨A, qv, sv, kv, hw, rfl⟩ := h.body
      obtain ⟨c1, c2, c3⟩ := hw.cli n hn
      have hq := hw.qown n hn
      obtain ⟨aq, lq, cq, hqe⟩ := own_slice hq
      rw [hqe] at hq c3
      have hlq : lq = (H.q n).length := own_len hq
      subst hlq
      have z3 := cell_block hw.blk c3
      have hp := hw.lt
      have hn6 : (n : Int) < 6 := by omega
      cases hQ : H.q n with
      | nil =>
        have HR : Hid (takeQ H n = (([], 6), H)) := by unfold Hid takeQ; rw [if_pos hc, if_pos (by simpa using hon)]; simp [hQ]
        rw [unhide HR]
        rw [hQ] at z3
        clear h hw hq c1 c2 c3 hqe
        go_enter Tryz.func78, Tryz.ntmps78
        go_wp2_with fail
        refine (isClient_any _ _).mono ?_
        rw [hc]
        rintro e w' ⟨rfl, rfl⟩
        go_wp2_with fail
        refine (unhide HHE).mono ?_
        rintro e w' ⟨rfl, rfl⟩
        go_wp2_with fail
        go_ret2
        exact TakePost.none (unhide HH)
      | cons m r =>
        have HR : Hid (takeQ H n = ((m.1 ++ 61 :: m.2, 0), { H with q := updF H.q n r })) := by unfold Hid takeQ; rw [if_pos hc, if_pos (by simpa using hon)]; simp [hQ]
        rw [unhide HR]
        have hgr := rest_good h.good n m r hQ
        have hsm := (h.good.queue n).2 m (by rw [hQ]; simp)
        have hl3 := (h.good.queue n).1
        rw [hQ] at z3 hq hl3
        obtain ⟨g, cap, hv⟩ := own_form hq (by simp)
        simp only [Value.slice.injEq] at hv
        obtain ⟨rfl, _, rfl⟩ := hv
        have hcc := own_cap hq
        unfold maxLen at hcc
        obtain ⟨hcc1, hcc2⟩ := hcc
        have HCE := hide (fun (x : World) (hb : Below w.heap.size w x) (k : Nat) (hk : k < (m :: r).length) => own_msg (own_below hq hb) hk)
        have hql : (m :: r).length = r.length + 1 := by simp
        rw [hql] at z3 hcc1 hl3
        obtain ⟨e1, e2⟩ := unhide HCE w (Below.refl _ _) 0 (by simp)
        have HEND : Hid (∀ (wr : World) (v' : Value), wr.ownsRow (w.heap.size + 1) 82 2 v' r.length (msgCells r) → Below w.heap.size w wr → (wr.cell? ⟨p, n * 3 + 2, none⟩ = some (.slice (some ⟨g, 0, none⟩) (r.length + 1) cq) ∧ wr.frozen? ⟨p, n * 3 + 2, none⟩ = false) ∧
            HubW (wr.setCell ⟨p, n * 3 + 2, none⟩ v') p (A.setIfInBounds (n * 3 + 2) v') (updF qv n v') sv kv { H with q := updF H.q n r } ∧ Fr (blkS p qv sv kv) w (wr.setCell ⟨p, n * 3 + 2, none⟩ v') (blkS p (updF qv n v') sv kv)) := by
          intro wr v' ho hb
          have hp3 : wr.heap[p]? = some (.cells A 73 (0, 0)) := by rw [hb.block p hw.lt]; exact hw.blk
          refine ⟨⟨?_, free_block hp3⟩, hub_setQw hw hn hb.os hb.tape hb.output hb.size (fun k hk _ => hb.block k hk) (own_mono ho (Nat.zero_le _)) (fun k hk => Or.inr (by have := (ho.lt k hk).1; omega))⟩
          rw [cell_block hp3 (hw.cli n hn).2.2, hqe, hQ]; rfl
        have HSM := hide hsm
        have HGR := hide hgr
        have HK0 : Hid (Kpt w (w.alloc (.cells #[.string ⟨m.1.toArray⟩, .string ⟨m.2.toArray⟩] 82)) (.slice none 0 0) ⟨m.1.toArray⟩ ⟨m.2.toArray⟩ (r.take 0)) :=
          ⟨World.ownsRow_nil _ _ _ _, (Below.refl _ w).alloc (Nat.le_refl _) _, (MapKept.heap_alloc w _).1⟩
        have hm1 : (⟨m.1.toArray⟩ : ByteArray).data.toList = m.1 := by simp
        have hm2 : (⟨m.2.toArray⟩ : ByteArray).data.toList = m.2 := by simp
        have hmz1 : (⟨m.1.toArray⟩ : ByteArray).size ≤ 24 := by rw [Lib.size_eq]; simpa using hsm.1
        have hmz2 : (⟨m.2.toArray⟩ : ByteArray).size ≤ 8 := by rw [Lib.size_eq]; simpa using hsm.2
        have HM1 := hide hm1
        have HM2 := hide hm2
        simp only [Nat.zero_mul, List.getElem_cons_zero, Nat.zero_add] at e1 e2
        clear h hw hq c1 c2 c3 hqe hsm hgr hm1 hm2 HR HH hQ
        generalize (⟨m.1.toArray⟩ : ByteArray) = mt at *
        generalize (⟨m.2.toArray⟩ : ByteArray) = mp at *
        go_enter Tryz.func78, Tryz.ntmps78
        go_wp2_with fail
        refine (isClient_any _ _).mono ?_
        rw [hc]
        rintro e w' ⟨rfl, rfl⟩
        go_wp2_with fail
        refine (unhide HHE).mono ?_
        rintro e w' ⟨rfl, rfl⟩
        go_wp2_with fail
        go_loopg [8, 9] r.length (fun gk av ii wr => ∃ k : Nat, k ≤ r.length ∧ gk = r.length - k ∧ ii = .int .i64 ((k : Int) + 1) ∧ Hid (Kpt w' wr av mt mp (r.take k)))
        case atStart => exact ⟨0, by omega, by omega, rfl, HK0⟩
        case round =>
          clear HK0 e1 e2
          obtain ⟨k, hk, rfl, rfl, HK⟩ := hrel
          have hbs := (unhide HK).bel.size
          obtain ⟨av, lv, cv, rfl⟩ := own_slice (unhide HK).row
          by_cases hlt : k < r.length
          · obtain ⟨e1, e2⟩ := unhide HCE wr (unhide HK).bel (k + 1) (by simp; omega)
            simp only [List.getElem_cons_succ] at e1 e2
            have HNX : Hid (r.take (k + 1) = r.take k ++ [r[k]]) := List.take_succ_eq_append_getElem hlt
            have HS1 : Hid (strV r[k].1 = .string ⟨r[k].1.toArray⟩ ∧ strV r[k].2 = .string ⟨r[k].2.toArray⟩) := ⟨rfl, rfl⟩
            have htl : (r.take k).length ≤ 3 := by rw [List.length_take]; omega
            generalize r.take k = now at *
            generalize (⟨r[k].1.toArray⟩ : ByteArray) = ks at *
            generalize (⟨r[k].2.toArray⟩ : ByteArray) = kp at *
            generalize r[k] = x at *
            have HKA := hide ((unhide HK).on ((Below.refl _ wr).alloc (Nat.le_refl _) (.cells #[.string ks, .string kp] 82)))
            have hw1 : IntKind.i64.wrap ((k : Int) + 1 + 1) = (k : Int) + 1 + 1 := by rw [IntKind.wrap_i64]; omega
            have hk1 : (k : Int) + 1 < (r.length : Int) + 1 := by omega
            go_wp2_with (at_builtin; refine wpList_append_own _ rfl _ _ 67 rfl (w'.heap.size + 1) 82 i0 (.agg #[.string ByteArray.empty, .string ByteArray.empty]) 2 32 Tryz.underlying67 hi hz0 hz1 hz2 rfl (by decide) _ _ _ rfl (unhide HKA).row ⟨wr.heap.size, 0, none⟩ 1 1 [.string ks, .string kp] rfl rfl ?c1 ?c2 ?c3 ?c4 ?c5 ?_)
            first
              | (case c1 =>
                  intro j u hj
                  match j, hj with
                  | 0, hj => simp at hj; subst hj; simp [Addr.add]
                  | 1, hj => simp at hj; subst hj; simp [Addr.add])
              | skip
            case c2 => intro u hu; simp at hu; rcases hu with rfl | rfl <;> rfl
            case c3 => unfold maxLen; omega
            case c4 => omega
            case c5 => have := heap_lt (unhide HK).m; first | omega | (simp; omega)
            intro v' w3 hown' hgrow _
            have HK3 := hide ((unhide HKA).push (x := x) (by rw [(unhide HS1).1, (unhide HS1).2]; exact hown') hgrow)
            clear hown' hgrow HKA
            go_wp2_with fail
            go_roundg (r.length - (k + 1))
            case measure => omega
            case rel => exact ⟨k + 1, by omega, rfl, by go_num, by rw [unhide HNX]; exact HK3⟩
          · have hke : k = r.length := by omega
            subst hke
            rw [List.take_length] at HK
            have hk1 : decide (((r.length : Nat) : Int) + 1 < (r.length : Int) + 1) = false := by simp
            obtain ⟨⟨z4, f4⟩, hst1, hst2⟩ := unhide HEND wr _ (unhide HK).row (unhide HK).bel
            have hX : (wr.setCell ⟨p, n * 3 + 2, none⟩ (.slice av lv cv)).heap[w'.heap.size]? = some (.cells #[.string mt, .string mp] 82 (0, 0)) := by
              rw [Below.heap_setCell _ _ _ _ (by simp; omega)]; exact (unhide HK).m
            have y0 := cell_block (i := 0) hX rfl
            have y1 := cell_block (i := 1) hX rfl
            have HST1 := hide hst1
            have HST2 := hide hst2
            clear hst1 hst2 hX
            go_wp2_with fail
            go_ret2
            exact ⟨_, _, rfl, by rw [← unhide HM1, ← unhide HM2]; simp, ⟨⟨_, _, _, _, unhide HST1, rfl⟩, unhide HGR⟩, unhide HST2⟩

end Go.Proofs.YtchhmojnoiephabGreatDoor

/- The program's hub: a subscription's group and filter. -/
namespace Go.Proofs.YtchhmojnoiephabGreatDoor
open Go.ChangeShapes Go.WideShapes Go.ChangeAt Go.RowKit
set_option linter.unusedVariables false

theorem low_on (L : List UInt8) (k : Nat) (h : k < L.length) (hl : lowB L[k] = true) : (L.drop k).takeWhile lowB = L[k] :: (L.drop (k + 1)).takeWhile lowB ∧ (L.drop k).dropWhile lowB = (L.drop (k + 1)).dropWhile lowB := by
  rw [List.drop_eq_getElem_cons h, List.takeWhile_cons, List.dropWhile_cons, if_pos hl, if_pos hl]; exact ⟨rfl, rfl⟩
theorem low_off (L : List UInt8) (k : Nat) (h : k < L.length) (hl : lowB L[k] = false) : (L.drop k).takeWhile lowB = [] ∧ (L.drop k).dropWhile lowB = L.drop k := by
  rw [List.drop_eq_getElem_cons h, List.takeWhile_cons, List.dropWhile_cons, if_neg (by simp [hl]), if_neg (by simp [hl])]; exact ⟨rfl, rfl⟩
theorem low_end (L : List UInt8) (k : Nat) (h : ¬ k < L.length) : (L.drop k).takeWhile lowB = [] ∧ (L.drop k).dropWhile lowB = L.drop k := by
  rw [List.drop_eq_nil_of_le (by omega)]; exact ⟨rfl, rfl⟩
/-- at place k of the group's letters -/
def PartAt (L : List UInt8) (k : Nat) : Prop := (L.drop 7).takeWhile lowB = (L.drop 7).take (k - 7) ++ (L.drop k).takeWhile lowB ∧ (L.drop 7).dropWhile lowB = (L.drop k).dropWhile lowB
theorem part_start (L : List UInt8) : PartAt L 7 := by unfold PartAt; simp
theorem part_step (L : List UInt8) (k : Nat) (h7 : 7 ≤ k) (h : k < L.length) (hl : lowB L[k] = true) (hp : PartAt L k) : PartAt L (k + 1) := by
  obtain ⟨h1, h2⟩ := hp
  obtain ⟨l1, l2⟩ := low_on L k h hl
  refine ⟨?_, h2.trans l2⟩
  rw [h1, l1]
  have h3 : k - 7 < (L.drop 7).length := by rw [List.length_drop]; omega
  have h4 : (L.drop 7)[k - 7] = L[k] := by rw [List.getElem_drop]; congr 1; omega
  rw [show k + 1 - 7 = (k - 7) + 1 from by omega, List.take_succ_eq_append_getElem h3, h4, List.append_assoc]
  rfl
theorem part_none (L : List UInt8) (h : ¬ L.take 7 = shareL) : partS L = ([], L) := by unfold partS; rw [if_neg h]
def partM (L : List UInt8) : List UInt8 → List UInt8 → List UInt8 × List UInt8
  | [], _ => ([], L)
  | _ :: _, [] => ([], L)
  | a :: g, b :: r => if b = 47 then (a :: g, r) else ([], L)
theorem part_of (L tw dw : List UInt8) (h : L.take 7 = shareL) (h1 : (L.drop 7).takeWhile lowB = tw) (h2 : (L.drop 7).dropWhile lowB = dw) : partS L = partM L tw dw := by
  unfold partS
  rw [if_pos h]
  subst h1
  subst h2
  generalize (L.drop 7).takeWhile lowB = tw
  generalize (L.drop 7).dropWhile lowB = dw
  cases tw <;> cases dw <;> rfl
theorem part_stop {L : List UInt8} {k : Nat} (hp : PartAt L k) (hs : (L.drop k).takeWhile lowB = [] ∧ (L.drop k).dropWhile lowB = L.drop k) : (L.drop 7).takeWhile lowB = (L.drop 7).take (k - 7) ∧ (L.drop 7).dropWhile lowB = L.drop k := by
  obtain ⟨h1, h2⟩ := hp
  rw [hs.1, List.append_nil] at h1
  rw [hs.2] at h2
  exact ⟨h1, h2⟩
theorem part_bad {L : List UInt8} {k : Nat} (h : L.take 7 = shareL) (hp : PartAt L k) (hs : (L.drop k).takeWhile lowB = [] ∧ (L.drop k).dropWhile lowB = L.drop k) (hb : k = 7 ∨ ¬ k < L.length ∨ ∃ hk : k < L.length, L[k] ≠ 47) : partS L = ([], L) := by
  obtain ⟨h1, h2⟩ := part_stop hp hs
  rw [part_of L _ _ h h1 h2]
  rcases hb with rfl | hb | ⟨hk, hb⟩
  · rw [Nat.sub_self, List.take_zero]; rfl
  · rw [List.drop_eq_nil_of_le (show L.length ≤ k by omega)]
    cases (L.drop 7).take (k - 7) <;> rfl
  · rw [List.drop_eq_getElem_cons hk]
    cases (L.drop 7).take (k - 7) with
    | nil => rfl
    | cons a g => simp only [partM]; rw [if_neg hb]
theorem part_good {L : List UInt8} {k : Nat} (h : L.take 7 = shareL) (hp : PartAt L k) (hs : (L.drop k).takeWhile lowB = [] ∧ (L.drop k).dropWhile lowB = L.drop k) (h7 : 7 < k) (hk : k < L.length) (hb : L[k] = 47) : partS L = ((L.drop 7).take (k - 7), L.drop (k + 1)) := by
  obtain ⟨h1, h2⟩ := part_stop hp hs
  rw [part_of L _ _ h h1 h2, List.drop_eq_getElem_cons hk]
  have hne : 0 < ((L.drop 7).take (k - 7)).length := by rw [List.length_take, List.length_drop]; omega
  cases hc : (L.drop 7).take (k - 7) with
  | nil => rw [hc] at hne; simp at hne
  | cons a g => simp only [partM]; rw [if_pos hb]

theorem cut_to (s : ByteArray) (a b : Nat) : (s.extract a b).data.toList = (s.data.toList.drop a).take (b - a) := by rw [Lib.extract_eq]
theorem cut_end (s : ByteArray) (a : Nat) : (s.extract a s.size).data.toList = s.data.toList.drop a := by
  rw [cut_to, List.take_of_length_le (by rw [List.length_drop, len_list]; omega)]

/-- what splitSubscription answers -/
def PartPost (w : World) (L : List UInt8) (e : Ending) (w' : World) : Prop := ∃ g f : ByteArray, e = .returned (.tuple #[.string g, .string f]) ∧ g.data.toList = (partS L).1 ∧ f.data.toList = (partS L).2 ∧ ∃ n, w' = w.drewN n
theorem PartPost.whole {w : World} {s : ByteArray} (h : partS s.data.toList = ([], s.data.toList)) : PartPost w s.data.toList (.returned (.tuple #[.string ⟨#[]⟩, .string s])) w := ⟨_, s, rfl, by rw [h], by rw [h], 0, rfl⟩
theorem byte_47 (b : UInt8) : (b.toNat : Int) = 47 ↔ b = 47 := by
  constructor
  · intro h
    have : b.toNat = (47 : UInt8).toNat := by simp; omega
    exact UInt8.toNat_inj.1 this
  · intro h; subst h; rfl

set_option maxHeartbeats 2000000 in
theorem split_any' (s : ByteArray) (w : World) (hs : s.size ≤ 24) : Calls Tryz.prog 67 #[.string s] w (PartPost w s.data.toList) := by
  by_cases h7 : s.size < 7
  · have hI : (s.size : Int) < 7 := by omega
    have HR := hide (part_none s.data.toList (fun h => by have := congrArg List.length h; rw [List.length_take, len_list] at this; simp [shareL] at this; omega))
    go_enter Tryz.func67, Tryz.ntmps67
    go_wp2_with fail
    go_ret2
    exact PartPost.whole (unhide HR)
  · have hI : decide ((s.size : Int) < 7) = false := by simp; omega
    have hI7 : (7 : Int) ≤ (s.size : Int) := by omega
    have hcut : (s.extract 0 7).toList = s.data.toList.take 7 := by rw [Lib.toList_data, cut_to]; simp
    by_cases hsh : s.data.toList.take 7 = shareL
    · have q1 : ((s.extract 0 7).toList != [36, 115, 104, 97, 114, 101, 47]) = false := by rw [hcut, hsh]; rfl
      have q2 : ((s.extract 0 7).toList == [36, 115, 104, 97, 114, 101, 47]) = true := by rw [hcut, hsh]; rfl
      have HSH := hide hsh
      have HP0 := hide (part_start s.data.toList)
      clear hcut hsh
      go_enter Tryz.func67, Tryz.ntmps67
      go_wp2_with fail
      go_loopg [5] s.size (fun gk en wr => ∃ k : Nat, 7 ≤ k ∧ k ≤ s.size ∧ gk = s.size - k + 7 ∧ en = .int .i64 k ∧ wr = w ∧ Hid (PartAt s.data.toList k))
      case atStart => exact ⟨7, by omega, by omega, by omega, rfl, rfl, HP0⟩
      case round =>
        clear HP0
        obtain ⟨k, hk7, hk, rfl, rfl, hwr, HP⟩ := hrel
        have hwr' := hwr.symm
        subst hwr'
        clear hwr
        have HBAD := hide (fun hs hb => PartPost.whole (w := w) (part_bad (unhide HSH) (unhide HP) hs hb))
        have HGOOD := hide (part_good (unhide HSH) (unhide HP))
        by_cases hlt : k < s.size
        · have hlL : k < s.data.toList.length := by rw [len_list]; exact hlt
          have HST := hide (part_step s.data.toList k hk7 hlL)
          have HOF := hide (low_off s.data.toList k hlL)
          have hge : s.data.toList[k] = s[k] := get_list s k hlt
          have HGE := hide hge
          have hltI : (k : Int) < (s.size : Int) := by omega
          by_cases h97 : (97 : Int) ≤ (s[k].toNat : Int)
          · by_cases h122 : (s[k].toNat : Int) ≤ 122
            · have HZ := hide (unhide HST (by rw [hge]; unfold lowB; simp; omega) (unhide HP))
              clear hge
              go_wp2_with fail
              go_roundg (s.size - (k + 1) + 7)
              case measure => omega
              case rel => exact ⟨k + 1, by omega, by omega, rfl, by go_num, rfl, HZ⟩
            · have HO := hide (unhide HOF (by rw [hge]; unfold lowB; simp; omega))
              have hd : decide ((s[k].toNat : Int) ≤ 122) = false := by simp; omega
              have hne : ((s[k].toNat : Int) != 47) = true := by simp; omega
              have hne2 : ((s[k].toNat : Int) == 47) = false := by simp; omega
              have HPP := hide (unhide HBAD (unhide HO) (Or.inr (Or.inr ⟨hlL, by rw [hge, Ne, ← byte_47]; omega⟩)))
              clear hge
              by_cases hk77 : k = 7
              · subst hk77
                go_wp2_with fail
                go_ret2
                exact unhide HPP
              · have hkb : ((k : Int) == 7) = false := by simp; omega
                have hkn : ((k : Int) == (s.size : Int)) = false := by simp; omega
                go_wp2_with fail
                go_ret2
                exact unhide HPP
          · have HO := hide (unhide HOF (by rw [hge]; unfold lowB; simp; omega))
            have hd : decide ((97 : Int) ≤ (s[k].toNat : Int)) = false := by simp; omega
            by_cases hk77 : k = 7
            · have HPP := hide (unhide HBAD (unhide HO) (Or.inl hk77))
              subst hk77
              clear hge
              go_wp2_with fail
              go_ret2
              exact unhide HPP
            · have hkb : ((k : Int) == 7) = false := by simp; omega
              have hkn : ((k : Int) == (s.size : Int)) = false := by simp; omega
              by_cases h47 : (s[k].toNat : Int) = 47
              · have hne : ((s[k].toNat : Int) != 47) = false := by simp [h47]
                have hne2 : ((s[k].toNat : Int) == 47) = true := by simp [h47]
                have HG := hide (unhide HGOOD (unhide HO) (by omega) hlL (by rw [hge, ← byte_47]; exact h47))
                have hk1 : (k : Int) + 1 ≤ (s.size : Int) := by omega
                have hk70 : (7 : Int) ≤ (k : Int) := by omega
                clear hge h47
                go_wp2_with fail
                go_quiet (fail)
                go_wp2_with fail
                go_ret2
                exact ⟨_, _, rfl, by rw [unhide HG]; exact cut_to s 7 k, by rw [unhide HG]; exact cut_end s (k + 1), _, rfl⟩
              · have hne : ((s[k].toNat : Int) != 47) = true := by simp [h47]
                have hne2 : ((s[k].toNat : Int) == 47) = false := by simp [h47]
                have HPP := hide (unhide HBAD (unhide HO) (Or.inr (Or.inr ⟨hlL, by rw [hge, Ne, ← byte_47]; exact h47⟩)))
                clear hge h47
                go_wp2_with fail
                go_ret2
                exact unhide HPP
        · have hke : k = s.size := by omega
          have HPP := hide (unhide HBAD (low_end s.data.toList k (by rw [len_list]; exact hlt)) (Or.inr (Or.inl (by rw [len_list]; exact hlt))))
          have hltI : decide ((k : Int) < (s.size : Int)) = false := by simp; omega
          have hkn : ((k : Int) == (s.size : Int)) = true := by simp; omega
          by_cases hk77 : k = 7
          · have hkb : ((k : Int) == 7) = true := by simp [hk77]
            clear hk77 hke
            go_wp2_with fail
            go_ret2
            exact unhide HPP
          · have hkb : ((k : Int) == 7) = false := by simp; omega
            clear hke
            go_wp2_with fail
            go_ret2
            exact unhide HPP
    · have q1 : ((s.extract 0 7).toList != [36, 115, 104, 97, 114, 101, 47]) = true := by rw [hcut]; simpa [shareL] using hsh
      have q2 : ((s.extract 0 7).toList == [36, 115, 104, 97, 114, 101, 47]) = false := by rw [hcut]; simpa [shareL] using hsh
      have HR := hide (part_none s.data.toList hsh)
      clear hcut hsh
      go_enter Tryz.func67, Tryz.ntmps67
      go_wp2_with fail
      go_ret2
      exact PartPost.whole (unhide HR)

end Go.Proofs.YtchhmojnoiephabGreatDoor

/- The program's hub: Subscribe. -/
namespace Go.Proofs.YtchhmojnoiephabGreatDoor
open Go.ChangeShapes Go.WideShapes Go.ChangeAt Go.RowKit
set_option linter.unusedVariables false

def checkS (H : HubL) (c : Int) (s : List UInt8) : Int × Int :=
  if cliB c = true then (if 24 < s.length then (1, 0) else if (filterR (partS s).2).1 ≠ 0 then ((filterR (partS s).2).1, (s.length : Int) - ((partS s).2.length : Int) + (filterR (partS s).2).2) else if H.on c.toNat = true then (0, 0) else (9, 0)) else (4, 0)
theorem badF_le (l : List UInt8) : ∀ (p : Int) (sl i j : Nat), badF p sl i l = some j → j < i + l.length := by
  induction l with
  | nil => intro p sl i j h; simp [badF] at h
  | cons c r ih =>
    intro p sl i j h
    simp only [badF] at h
    split at h
    · have := ih _ _ _ _ h
      simp; omega
    · simp at h; subst h; simp
theorem filterR_place (l : List UInt8) : 0 ≤ (filterR l).2 ∧ (filterR l).2 ≤ 24 := by
  unfold filterR
  split
  · simp
  · split
    · simp
    · cases hb : badF 47 0 0 l with
      | none => simp
      | some j => have := badF_le l _ _ _ _ hb; simp only; omega
theorem partS_len (L : List UInt8) : (partS L).1.length ≤ L.length ∧ (partS L).2.length ≤ L.length := by
  by_cases h : L.take 7 = shareL
  · rw [part_of L _ _ h rfl rfl]
    have h1 : ((L.drop 7).takeWhile lowB).length ≤ L.length := Nat.le_trans (List.takeWhile_sublist _).length_le (by rw [List.length_drop]; omega)
    have h2 : ((L.drop 7).dropWhile lowB).length ≤ L.length := Nat.le_trans (List.dropWhile_sublist _).length_le (by rw [List.length_drop]; omega)
    generalize (L.drop 7).takeWhile lowB = tw at *
    generalize (L.drop 7).dropWhile lowB = dw at *
    cases tw with
    | nil => simp [partM]
    | cons a g =>
      cases dw with
      | nil => simp [partM]
      | cons b r =>
        simp only [partM]
        split
        · exact ⟨h1, by show r.length ≤ L.length; simp at h2; omega⟩
        · simp
  · rw [part_none L h]; simp

set_option maxHeartbeats 2000000 in
theorem checkSub_any (p : Nat) (S : Nat → Prop) (H : HubL) (c : Int) (s : ByteArray) (hs : s.size ≤ maxLen) (w : World) (h : HubAt w p S H) :
    Calls Tryz.prog 66 #[.pointer (some ⟨p, 0, none⟩), .int .i64 c, .string s] w fun e w' => e = .returned (.tuple #[.int .i64 (checkS H c s.data.toList).1, .int .i64 (checkS H c s.data.toList).2]) ∧ ∃ n, w' = w.drewN n := by
  unfold maxLen at hs
  have HHE := hide (fun x (hb : Below w.heap.size w x) => isHere_any p S H c x (h.below hb))
  clear h
  cases hc : cliB c with
  | false =>
    have HR : Hid (checkS H c s.data.toList = (4, 0)) := by unfold Hid checkS; rw [if_neg (by simp [hc])]
    rw [unhide HR]
    go_enter Tryz.func66, Tryz.ntmps66
    go_wp2_with fail
    refine (isClient_any _ _).mono ?_
    rw [hc]
    rintro e w' ⟨rfl, rfl⟩
    go_wp2_with fail
    go_ret2
    exact ⟨rfl, 0, rfl⟩
  | true =>
    by_cases h24 : 24 < s.size
    · have HR : Hid (checkS H c s.data.toList = (1, 0)) := by unfold Hid checkS; rw [if_pos hc, if_pos (by rw [len_list]; exact h24)]
      rw [unhide HR]
      have hI : (24 : Int) < (s.size : Int) := by omega
      go_enter Tryz.func66, Tryz.ntmps66
      go_wp2_with fail
      refine (isClient_any _ _).mono ?_
      rw [hc]
      rintro e w' ⟨rfl, rfl⟩
      go_wp2_with fail
      go_ret2
      exact ⟨rfl, 0, rfl⟩
    · have hI : decide ((24 : Int) < (s.size : Int)) = false := by simp; omega
      have hpl := (partS_len s.data.toList).2
      rw [len_list] at hpl
      by_cases hf0 : (filterR (partS s.data.toList).2).1 = 0
      · have hfb : ((filterR (partS s.data.toList).2).1 != 0) = false := by simp [hf0]
        have HR : Hid (checkS H c s.data.toList = if H.on c.toNat = true then (0, 0) else (9, 0)) := by unfold Hid checkS; rw [if_pos hc, if_neg (by rw [len_list]; exact h24), if_neg (by simp [hf0])]
        rw [unhide HR]
        obtain ⟨n, rfl, hn⟩ := cliB_nat hc
        rw [hereB_of H n hn] at HHE
        rw [Int.toNat_natCast]
        cases hon : H.on n with
        | true =>
          rw [hon] at HHE
          rw [if_pos rfl]
          go_enter Tryz.func66, Tryz.ntmps66
          go_wp2_with fail
          refine (isClient_any _ _).mono ?_
          rw [hc]
          rintro e w' ⟨rfl, rfl⟩
          go_wp2_with fail
          refine (split_any' s _ (by omega)).mono ?_
          rintro e w2 ⟨g, f, rfl, hg, hf, nn, rfl⟩
          go_wp2_with fail
          refine (hubFilter_any f _ (by rw [← len_list, hf]; unfold maxLen; omega)).mono ?_
          rw [hf]
          rintro e w3 ⟨rfl, rfl⟩
          go_wp2_with fail
          refine (unhide HHE (w'.drewN nn) ⟨rfl, rfl, rfl, Nat.le_refl _, fun _ _ => rfl⟩).mono ?_
          rintro e w4 ⟨rfl, rfl⟩
          go_wp2_with fail
          go_ret2
          exact ⟨rfl, nn, rfl⟩
        | false =>
          rw [hon] at HHE
          rw [if_neg (by simp)]
          go_enter Tryz.func66, Tryz.ntmps66
          go_wp2_with fail
          refine (isClient_any _ _).mono ?_
          rw [hc]
          rintro e w' ⟨rfl, rfl⟩
          go_wp2_with fail
          refine (split_any' s _ (by omega)).mono ?_
          rintro e w2 ⟨g, f, rfl, hg, hf, nn, rfl⟩
          go_wp2_with fail
          refine (hubFilter_any f _ (by rw [← len_list, hf]; unfold maxLen; omega)).mono ?_
          rw [hf]
          rintro e w3 ⟨rfl, rfl⟩
          go_wp2_with fail
          refine (unhide HHE (w'.drewN nn) ⟨rfl, rfl, rfl, Nat.le_refl _, fun _ _ => rfl⟩).mono ?_
          rintro e w4 ⟨rfl, rfl⟩
          go_wp2_with fail
          go_ret2
          exact ⟨rfl, nn, rfl⟩
      · have hfb : ((filterR (partS s.data.toList).2).1 != 0) = true := by simp [hf0]
        have HR : Hid (checkS H c s.data.toList = ((filterR (partS s.data.toList).2).1, (s.size : Int) - ((partS s.data.toList).2.length : Int) + (filterR (partS s.data.toList).2).2)) := by
          unfold Hid checkS; rw [if_pos hc, if_neg (by rw [len_list]; exact h24), if_pos hf0, len_list]
        rw [unhide HR]
        have hfp := filterR_place (partS s.data.toList).2
        generalize hfr : filterR (partS s.data.toList).2 = fr at *
        have HFR := hide hfr
        clear hfr
        go_enter Tryz.func66, Tryz.ntmps66
        go_wp2_with fail
        refine (isClient_any _ _).mono ?_
        rw [hc]
        rintro e w' ⟨rfl, rfl⟩
        go_wp2_with fail
        refine (split_any' s _ (by omega)).mono ?_
        rintro e w2 ⟨g, f, rfl, hg, hf, nn, rfl⟩
        have hfl : f.size = (partS s.data.toList).2.length := by rw [← hf, len_list]
        go_wp2_with fail
        refine (hubFilter_any f _ (by rw [hfl]; unfold maxLen; omega)).mono ?_
        rw [hf, unhide HFR]
        rintro e w3 ⟨rfl, rfl⟩
        have hw1 : IntKind.i64.wrap ((s.size : Int) - (f.size : Int)) = (s.size : Int) - (f.size : Int) := by rw [IntKind.wrap_i64]; omega
        have hw2 : IntKind.i64.wrap ((s.size : Int) - (f.size : Int) + fr.2) = (s.size : Int) - (f.size : Int) + fr.2 := by rw [IntKind.wrap_i64]; omega
        go_wp2_with fail
        go_ret2
        exact ⟨by rw [← hfl]; rfl, nn, rfl⟩

/-- what is kept is delivered to who subscribes -/
def delK (n : Nat) (f : List UInt8) : HubL → List MsgL → HubL
  | H, [] => H
  | H, m :: K => delK n f (if matchB f m.1 = true then delH H n m else H) K
theorem delK_step (n : Nat) (f : List UInt8) (H : HubL) (K : List MsgL) (k : Nat) (h : k < K.length) : delK n f H (K.drop k) = delK n f (if matchB f K[k].1 = true then delH H n K[k] else H) (K.drop (k + 1)) := by
  rw [List.drop_eq_getElem_cons h]; rfl
theorem delK_good (n : Nat) (f : List UInt8) (K : List MsgL) (hK : ∀ m ∈ K, smallM m) : ∀ H, goodH H → goodH (delK n f H K) := by
  induction K with
  | nil => intro H h; exact h
  | cons m K ih =>
    intro H h
    simp only [delK]
    refine ih (fun x hx => hK x (by simp [hx])) _ ?_
    split
    · exact del_good h n m (hK m (by simp))
    · exact h

/-- the hub while its kept messages are delivered -/
structure Dlv (w wr : World) (p : Nat) (qv : Nat → Value) (sv kv : Value) (K : List MsgL) (H : HubL) : Prop where
  hub : ∃ A' qv', HubW wr p A' qv' sv kv H ∧ Fr (blkS p qv sv kv) w wr (blkS p qv' sv kv)
  good : goodH H
  kept : H.kept = K
theorem Dlv.on {w wr w2 : World} {p : Nat} {qv : Nat → Value} {sv kv : Value} {K : List MsgL} {H : HubL} (h : Dlv w wr p qv sv kv K H) (hb : Below wr.heap.size wr w2) : Dlv w w2 p qv sv kv K H := by
  obtain ⟨A', qv', h1, h2⟩ := h.hub
  exact ⟨⟨A', qv', h1.below hb, h2.trans (Fr.of_below hb)⟩, h.good, h.kept⟩

set_option maxHeartbeats 2000000 in
theorem delKept_any (p : Nat) (S : Nat → Prop) (H : HubL) (n : Nat) (hn : n < 6) (f : ByteArray) (hf : f.size ≤ 24) (w : World) (h : HubAt w p S H) :
    Calls Tryz.prog 69 #[.pointer (some ⟨p, 0, none⟩), .int .i64 n, .string f] w (HubDone w p S (delK n f.data.toList H H.kept)) := by
  obtain ⟨A, qv, sv, kv, hw, rfl⟩ := h.body
  have hDL : Dlv w w p qv sv kv H.kept H := ⟨⟨A, qv, hw, Fr.of_below (Below.refl _ _)⟩, h.good, rfl⟩
  obtain ⟨a, l, c, rfl⟩ := own_slice hw.kown
  have hl : l = H.kept.length := own_len hw.kown
  subst hl
  have z0 := cell_block hw.blk hw.keptc
  have hp := hw.lt
  have hk4 := h.good.kept.1
  have HKS := hide h.good.kept.2
  have HD := hide hDL
  have HA : Hid (delK n f.data.toList H H.kept = delK n f.data.toList H (H.kept.drop 0)) := by unfold Hid; rw [List.drop_zero]
  clear h hw hDL
  generalize hfin : delK n f.data.toList H H.kept = fin at *
  clear hfin
  generalize H.kept = K at *
  go_enter Tryz.func69, Tryz.ntmps69
  go_wp2_with fail
  go_loopg [7, 13] K.length (fun gk _ i wr => ∃ (k : Nat) (H' : HubL), k ≤ K.length ∧ gk = K.length - k ∧ i = .int .i64 k ∧ Hid (fin = delK n f.data.toList H' (K.drop k)) ∧ Hid (Dlv w wr p qv sv (.slice a K.length c) K H'))
  case atStart => exact ⟨0, H, by omega, by omega, rfl, HA, HD⟩
  case round =>
    clear HD HA z0
    obtain ⟨k, H', hk, rfl, rfl, HA, HD⟩ := hrel
    by_cases hlt : k < K.length
    · obtain ⟨A', qv', hw', hf'⟩ := (unhide HD).hub
      have hkn := hw'.kown
      rw [(unhide HD).kept] at hkn
      obtain ⟨g, cap, hv⟩ := own_form hkn (by omega)
      simp only [Value.slice.injEq] at hv
      obtain ⟨rfl, _, rfl⟩ := hv
      have hcc := own_cap hkn
      unfold maxLen at hcc
      obtain ⟨hcc1, hcc2⟩ := hcc
      obtain ⟨e1, e2⟩ := own_msg hkn hlt
      have hsm := unhide HKS _ (List.getElem_mem hlt)
      have HST := hide (delK_step n f.data.toList H' K k hlt)
      have HMT : Hid (∀ x, Calls Tryz.prog 88 #[.string f, .string ⟨K[k].1.toArray⟩] x fun e w' => e = .returned (.bool (matchB f.data.toList K[k].1)) ∧ w' = x) := by
        intro x
        have := matches_any f (⟨K[k].1.toArray⟩ : ByteArray) x hf (by rw [Lib.size_eq]; simpa using hsm.1)
        simpa using this
      have hbA : Below wr.heap.size wr (wr.alloc (.cells #[.string ⟨K[k].1.toArray⟩, .string ⟨K[k].2.toArray⟩] 82)) := (Below.refl _ wr).alloc (Nat.le_refl _) _
      have HDL : Hid (Calls Tryz.prog 60 #[.pointer (some ⟨p, 0, none⟩), .int .i64 n, .agg #[.string ⟨K[k].1.toArray⟩, .string ⟨K[k].2.toArray⟩]] (wr.alloc (.cells #[.string ⟨K[k].1.toArray⟩, .string ⟨K[k].2.toArray⟩] 82)) (DelPost (wr.alloc (.cells #[.string ⟨K[k].1.toArray⟩, .string ⟨K[k].2.toArray⟩] 82)) p qv' sv (.slice (some ⟨g, 0, none⟩) K.length c) (delH H' n K[k]))) :=
        deliver_w p A' qv' sv _ H' n hn K[k] hsm _ (hw'.below hbA) (unhide HD).good
      have HNX : Hid (∀ w3 A3 qv3, HubW w3 p A3 qv3 sv (.slice (some ⟨g, 0, none⟩) K.length c) (delH H' n K[k]) → Fr (blkS p qv' sv (.slice (some ⟨g, 0, none⟩) K.length c)) (wr.alloc (.cells #[.string ⟨K[k].1.toArray⟩, .string ⟨K[k].2.toArray⟩] 82)) w3 (blkS p qv3 sv (.slice (some ⟨g, 0, none⟩) K.length c)) → Dlv w w3 p qv sv (.slice (some ⟨g, 0, none⟩) K.length c) K (delH H' n K[k])) := by
        intro w3 A3 qv3 x1 x2
        exact ⟨⟨A3, qv3, x1, (hf'.trans (Fr.of_below hbA)).trans x2⟩, del_good (unhide HD).good n _ hsm, (del_subs H' n K[k]).2.1.trans (unhide HD).kept⟩
      have HON := hide ((unhide HD).on hbA)
      clear hw' hf' hkn hsm hbA HD
      generalize matchB f.data.toList K[k].1 = mb at *
      generalize delH H' n K[k] = H2 at *
      generalize (⟨K[k].1.toArray⟩ : ByteArray) = ks at *
      generalize (⟨K[k].2.toArray⟩ : ByteArray) = kp at *
      cases mb
      · have HZ := hide ((unhide HA).trans (unhide HST))
        rw [if_neg (by simp)] at HZ
        go_wp2_with fail
        refine (unhide HMT _).mono ?_
        rintro e w2 ⟨rfl, rfl⟩
        go_wp2_with fail
        go_roundg (K.length - (k + 1))
        case measure => omega
        case rel => exact ⟨k + 1, H', by omega, rfl, by go_num, HZ, HON⟩
      · have HZ := hide ((unhide HA).trans (unhide HST))
        rw [if_pos rfl] at HZ
        go_wp2_with fail
        refine (unhide HMT _).mono ?_
        rintro e w2 ⟨rfl, rfl⟩
        go_wp2_with fail
        refine (unhide HDL).mono ?_
        rintro e w3 ⟨⟨v3, rfl⟩, A3, qv3, x1, x2⟩
        have HD3 := hide (unhide HNX w3 A3 qv3 x1 x2)
        clear x1 x2
        go_wp2_with fail
        go_roundg (K.length - (k + 1))
        case measure => omega
        case rel => exact ⟨k + 1, H2, by omega, rfl, by go_num, HZ, HD3⟩
    · rw [List.drop_eq_nil_of_le (by omega)] at HA
      have HEN : Hid (∃ S', HubAt wr p S' fin ∧ Fr (blkS p qv sv (.slice a K.length c)) w wr S') := by
        obtain ⟨A', qv', hw', hf'⟩ := (unhide HD).hub
        have hfe : fin = H' := unhide HA
        rw [hfe]
        exact ⟨_, ⟨⟨A', qv', sv, _, hw', rfl⟩, (unhide HD).good⟩, hf'⟩
      go_wp2_with fail
      go_end0
      obtain ⟨S', t1, t2⟩ := unhide HEN
      exact ⟨⟨_, rfl⟩, S', t1, t2⟩

end Go.Proofs.YtchhmojnoiephabGreatDoor
