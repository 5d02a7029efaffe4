import Derived.Test.YtchhmojnoiephabHubI
import Derived.Test.YtchhmojnoiephabPureC
/- The program's hub: Publish. -/
namespace Go.Proofs.Ytchhmojnoiephab
open Go.ChangeShapes Go.WideShapes Go.ChangeAt Go.RowKit
set_option linter.unusedVariables false

theorem arr_back (t : ByteArray) : (⟨t.data.toList.toArray⟩ : ByteArray) = t := by cases t; simp
theorem putK_len (K : List MsgL) (t : List UInt8) : (K.filter (fun k => ltL t k.1)).length + (K.filter (fun k => gtL t k.1)).length + (K.filter (fun k => decide (k.1 = t))).length ≤ K.length := by
  induction K with
  | nil => simp
  | cons k K ih =>
    simp only [List.filter_cons, List.length_cons]
    by_cases he : k.1 = t
    · have h1 : ltL t k.1 = false := by unfold ltL; rw [he]; exact less_irr t
      have h2 : gtL t k.1 = false := by unfold gtL; rw [he]; simp
      rw [h1, h2]
      simp [he]
      omega
    · have h3 : decide (k.1 = t) = false := by simpa using he
      rw [h3]
      cases h1 : ltL t k.1 with
      | true =>
        have h2 : gtL t k.1 = false := by unfold gtL; unfold ltL at h1; rw [h1]; rfl
        rw [h2]; simp; omega
      | false =>
        cases h2 : gtL t k.1 <;> simp <;> omega
theorem putK_good {H : HubL} (hg : goodH H) (m : MsgL) (hm : smallM m) (hr : roomB H.kept m = true) : goodH { H with kept := putK H.kept m } := by
  refine ⟨hg.queue, hg.subs, ?_, fun x hx => ?_⟩
  · have h1 := putK_len H.kept m.1
    have h4 := hg.kept.1
    show (putK H.kept m).length ≤ 4
    unfold putK
    rw [List.length_append, List.length_append]
    unfold roomB at hr
    simp only [Bool.or_eq_true, decide_eq_true_eq] at hr
    split
    · simp; omega
    · rename_i hne
      simp only [List.length_singleton]
      rcases hr with h | h | h
      · rw [decide_eq_true h] at hne; exact absurd rfl hne
      · omega
      · have h5 : 0 < (H.kept.filter (fun k => decide (k.1 = m.1))).length := by
          rw [List.length_pos_iff_exists_mem]
          rw [List.any_eq_true] at h
          obtain ⟨x, hx, hxe⟩ := h
          exact ⟨x, List.mem_filter.2 ⟨hx, hxe⟩⟩
        omega
  · have hx' : x ∈ putK H.kept m := hx
    unfold putK at hx'
    rcases List.mem_append.1 hx' with h | h
    · rcases List.mem_append.1 h with h | h
      · exact hg.kept.2 x (List.mem_filter.1 h).1
      · split at h
        · cases h
        · rw [List.mem_singleton.1 h]; exact hm
    · exact hg.kept.2 x (List.mem_filter.1 h).1

def pubH (H : HubL) (t p : List UInt8) (keep : Bool) : (List Int × Int × Int) × HubL :=
  if (topicR t).1 ≠ 0 then (([], (topicR t).1, (topicR t).2), H)
  else if 8 < p.length then (([], 10, 0), H)
  else if keep = true then (if roomB H.kept (t, p) = true then (((spreadH { H with kept := putK H.kept (t, p) } (t, p)).1, 0, 0), (spreadH { H with kept := putK H.kept (t, p) } (t, p)).2) else (([], 7, 0), H))
  else (((spreadH H (t, p)).1, 0, 0), (spreadH H (t, p)).2)

/-- what Publish answers -/
def PubPost (w : World) (p : Nat) (S : Nat → Prop) (r : (List Int × Int × Int) × HubL) (e : Ending) (w' : World) : Prop :=
  ∃ v S', e = .returned (.tuple #[v, .int .i64 r.1.2.1, .int .i64 r.1.2.2]) ∧ w'.ownsRow w.heap.size 3 1 v r.1.1.length (r.1.1.map (Value.int .i64)) ∧ (∀ k, v.ownBlock = some k → ¬ S' k) ∧ HubAt w' p S' r.2 ∧ Fr S w w' S'
theorem PubPost.none {w w' : World} {p : Nat} {S : Nat → Prop} {H : HubL} {a b : Int} (h : HubAt w p S H) (hb : Below w.heap.size w w') : PubPost w p S (([], a, b), H) (.returned (.tuple #[.slice none 0 0, .int .i64 a, .int .i64 b])) w' :=
  ⟨_, S, rfl, World.ownsRow_nil _ _ _ _, (fun k hk => by cases hk), h.below hb, Fr.of_below hb⟩
theorem PubPost.of_spr {w w1 w' : World} {p : Nat} {S S1 : Nat → Prop} {H : HubL} {m : MsgL} {v : Value} {S' : Nat → Prop} (hf : Fr S w w1 S1) (h1 : w'.ownsRow w1.heap.size 3 1 v (spreadH H m).1.length ((spreadH H m).1.map (Value.int .i64))) (h2 : ∀ k, v.ownBlock = some k → ¬ S' k) (h3 : HubAt w' p S' (spreadH H m).2) (h4 : Fr S1 w1 w' S') :
    PubPost w p S (((spreadH H m).1, 0, 0), (spreadH H m).2) (.returned (.tuple #[v, .int .i64 0, .int .i64 0])) w' := ⟨v, S', rfl, own_mono h1 hf.size, h2, h3, hf.trans h4⟩

set_option maxHeartbeats 4000000 in
set_option maxRecDepth 1000000 in
theorem publish_any (p : Nat) (S : Nat → Prop) (H : HubL) (t q : ByteArray) (keep : Bool) (ht : t.size ≤ maxLen) (hq : q.size ≤ maxLen) (w : World) (h : HubAt w p S H) :
    Calls Try.prog 7 #[.pointer (some ⟨p, 0, none⟩), .string t, .string q, .bool keep] w (PubPost w p S (pubH H t.data.toList q.data.toList keep)) := by
  have HH := hide h
  by_cases h0 : (topicR t.data.toList).1 = 0
  · have hb0 : ((topicR t.data.toList).1 != 0) = false := by simp [h0]
    by_cases h8 : 8 < q.size
    · have HR : Hid (pubH H t.data.toList q.data.toList keep = (([], 10, 0), H)) := by unfold Hid pubH; rw [if_neg (by simp [h0]), if_pos (by rw [len_list]; exact h8)]
      rw [unhide HR]
      clear h h0 HR
      have h8I : (8 : Int) < (q.size : Int) := by omega
      go_enter Try.func7, Try.ntmps7
      go_wp2_with fail
      refine (hubTopic_any t _ ht).mono ?_
      rintro e w1 ⟨rfl, rfl⟩
      go_wp2_with fail
      go_ret3
      exact PubPost.none (unhide HH) (Below.refl _ _)
    · have h8I : decide ((8 : Int) < (q.size : Int)) = false := by simp; omega
      have hsm : smallM (t.data.toList, q.data.toList) := ⟨by have := (topicR_len _ h0).1; simpa using this, by simp only [len_list]; omega⟩
      have hmv : msgV (t.data.toList, q.data.toList) = .agg #[.string t, .string q] := by unfold msgV strV; rw [arr_back, arr_back]
      have HSP := hide (fun (S' : Nat → Prop) (H' : HubL) (x : World) (hx : HubAt x p S' H') => spread_any p S' H' (t.data.toList, q.data.toList) hsm x hx)
      rw [hmv] at HSP
      have HAL := hide (h.below ((Below.refl _ w).alloc (Nat.le_refl _) (.cells #[.string t, .string q] 48)))
      have HFA := hide (Fr.alloc (S := S) w (.cells #[.string t, .string q] 48))
      have hSw : ¬ S w.heap.size := fun hs => by have := h.lt hs; omega
      cases keep
      · have HR : Hid (pubH H t.data.toList q.data.toList false = (((spreadH H (t.data.toList, q.data.toList)).1, 0, 0), (spreadH H (t.data.toList, q.data.toList)).2)) := by unfold Hid pubH; rw [if_neg (by simp [h0]), if_neg (by rw [len_list]; exact h8), if_neg (by simp)]
        rw [unhide HR]
        clear h h0 HR h8 hmv
        go_enter Try.func7, Try.ntmps7
        go_wp2_with fail
        refine (hubTopic_any t _ ht).mono ?_
        rintro e w1 ⟨rfl, rfl⟩
        go_wp2_with fail
        refine (unhide HSP _ _ _ (unhide HAL)).mono ?_
        rintro e w2 ⟨ov, S2, rfl, h1, h2, h3, h4⟩
        have HEN := hide (PubPost.of_spr (unhide HFA) h1 h2 h3 h4)
        obtain ⟨ao, lo, co, rfl⟩ := own_slice h1
        clear h1 h2 h3 h4
        go_wp2_with fail
        go_ret3
        exact unhide HEN
      · cases hrb : roomB H.kept (t.data.toList, q.data.toList)
        · have HR : Hid (pubH H t.data.toList q.data.toList true = (([], 7, 0), H)) := by unfold Hid pubH; rw [if_neg (by simp [h0]), if_neg (by rw [len_list]; exact h8), if_pos rfl, if_neg (by simp [hrb])]
          rw [unhide HR]
          have HRM := hide (hasRoom_any p S H (t.data.toList, q.data.toList) _ (unhide HAL))
          rw [hmv, hrb] at HRM
          clear h h0 HR h8 hmv hrb
          go_enter Try.func7, Try.ntmps7
          go_wp2_with fail
          refine (hubTopic_any t _ ht).mono ?_
          rintro e w1 ⟨rfl, rfl⟩
          go_wp2_with fail
          refine (unhide HRM).mono ?_
          rintro e w2 ⟨rfl, hb2⟩
          have HB2 : Hid (Below w1.heap.size w1 w2) := ((Below.refl _ w1).alloc (Nat.le_refl _) _).trans (hb2.mono (by simp))
          clear hb2
          go_wp2_with fail
          go_ret3
          exact PubPost.none (unhide HH) (unhide HB2)
        · have HR : Hid (pubH H t.data.toList q.data.toList true = (((spreadH { H with kept := putK H.kept (t.data.toList, q.data.toList) } (t.data.toList, q.data.toList)).1, 0, 0), (spreadH { H with kept := putK H.kept (t.data.toList, q.data.toList) } (t.data.toList, q.data.toList)).2)) := by
            unfold Hid pubH; rw [if_neg (by simp [h0]), if_neg (by rw [len_list]; exact h8), if_pos rfl, if_pos hrb]
          rw [unhide HR]
          have HRM := hide (hasRoom_any p S H (t.data.toList, q.data.toList) _ (unhide HAL))
          rw [hmv, hrb] at HRM
          have HPK := hide (fun (x : World) (hx : HubAt x p S H) => putKept_any p S H (t.data.toList, q.data.toList) (putK_good h.good _ hsm hrb) x hx)
          rw [hmv] at HPK
          have HMB := hide (MapKept.heap_alloc w (.cells #[.string t, .string q] 48)).1
          clear h h0 HR h8 hmv hrb
          go_enter Try.func7, Try.ntmps7
          go_wp2_with fail
          refine (hubTopic_any t _ ht).mono ?_
          rintro e w1 ⟨rfl, rfl⟩
          go_wp2_with fail
          refine (unhide HRM).mono ?_
          rintro e w2 ⟨rfl, hb2⟩
          have hX2 := (hb2.block w1.heap.size (by simp)).trans (unhide HMB)
          have HH2 := hide ((unhide HAL).below hb2)
          have HF2 := hide ((unhide HFA).trans (Fr.of_below hb2))
          have x0 := cell_block (i := 0) hX2 rfl
          have x1 := cell_block (i := 1) hX2 rfl
          have HX2 := hide hX2
          clear hb2 hX2 HMB HAL HFA HRM
          go_wp2_with fail
          refine (unhide HPK _ (unhide HH2)).mono ?_
          rintro e w3 ⟨⟨v3, rfl⟩, S3, hH3, hF3⟩
          have hX3 := (hF3.keep w1.heap.size (heap_lt (unhide HX2)) hSw).trans (unhide HX2)
          have y0 := cell_block (i := 0) hX3 rfl
          have y1 := cell_block (i := 1) hX3 rfl
          have HF3 := hide ((unhide HF2).trans hF3)
          have HH3 := hide hH3
          clear hX3 hF3 hH3 HX2 HF2 HH2 x0 x1 HPK
          go_wp2_with fail
          refine (unhide HSP _ _ _ (unhide HH3)).mono ?_
          rintro e w4 ⟨ov, S4, rfl, h1, h2, h3, h4⟩
          have HEN := hide (PubPost.of_spr (unhide HF3) h1 h2 h3 h4)
          obtain ⟨ao, lo, co, rfl⟩ := own_slice h1
          clear h1 h2 h3 h4
          go_wp2_with fail
          go_ret3
          exact unhide HEN
  · have hb0 : ((topicR t.data.toList).1 != 0) = true := by simp [h0]
    have HR : Hid (pubH H t.data.toList q.data.toList keep = (([], (topicR t.data.toList).1, (topicR t.data.toList).2), H)) := by unfold Hid pubH; rw [if_pos h0]
    rw [unhide HR]
    clear h h0 HR
    go_enter Try.func7, Try.ntmps7
    go_wp2_with fail
    refine (hubTopic_any t _ ht).mono ?_
    rintro e w1 ⟨rfl, rfl⟩
    go_wp2_with fail
    go_ret3
    exact PubPost.none (unhide HH) (Below.refl _ _)

end Go.Proofs.Ytchhmojnoiephab
