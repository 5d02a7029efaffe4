import Derived.Test.YtchhmojnoiephabGreatDoorZmRefQ
import Derived.Test.YtchhmojnoiephabGreatDoorZmRel
import Derived.Test.YtchhmojnoiephabGreatDoorZmLawA
import Derived.Test.YtchhmojnoiephabGreatDoorZmHubQ
import Derived.Test.YtchhmojnoiephabGreatDoorZmRefF
/- The document's hub: Publish. -/
namespace Go.Proofs.YtchhmojnoiephabGreatDoor
open Go.ChangeShapes Go.WideShapes Go.ChangeAt Go.RowKit
set_option linter.unusedVariables false

theorem rspN_len (m : MsgL) (n : Nat) (x : List Int × RHub) : ∀ k, (rspN m n x k).1.length = x.1.length + k := by
  intro k
  induction k with
  | zero => rfl
  | succ k ih => rw [rspN]; unfold rspAdd; simp [ih]; omega
theorem rspTo_len (m : MsgL) (v : Nat → Nat) (x : List Int × RHub) (hx : x.1 = []) (hv : ∀ c, v c ≤ 9) : ∀ c, (rspTo m v x c).1.length ≤ c * 9 := by
  intro c
  induction c with
  | zero => simp [rspTo, hx]
  | succ c ih => rw [rspTo, rspN_len]; have := hv c; omega
/-- the hub, the numbers and the list that is answered, side by side -/
structure RSpr (w wr : World) (d : Nat) (S : Nat → Prop) (N : Nat) (v : Nat → Nat) (ov : Value) (x : List Int × RHub) : Prop where
  hub : ∃ S', RefAt wr d S' x.2 ∧ Fr S w wr S' ∧ (∀ k, ov.ownBlock = some k → ¬ S' k) ∧ ¬ S' N
  num : Nums wr N v
  o : wr.ownsRow 0 3 1 ov x.1.length (x.1.map (Value.int .i64))
  on : ov.ownBlock ≠ some N
  ge : ∀ k, ov.ownBlock = some k → w.heap.size ≤ k
theorem RSpr.on' {w wr w2 : World} {d N : Nat} {S : Nat → Prop} {v : Nat → Nat} {ov : Value} {x : List Int × RHub} (h : RSpr w wr d S N v ov x) (hb : Below wr.heap.size wr w2) : RSpr w w2 d S N v ov x := by
  obtain ⟨S', h1, h2, h3, h4⟩ := h.hub
  exact ⟨⟨S', h1.below hb, h2.trans (Fr.of_below hb), h3, h4⟩, h.num.below hb, own_below h.o hb, h.on, h.ge⟩
theorem RSpr.del {w wr w2 : World} {d N : Nat} {S : Nat → Prop} {v : Nat → Nat} {ov : Value} {x : List Int × RHub} (h : RSpr w wr d S N v ov x) {S1 : Nat → Prop} (f0 : Fr S w wr S1) (no : ∀ k, ov.ownBlock = some k → ¬ S1 k) (nN : ¬ S1 N) {R' : RHub} {S2 : Nat → Prop} (h2 : RefAt w2 d S2 R') (hf : Fr S1 wr w2 S2) : RSpr w w2 d S N v ov (x.1, R') := by
  refine ⟨⟨S2, h2, f0.trans hf, fun k hk hs => ?_, fun hs => ?_⟩, h.num.same (hf.keep N h.num.lt nN), own_same h.o (fun k hk => hf.keep k (h.o.lt k hk).2 (no k hk)), h.on, h.ge⟩
  · rcases hf.new k hs with h3 | h3
    · exact no k hk h3
    · have := (h.o.lt k hk).2; omega
  · rcases hf.new N hs with h3 | h3
    · exact nN h3
    · have := h.num.lt; omega
theorem RSpr.push {w wr w3 : World} {d N : Nat} {S : Nat → Prop} {v : Nat → Nat} {ov v' : Value} {x : List Int × RHub} {n : Int} (h : RSpr w wr d S N v ov x) (hown : w3.ownsRow 0 3 1 v' (x.1.length + 1) (x.1.map (Value.int .i64) ++ [.int .i64 n])) (hgrow : wr.grownBy w3 ov.ownBlock)
    (hmv : ∀ k, v'.ownBlock = some k → ov.ownBlock = some k ∨ wr.heap.size ≤ k) : RSpr w w3 d S N v v' (x.1 ++ [n], x.2) := by
  obtain ⟨S1, h1, h2, h4, h6⟩ := h.hub
  have hws := h2.size
  have hf : Fr (fun k => ov.ownBlock = some k) wr w3 (fun _ => False) := ⟨hgrow.os, hgrow.tape, hgrow.output, hgrow.size, fun k hk hne => hgrow.block k hk (fun e => hne e.symm), fun _ h => h.elim⟩
  refine ⟨⟨S1, h1.kept hf (fun k hs he => h4 k he hs), ⟨hf.os.trans h2.os, hf.tape.trans h2.tape, hf.output.trans h2.output, Nat.le_trans h2.size hf.size, fun k hk hn => (hf.keep k (by omega) (fun e => by have := h.ge k e; omega)).trans (h2.keep k hk hn), h2.new⟩, fun k hk hs => ?_, h6⟩, h.num.same (hf.keep N h.num.lt (fun e => h.on e)), by rw [List.length_append, List.map_append]; exact hown, fun hk => ?_, fun k hk => ?_⟩
  · rcases hmv k hk with h5 | h5
    · exact h4 k h5 hs
    · have := h1.lt hs; omega
  · rcases hmv N hk with h5 | h5
    · exact h.on h5
    · have := h.num.lt; omega
  · rcases hmv k hk with h5 | h5
    · exact h.ge k h5
    · omega
/-- what Publish answers -/
def RPubPost (w : World) (d : Nat) (S : Nat → Prop) (r : (List Int × Int × Int) × RHub) (e : Ending) (w' : World) : Prop :=
  ∃ v S', e = .returned (.tuple #[v, .int .i64 r.1.2.1, .int .i64 r.1.2.2]) ∧ w'.ownsRow w.heap.size 3 1 v r.1.1.length (r.1.1.map (Value.int .i64)) ∧ (∀ k, v.ownBlock = some k → ¬ S' k) ∧ RefAt w' d S' r.2 ∧ Fr S w w' S'
theorem RPubPost.none {w w' : World} {d : Nat} {S S' : Nat → Prop} {R : RHub} {a b : Int} (h : RefAt w' d S' R) (hb : Fr S w w' S') : RPubPost w d S (([], a, b), R) (.returned (.tuple #[.slice none 0 0, .int .i64 a, .int .i64 b])) w' :=
  ⟨_, S', rfl, World.ownsRow_nil _ _ _ _, (fun k hk => by cases hk), h, hb⟩
theorem RSpr.post {w wr : World} {d N : Nat} {S : Nat → Prop} {v : Nat → Nat} {ov : Value} {x : List Int × RHub} (h : RSpr w wr d S N v ov x) : RPubPost w d S ((x.1, 0, 0), x.2) (.returned (.tuple #[ov, .int .i64 0, .int .i64 0])) wr := by
  obtain ⟨S1, h1, h2, h4, h6⟩ := h.hub
  refine ⟨ov, S1, rfl, ?_, h4, h1, h2⟩
  obtain ⟨x1, x2 | ⟨g, cap, cur, hv, x3, x4⟩⟩ := h.o
  · exact ⟨x1, Or.inl x2⟩
  · exact ⟨x1, Or.inr ⟨g, cap, cur, hv, h.ge g (by rw [hv]; rfl), x4⟩⟩

set_option maxHeartbeats 8000000 in
set_option maxRecDepth 1000000 in
theorem rpublish_any (d : Nat) (S : Nat → Prop) (R : RHub) (t q : ByteArray) (keep : Bool) (ht : t.size ≤ maxLen) (hq : q.size ≤ maxLen) (hct : R.count ≤ 4611686018427387904) (w : World) (h : RefAt w d S R) :
    Calls Tryz.prog 12 #[.pointer (some ⟨d, 0, none⟩), .string t, .string q, .bool keep] w (RPubPost w d S (rpub R t.data.toList q.data.toList keep)) := by
  obtain ⟨j0, hji, hy0, hy1, hy2⟩ := info_parts info_int
  have HH := hide h
  by_cases h0 : (topicR t.data.toList).1 = 0
  · have hb0 : ((topicR t.data.toList).1 != 0) = false := by simp [h0]
    have ht24 : t.size ≤ 24 := by have := (topicR_len _ h0).1; rw [len_list] at this; exact this
    have ht0 := topicR_pos t h0
    by_cases h8 : 8 < q.size
    · have hI8 : (8 : Int) < (q.size : Int) := by omega
      have HR : Hid (rpub R t.data.toList q.data.toList keep = (([], 10, 0), R)) := by unfold Hid rpub; rw [if_neg (by simp [h0]), if_pos (by rw [len_list]; exact h8)]
      clear h h0
      go_enter Tryz.func12, Tryz.ntmps12
      go_wp2_with fail
      refine (refTopic_any t _ ht).mono ?_
      rintro e w1 ⟨rfl, hw1⟩
      replace hw1 := hw1.symm
      subst hw1
      go_wp2_with fail
      go_ret3
      rw [unhide HR]
      exact RPubPost.none (unhide HH) (Fr.of_below (Below.refl _ _))
    · have hI8 : ¬ (8 : Int) < (q.size : Int) := by omega
      have hq8 : q.size ≤ 8 := by omega
      have HDE := hide (fun (S' : Nat → Prop) (R' : RHub) (n : Nat) (hn : n < 6) (x : World) (hx : RefAt x d S' R') => rdeliver_any d S' R' n hn t q ht24 hq8 x hx)
      cases keep
      · have HR : Hid (rpub R t.data.toList q.data.toList false = (((rspread R (t.data.toList, q.data.toList)).1, 0, 0), (rspread R (t.data.toList, q.data.toList)).2)) := by unfold Hid rpub; rw [if_neg (by simp [h0]), if_neg (by rw [len_list]; exact h8), if_neg (by simp)]
        have HSE := hide (rserved_any d S R t ht24 ht0 hct w h)
        have HNB : Hid (∀ c, (servF R t.data.toList R.subs.length).2 c ≤ 9) := fun c => by have h1 := servF_num R t.data.toList R.subs.length c; have h2 := h.good.subs.1; omega
        have HDEF : Hid (rspread R (t.data.toList, q.data.toList) = rspTo (t.data.toList, q.data.toList) (servF R t.data.toList R.subs.length).2 ([], (servF R t.data.toList R.subs.length).1) 6) := rfl
        clear h h0
        go_enter Tryz.func12, Tryz.ntmps12
        go_wp2_with fail
        refine (refTopic_any t _ ht).mono ?_
        rintro e w1 ⟨rfl, hw1⟩
        replace hw1 := hw1.symm
        subst hw1
        go_wp2_with fail
        refine (unhide HSE).mono ?_
        rintro e w2 ⟨N, rfl, hNw, S2, hR2, hF2, hNu, hSN⟩
        have HSP : Hid (RSpr w w2 d S N (servF R t.data.toList R.subs.length).2 (.slice none 0 0) ([], (servF R t.data.toList R.subs.length).1)) := ⟨⟨S2, hR2, hF2, (fun k hk => by cases hk), hSN⟩, hNu, World.ownsRow_nil _ _ _ _, (fun hk => by cases hk), (fun k hk => by cases hk)⟩
        rw [unhide HDEF] at HR
        have HV9 := HNB
        have HLN := hide (rspTo_len (t.data.toList, q.data.toList) (servF R t.data.toList R.subs.length).2 ([], (servF R t.data.toList R.subs.length).1) rfl (unhide HNB))
        clear hR2 hF2 hNu hSN HSE HDEF HNB HH
        generalize (servF R t.data.toList R.subs.length).2 = v at *
        generalize (([], (servF R t.data.toList R.subs.length).1) : List Int × RHub) = x0 at *
        generalize rpub R t.data.toList q.data.toList false = RR at *
        generalize hm : (t.data.toList, q.data.toList) = m at *
        have HDE2 : Hid (∀ (S' : Nat → Prop) (R' : RHub) (n : Nat) (hn : n < 6) (x : World) (hx : RefAt x d S' R'), Calls Tryz.prog 30 #[.pointer (some ⟨d, 0, none⟩), .int .i64 n, .string t, .string q] x (RefDone x d S' (rdel R' n (m.1 ++ 61 :: m.2)))) := fun S' R' n hn x hx => by rw [← hm]; exact unhide HDE S' R' n hn x hx
        clear HDE hm
        have HDE := HDE2
        have HRES := HR
        clear HDE2 HR
        go_wp2_with fail
        go_loopg [15, 16, 17] 6 (fun gk ov cc _ wr => ∃ n : Nat, n ≤ 6 ∧ gk = 6 - n ∧ cc = .int .i64 n ∧ Hid (RSpr w wr d S N v ov (rspTo m v x0 n)))
        case atStart => exact ⟨0, by omega, rfl, rfl, HSP⟩
        case round =>
          clear HSP
          obtain ⟨n, hn, rfl, rfl, HS⟩ := hrel
          obtain ⟨ao, lo, co, rfl⟩ := own_slice (unhide HS).o
          by_cases hn6 : n < 6
          · have hnI : (n : Int) < 6 := by omega
            have hv9 := unhide HV9 n
            have hll := unhide HLN n
            have HXE : Hid (rspTo m v x0 (n + 1) = rspN m n (rspTo m v x0 n) (v n)) := rfl
            generalize hxe : rspTo m v x0 (n + 1) = xe at *
            have HXEQ := hide hxe
            clear hxe
            generalize rspTo m v x0 n = x at *
            go_wp2_with fail
            go_loopg [15, 17] (v n) (fun gk ov kk wr => ∃ j : Nat, j ≤ v n ∧ gk = v n - j ∧ kk = .int .i64 j ∧ Hid (RSpr w wr d S N v ov (rspN m n x j)))
            case atStart => exact ⟨0, by omega, rfl, rfl, HS⟩
            case round =>
              clear HS
              obtain ⟨j, hj, rfl, rfl, HS⟩ := hrel
              obtain ⟨aoy, loy, coy, rfl⟩ := own_slice (unhide HS).o
              obtain ⟨nc, nf⟩ := (unhide HS).num.cell hn6
              have hlen : (rspN m n x j).1.length ≤ 63 := by rw [rspN_len]; omega
              by_cases hlj : j < v n
              · have hljI : (j : Int) < (v n : Int) := by omega
                have HXJ : Hid (rspN m n x (j + 1) = rspAdd m n (rspN m n x j)) := rfl
                obtain ⟨S1, hH1, hF1, hN1, hN2⟩ := (unhide HS).hub
                have HDL := hide (unhide HDE S1 _ n hn6 wr hH1)
                have HDN := hide (fun (w3 : World) (S2 : Nat → Prop) (R' : RHub) (h2 : RefAt w3 d S2 R') (hf : Fr S1 wr w3 S2) => (unhide HS).del hF1 hN1 hN2 h2 hf)
                clear hH1 hF1 hN1 hN2 HS
                generalize hy1 : rspN m n x (j + 1) = y1 at *
                have HY1 := hide hy1
                clear hy1
                generalize rspN m n x j = y at *
                go_wp2_with fail
                refine (unhide HDL).mono ?_
                rintro e w5 ⟨⟨v5, rfl⟩, S5, hH5, hF5⟩
                have HSD := hide (unhide HDN w5 S5 _ hH5 hF5)
                clear hH5 hF5 HDL HDN nc nf
                have HRT := hide ((unhide HSD).on' ((Below.refl _ w5).alloc (Nat.le_refl _) (.cells #[.int .i64 (n : Int)] 3)))
                go_wp2_with (at_builtin; refine wpList_append_moves _ rfl _ _ 26 rfl 3 j0 (.int .i64 0) 1 8 Tryz.underlying26 hji hy0 hy1 hy2 rfl (by decide) _ _ _ rfl (unhide HRT).o ⟨w5.heap.size, 0, none⟩ 1 1 [.int .i64 (n : Int)] rfl rfl ?c1 ?c2 ?c3 ?c4 ?_)
                first
                  | (case c1 =>
                      intro j u hj
                      match j, hj with
                      | 0, hj => simp at hj; subst hj; simp [Addr.add])
                  | skip
                case c2 => first | rfl | (intro u hu; simp at hu; first | (rcases hu with rfl | rfl | rfl | rfl <;> rfl) | (subst hu; rfl))
                case c3 => unfold maxLen; omega
                case c4 => omega
                intro v' w6 hown' hgrow hmv
                have HS6 : Hid (RSpr w w6 d S N v v' y1) := by rw [unhide HXJ]; exact (unhide HRT).push hown' hgrow (by simpa using hmv)
                clear hown' hgrow hmv HRT HSD HXJ
                go_wp2_with fail
                go_roundg (v n - (j + 1))
                case measure => omega
                case rel => exact ⟨j + 1, by omega, rfl, by go_num, by rw [unhide HY1]; exact HS6⟩
              · have hje : j = v n := by omega
                have hljI : ¬ (j : Int) < (v n : Int) := by omega
                have HS2 : Hid (RSpr w wr d S N v (.slice aoy loy coy) xe) := by rw [unhide HXE, ← hje]; exact unhide HS
                clear HS
                go_wp2_with fail
                go_roundg (6 - (n + 1))
                case measure => omega
                case rel => exact ⟨n + 1, by omega, rfl, by go_num, by rw [unhide HXEQ]; exact HS2⟩
          · obtain rfl : n = 6 := by omega
            have HFIN := hide (unhide HS).post
            clear HS
            go_wp2_with fail
            go_ret3
            rw [unhide HRES]
            exact unhide HFIN
      · have HKP := hide (rkept_any d S R t q ht24 ht0 hq8 w h)
        cases hkb : (rkept R t.data.toList q.data.toList).1
        · have hkR : (rkept R t.data.toList q.data.toList).2 = R := by unfold rkept at hkb ⊢; split at hkb <;> simp_all
          have HR : Hid (rpub R t.data.toList q.data.toList true = (([], 7, 0), R)) := by unfold Hid rpub; rw [if_neg (by simp [h0]), if_neg (by rw [len_list]; exact h8), if_pos rfl, if_neg (by simp [hkb])]
          rw [hkb, hkR] at HKP
          clear h h0 hkb hkR HDE
          go_enter Tryz.func12, Tryz.ntmps12
          go_wp2_with fail
          refine (refTopic_any t _ ht).mono ?_
          rintro e w1 ⟨rfl, hw1⟩
          replace hw1 := hw1.symm
          subst hw1
          go_wp2_with fail
          refine (unhide HKP).mono ?_
          rintro e w1 ⟨rfl, S1, hR1, hF1⟩
          have HR1 := hide hR1
          have HF1 := hide hF1
          clear hR1 hF1
          go_wp2_with fail
          go_ret3
          rw [unhide HR]
          exact RPubPost.none (unhide HR1) (unhide HF1)
        · have HR : Hid (rpub R t.data.toList q.data.toList true = (((rspread (rkept R t.data.toList q.data.toList).2 (t.data.toList, q.data.toList)).1, 0, 0), (rspread (rkept R t.data.toList q.data.toList).2 (t.data.toList, q.data.toList)).2)) := by unfold Hid rpub; rw [if_neg (by simp [h0]), if_neg (by rw [len_list]; exact h8), if_pos rfl, if_pos hkb]
          have hkc : (rkept R t.data.toList q.data.toList).2.count = R.count := by unfold rkept; split <;> rfl
          rw [hkb] at HKP
          clear h0 hkb h
          generalize (rkept R t.data.toList q.data.toList).2 = R1 at *
          have hct1 : R1.count ≤ 4611686018427387904 := by omega
          have HDEF : Hid (rspread R1 (t.data.toList, q.data.toList) = rspTo (t.data.toList, q.data.toList) (servF R1 t.data.toList R1.subs.length).2 ([], (servF R1 t.data.toList R1.subs.length).1) 6) := rfl
          go_enter Tryz.func12, Tryz.ntmps12
          go_wp2_with fail
          refine (refTopic_any t _ ht).mono ?_
          rintro e w1 ⟨rfl, hw1⟩
          replace hw1 := hw1.symm
          subst hw1
          go_wp2_with fail
          refine (unhide HKP).mono ?_
          rintro e w1 ⟨rfl, S1, hR1, hF1⟩
          have HSE := hide (rserved_any d S1 R1 t ht24 ht0 hct1 w1 hR1)
          have HNB : Hid (∀ c, (servF R1 t.data.toList R1.subs.length).2 c ≤ 9) := fun c => by have h1 := servF_num R1 t.data.toList R1.subs.length c; have h2 := hR1.good.subs.1; omega
          have HF1 := hide hF1
          clear hR1 hF1 HKP hkc
          go_wp2_with fail
          refine (unhide HSE).mono ?_
          rintro e w2 ⟨N, rfl, hNw, S2, hR2, hF2, hNu, hSN⟩
          have HSP : Hid (RSpr w w2 d S N (servF R1 t.data.toList R1.subs.length).2 (.slice none 0 0) ([], (servF R1 t.data.toList R1.subs.length).1)) := ⟨⟨S2, hR2, (unhide HF1).trans hF2, (fun k hk => by cases hk), hSN⟩, hNu, World.ownsRow_nil _ _ _ _, (fun hk => by cases hk), (fun k hk => by cases hk)⟩
          rw [unhide HDEF] at HR
          have HV9 := HNB
          have HLN := hide (rspTo_len (t.data.toList, q.data.toList) (servF R1 t.data.toList R1.subs.length).2 ([], (servF R1 t.data.toList R1.subs.length).1) rfl (unhide HNB))
          clear hR2 hF2 hNu hSN HSE HDEF HNB HH HF1
          generalize (servF R1 t.data.toList R1.subs.length).2 = v at *
          generalize (([], (servF R1 t.data.toList R1.subs.length).1) : List Int × RHub) = x0 at *
          generalize rpub R t.data.toList q.data.toList true = RR at *
          generalize hm : (t.data.toList, q.data.toList) = m at *
          have HDE2 : Hid (∀ (S' : Nat → Prop) (R' : RHub) (n : Nat) (hn : n < 6) (x : World) (hx : RefAt x d S' R'), Calls Tryz.prog 30 #[.pointer (some ⟨d, 0, none⟩), .int .i64 n, .string t, .string q] x (RefDone x d S' (rdel R' n (m.1 ++ 61 :: m.2)))) := fun S' R' n hn x hx => by rw [← hm]; exact unhide HDE S' R' n hn x hx
          clear HDE hm
          have HDE := HDE2
          have HRES := HR
          clear HDE2 HR
          go_wp2_with fail
          go_loopg [15, 16, 17] 6 (fun gk ov cc _ wr => ∃ n : Nat, n ≤ 6 ∧ gk = 6 - n ∧ cc = .int .i64 n ∧ Hid (RSpr w wr d S N v ov (rspTo m v x0 n)))
          case atStart => exact ⟨0, by omega, rfl, rfl, HSP⟩
          case round =>
            clear HSP
            obtain ⟨n, hn, rfl, rfl, HS⟩ := hrel
            obtain ⟨ao, lo, co, rfl⟩ := own_slice (unhide HS).o
            by_cases hn6 : n < 6
            · have hnI : (n : Int) < 6 := by omega
              have hv9 := unhide HV9 n
              have hll := unhide HLN n
              have HXE : Hid (rspTo m v x0 (n + 1) = rspN m n (rspTo m v x0 n) (v n)) := rfl
              generalize hxe : rspTo m v x0 (n + 1) = xe at *
              have HXEQ := hide hxe
              clear hxe
              generalize rspTo m v x0 n = x at *
              go_wp2_with fail
              go_loopg [15, 17] (v n) (fun gk ov kk wr => ∃ j : Nat, j ≤ v n ∧ gk = v n - j ∧ kk = .int .i64 j ∧ Hid (RSpr w wr d S N v ov (rspN m n x j)))
              case atStart => exact ⟨0, by omega, rfl, rfl, HS⟩
              case round =>
                clear HS
                obtain ⟨j, hj, rfl, rfl, HS⟩ := hrel
                obtain ⟨aoy, loy, coy, rfl⟩ := own_slice (unhide HS).o
                obtain ⟨nc, nf⟩ := (unhide HS).num.cell hn6
                have hlen : (rspN m n x j).1.length ≤ 63 := by rw [rspN_len]; omega
                by_cases hlj : j < v n
                · have hljI : (j : Int) < (v n : Int) := by omega
                  have HXJ : Hid (rspN m n x (j + 1) = rspAdd m n (rspN m n x j)) := rfl
                  obtain ⟨S1, hH1, hF1, hN1, hN2⟩ := (unhide HS).hub
                  have HDL := hide (unhide HDE S1 _ n hn6 wr hH1)
                  have HDN := hide (fun (w3 : World) (S2 : Nat → Prop) (R' : RHub) (h2 : RefAt w3 d S2 R') (hf : Fr S1 wr w3 S2) => (unhide HS).del hF1 hN1 hN2 h2 hf)
                  clear hH1 hF1 hN1 hN2 HS
                  generalize hy1 : rspN m n x (j + 1) = y1 at *
                  have HY1 := hide hy1
                  clear hy1
                  generalize rspN m n x j = y at *
                  go_wp2_with fail
                  refine (unhide HDL).mono ?_
                  rintro e w5 ⟨⟨v5, rfl⟩, S5, hH5, hF5⟩
                  have HSD := hide (unhide HDN w5 S5 _ hH5 hF5)
                  clear hH5 hF5 HDL HDN nc nf
                  have HRT := hide ((unhide HSD).on' ((Below.refl _ w5).alloc (Nat.le_refl _) (.cells #[.int .i64 (n : Int)] 3)))
                  go_wp2_with (at_builtin; refine wpList_append_moves _ rfl _ _ 26 rfl 3 j0 (.int .i64 0) 1 8 Tryz.underlying26 hji hy0 hy1 hy2 rfl (by decide) _ _ _ rfl (unhide HRT).o ⟨w5.heap.size, 0, none⟩ 1 1 [.int .i64 (n : Int)] rfl rfl ?c1 ?c2 ?c3 ?c4 ?_)
                  first
                    | (case c1 =>
                        intro j u hj
                        match j, hj with
                        | 0, hj => simp at hj; subst hj; simp [Addr.add])
                    | skip
                  case c2 => first | rfl | (intro u hu; simp at hu; first | (rcases hu with rfl | rfl | rfl | rfl <;> rfl) | (subst hu; rfl))
                  case c3 => unfold maxLen; omega
                  case c4 => omega
                  intro v' w6 hown' hgrow hmv
                  have HS6 : Hid (RSpr w w6 d S N v v' y1) := by rw [unhide HXJ]; exact (unhide HRT).push hown' hgrow (by simpa using hmv)
                  clear hown' hgrow hmv HRT HSD HXJ
                  go_wp2_with fail
                  go_roundg (v n - (j + 1))
                  case measure => omega
                  case rel => exact ⟨j + 1, by omega, rfl, by go_num, by rw [unhide HY1]; exact HS6⟩
                · have hje : j = v n := by omega
                  have hljI : ¬ (j : Int) < (v n : Int) := by omega
                  have HS2 : Hid (RSpr w wr d S N v (.slice aoy loy coy) xe) := by rw [unhide HXE, ← hje]; exact unhide HS
                  clear HS
                  go_wp2_with fail
                  go_roundg (6 - (n + 1))
                  case measure => omega
                  case rel => exact ⟨n + 1, by omega, rfl, by go_num, by rw [unhide HXEQ]; exact HS2⟩
            · obtain rfl : n = 6 := by omega
              have HFIN := hide (unhide HS).post
              clear HS
              go_wp2_with fail
              go_ret3
              rw [unhide HRES]
              exact unhide HFIN
  · have hb0 : ((topicR t.data.toList).1 != 0) = true := by simp [h0]
    have HR : Hid (rpub R t.data.toList q.data.toList keep = (([], (topicR t.data.toList).1, (topicR t.data.toList).2), R)) := by unfold Hid rpub; rw [if_pos h0]
    clear h h0
    go_enter Tryz.func12, Tryz.ntmps12
    go_wp2_with fail
    refine (refTopic_any t _ ht).mono ?_
    rintro e w1 ⟨rfl, hw1⟩
    replace hw1 := hw1.symm
    subst hw1
    go_wp2_with fail
    go_ret3
    rw [unhide HR]
    exact RPubPost.none (unhide HH) (Fr.of_below (Below.refl _ _))

end Go.Proofs.YtchhmojnoiephabGreatDoor

/- Two pairs of tables and two pairs of hubs, side by side. -/
namespace Go.Proofs.YtchhmojnoiephabGreatDoor
open Go.ChangeShapes Go.WideShapes Go.ChangeAt Go.RowKit
set_option linter.unusedVariables false

/-- a pair of tables: the program's at p, the document's at d; T: their blocks -/
def TP (I : HubTabI) (w : World) (p d : Nat) (T : Nat → Prop) : Prop := ∃ S D L, Both I w p S d D L ∧ T = fun k => S k ∨ D k
theorem TP.lt {I : HubTabI} {w : World} {p d : Nat} {T : Nat → Prop} (h : TP I w p d T) {k : Nat} (hk : T k) : k < w.heap.size := by
  obtain ⟨S, D, L, b, rfl⟩ := h
  rcases hk with hk | hk
  · exact I.lt b.hub hk
  · exact b.ref.lt k hk
theorem TP.kept {I : HubTabI} {w w' : World} {p d : Nat} {T U U' : Nat → Prop} (h : TP I w p d T) (hf : Fr U w w' U') (hd : ∀ k, T k → ¬ U k) : TP I w' p d T := by
  obtain ⟨S, D, L, b, rfl⟩ := h
  exact ⟨S, D, L, b.kept hf (fun k hk => hd k (Or.inl hk)) (fun k hk => hd k (Or.inr hk)), rfl⟩
/-- a pair of hubs -/
structure HBo (n : Nat) (w : World) (p : Nat) (S : Nat → Prop) (d : Nat) (D : Nat → Prop) (H : HubL) (R : RHub) : Prop where
  hub : HubAt w p S H
  ref : RefAt w d D R
  apart : ∀ k, S k → ¬ D k
  link : HubLink H R
  count : R.count ≤ 8 * n
theorem HBo.kept {n : Nat} {w w' : World} {p d : Nat} {S D U U' : Nat → Prop} {H : HubL} {R : RHub} (h : HBo n w p S d D H R) (hf : Fr U w w' U') (h1 : ∀ k, S k → ¬ U k) (h2 : ∀ k, D k → ¬ U k) : HBo n w' p S d D H R :=
  ⟨h.hub.kept hf h1, h.ref.kept hf h2, h.apart, h.link, h.count⟩
def HP (n : Nat) (w : World) (p d : Nat) (T : Nat → Prop) : Prop := ∃ S D H R, HBo n w p S d D H R ∧ T = fun k => S k ∨ D k
theorem HP.lt {n : Nat} {w : World} {p d : Nat} {T : Nat → Prop} (h : HP n w p d T) {k : Nat} (hk : T k) : k < w.heap.size := by
  obtain ⟨S, D, H, R, b, rfl⟩ := h
  rcases hk with hk | hk
  · exact b.hub.lt hk
  · exact b.ref.lt hk
theorem HP.kept {n : Nat} {w w' : World} {p d : Nat} {T U U' : Nat → Prop} (h : HP n w p d T) (hf : Fr U w w' U') (hd : ∀ k, T k → ¬ U k) : HP n w' p d T := by
  obtain ⟨S, D, H, R, b, rfl⟩ := h
  exact ⟨S, D, H, R, b.kept hf (fun k hk => hd k (Or.inl hk)) (fun k hk => hd k (Or.inr hk)), rfl⟩
theorem HP.mono {n m : Nat} {w : World} {p d : Nat} {T : Nat → Prop} (h : HP n w p d T) (hm : n ≤ m) : HP m w p d T := by
  obtain ⟨S, D, H, R, b, rfl⟩ := h
  exact ⟨S, D, H, R, ⟨b.hub, b.ref, b.apart, b.link, by have := b.count; omega⟩, rfl⟩
/-- both hubs have done their step -/
theorem hbo_step {n : Nat} {w w1 w2 : World} {p d : Nat} {S S1 D D1 : Nat → Prop} {H H' : HubL} {R R' : RHub} (h : HBo n w p S d D H R) (hub1 : HubAt w1 p S1 H') (f1 : Fr S w w1 S1) (ref2 : RefAt w2 d D1 R') (f2 : Fr D w1 w2 D1) (hl : HubLink H' R') (hc : R'.count ≤ R.count + 8) :
    HP (n + 1) w2 p d (fun b => S1 b ∨ D1 b) ∧ Fr (fun b => S b ∨ D b) w w2 (fun b => S1 b ∨ D1 b) := by
  have hap : ∀ k, S1 k → ¬ D k := fun k hs hd => by
    rcases f1.new k hs with h1 | h1
    · exact h.apart k h1 hd
    · have := h.ref.lt hd; omega
  refine ⟨⟨S1, D1, H', R', ⟨hub1.kept f2 hap, ref2, fun k hs hd => ?_, hl, by have := h.count; omega⟩, rfl⟩, f1.join f2⟩
  rcases f2.new k hd with h1 | h1
  · exact hap k hs h1
  · have := hub1.lt hs; omega
/-- a step was answered as the document says -/
def HStep (n : Nat) (w : World) (p d : Nat) (T : Nat → Prop) (e : Ending) (w' : World) : Prop := e = .returned (.bool true) ∧ ∃ T', HP (n + 1) w' p d T' ∧ Fr T w w' T'
def TStep (I : HubTabI) (w : World) (p d : Nat) (T : Nat → Prop) (e : Ending) (w' : World) : Prop := e = .returned (.bool true) ∧ ∃ T', TP I w' p d T' ∧ Fr T w w' T'

/-- the four things of a law: 0, 1: the tables; 2, 3: the hubs -/
def ObP (I : HubTabI) (n : Nat) (j : Nat) (w : World) (p d : Nat) (T : Nat → Prop) : Prop := if j < 2 then TP I w p d T else HP n w p d T
theorem ObP.lt {I : HubTabI} {n j : Nat} {w : World} {p d : Nat} {T : Nat → Prop} (h : ObP I n j w p d T) {k : Nat} (hk : T k) : k < w.heap.size := by
  unfold ObP at h; split at h
  · exact h.lt hk
  · exact h.lt hk
theorem ObP.kept {I : HubTabI} {n j : Nat} {w w' : World} {p d : Nat} {T U U' : Nat → Prop} (h : ObP I n j w p d T) (hf : Fr U w w' U') (hd : ∀ k, T k → ¬ U k) : ObP I n j w' p d T := by
  unfold ObP at h ⊢; split at h
  · rename_i hj; rw [if_pos hj]; exact h.kept hf hd
  · rename_i hj; rw [if_neg hj]; exact h.kept hf hd
theorem ObP.mono {I : HubTabI} {n m j : Nat} {w : World} {p d : Nat} {T : Nat → Prop} (h : ObP I n j w p d T) (hm : n ≤ m) : ObP I m j w p d T := by
  unfold ObP at h ⊢; split at h
  · rename_i hj; rw [if_pos hj]; exact h
  · rename_i hj; rw [if_neg hj]; exact h.mono hm
def cellsF (pp dd : Nat → Nat) : List Value := [ptrV (pp 0), ptrV (pp 1), ptrV (pp 2), ptrV (pp 3), ptrV (dd 0), ptrV (dd 1), ptrV (dd 2), ptrV (dd 3)]
structure FourS (I : HubTabI) (B : Nat) (w0 wr : World) (P n : Nat) (pp dd : Nat → Nat) (TT : Nat → Nat → Prop) : Prop where
  pair : PairAt wr P (cellsF pp dd)
  ob : ∀ j, j < 4 → ObP I n j wr (pp j) (dd j) (TT j)
  dj : ∀ i j, i < 4 → j < 4 → i ≠ j → ∀ k, TT i k → ¬ TT j k
  own : ∀ j, j < 4 → ∀ k, TT j k → k ≠ P ∧ B ≤ k
  bp : B ≤ P
  bel : Below B w0 wr
def Four (I : HubTabI) (B : Nat) (w0 wr : World) (P n : Nat) : Prop := ∃ pp dd TT, FourS I B w0 wr P n pp dd TT
theorem FourS.frame {I : HubTabI} {B : Nat} {w0 wr w' : World} {P n : Nat} {pp dd : Nat → Nat} {TT : Nat → Nat → Prop} (h : FourS I B w0 wr P n pp dd TT) (hf : Fr (fun _ => False) wr w' (fun _ => False)) (hB : B ≤ w0.heap.size) : FourS I B w0 w' P n pp dd TT :=
  ⟨h.pair.kept hf (fun h => h), fun j hj => (h.ob j hj).kept hf (fun _ _ h => h), h.dj, h.own, h.bp, hf.below h.bel hB (fun _ h => h.elim)⟩
theorem FourS.mono {I : HubTabI} {B : Nat} {w0 wr : World} {P n m : Nat} {pp dd : Nat → Nat} {TT : Nat → Nat → Prop} (h : FourS I B w0 wr P n pp dd TT) (hm : n ≤ m) : FourS I B w0 wr P m pp dd TT :=
  ⟨h.pair, fun j hj => (h.ob j hj).mono hm, h.dj, h.own, h.bp, h.bel⟩
theorem FourS.step {I : HubTabI} {B : Nat} {w0 wr w' : World} {P n m : Nat} {pp dd : Nat → Nat} {TT : Nat → Nat → Prop} (h : FourS I B w0 wr P n pp dd TT) (hB : B ≤ w0.heap.size) (hm : n ≤ m) (j : Nat) (hj : j < 4) {T' : Nat → Prop} (ho : ObP I m j w' (pp j) (dd j) T') (hf : Fr (TT j) wr w' T') : FourS I B w0 w' P m pp dd (updF TT j T') := by
  have hbs := h.bel.size
  have hPl := heap_lt h.pair
  have hap : ∀ i, i < 4 → i ≠ j → ∀ k, TT i k → ¬ T' k := fun i hi hij k hk ht => by
    rcases hf.new k ht with h1 | h1
    · exact h.dj i j hi hj hij k hk h1
    · have := (h.ob i hi).lt hk; omega
  refine ⟨h.pair.kept hf (fun hp => (h.own j hj P hp).1 rfl), fun i hi => ?_, fun i i' hi hi' hne k hk hk' => ?_, fun i hi k hk => ?_, h.bp, hf.below h.bel hB (fun k hk => (h.own j hj k hk).2)⟩
  · by_cases e : i = j
    · subst e; rw [updF_same]; exact ho
    · rw [updF_other _ _ e]; exact ((h.ob i hi).kept hf (fun k hk => h.dj i j hi hj e k hk)).mono hm
  · by_cases e : i = j
    · subst e
      rw [updF_same] at hk; rw [updF_other _ _ (fun e => hne e.symm)] at hk'
      exact hap i' hi' (fun e => hne e.symm) k hk' hk
    · rw [updF_other _ _ e] at hk
      by_cases e' : i' = j
      · subst e'; rw [updF_same] at hk'; exact hap i hi e k hk hk'
      · rw [updF_other _ _ e'] at hk'; exact h.dj i i' hi hi' hne k hk hk'
  · by_cases e : i = j
    · subst e; rw [updF_same] at hk
      rcases hf.new k hk with h1 | h1
      · exact h.own i hi k h1
      · have := h.bp; exact ⟨by omega, by omega⟩
    · rw [updF_other _ _ e] at hk; exact h.own i hi k hk
theorem FourS.new {I : HubTabI} {B : Nat} {w0 wr w' : World} {P n m : Nat} {pp dd : Nat → Nat} {TT : Nat → Nat → Prop} (h : FourS I B w0 wr P n pp dd TT) (hB : B ≤ w0.heap.size) (hm : n ≤ m) (j : Nat) (hj : j < 4) {p d : Nat} {T' : Nat → Prop} (hP : PairAt w' P (cellsF (updF pp j p) (updF dd j d))) (ho : ObP I m j w' p d T') (hf : Fr (fun k => k = P) wr w' (fun k => k = P)) (hT : ∀ k, T' k → wr.heap.size ≤ k) : FourS I B w0 w' P m (updF pp j p) (updF dd j d) (updF TT j T') := by
  have hbs := h.bel.size
  have hPl := heap_lt h.pair
  have hap : ∀ i, i < 4 → ∀ k, TT i k → ¬ T' k := fun i hi k hk ht => by have := (h.ob i hi).lt hk; have := hT k ht; omega
  refine ⟨hP, fun i hi => ?_, fun i i' hi hi' hne k hk hk' => ?_, fun i hi k hk => ?_, h.bp, hf.below h.bel hB (fun k hk => by have := h.bp; omega)⟩
  · by_cases e : i = j
    · subst e; rw [updF_same, updF_same, updF_same]; exact ho
    · rw [updF_other _ _ e, updF_other _ _ e, updF_other _ _ e]; exact ((h.ob i hi).kept hf (fun k hk => (h.own i hi k hk).1)).mono hm
  · by_cases e : i = j
    · subst e
      rw [updF_same] at hk; rw [updF_other _ _ (fun e => hne e.symm)] at hk'
      exact hap i' hi' k hk' hk
    · rw [updF_other _ _ e] at hk
      by_cases e' : i' = j
      · subst e'; rw [updF_same] at hk'; exact hap i hi k hk hk'
      · rw [updF_other _ _ e'] at hk'; exact h.dj i i' hi hi' hne k hk hk'
  · by_cases e : i = j
    · subst e; rw [updF_same] at hk
      have := hT k hk; have := h.bp; exact ⟨by omega, by omega⟩
    · rw [updF_other _ _ e] at hk; exact h.own i hi k hk
end Go.Proofs.YtchhmojnoiephabGreatDoor

/- New tables and hubs in a law's pair. -/
namespace Go.Proofs.YtchhmojnoiephabGreatDoor
open Go.ChangeShapes Go.WideShapes Go.ChangeAt Go.RowKit
set_option linter.unusedVariables false

theorem tables0_tp (I : HubTabI) (P : Nat) (t0 t1 h0 h1 d0 d1 g0 g1 : Value) (w : World) (h : PairAt w P [t0, t1, h0, h1, d0, d1, g0, g1]) :
    Calls Tryz.prog 20 #[.pointer (some ⟨P, 0, none⟩), .int .i64 0] w fun e w' => ∃ v, e = .returned v ∧ ∃ p d T, TP I w' p d T ∧ PairAt w' P [.pointer (some ⟨p, 0, none⟩), t1, h0, h1, .pointer (some ⟨d, 0, none⟩), d1, g0, g1] ∧ Fr (fun k => k = P) w w' (fun k => k = P) ∧ ∀ k, T k → w.heap.size ≤ k :=
  (tables0_any I P t0 t1 h0 h1 d0 d1 g0 g1 w h).mono fun e w' ⟨v, he, p, S, d, D, hb, hP, hf, hS⟩ => ⟨v, he, p, d, _, ⟨S, D, [], hb, rfl⟩, hP, hf, hS⟩
theorem tables1_tp (I : HubTabI) (P : Nat) (t0 t1 h0 h1 d0 d1 g0 g1 : Value) (w : World) (h : PairAt w P [t0, t1, h0, h1, d0, d1, g0, g1]) :
    Calls Tryz.prog 20 #[.pointer (some ⟨P, 0, none⟩), .int .i64 1] w fun e w' => ∃ v, e = .returned v ∧ ∃ p d T, TP I w' p d T ∧ PairAt w' P [t0, .pointer (some ⟨p, 0, none⟩), h0, h1, d0, .pointer (some ⟨d, 0, none⟩), g0, g1] ∧ Fr (fun k => k = P) w w' (fun k => k = P) ∧ ∀ k, T k → w.heap.size ≤ k :=
  (tables1_any I P t0 t1 h0 h1 d0 d1 g0 g1 w h).mono fun e w' ⟨v, he, p, S, d, D, hb, hP, hf, hS⟩ => ⟨v, he, p, d, _, ⟨S, D, [], hb, rfl⟩, hP, hf, hS⟩

set_option maxHeartbeats 1000000 in
set_option maxRecDepth 1000000 in
theorem hubs0_hp (P : Nat) (t0 t1 h0 h1 d0 d1 g0 g1 : Value) (w : World) (h : PairAt w P [t0, t1, h0, h1, d0, d1, g0, g1]) :
    Calls Tryz.prog 21 #[.pointer (some ⟨P, 0, none⟩), .int .i64 0] w fun e w' => ∃ v, e = .returned v ∧ ∃ p d T, HP 0 w' p d T ∧ PairAt w' P [t0, t1, .pointer (some ⟨p, 0, none⟩), h1, d0, d1, .pointer (some ⟨d, 0, none⟩), g1] ∧ Fr (fun k => k = P) w w' (fun k => k = P) ∧ ∀ k, T k → w.heap.size ≤ k := by
  go_enter Tryz.func21, Tryz.ntmps21
  go_wp2_with fail
  refine (newHub_any _).mono ?_
  rintro e w1 ⟨rfl, ⟨S, hH, hS⟩, hb1⟩
  go_wp2_with fail
  refine (rnewHub_any _).mono ?_
  rintro e w2 ⟨d, D, rfl, hR, hb2, hD⟩
  have hP := heap_lt h
  have hws := hb1.size
  have hP2 : w2.heap[P]? = some (.cells #[t0, t1, h0, h1, d0, d1, g0, g1] 58 (0, 0)) := by
    rw [hb2.block P (by omega), hb1.block P hP]; exact h
  have f0 := free_block (i := 2) hP2
  have f4 := free_block (i := 6) hP2
  have c0 : w2.cell? ⟨P, 2, none⟩ = some h0 := cell_block (i := 2) hP2 rfl
  have c4 : w2.cell? ⟨P, 6, none⟩ = some g0 := cell_block (i := 6) hP2 rfl
  have hbo : HBo 0 w2 w.heap.size S d D hub0 ref0 :=
    ⟨hH.below hb2, hR, fun k hk hd => by have h1 := hH.lt hk; have h2 := hD k hd; omega, HubLink.zero, by simp [ref0]⟩
  have hfr : Fr (fun k => k = P) w2 ((w2.setCell ⟨P, 2, none⟩ (.pointer (some ⟨w.heap.size, 0, none⟩))).setCell ⟨P, 6, none⟩ (.pointer (some ⟨d, 0, none⟩))) (fun k => k = P) := (Fr.setCell w2 P 2 _).trans (Fr.setCell _ P 6 _)
  have HBO : Hid (HP 0 ((w2.setCell ⟨P, 2, none⟩ (.pointer (some ⟨w.heap.size, 0, none⟩))).setCell ⟨P, 6, none⟩ (.pointer (some ⟨d, 0, none⟩))) w.heap.size d (fun k => S k ∨ D k)) :=
    ⟨S, D, hub0, ref0, hbo.kept hfr (fun k hk he => by have := hS k hk; omega) (fun k hk he => by have := hD k hk; omega), rfl⟩
  have HPA : Hid (PairAt ((w2.setCell ⟨P, 2, none⟩ (.pointer (some ⟨w.heap.size, 0, none⟩))).setCell ⟨P, 6, none⟩ (.pointer (some ⟨d, 0, none⟩))) P [t0, t1, .pointer (some ⟨w.heap.size, 0, none⟩), h1, d0, d1, .pointer (some ⟨d, 0, none⟩), g1]) := by
    unfold Hid PairAt
    rw [heap_setCell_same _ P 6 _ _ _ (heap_setCell_same w2 P 2 _ _ _ hP2)]; rfl
  have HFR := hide ((Fr.of_below (S := fun k => k = P) (hb1.trans (hb2.mono hws))).trans hfr)
  have HS : Hid (∀ k, S k ∨ D k → w.heap.size ≤ k) := by
    intro k hk
    rcases hk with hk | hk
    · have := hS k hk; omega
    · have := hD k hk; omega
  clear hbo hfr h hH hR hb1 hb2 hS hD hP2
  go_wp2_with fail
  go_end0
  exact ⟨_, rfl, _, _, _, unhide HBO, unhide HPA, unhide HFR, unhide HS⟩

set_option maxHeartbeats 1000000 in
set_option maxRecDepth 1000000 in
theorem hubs1_hp (P : Nat) (t0 t1 h0 h1 d0 d1 g0 g1 : Value) (w : World) (h : PairAt w P [t0, t1, h0, h1, d0, d1, g0, g1]) :
    Calls Tryz.prog 21 #[.pointer (some ⟨P, 0, none⟩), .int .i64 1] w fun e w' => ∃ v, e = .returned v ∧ ∃ p d T, HP 0 w' p d T ∧ PairAt w' P [t0, t1, h0, .pointer (some ⟨p, 0, none⟩), d0, d1, g0, .pointer (some ⟨d, 0, none⟩)] ∧ Fr (fun k => k = P) w w' (fun k => k = P) ∧ ∀ k, T k → w.heap.size ≤ k := by
  go_enter Tryz.func21, Tryz.ntmps21
  go_wp2_with fail
  refine (newHub_any _).mono ?_
  rintro e w1 ⟨rfl, ⟨S, hH, hS⟩, hb1⟩
  go_wp2_with fail
  refine (rnewHub_any _).mono ?_
  rintro e w2 ⟨d, D, rfl, hR, hb2, hD⟩
  have hP := heap_lt h
  have hws := hb1.size
  have hP2 : w2.heap[P]? = some (.cells #[t0, t1, h0, h1, d0, d1, g0, g1] 58 (0, 0)) := by
    rw [hb2.block P (by omega), hb1.block P hP]; exact h
  have f0 := free_block (i := 3) hP2
  have f4 := free_block (i := 7) hP2
  have c0 : w2.cell? ⟨P, 3, none⟩ = some h1 := cell_block (i := 3) hP2 rfl
  have c4 : w2.cell? ⟨P, 7, none⟩ = some g1 := cell_block (i := 7) hP2 rfl
  have hbo : HBo 0 w2 w.heap.size S d D hub0 ref0 :=
    ⟨hH.below hb2, hR, fun k hk hd => by have h1 := hH.lt hk; have h2 := hD k hd; omega, HubLink.zero, by simp [ref0]⟩
  have hfr : Fr (fun k => k = P) w2 ((w2.setCell ⟨P, 3, none⟩ (.pointer (some ⟨w.heap.size, 0, none⟩))).setCell ⟨P, 7, none⟩ (.pointer (some ⟨d, 0, none⟩))) (fun k => k = P) := (Fr.setCell w2 P 3 _).trans (Fr.setCell _ P 7 _)
  have HBO : Hid (HP 0 ((w2.setCell ⟨P, 3, none⟩ (.pointer (some ⟨w.heap.size, 0, none⟩))).setCell ⟨P, 7, none⟩ (.pointer (some ⟨d, 0, none⟩))) w.heap.size d (fun k => S k ∨ D k)) :=
    ⟨S, D, hub0, ref0, hbo.kept hfr (fun k hk he => by have := hS k hk; omega) (fun k hk he => by have := hD k hk; omega), rfl⟩
  have HPA : Hid (PairAt ((w2.setCell ⟨P, 3, none⟩ (.pointer (some ⟨w.heap.size, 0, none⟩))).setCell ⟨P, 7, none⟩ (.pointer (some ⟨d, 0, none⟩))) P [t0, t1, h0, .pointer (some ⟨w.heap.size, 0, none⟩), d0, d1, g0, .pointer (some ⟨d, 0, none⟩)]) := by
    unfold Hid PairAt
    rw [heap_setCell_same _ P 7 _ _ _ (heap_setCell_same w2 P 3 _ _ _ hP2)]; rfl
  have HFR := hide ((Fr.of_below (S := fun k => k = P) (hb1.trans (hb2.mono hws))).trans hfr)
  have HS : Hid (∀ k, S k ∨ D k → w.heap.size ≤ k) := by
    intro k hk
    rcases hk with hk | hk
    · have := hS k hk; omega
    · have := hD k hk; omega
  clear hbo hfr h hH hR hb1 hb2 hS hD hP2
  go_wp2_with fail
  go_end0
  exact ⟨_, rfl, _, _, _, unhide HBO, unhide HPA, unhide HFR, unhide HS⟩

end Go.Proofs.YtchhmojnoiephabGreatDoor

/- A step on a pair of hubs is answered as the document says. -/
namespace Go.Proofs.YtchhmojnoiephabGreatDoor
open Go.ChangeShapes Go.WideShapes Go.ChangeAt Go.RowKit
set_option linter.unusedVariables false

set_option maxHeartbeats 2000000 in
set_option maxRecDepth 1000000 in
theorem cl_connect (n p d : Nat) (T : Nat → Prop) (a b : Int) (s t : ByteArray) (w : World) (h : HP n w p d T) :
    Calls Tryz.prog 37 #[.pointer (some ⟨p, 0, none⟩), .pointer (some ⟨d, 0, none⟩), .agg #[.int .i64 12, .int .i64 a, .int .i64 b, .string s, .string t]] w (HStep n w p d T) := by
  obtain ⟨S, D, H, R, hb, rfl⟩ := h
  have hw1 := Fr.alloc (S := fun _ => False) w (.cells #[.int .i64 12, .int .i64 a, .int .i64 b, .string s, .string t] 38)
  have HW := hide (Fr.alloc (S := fun k => S k ∨ D k) w (.cells #[.int .i64 12, .int .i64 a, .int .i64 b, .string s, .string t] 38))
  have hSx : ¬ S w.heap.size := fun hk => by have := hb.hub.lt hk; omega
  have H1 := hide (hb.kept hw1 (fun _ _ h => h) (fun _ _ h => h))
  obtain ⟨l1, l2, l3⟩ := link_connect hb.link a
  have HL1 := hide l1
  have HL2 := hide l2
  have HL3 := hide l3
  clear hb hw1 l1 l2 l3
  go_enter Tryz.func37, Tryz.ntmps37
  go_wp2_with fail
  refine (connect_any p S H a _ (unhide H1).hub).mono ?_
  rintro e w2 ⟨rfl, S2, ht2, hf2⟩
  have c1 := hf2.cell (b := w.heap.size) (off := 1) (v := .int .i64 a) (by simp) hSx
  have HT2 := hide ht2
  have HF2 := hide hf2
  clear ht2 hf2
  go_wp2_with fail
  refine (rconnect_any d D R a _ ((unhide H1).ref.kept (unhide HF2) (fun k hd hs => (unhide H1).apart k hs hd))).mono ?_
  rintro e w3 ⟨rfl, D3, ht3, hf3⟩
  obtain ⟨hb, hfr⟩ := hbo_step (unhide H1) (unhide HT2) (unhide HF2) ht3 hf3 (unhide HL2) (unhide HL3)
  have HB := hide hb
  have HFR := hide ((unhide HW).trans hfr)
  have hl := unhide HL1
  clear hb hfr ht3 hf3 HT2 HF2 H1 HW HL1 HL2 HL3
  rw [hl]
  generalize (rconnect R a).1 = r at *
  clear hl
  go_wp2_with (go_at_call 34; refine (num_any _ _).mono ?_; rintro e w' ⟨rfl, rfl⟩)
  go_ret
  exact ⟨by simp, _, unhide HB, unhide HFR⟩

set_option maxHeartbeats 2000000 in
set_option maxRecDepth 1000000 in
theorem cl_leave (n p d : Nat) (T : Nat → Prop) (a b : Int) (s t : ByteArray) (w : World) (h : HP n w p d T) :
    Calls Tryz.prog 37 #[.pointer (some ⟨p, 0, none⟩), .pointer (some ⟨d, 0, none⟩), .agg #[.int .i64 13, .int .i64 a, .int .i64 b, .string s, .string t]] w (HStep n w p d T) := by
  obtain ⟨S, D, H, R, hb, rfl⟩ := h
  have hw1 := Fr.alloc (S := fun _ => False) w (.cells #[.int .i64 13, .int .i64 a, .int .i64 b, .string s, .string t] 38)
  have HW := hide (Fr.alloc (S := fun k => S k ∨ D k) w (.cells #[.int .i64 13, .int .i64 a, .int .i64 b, .string s, .string t] 38))
  have hSx : ¬ S w.heap.size := fun hk => by have := hb.hub.lt hk; omega
  have H1 := hide (hb.kept hw1 (fun _ _ h => h) (fun _ _ h => h))
  obtain ⟨l1, l2, l3⟩ := link_leave hb.link a
  have HL1 := hide l1
  have HL2 := hide l2
  have HL3 := hide l3
  clear hb hw1 l1 l2 l3
  go_enter Tryz.func37, Tryz.ntmps37
  go_wp2_with fail
  refine (leave_any p S H a _ (unhide H1).hub).mono ?_
  rintro e w2 ⟨rfl, S2, ht2, hf2⟩
  have c1 := hf2.cell (b := w.heap.size) (off := 1) (v := .int .i64 a) (by simp) hSx
  have HT2 := hide ht2
  have HF2 := hide hf2
  clear ht2 hf2
  go_wp2_with fail
  refine (rleave_any d D R a _ ((unhide H1).ref.kept (unhide HF2) (fun k hd hs => (unhide H1).apart k hs hd))).mono ?_
  rintro e w3 ⟨rfl, D3, ht3, hf3⟩
  obtain ⟨hb, hfr⟩ := hbo_step (unhide H1) (unhide HT2) (unhide HF2) ht3 hf3 (unhide HL2) (unhide HL3)
  have HB := hide hb
  have HFR := hide ((unhide HW).trans hfr)
  have hl := unhide HL1
  clear hb hfr ht3 hf3 HT2 HF2 H1 HW HL1 HL2 HL3
  rw [hl]
  generalize (rleave R a).1 = r at *
  clear hl
  go_wp2_with (go_at_call 34; refine (num_any _ _).mono ?_; rintro e w' ⟨rfl, rfl⟩)
  go_ret
  exact ⟨by simp, _, unhide HB, unhide HFR⟩

set_option maxHeartbeats 2000000 in
set_option maxRecDepth 1000000 in
theorem cl_forget (n p d : Nat) (T : Nat → Prop) (a b : Int) (s t : ByteArray) (w : World) (h : HP n w p d T) :
    Calls Tryz.prog 37 #[.pointer (some ⟨p, 0, none⟩), .pointer (some ⟨d, 0, none⟩), .agg #[.int .i64 14, .int .i64 a, .int .i64 b, .string s, .string t]] w (HStep n w p d T) := by
  obtain ⟨S, D, H, R, hb, rfl⟩ := h
  have hw1 := Fr.alloc (S := fun _ => False) w (.cells #[.int .i64 14, .int .i64 a, .int .i64 b, .string s, .string t] 38)
  have HW := hide (Fr.alloc (S := fun k => S k ∨ D k) w (.cells #[.int .i64 14, .int .i64 a, .int .i64 b, .string s, .string t] 38))
  have hSx : ¬ S w.heap.size := fun hk => by have := hb.hub.lt hk; omega
  have H1 := hide (hb.kept hw1 (fun _ _ h => h) (fun _ _ h => h))
  obtain ⟨l1, l2, l3⟩ := link_forget hb.link a
  have HL1 := hide l1
  have HL2 := hide l2
  have HL3 := hide l3
  clear hb hw1 l1 l2 l3
  go_enter Tryz.func37, Tryz.ntmps37
  go_wp2_with fail
  refine (forget_any p S H a _ (unhide H1).hub).mono ?_
  rintro e w2 ⟨rfl, S2, ht2, hf2⟩
  have c1 := hf2.cell (b := w.heap.size) (off := 1) (v := .int .i64 a) (by simp) hSx
  have HT2 := hide ht2
  have HF2 := hide hf2
  clear ht2 hf2
  go_wp2_with fail
  refine (rforget_any d D R a _ ((unhide H1).ref.kept (unhide HF2) (fun k hd hs => (unhide H1).apart k hs hd))).mono ?_
  rintro e w3 ⟨rfl, D3, ht3, hf3⟩
  obtain ⟨hb, hfr⟩ := hbo_step (unhide H1) (unhide HT2) (unhide HF2) ht3 hf3 (unhide HL2) (unhide HL3)
  have HB := hide hb
  have HFR := hide ((unhide HW).trans hfr)
  have hl := unhide HL1
  clear hb hfr ht3 hf3 HT2 HF2 H1 HW HL1 HL2 HL3
  rw [hl]
  generalize (rforget R a).1 = r at *
  clear hl
  go_wp2_with (go_at_call 34; refine (num_any _ _).mono ?_; rintro e w' ⟨rfl, rfl⟩)
  go_ret
  exact ⟨by simp, _, unhide HB, unhide HFR⟩

set_option maxHeartbeats 2000000 in
set_option maxRecDepth 1000000 in
theorem cl_take (n p d : Nat) (T : Nat → Prop) (k : Int) (a b : Int) (s t : ByteArray) (w : World) (h : HP n w p d T) (h12 : (k == 12) = false) (h13 : (k == 13) = false) (h14 : (k == 14) = false) :
    Calls Tryz.prog 37 #[.pointer (some ⟨p, 0, none⟩), .pointer (some ⟨d, 0, none⟩), .agg #[.int .i64 k, .int .i64 a, .int .i64 b, .string s, .string t]] w (HStep n w p d T) := by
  obtain ⟨S, D, H, R, hb, rfl⟩ := h
  have hw1 := Fr.alloc (S := fun _ => False) w (.cells #[.int .i64 k, .int .i64 a, .int .i64 b, .string s, .string t] 38)
  have HW := hide (Fr.alloc (S := fun k => S k ∨ D k) w (.cells #[.int .i64 k, .int .i64 a, .int .i64 b, .string s, .string t] 38))
  have hSx : ¬ S w.heap.size := fun hk => by have := hb.hub.lt hk; omega
  have H1 := hide (hb.kept hw1 (fun _ _ h => h) (fun _ _ h => h))
  obtain ⟨l1, l2, l3⟩ := link_take hb.link a
  have HL1 := hide l1
  have HL2 := hide l2
  have HL3 := hide l3
  clear hb hw1 l1 l2 l3
  go_enter Tryz.func37, Tryz.ntmps37
  go_wp2_with fail
  refine (take_any p S H a _ (unhide H1).hub).mono ?_
  rintro e w2 ⟨u, S2, rfl, hu, ht2, hf2⟩
  have c1 := hf2.cell (b := w.heap.size) (off := 1) (v := .int .i64 a) (by simp) hSx
  have HT2 := hide ht2
  have HF2 := hide hf2
  clear ht2 hf2
  go_wp2_with fail
  refine (rtake_any d D R a _ ((unhide H1).ref.kept (unhide HF2) (fun k hd hs => (unhide H1).apart k hs hd))).mono ?_
  rintro e w3 ⟨rfl, D3, ht3, hf3⟩
  obtain ⟨hb, hfr⟩ := hbo_step (unhide H1) (unhide HT2) (unhide HF2) ht3 hf3 (unhide HL2) (unhide HL3)
  have HB := hide hb
  have HFR := hide ((unhide HW).trans hfr)
  have hl := unhide HL1
  rw [hl] at hu
  have hu2 : u = (⟨(rtake R a).1.1.toArray⟩ : ByteArray) := by rw [← hu]
  clear hb hfr ht3 hf3 HT2 HF2 H1 HW HL1 HL2 HL3 hu
  rw [hl]
  unfold strV
  generalize (rtake R a).1 = r at *
  subst hu2
  clear hl
  generalize (⟨r.1.toArray⟩ : ByteArray) = u at *
  go_wp2_with (go_at_call 34; refine (num_any _ _).mono ?_; rintro e w' ⟨rfl, rfl⟩)
  go_ret
  exact ⟨by simp, _, unhide HB, unhide HFR⟩

set_option maxHeartbeats 2000000 in
set_option maxRecDepth 1000000 in
theorem br_sub (n p d : Nat) (T : Nat → Prop) (a b : Int) (s t : ByteArray) (w : World) (h : HP n w p d T) (hs : s.size ≤ maxLen) :
    Calls Tryz.prog 15 #[.pointer (some ⟨p, 0, none⟩), .pointer (some ⟨d, 0, none⟩), .agg #[.int .i64 15, .int .i64 a, .int .i64 b, .string s, .string t]] w (HStep n w p d T) := by
  obtain ⟨S, D, H, R, hb, rfl⟩ := h
  have hw1 := Fr.alloc (S := fun _ => False) w (.cells #[.int .i64 15, .int .i64 a, .int .i64 b, .string s, .string t] 38)
  have HW := hide (Fr.alloc (S := fun k => S k ∨ D k) w (.cells #[.int .i64 15, .int .i64 a, .int .i64 b, .string s, .string t] 38))
  have hSx : ¬ S w.heap.size := fun hk => by have := hb.hub.lt hk; omega
  have H1 := hide (hb.kept hw1 (fun _ _ h => h) (fun _ _ h => h))
  obtain ⟨l1, l2, l3⟩ := link_sub hb.link a s.data.toList
  have HL1 := hide l1
  have HL2 := hide l2
  have HL3 := hide l3
  clear hb hw1 l1 l2 l3
  go_enter Tryz.func15, Tryz.ntmps15
  go_wp2_with fail
  refine (subscribe_any p S H a s hs _ (unhide H1).hub).mono ?_
  rintro e w2 ⟨rfl, S2, ht2, hf2⟩
  have c1 := hf2.cell (b := w.heap.size) (off := 1) (v := .int .i64 a) (by simp) hSx
  have c3 := hf2.cell (b := w.heap.size) (off := 3) (v := .string s) (by simp) hSx
  have HT2 := hide ht2
  have HF2 := hide hf2
  clear ht2 hf2
  unfold pairV
  go_wp2_with fail
  refine (rsub_any d D R a s hs _ ((unhide H1).ref.kept (unhide HF2) (fun k hd hs => (unhide H1).apart k hs hd))).mono ?_
  rintro e w3 ⟨rfl, D3, ht3, hf3⟩
  obtain ⟨hb, hfr⟩ := hbo_step (unhide H1) (unhide HT2) (unhide HF2) ht3 hf3 (unhide HL2) (unhide HL3)
  have HB := hide hb
  have HFR := hide ((unhide HW).trans hfr)
  have hl := unhide HL1
  clear hb hfr ht3 hf3 HT2 HF2 H1 HW HL1 HL2 HL3
  rw [hl]
  unfold pairV
  generalize (rsub R a s.data.toList).1 = r at *
  clear hl
  go_wp2_with (go_at_call 34; refine (num_any _ _).mono ?_; rintro e w' ⟨rfl, rfl⟩)
  go_ret
  exact ⟨by simp, _, unhide HB, unhide HFR⟩

set_option maxHeartbeats 2000000 in
set_option maxRecDepth 1000000 in
theorem br_unsub (n p d : Nat) (T : Nat → Prop) (a b : Int) (s t : ByteArray) (w : World) (h : HP n w p d T) (hs : s.size ≤ maxLen) :
    Calls Tryz.prog 15 #[.pointer (some ⟨p, 0, none⟩), .pointer (some ⟨d, 0, none⟩), .agg #[.int .i64 16, .int .i64 a, .int .i64 b, .string s, .string t]] w (HStep n w p d T) := by
  obtain ⟨S, D, H, R, hb, rfl⟩ := h
  have hw1 := Fr.alloc (S := fun _ => False) w (.cells #[.int .i64 16, .int .i64 a, .int .i64 b, .string s, .string t] 38)
  have HW := hide (Fr.alloc (S := fun k => S k ∨ D k) w (.cells #[.int .i64 16, .int .i64 a, .int .i64 b, .string s, .string t] 38))
  have hSx : ¬ S w.heap.size := fun hk => by have := hb.hub.lt hk; omega
  have H1 := hide (hb.kept hw1 (fun _ _ h => h) (fun _ _ h => h))
  obtain ⟨l1, l2, l3⟩ := link_unsub hb.link a s.data.toList
  have HL1 := hide l1
  have HL2 := hide l2
  have HL3 := hide l3
  clear hb hw1 l1 l2 l3
  go_enter Tryz.func15, Tryz.ntmps15
  go_wp2_with fail
  refine (unsub_any p S H a s hs _ (unhide H1).hub).mono ?_
  rintro e w2 ⟨rfl, S2, ht2, hf2⟩
  have c1 := hf2.cell (b := w.heap.size) (off := 1) (v := .int .i64 a) (by simp) hSx
  have c3 := hf2.cell (b := w.heap.size) (off := 3) (v := .string s) (by simp) hSx
  have HT2 := hide ht2
  have HF2 := hide hf2
  clear ht2 hf2
  unfold pairV
  go_wp2_with fail
  refine (runsub_any d D R a s hs _ ((unhide H1).ref.kept (unhide HF2) (fun k hd hs => (unhide H1).apart k hs hd))).mono ?_
  rintro e w3 ⟨rfl, D3, ht3, hf3⟩
  obtain ⟨hb, hfr⟩ := hbo_step (unhide H1) (unhide HT2) (unhide HF2) ht3 hf3 (unhide HL2) (unhide HL3)
  have HB := hide hb
  have HFR := hide ((unhide HW).trans hfr)
  have hl := unhide HL1
  clear hb hfr ht3 hf3 HT2 HF2 H1 HW HL1 HL2 HL3
  rw [hl]
  unfold pairV
  generalize (runsub R a s.data.toList).1 = r at *
  clear hl
  go_wp2_with (go_at_call 34; refine (num_any _ _).mono ?_; rintro e w' ⟨rfl, rfl⟩)
  go_ret
  exact ⟨by simp, _, unhide HB, unhide HFR⟩

set_option maxHeartbeats 2000000 in
set_option maxRecDepth 1000000 in
theorem br_publish (n p d : Nat) (T : Nat → Prop) (a b : Int) (s t : ByteArray) (w : World) (h : HP n w p d T) (hs : s.size ≤ maxLen) (ht : t.size ≤ maxLen) (hn : n ≤ 288230376151711744) :
    Calls Tryz.prog 15 #[.pointer (some ⟨p, 0, none⟩), .pointer (some ⟨d, 0, none⟩), .agg #[.int .i64 17, .int .i64 a, .int .i64 b, .string s, .string t]] w (HStep n w p d T) := by
  obtain ⟨S, D, H, R, hb, rfl⟩ := h
  have hw1 := Fr.alloc (S := fun _ => False) w (.cells #[.int .i64 17, .int .i64 a, .int .i64 b, .string s, .string t] 38)
  have HW := hide (Fr.alloc (S := fun k => S k ∨ D k) w (.cells #[.int .i64 17, .int .i64 a, .int .i64 b, .string s, .string t] 38))
  have hSx : ¬ S w.heap.size := fun hk => by have := hb.hub.lt hk; omega
  have H1 := hide (hb.kept hw1 (fun _ _ h => h) (fun _ _ h => h))
  have hct : R.count ≤ 4611686018427387904 := by have := hb.count; omega
  have HLK : Hid (∀ keep, BothR R (pubH H s.data.toList t.data.toList keep) (rpub R s.data.toList t.data.toList keep)) := fun keep => link_pub hb.link hb.ref.good.subs.1 hb.hub.good.kept.1 s.data.toList t.data.toList keep
  have HDB : Hid (∀ k, D k → k < w.heap.size) := fun k hk => hb.ref.lt hk
  clear hb hw1
  go_enter Tryz.func15, Tryz.ntmps15
  go_wp2_with fail
  generalize hkp : (bits BinOp.and IntKind.i64 b 2 == 2) = kp at *
  refine (publish_any p S H s t kp hs ht _ (unhide H1).hub).mono ?_
  rintro e w2 ⟨v, S2, rfl, hown, hvS, ht2, hf2⟩
  have c2 := hf2.cell (b := w.heap.size) (off := 2) (v := .int .i64 b) (by simp) hSx
  have c3 := hf2.cell (b := w.heap.size) (off := 3) (v := .string s) (by simp) hSx
  have c4 := hf2.cell (b := w.heap.size) (off := 4) (v := .string t) (by simp) hSx
  have HT2 := hide ht2
  have HF2 := hide hf2
  have HOW := hide hown
  clear ht2 hf2 hown hvS
  go_wp2_with fail

  refine (rpublish_any d D R s t kp hs ht hct _ ((unhide H1).ref.kept (unhide HF2) (fun k hd hs => (unhide H1).apart k hs hd))).mono ?_
  rintro e w3 ⟨v3, D3, rfl, hown3, hvS3, ht3, hf3⟩
  obtain ⟨l1, l2, l3⟩ := unhide HLK kp
  obtain ⟨hb, hfr⟩ := hbo_step (unhide H1) (unhide HT2) (unhide HF2) ht3 hf3 l2 l3
  have hV : w3.ownsRow _ 3 1 v _ _ := own_same (unhide HOW) (fun k hk => hf3.keep k ((unhide HOW).lt k hk).2 (fun hd => by have h1 := ((unhide HOW).lt k hk).1; have h2 := unhide HDB k hd; simp at h1; omega))
  have HI := hide (IntsAt.of_own hV)
  have HI3 := hide (IntsAt.of_own hown3)
  have HB := hide hb
  have HFR := hide ((unhide HW).trans hfr)
  clear hb hfr ht3 hf3 hV hown3 hvS3 HT2 HF2 H1 HW HOW HLK HDB l2 l3 hct
  rw [l1] at HI ⊢
  generalize (rpub R s.data.toList t.data.toList kp).1 = r at *
  clear l1
  go_wp2_with fail
  refine (same_any v v3 r.1 r.1 _ (unhide HI) (unhide HI3)).mono ?_
  rw [show sameL r.1 r.1 = true from by simp [sameL]]
  rintro e w4 ⟨rfl, m, rfl⟩
  go_wp2_with (go_at_call 34; refine (num_any _ _).mono ?_; rintro e w' ⟨rfl, rfl⟩)
  go_ret
  exact ⟨by simp, _, (unhide HB).kept (Fr.drewN (Fr.of_below (S := fun _ => False) (Below.refl _ _)) m) (fun _ _ h => h), (unhide HFR).drewN m⟩

/-- Connect, Leave, Forget, Take -/
theorem clients_any (n p d : Nat) (T : Nat → Prop) (k a b : Int) (s t : ByteArray) (w : World) (h : HP n w p d T) :
    Calls Tryz.prog 37 #[.pointer (some ⟨p, 0, none⟩), .pointer (some ⟨d, 0, none⟩), .agg #[.int .i64 k, .int .i64 a, .int .i64 b, .string s, .string t]] w (HStep n w p d T) := by
  by_cases h12 : k = 12
  · subst h12; exact cl_connect n p d T a b s t w h
  by_cases h13 : k = 13
  · subst h13; exact cl_leave n p d T a b s t w h
  by_cases h14 : k = 14
  · subst h14; exact cl_forget n p d T a b s t w h
  exact cl_take n p d T k a b s t w h (by simpa using h12) (by simpa using h13) (by simpa using h14)

set_option maxHeartbeats 2000000 in
set_option maxRecDepth 1000000 in
theorem br_other (n p d : Nat) (T : Nat → Prop) (k a b : Int) (s t : ByteArray) (w : World) (h : HP n w p d T) (h15 : (k == 15) = false) (h16 : (k == 16) = false) (h17 : (k == 17) = false) :
    Calls Tryz.prog 15 #[.pointer (some ⟨p, 0, none⟩), .pointer (some ⟨d, 0, none⟩), .agg #[.int .i64 k, .int .i64 a, .int .i64 b, .string s, .string t]] w (HStep n w p d T) := by
  have hw1 := Fr.alloc (S := fun _ => False) w (.cells #[.int .i64 k, .int .i64 a, .int .i64 b, .string s, .string t] 38)
  have HW := hide (Fr.alloc (S := T) w (.cells #[.int .i64 k, .int .i64 a, .int .i64 b, .string s, .string t] 38))
  have HC := hide (clients_any n p d T k a b s t _ (h.kept hw1 (fun _ _ h => h)))
  clear h hw1
  go_enter Tryz.func15, Tryz.ntmps15
  go_wp2_with fail
  refine (unhide HC).mono ?_
  rintro e w2 ⟨rfl, T', h2, hf2⟩
  have HB := hide h2
  have HFR := hide ((unhide HW).trans hf2)
  clear h2 hf2
  go_wp2_with fail
  go_ret
  exact ⟨rfl, _, unhide HB, unhide HFR⟩

/-- every step on a hub -/
theorem broker_any (n p d : Nat) (T : Nat → Prop) (o : OpV) (w : World) (h : HP n w p d T) (ho : o.fits) (hn : n ≤ 288230376151711744) :
    Calls Tryz.prog 15 #[.pointer (some ⟨p, 0, none⟩), .pointer (some ⟨d, 0, none⟩), .agg #[.int .i64 o.kind, .int .i64 o.a, .int .i64 o.b, .string o.s, .string o.t]] w (HStep n w p d T) := by
  obtain ⟨k, a, b, s, t⟩ := o
  have hs : s.size ≤ maxLen := ho.2.2.2.1
  have ht : t.size ≤ maxLen := ho.2.2.2.2
  simp only
  by_cases h15 : k = 15
  · subst h15; exact br_sub n p d T a b s t w h hs
  by_cases h16 : k = 16
  · subst h16; exact br_unsub n p d T a b s t w h hs
  by_cases h17 : k = 17
  · subst h17; exact br_publish n p d T a b s t w h hs ht hn
  exact br_other n p d T k a b s t w h (by simpa using h15) (by simpa using h16) (by simpa using h17)

end Go.Proofs.YtchhmojnoiephabGreatDoor

/- upTo, of any kinds: every step is answered as the document says. -/
namespace Go.Proofs.YtchhmojnoiephabGreatDoor
open Go.ChangeShapes Go.WideShapes Go.ChangeAt Go.RowKit
set_option linter.unusedVariables false

theorem four_of {I : HubTabI} {B : Nat} {w0 wr : World} {P p0 d0 p1 d1 h0 g0 h1 g1 : Nat} {T0 T1 U0 U1 : Nat → Prop} (hP : PairAt wr P [ptrV p0, ptrV p1, ptrV h0, ptrV h1, ptrV d0, ptrV d1, ptrV g0, ptrV g1])
    (t0 : TP I wr p0 d0 T0) (t1 : TP I wr p1 d1 T1) (u0 : HP 0 wr h0 g0 U0) (u1 : HP 0 wr h1 g1 U1) (a1 : ∀ k, T0 k → ¬ T1 k) (a2 : ∀ k, T0 k → ¬ U0 k) (a3 : ∀ k, T0 k → ¬ U1 k) (a4 : ∀ k, T1 k → ¬ U0 k) (a5 : ∀ k, T1 k → ¬ U1 k) (a6 : ∀ k, U0 k → ¬ U1 k)
    (o0 : ∀ k, T0 k → k ≠ P ∧ B ≤ k) (o1 : ∀ k, T1 k → k ≠ P ∧ B ≤ k) (o2 : ∀ k, U0 k → k ≠ P ∧ B ≤ k) (o3 : ∀ k, U1 k → k ≠ P ∧ B ≤ k) (hBP : B ≤ P) (hb : Below B w0 wr) : Four I B w0 wr P 0 := by
  refine ⟨fun j => if j = 0 then p0 else if j = 1 then p1 else if j = 2 then h0 else h1, fun j => if j = 0 then d0 else if j = 1 then d1 else if j = 2 then g0 else g1, fun j => if j = 0 then T0 else if j = 1 then T1 else if j = 2 then U0 else U1, hP, fun j hj => ?_, fun i j hi hj hne k => ?_, fun j hj k => ?_, hBP, hb⟩
  · have : j = 0 ∨ j = 1 ∨ j = 2 ∨ j = 3 := by omega
    rcases this with rfl | rfl | rfl | rfl
    · exact t0
    · exact t1
    · exact u0
    · exact u1
  · have h1 : i = 0 ∨ i = 1 ∨ i = 2 ∨ i = 3 := by omega
    have h2 : j = 0 ∨ j = 1 ∨ j = 2 ∨ j = 3 := by omega
    rcases h1 with rfl | rfl | rfl | rfl <;> rcases h2 with rfl | rfl | rfl | rfl
    all_goals first
      | exact absurd rfl hne
      | exact a1 k
      | exact a2 k
      | exact a3 k
      | exact a4 k
      | exact a5 k
      | exact a6 k
      | exact fun x y => a1 k y x
      | exact fun x y => a2 k y x
      | exact fun x y => a3 k y x
      | exact fun x y => a4 k y x
      | exact fun x y => a5 k y x
      | exact fun x y => a6 k y x
  · have : j = 0 ∨ j = 1 ∨ j = 2 ∨ j = 3 := by omega
    rcases this with rfl | rfl | rfl | rfl
    · exact o0 k
    · exact o1 k
    · exact o2 k
    · exact o3 k
/-- how far the first loop of upTo has come -/
def UpSt (I : HubTabI) (B : Nat) (w0 wr : World) (P : Nat) (n : Nat) : Prop :=
  (n = 0 ∧ ∃ t0 t1 h0 h1 d0 d1 g0 g1, PairAt wr P [t0, t1, h0, h1, d0, d1, g0, g1] ∧ B ≤ P ∧ Below B w0 wr) ∨
  (n = 1 ∧ ∃ p d T h g U t1 h1 d1 g1, PairAt wr P [ptrV p, t1, ptrV h, h1, ptrV d, d1, ptrV g, g1] ∧ TP I wr p d T ∧ HP 0 wr h g U ∧ (∀ k, T k → ¬ U k) ∧ (∀ k, T k ∨ U k → k ≠ P ∧ B ≤ k) ∧ B ≤ P ∧ Below B w0 wr) ∨
  (n = 2 ∧ Four I B w0 wr P 0)
theorem up_one {I : HubTabI} {B : Nat} {w0 wr w2 w3 : World} {P p d h g : Nat} {T U : Nat → Prop} {t1 h1 d1 g1 : Value} (hPl : P < wr.heap.size) (hBP : B ≤ P) (hb : Below B w0 wr) (hB : B ≤ w0.heap.size) (t : TP I w2 p d T) (hf2 : Fr (fun k => k = P) wr w2 (fun k => k = P)) (hT : ∀ k, T k → wr.heap.size ≤ k)
    (u : HP 0 w3 h g U) (hP3 : PairAt w3 P [ptrV p, t1, ptrV h, h1, ptrV d, d1, ptrV g, g1]) (hf3 : Fr (fun k => k = P) w2 w3 (fun k => k = P)) (hU : ∀ k, U k → w2.heap.size ≤ k) : UpSt I B w0 w3 P 1 := by
  have hs2 := hf2.size
  have hbs := hb.size
  refine Or.inr (Or.inl ⟨rfl, p, d, T, h, g, U, t1, h1, d1, g1, hP3, t.kept hf3 (fun k hk => by have := hT k hk; omega), u, fun k hk hu => ?_, fun k hk => ?_, hBP, hf3.below (hf2.below hb hB (fun k hk => by omega)) hB (fun k hk => by omega)⟩)
  · have := t.lt hk; have := hU k hu; omega
  · rcases hk with hk | hk
    · have := hT k hk; exact ⟨by omega, by omega⟩
    · have := hU k hk; exact ⟨by omega, by omega⟩
theorem up_two {I : HubTabI} {B : Nat} {w0 wr w2 w3 : World} {P p0 d0 h0 g0 p d h g : Nat} {T0 U0 T U : Nat → Prop} (hPl : P < wr.heap.size) (hBP : B ≤ P) (hb : Below B w0 wr) (hB : B ≤ w0.heap.size) (t0 : TP I wr p0 d0 T0) (u0 : HP 0 wr h0 g0 U0) (a0 : ∀ k, T0 k → ¬ U0 k) (o0 : ∀ k, T0 k ∨ U0 k → k ≠ P ∧ B ≤ k)
    (t : TP I w2 p d T) (hf2 : Fr (fun k => k = P) wr w2 (fun k => k = P)) (hT : ∀ k, T k → wr.heap.size ≤ k)
    (u : HP 0 w3 h g U) (hP3 : PairAt w3 P [ptrV p0, ptrV p, ptrV h0, ptrV h, ptrV d0, ptrV d, ptrV g0, ptrV g]) (hf3 : Fr (fun k => k = P) w2 w3 (fun k => k = P)) (hU : ∀ k, U k → w2.heap.size ≤ k) : Four I B w0 w3 P 0 := by
  have hs2 := hf2.size
  have hbs := hb.size
  have n1 : ∀ k, T0 k → k ≠ P := fun k hk => (o0 k (Or.inl hk)).1
  have n2 : ∀ k, U0 k → k ≠ P := fun k hk => (o0 k (Or.inr hk)).1
  have n3 : ∀ k, T k → k ≠ P := fun k hk => by have := hT k hk; omega
  refine four_of hP3 ((t0.kept hf2 n1).kept hf3 n1) (t.kept hf3 n3) ((u0.kept hf2 n2).kept hf3 n2) u (fun k a b => ?_) a0 (fun k a b => ?_) (fun k a b => ?_) (fun k a b => ?_) (fun k a b => ?_) (fun k a => o0 k (Or.inl a)) (fun k a => ?_) (fun k a => o0 k (Or.inr a)) (fun k a => ?_) hBP (hf3.below (hf2.below hb hB (fun k hk => by omega)) hB (fun k hk => by omega))
  · have := t0.lt a; have := hT k b; omega
  · have := t0.lt a; have := hU k b; omega
  · have := u0.lt b; have := hT k a; omega
  · have := t.lt a; have := hU k b; omega
  · have := u0.lt a; have := hU k b; omega
  · have := hT k a; exact ⟨by omega, by omega⟩
  · have := hU k a; exact ⟨by omega, by omega⟩

/-- what a step on a table, or one that needs neither, is answered -/
structure UpI (I : HubTabI) (lo : Int) (B : Nat) (w0 : World) : Prop where
  tab : ∀ p d T (o : OpV) w, Below B w0 w → TP I w p d T → o.fits → lo ≤ o.kind → 5 ≤ o.kind → o.kind ≤ 8 → Calls Tryz.prog 16 #[.pointer (some ⟨p, 0, none⟩), .pointer (some ⟨d, 0, none⟩), .agg #[.int .i64 o.kind, .int .i64 o.a, .int .i64 o.b, .string o.s, .string o.t]] w (TStep I w p d T)
  free : ∀ (o : OpV) w, Below B w0 w → o.fits → lo ≤ o.kind → (o.kind < 4 ∨ 8 < o.kind) → o.kind < 11 → Calls Tryz.prog 22 #[.agg #[.int .i64 o.kind, .int .i64 o.a, .int .i64 o.b, .string o.s, .string o.t]] w fun e w' => e = .returned (.bool true) ∧ Below w.heap.size w w'

set_option maxHeartbeats 8000000 in
set_option maxRecDepth 1000000 in
theorem upTo_any (I : HubTabI) (lo hi : Int) (v : Value) (ops : List OpV) (w : World) (h : OpsAt w v ops) (hl : ops.length * 56 ≤ 200000000000000) (hU : UpI I lo w.heap.size w) :
    Calls Tryz.prog 6 #[v, .int .i64 lo, .int .i64 hi] w fun e w' => e = .returned (.int .i64 (-1)) ∧ Below w.heap.size w w' := by
  obtain ⟨ao, cap, rfl, hcap, hcap2, hfit, hcells⟩ := h
  unfold maxLen at hcap2
  have HFIT := hide hfit
  have HC := hide hcells
  have HUI := hide hU
  clear hfit hcells hU
  go_enter Tryz.func6, Tryz.ntmps6
  go_wp2_with fail
  go_loopg [8] 2 (fun gk kk wr => ∃ n : Nat, n ≤ 2 ∧ gk = 2 - n ∧ kk = .int .i64 n ∧ UpSt I w.heap.size w wr w.heap.size n)
  case atStart => exact ⟨0, by omega, rfl, rfl, Or.inl ⟨rfl, _, _, _, _, _, _, _, _, (MapKept.heap_alloc w _).1, Nat.le_refl _, (Below.refl _ w).alloc (Nat.le_refl _) _⟩⟩
  case round =>
    obtain ⟨n, hn, rfl, rfl, hst⟩ := hrel
    rcases hst with ⟨rfl, t0, t1, h0, h1, d0, d1, g0, g1, hP, hBP, hb⟩ | ⟨rfl, p, d, T, h, g, U, t1, h1, d1, g1, hP, ht, hu, ha, ho, hBP, hb⟩ | ⟨rfl, hfour⟩
    · have hPlt := heap_lt hP
      have HP_ := hide hP
      have HB := hide hb
      clear hP hb
      go_wp2_with fail
      refine (tables0_tp I _ _ _ _ _ _ _ _ _ _ (unhide HP_)).mono ?_
      rintro e w2 ⟨vv, rfl, p, d, T, hnew, hP2, hf2, hS2⟩
      have HN2 := hide hnew
      have HP2 := hide hP2
      have HF2 := hide hf2
      have HS2 := hide hS2
      clear hnew hP2 hf2 hS2
      go_wp2_with fail
      refine (hubs0_hp _ _ _ _ _ _ _ _ _ _ (unhide HP2)).mono ?_
      rintro e w3 ⟨vv2, rfl, a, b, U, hu, hP3, hf3, hS3⟩
      have HST : Hid (UpSt I w.heap.size w w3 w.heap.size 1) := up_one hPlt (Nat.le_refl _) (unhide HB) (Nat.le_refl _) (unhide HN2) (unhide HF2) (unhide HS2) hu hP3 hf3 hS3
      clear hP3 hf3 hu hS3
      go_wp2_with fail
      go_roundg 1
      case measure => omega
      case rel => exact ⟨1, by omega, rfl, by go_num, unhide HST⟩
    · have hPlt := heap_lt hP
      have HP_ := hide hP
      have HB := hide hb
      have HT0 := hide ht
      have HU0 := hide hu
      have HA0 := hide ha
      have HO0 := hide ho
      clear hP hb ht hu ha ho
      go_wp2_with fail
      refine (tables1_tp I _ _ _ _ _ _ _ _ _ _ (unhide HP_)).mono ?_
      rintro e w2 ⟨vv, rfl, p2, d2, T2, hnew, hP2, hf2, hS2⟩
      have HN2 := hide hnew
      have HP2 := hide hP2
      have HF2 := hide hf2
      have HS2 := hide hS2
      clear hnew hP2 hf2 hS2
      go_wp2_with fail
      refine (hubs1_hp _ _ _ _ _ _ _ _ _ _ (unhide HP2)).mono ?_
      rintro e w3 ⟨vv2, rfl, a, b, U2, hu, hP3, hf3, hS3⟩
      have HT3 : Hid (Four I w.heap.size w w3 w.heap.size 0) := up_two hPlt (Nat.le_refl _) (unhide HB) (Nat.le_refl _) (unhide HT0) (unhide HU0) (unhide HA0) (unhide HO0) (unhide HN2) (unhide HF2) (unhide HS2) hu hP3 hf3 hS3
      clear hP3 hf3 hu hS3
      go_wp2_with fail
      go_roundg 0
      case measure => omega
      case rel => exact ⟨2, by omega, rfl, by go_num, Or.inr (Or.inr ⟨rfl, unhide HT3⟩)⟩
    · have HT := hide hfour
      clear hfour
      go_wp2_with fail
      go_loopg [9, 10, 11, 12] ops.length (fun gk ii _ _ _ wr => ∃ n : Nat, n ≤ ops.length ∧ gk = ops.length - n ∧ ii = .int .i64 n ∧ Four I w.heap.size w wr w.heap.size n)
      case atStart => exact ⟨0, by omega, by omega, rfl, unhide HT⟩
      case round =>
        obtain ⟨n, hn, rfl, rfl, pp, dd, TT, hfour⟩ := hrel
        by_cases hlt : n < ops.length
        · obtain ⟨b, off, rfl, hbw, hcs⟩ := unhide HC (by intro h0; subst h0; simp at hlt)
          obtain ⟨e0, e1, e2, e3, e4⟩ := hcs n hlt
          have hob := unhide HFIT ops[n] (List.getElem_mem hlt)
          clear hcs
          generalize ops[n] = o at *
          have hbel := hfour.bel
          have x0 := (hbel.cell (p := ⟨b, off + n * 5, none⟩) hbw).trans e0
          have x1 := (hbel.cell (p := ⟨b, off + n * 5 + 1, none⟩) hbw).trans e1
          have x2 := (hbel.cell (p := ⟨b, off + n * 5 + 2, none⟩) hbw).trans e2
          have x3 := (hbel.cell (p := ⟨b, off + n * 5 + 3, none⟩) hbw).trans e3
          have x4 := (hbel.cell (p := ⟨b, off + n * 5 + 4, none⟩) hbw).trans e4
          clear e0 e1 e2 e3 e4 hbel
          have hn60 : (n : Int) < 1152921504606846976 := by omega
          have HOB := hide hob
          clear hob
          have hPr := hfour.pair
          have cT0 : wr.cell? ⟨w.heap.size, 0, none⟩ = some (.pointer (some ⟨pp 0, 0, none⟩)) := cell_block (i := 0) hPr rfl
          have cT1 : wr.cell? ⟨w.heap.size, 1, none⟩ = some (.pointer (some ⟨pp 1, 0, none⟩)) := cell_block (i := 1) hPr rfl
          have cH0 : wr.cell? ⟨w.heap.size, 2, none⟩ = some (.pointer (some ⟨pp 2, 0, none⟩)) := cell_block (i := 2) hPr rfl
          have cH1 : wr.cell? ⟨w.heap.size, 3, none⟩ = some (.pointer (some ⟨pp 3, 0, none⟩)) := cell_block (i := 3) hPr rfl
          have cD0 : wr.cell? ⟨w.heap.size, 4, none⟩ = some (.pointer (some ⟨dd 0, 0, none⟩)) := cell_block (i := 4) hPr rfl
          have cD1 : wr.cell? ⟨w.heap.size, 5, none⟩ = some (.pointer (some ⟨dd 1, 0, none⟩)) := cell_block (i := 5) hPr rfl
          have cG0 : wr.cell? ⟨w.heap.size, 6, none⟩ = some (.pointer (some ⟨dd 2, 0, none⟩)) := cell_block (i := 6) hPr rfl
          have cG1 : wr.cell? ⟨w.heap.size, 7, none⟩ = some (.pointer (some ⟨dd 3, 0, none⟩)) := cell_block (i := 7) hPr rfl
          have hPlt := heap_lt hPr
          have HFa := hide (hfour.frame (Fr.alloc wr (.cells #[.int .i64 o.kind, .int .i64 o.a, .int .i64 o.b, .string o.s, .string o.t] 38)) (Nat.le_refl _))
          have HPa : Hid (PairAt (wr.alloc (.cells #[.int .i64 o.kind, .int .i64 o.a, .int .i64 o.b, .string o.s, .string o.t] 38)) w.heap.size [ptrV (pp 0), ptrV (pp 1), ptrV (pp 2), ptrV (pp 3), ptrV (dd 0), ptrV (dd 1), ptrV (dd 2), ptrV (dd 3)]) := (unhide HFa).pair
          clear hfour hPr
          have HAND := hide (and_one o.b)
          -- the kinds
          by_cases hlo : o.kind < lo
          · go_wp2_with fail
            go_roundg (ops.length - (n + 1))
            case measure => omega
            case rel => exact ⟨n + 1, by omega, rfl, by go_num, _, _, _, (unhide HFa).mono (by omega)⟩
          by_cases hhi : hi < o.kind
          · go_wp2_with fail
            go_roundg (ops.length - (n + 1))
            case measure => omega
            case rel => exact ⟨n + 1, by omega, rfl, by go_num, _, _, _, (unhide HFa).mono (by omega)⟩
          have HLO : Hid (lo ≤ o.kind) := by unfold Hid; omega
          by_cases h4 : o.kind = 4
          · have b4 : (o.kind == 4) = true := by simp [h4]
            clear h4
            go_wp2_with fail
            generalize hkk : bits BinOp.and IntKind.i64 o.b 1 = kk at *
            clear hkk
            rcases unhide HAND with rfl | rfl
            · refine (tables0_tp I _ _ _ _ _ _ _ _ _ _ (unhide HPa)).mono ?_
              rintro e w2 ⟨vv, rfl, p, d, T, ht, hP2, hf2, hS2⟩
              have HT2 : Hid (FourS I w.heap.size w w2 w.heap.size (n + 1) (updF pp 0 p) (updF dd 0 d) (updF TT 0 T)) := (unhide HFa).new (Nat.le_refl _) (by omega) 0 (by omega) hP2 ht hf2 hS2
              clear ht hP2 hf2 hS2
              go_wp2_with fail
              go_roundg (ops.length - (n + 1))
              case measure => omega
              case rel => exact ⟨n + 1, by omega, rfl, by go_num, _, _, _, unhide HT2⟩
            · refine (tables1_tp I _ _ _ _ _ _ _ _ _ _ (unhide HPa)).mono ?_
              rintro e w2 ⟨vv, rfl, p, d, T, ht, hP2, hf2, hS2⟩
              have HT2 : Hid (FourS I w.heap.size w w2 w.heap.size (n + 1) (updF pp 1 p) (updF dd 1 d) (updF TT 1 T)) := (unhide HFa).new (Nat.le_refl _) (by omega) 1 (by omega) hP2 ht hf2 hS2
              clear ht hP2 hf2 hS2
              go_wp2_with fail
              go_roundg (ops.length - (n + 1))
              case measure => omega
              case rel => exact ⟨n + 1, by omega, rfl, by go_num, _, _, _, unhide HT2⟩
          have b4 : (o.kind == 4) = false := by simp [h4]
          by_cases h11 : o.kind = 11
          · have b11 : (o.kind == 11) = true := by simp [h11]
            clear h11 h4
            go_wp2_with fail
            generalize hkk : bits BinOp.and IntKind.i64 o.b 1 = kk at *
            clear hkk
            rcases unhide HAND with rfl | rfl
            · refine (hubs0_hp _ _ _ _ _ _ _ _ _ _ (unhide HPa)).mono ?_
              rintro e w2 ⟨vv, rfl, p, d, T, ht, hP2, hf2, hS2⟩
              have HT2 : Hid (FourS I w.heap.size w w2 w.heap.size (n + 1) (updF pp 2 p) (updF dd 2 d) (updF TT 2 T)) := (unhide HFa).new (Nat.le_refl _) (by omega) 2 (by omega) hP2 (show HP (n + 1) w2 p d T from ht.mono (Nat.zero_le _)) hf2 hS2
              clear ht hP2 hf2 hS2
              go_wp2_with fail
              go_roundg (ops.length - (n + 1))
              case measure => omega
              case rel => exact ⟨n + 1, by omega, rfl, by go_num, _, _, _, unhide HT2⟩
            · refine (hubs1_hp _ _ _ _ _ _ _ _ _ _ (unhide HPa)).mono ?_
              rintro e w2 ⟨vv, rfl, p, d, T, ht, hP2, hf2, hS2⟩
              have HT2 : Hid (FourS I w.heap.size w w2 w.heap.size (n + 1) (updF pp 3 p) (updF dd 3 d) (updF TT 3 T)) := (unhide HFa).new (Nat.le_refl _) (by omega) 3 (by omega) hP2 (show HP (n + 1) w2 p d T from ht.mono (Nat.zero_le _)) hf2 hS2
              clear ht hP2 hf2 hS2
              go_wp2_with fail
              go_roundg (ops.length - (n + 1))
              case measure => omega
              case rel => exact ⟨n + 1, by omega, rfl, by go_num, _, _, _, unhide HT2⟩
          have b11 : (o.kind == 11) = false := by simp [h11]
          by_cases ht : 5 ≤ o.kind ∧ o.kind ≤ 8
          · have HK1 : Hid (5 ≤ o.kind) := ht.1
            have HK2 : Hid (o.kind ≤ 8) := ht.2
            clear ht h4 h11
            go_upto_region 18 with fail
            have hk1 := unhide HK1
            have hk2 := unhide HK2
            clear hlo hhi
            go_wp2_with fail
            generalize hkk : bits BinOp.and IntKind.i64 o.b 1 = kk at *
            clear hkk
            rcases unhide HAND with rfl | rfl
            · have HOW : Hid (∀ w', w'.os = wr.os → w'.tape = wr.tape → w'.output = wr.output → w'.heap = (wr.alloc (.cells #[.int .i64 o.kind, .int .i64 o.a, .int .i64 o.b, .string o.s, .string o.t] 38)).heap → TP I w' (pp 0) (dd 0) (TT 0)) :=
                fun w' e1 e2 e3 e4 => (show TP I (wr.alloc (.cells #[.int .i64 o.kind, .int .i64 o.a, .int .i64 o.b, .string o.s, .string o.t] 38)) (pp 0) (dd 0) (TT 0) from (unhide HFa).ob 0 (by omega)).kept (fr_same (S := fun _ => False) e1 e2 e3 e4) (fun _ _ h => h)
              have HBW : Hid (∀ w', w'.os = wr.os → w'.tape = wr.tape → w'.output = wr.output → w'.heap = (wr.alloc (.cells #[.int .i64 o.kind, .int .i64 o.a, .int .i64 o.b, .string o.s, .string o.t] 38)).heap → Below w.heap.size w w') :=
                fun w' e1 e2 e3 e4 => (fr_same (S := fun _ => False) (w := wr.alloc (.cells #[.int .i64 o.kind, .int .i64 o.a, .int .i64 o.b, .string o.s, .string o.t] 38)) e1 e2 e3 e4).below (unhide HFa).bel (Nat.le_refl _) (fun _ h => h.elim)
              have HST : Hid (∀ W w' T', W.os = wr.os → W.tape = wr.tape → W.output = wr.output → W.heap = (wr.alloc (.cells #[.int .i64 o.kind, .int .i64 o.a, .int .i64 o.b, .string o.s, .string o.t] 38)).heap → TP I w' (pp 0) (dd 0) T' → Fr (TT 0) W w' T' → FourS I w.heap.size w w' w.heap.size (n + 1) pp dd (updF TT 0 T')) :=
                fun W w' T' e1 e2 e3 e4 hn hf => (unhide HFa).step (Nat.le_refl _) (by omega) 0 (by omega) hn ((fr_same (w := wr.alloc (.cells #[.int .i64 o.kind, .int .i64 o.a, .int .i64 o.b, .string o.s, .string o.t] 38)) e1 e2 e3 e4).trans hf)
              go_region_with (go_at_call 16; refine ((unhide HUI).tab (pp 0) (dd 0) (TT 0) o _ (by exact unhide HBW _ rfl rfl rfl rfl) (by exact unhide HOW _ rfl rfl rfl rfl) (unhide HOB) (unhide HLO) (unhide HK1) (unhide HK2)).mono ?_; rintro e w' ⟨rfl, T', hb', hf'⟩; have HT' := hide (unhide HST _ _ T' (by rfl) (by rfl) (by rfl) (by rfl) hb' hf'); clear hb' hf')
              all_goals
                go_wp2_with fail
                go_roundg (ops.length - (n + 1))
                case measure => omega
                case rel => exact ⟨n + 1, by omega, rfl, by go_num, _, _, _, unhide HT'⟩
            · have HOW : Hid (∀ w', w'.os = wr.os → w'.tape = wr.tape → w'.output = wr.output → w'.heap = (wr.alloc (.cells #[.int .i64 o.kind, .int .i64 o.a, .int .i64 o.b, .string o.s, .string o.t] 38)).heap → TP I w' (pp 1) (dd 1) (TT 1)) :=
                fun w' e1 e2 e3 e4 => (show TP I (wr.alloc (.cells #[.int .i64 o.kind, .int .i64 o.a, .int .i64 o.b, .string o.s, .string o.t] 38)) (pp 1) (dd 1) (TT 1) from (unhide HFa).ob 1 (by omega)).kept (fr_same (S := fun _ => False) e1 e2 e3 e4) (fun _ _ h => h)
              have HBW : Hid (∀ w', w'.os = wr.os → w'.tape = wr.tape → w'.output = wr.output → w'.heap = (wr.alloc (.cells #[.int .i64 o.kind, .int .i64 o.a, .int .i64 o.b, .string o.s, .string o.t] 38)).heap → Below w.heap.size w w') :=
                fun w' e1 e2 e3 e4 => (fr_same (S := fun _ => False) (w := wr.alloc (.cells #[.int .i64 o.kind, .int .i64 o.a, .int .i64 o.b, .string o.s, .string o.t] 38)) e1 e2 e3 e4).below (unhide HFa).bel (Nat.le_refl _) (fun _ h => h.elim)
              have HST : Hid (∀ W w' T', W.os = wr.os → W.tape = wr.tape → W.output = wr.output → W.heap = (wr.alloc (.cells #[.int .i64 o.kind, .int .i64 o.a, .int .i64 o.b, .string o.s, .string o.t] 38)).heap → TP I w' (pp 1) (dd 1) T' → Fr (TT 1) W w' T' → FourS I w.heap.size w w' w.heap.size (n + 1) pp dd (updF TT 1 T')) :=
                fun W w' T' e1 e2 e3 e4 hn hf => (unhide HFa).step (Nat.le_refl _) (by omega) 1 (by omega) hn ((fr_same (w := wr.alloc (.cells #[.int .i64 o.kind, .int .i64 o.a, .int .i64 o.b, .string o.s, .string o.t] 38)) e1 e2 e3 e4).trans hf)
              go_region_with (go_at_call 16; refine ((unhide HUI).tab (pp 1) (dd 1) (TT 1) o _ (by exact unhide HBW _ rfl rfl rfl rfl) (by exact unhide HOW _ rfl rfl rfl rfl) (unhide HOB) (unhide HLO) (unhide HK1) (unhide HK2)).mono ?_; rintro e w' ⟨rfl, T', hb', hf'⟩; have HT' := hide (unhide HST _ _ T' (by rfl) (by rfl) (by rfl) (by rfl) hb' hf'); clear hb' hf')
              all_goals
                go_wp2_with fail
                go_roundg (ops.length - (n + 1))
                case measure => omega
                case rel => exact ⟨n + 1, by omega, rfl, by go_num, _, _, _, unhide HT'⟩
          by_cases hb : 11 < o.kind
          · have HK1 : Hid (11 < o.kind) := hb
            clear hb ht h4 h11
            go_upto_region 18 with fail
            have hk1 := unhide HK1
            have hk3 : ¬ o.kind ≤ 8 := by omega
            have hk5 : 5 ≤ o.kind := by omega
            clear hlo hhi
            go_wp2_with fail
            generalize hkk : bits BinOp.and IntKind.i64 o.b 1 = kk at *
            clear hkk
            rcases unhide HAND with rfl | rfl
            · have HOW : Hid (∀ w', w'.os = wr.os → w'.tape = wr.tape → w'.output = wr.output → w'.heap = (wr.alloc (.cells #[.int .i64 o.kind, .int .i64 o.a, .int .i64 o.b, .string o.s, .string o.t] 38)).heap → HP n w' (pp 2) (dd 2) (TT 2)) :=
                fun w' e1 e2 e3 e4 => (show HP n (wr.alloc (.cells #[.int .i64 o.kind, .int .i64 o.a, .int .i64 o.b, .string o.s, .string o.t] 38)) (pp 2) (dd 2) (TT 2) from (unhide HFa).ob 2 (by omega)).kept (fr_same (S := fun _ => False) e1 e2 e3 e4) (fun _ _ h => h)
              have HBW : Hid (∀ w', w'.os = wr.os → w'.tape = wr.tape → w'.output = wr.output → w'.heap = (wr.alloc (.cells #[.int .i64 o.kind, .int .i64 o.a, .int .i64 o.b, .string o.s, .string o.t] 38)).heap → Below w.heap.size w w') :=
                fun w' e1 e2 e3 e4 => (fr_same (S := fun _ => False) (w := wr.alloc (.cells #[.int .i64 o.kind, .int .i64 o.a, .int .i64 o.b, .string o.s, .string o.t] 38)) e1 e2 e3 e4).below (unhide HFa).bel (Nat.le_refl _) (fun _ h => h.elim)
              have HST : Hid (∀ W w' T', W.os = wr.os → W.tape = wr.tape → W.output = wr.output → W.heap = (wr.alloc (.cells #[.int .i64 o.kind, .int .i64 o.a, .int .i64 o.b, .string o.s, .string o.t] 38)).heap → HP (n + 1) w' (pp 2) (dd 2) T' → Fr (TT 2) W w' T' → FourS I w.heap.size w w' w.heap.size (n + 1) pp dd (updF TT 2 T')) :=
                fun W w' T' e1 e2 e3 e4 hn hf => (unhide HFa).step (Nat.le_refl _) (by omega) 2 (by omega) hn ((fr_same (w := wr.alloc (.cells #[.int .i64 o.kind, .int .i64 o.a, .int .i64 o.b, .string o.s, .string o.t] 38)) e1 e2 e3 e4).trans hf)
              go_region_with (go_at_call 15; refine (broker_any n (pp 2) (dd 2) (TT 2) o _ (by exact unhide HOW _ rfl rfl rfl rfl) (unhide HOB) (by omega)).mono ?_; rintro e w' ⟨rfl, T', hb', hf'⟩; have HT' := hide (unhide HST _ _ T' (by rfl) (by rfl) (by rfl) (by rfl) hb' hf'); clear hb' hf')
              all_goals
                go_wp2_with fail
                go_roundg (ops.length - (n + 1))
                case measure => omega
                case rel => exact ⟨n + 1, by omega, rfl, by go_num, _, _, _, unhide HT'⟩
            · have HOW : Hid (∀ w', w'.os = wr.os → w'.tape = wr.tape → w'.output = wr.output → w'.heap = (wr.alloc (.cells #[.int .i64 o.kind, .int .i64 o.a, .int .i64 o.b, .string o.s, .string o.t] 38)).heap → HP n w' (pp 3) (dd 3) (TT 3)) :=
                fun w' e1 e2 e3 e4 => (show HP n (wr.alloc (.cells #[.int .i64 o.kind, .int .i64 o.a, .int .i64 o.b, .string o.s, .string o.t] 38)) (pp 3) (dd 3) (TT 3) from (unhide HFa).ob 3 (by omega)).kept (fr_same (S := fun _ => False) e1 e2 e3 e4) (fun _ _ h => h)
              have HBW : Hid (∀ w', w'.os = wr.os → w'.tape = wr.tape → w'.output = wr.output → w'.heap = (wr.alloc (.cells #[.int .i64 o.kind, .int .i64 o.a, .int .i64 o.b, .string o.s, .string o.t] 38)).heap → Below w.heap.size w w') :=
                fun w' e1 e2 e3 e4 => (fr_same (S := fun _ => False) (w := wr.alloc (.cells #[.int .i64 o.kind, .int .i64 o.a, .int .i64 o.b, .string o.s, .string o.t] 38)) e1 e2 e3 e4).below (unhide HFa).bel (Nat.le_refl _) (fun _ h => h.elim)
              have HST : Hid (∀ W w' T', W.os = wr.os → W.tape = wr.tape → W.output = wr.output → W.heap = (wr.alloc (.cells #[.int .i64 o.kind, .int .i64 o.a, .int .i64 o.b, .string o.s, .string o.t] 38)).heap → HP (n + 1) w' (pp 3) (dd 3) T' → Fr (TT 3) W w' T' → FourS I w.heap.size w w' w.heap.size (n + 1) pp dd (updF TT 3 T')) :=
                fun W w' T' e1 e2 e3 e4 hn hf => (unhide HFa).step (Nat.le_refl _) (by omega) 3 (by omega) hn ((fr_same (w := wr.alloc (.cells #[.int .i64 o.kind, .int .i64 o.a, .int .i64 o.b, .string o.s, .string o.t] 38)) e1 e2 e3 e4).trans hf)
              go_region_with (go_at_call 15; refine (broker_any n (pp 3) (dd 3) (TT 3) o _ (by exact unhide HOW _ rfl rfl rfl rfl) (unhide HOB) (by omega)).mono ?_; rintro e w' ⟨rfl, T', hb', hf'⟩; have HT' := hide (unhide HST _ _ T' (by rfl) (by rfl) (by rfl) (by rfl) hb' hf'); clear hb' hf')
              all_goals
                go_wp2_with fail
                go_roundg (ops.length - (n + 1))
                case measure => omega
                case rel => exact ⟨n + 1, by omega, rfl, by go_num, _, _, _, unhide HT'⟩
          · have HK1 : Hid (o.kind < 4 ∨ 8 < o.kind) := by unfold Hid; omega
            have HK2 : Hid (o.kind < 11) := by unfold Hid; omega
            clear ht h4 h11 hb
            go_upto_region 18 with fail
            have hk2 : ¬ 11 < o.kind := by have := unhide HK2; omega
            clear hlo hhi
            rcases unhide HK1 with hk1 | hk1
            · have hk1' : ¬ 5 ≤ o.kind := by omega
              go_wp2_with fail
              have HBW : Hid (∀ w', w'.os = wr.os → w'.tape = wr.tape → w'.output = wr.output → w'.heap = (wr.alloc (.cells #[.int .i64 o.kind, .int .i64 o.a, .int .i64 o.b, .string o.s, .string o.t] 38)).heap → Below w.heap.size w w') :=
                fun w' e1 e2 e3 e4 => (fr_same (S := fun _ => False) (w := wr.alloc (.cells #[.int .i64 o.kind, .int .i64 o.a, .int .i64 o.b, .string o.s, .string o.t] 38)) e1 e2 e3 e4).below (unhide HFa).bel (Nat.le_refl _) (fun _ h => h.elim)
              have HST : Hid (∀ W w', W.os = wr.os → W.tape = wr.tape → W.output = wr.output → W.heap = (wr.alloc (.cells #[.int .i64 o.kind, .int .i64 o.a, .int .i64 o.b, .string o.s, .string o.t] 38)).heap → Below W.heap.size W w' → FourS I w.heap.size w w' w.heap.size (n + 1) pp dd TT) :=
                fun W w' e1 e2 e3 e4 hf => ((unhide HFa).frame ((fr_same (S := fun _ => False) (w := wr.alloc (.cells #[.int .i64 o.kind, .int .i64 o.a, .int .i64 o.b, .string o.s, .string o.t] 38)) e1 e2 e3 e4).trans (Fr.of_below hf)) (Nat.le_refl _)).mono (by omega)
              refine ((unhide HUI).free o _ (by exact unhide HBW _ rfl rfl rfl rfl) (unhide HOB) (unhide HLO) (unhide HK1) (unhide HK2)).mono ?_
              rintro e w' ⟨rfl, hb'⟩
              have HT' := hide (unhide HST _ _ (by rfl) (by rfl) (by rfl) (by rfl) hb')
              clear hb'
              go_wp2_with fail
              go_roundg (ops.length - (n + 1))
              case measure => omega
              case rel => exact ⟨n + 1, by omega, rfl, by go_num, _, _, _, unhide HT'⟩
            · have hk1' : ¬ o.kind ≤ 8 := by omega
              have hk5 : 5 ≤ o.kind := by omega
              clear hk1
              go_wp2_with fail
              have HBW : Hid (∀ w', w'.os = wr.os → w'.tape = wr.tape → w'.output = wr.output → w'.heap = (wr.alloc (.cells #[.int .i64 o.kind, .int .i64 o.a, .int .i64 o.b, .string o.s, .string o.t] 38)).heap → Below w.heap.size w w') :=
                fun w' e1 e2 e3 e4 => (fr_same (S := fun _ => False) (w := wr.alloc (.cells #[.int .i64 o.kind, .int .i64 o.a, .int .i64 o.b, .string o.s, .string o.t] 38)) e1 e2 e3 e4).below (unhide HFa).bel (Nat.le_refl _) (fun _ h => h.elim)
              have HST : Hid (∀ W w', W.os = wr.os → W.tape = wr.tape → W.output = wr.output → W.heap = (wr.alloc (.cells #[.int .i64 o.kind, .int .i64 o.a, .int .i64 o.b, .string o.s, .string o.t] 38)).heap → Below W.heap.size W w' → FourS I w.heap.size w w' w.heap.size (n + 1) pp dd TT) :=
                fun W w' e1 e2 e3 e4 hf => ((unhide HFa).frame ((fr_same (S := fun _ => False) (w := wr.alloc (.cells #[.int .i64 o.kind, .int .i64 o.a, .int .i64 o.b, .string o.s, .string o.t] 38)) e1 e2 e3 e4).trans (Fr.of_below hf)) (Nat.le_refl _)).mono (by omega)
              refine ((unhide HUI).free o _ (by exact unhide HBW _ rfl rfl rfl rfl) (unhide HOB) (unhide HLO) (unhide HK1) (unhide HK2)).mono ?_
              rintro e w' ⟨rfl, hb'⟩
              have HT' := hide (unhide HST _ _ (by rfl) (by rfl) (by rfl) (by rfl) hb')
              clear hb'
              go_wp2_with fail
              go_roundg (ops.length - (n + 1))
              case measure => omega
              case rel => exact ⟨n + 1, by omega, rfl, by go_num, _, _, _, unhide HT'⟩
        · have HBB := hide hfour.bel
          clear hfour
          go_wp2_with fail
          go_ret
          exact ⟨rfl, unhide HBB⟩

end Go.Proofs.YtchhmojnoiephabGreatDoor
