import Derived.Test.YtchhmojnoiephabHubM
/- The program's hub: Subscribe, the walk. -/
namespace Go.Proofs.Ytchhmojnoiephab
open Go.ChangeShapes Go.WideShapes Go.ChangeAt Go.RowKit
set_option linter.unusedVariables false

def newS (n : Nat) (s : List UInt8) : SubL := ⟨n, (partS s).1, (partS s).2, false⟩
def addS (H : HubL) (n : Nat) (s : List UInt8) : HubL := { H with subs := H.subs ++ [newS n s] }
def seekN (H : HubL) (n : Nat) (s : List UInt8) : Nat := seekS (sameS n (partS s).1 (partS s).2) 0 H.subs
def subH (H : HubL) (c : Int) (s : List UInt8) : (Int × Int) × HubL :=
  if (checkS H c s).1 ≠ 0 then (checkS H c s, H)
  else if seekN H c.toNat s < H.subs.length then ((5, 0), H)
  else if 8 ≤ H.subs.length then ((7, 0), H)
  else ((0, 0), if (partS s).1 = [] then delK c.toNat (partS s).2 (addS H c.toNat s) H.kept else addS H c.toNat s)
theorem checkS_zero {H : HubL} {c : Int} {s : List UInt8} (h : (checkS H c s).1 = 0) : ∃ n : Nat, c = n ∧ n < 6 ∧ s.length ≤ 24 ∧ (filterR (partS s).2).1 = 0 ∧ H.on n = true := by
  unfold checkS at h
  cases hc : cliB c with
  | false => rw [if_neg (by simp [hc])] at h; simp at h
  | true =>
    obtain ⟨n, rfl, hn⟩ := cliB_nat hc
    rw [if_pos hc] at h
    split at h
    · simp at h
    · split at h
      · rename_i hx; exact absurd h hx
      · split at h
        · rename_i h1 h2 h3
          exact ⟨n, rfl, hn, by omega, by simpa using h2, by simpa using h3⟩
        · simp at h
theorem addS_good {H : HubL} (hg : goodH H) (n : Nat) (s : List UInt8) (hn : n < 6) (hs : s.length ≤ 24) (h8 : ¬ 8 ≤ H.subs.length) : goodH (addS H n s) := by
  refine ⟨hg.queue, ⟨?_, fun x hx => ?_⟩, hg.kept⟩
  · show (H.subs ++ [newS n s]).length ≤ 8
    rw [List.length_append, List.length_singleton]; omega
  · have hx' : x ∈ H.subs ++ [newS n s] := hx
    rcases List.mem_append.1 hx' with h | h
    · exact hg.subs.2 x h
    · rw [List.mem_singleton.1 h]
      have := partS_len s
      exact ⟨hn, by show (partS s).1.length ≤ 24; omega, by show (partS s).2.length ≤ 24; omega⟩

abbrev pairV (r : Int × Int) : Value := .tuple #[.int .i64 r.1, .int .i64 r.2]

set_option maxHeartbeats 4000000 in
set_option maxRecDepth 1000000 in
theorem subscribe_any (p : Nat) (S : Nat → Prop) (H : HubL) (c : Int) (s : ByteArray) (hs : s.size ≤ maxLen) (w : World) (h : HubAt w p S H) :
    Calls Try.prog 15 #[.pointer (some ⟨p, 0, none⟩), .int .i64 c, .string s] w (HubPost w p S (pairV (subH H c s.data.toList).1) (subH H c s.data.toList).2) := by
  obtain ⟨i0, hi, hz0, hz1, hz2⟩ := info_parts info_sub
  have HH := hide h
  have HCK := hide (checkSub_any p S H c s hs w h)
  by_cases hk0 : (checkS H c s.data.toList).1 = 0
  · obtain ⟨n, rfl, hn, hs24, hf0, hon⟩ := checkS_zero hk0
    have hb0 : ((checkS H n s.data.toList).1 != 0) = false := by simp [hk0]
    rw [len_list] at hs24
    have hf24 := (filterR_len _ hf0).1
    have HR0 : Hid (subH H n s.data.toList = if seekN H n s.data.toList < H.subs.length then ((5, 0), H) else if 8 ≤ H.subs.length then ((7, 0), H) else ((0, 0), if (partS s.data.toList).1 = [] then delK n (partS s.data.toList).2 (addS H n s.data.toList) H.kept else addS H n s.data.toList)) := by
      unfold Hid subH; rw [if_neg (by simp [hk0]), Int.toNat_natCast]
    have hbd : ∀ k, Below w.heap.size w (w.drewN k) := fun k => ⟨rfl, rfl, rfl, Nat.le_refl _, fun _ _ => rfl⟩
    generalize checkS H n s.data.toList = ck at *
    by_cases hsk : seekN H n s.data.toList < H.subs.length
    · have HR : Hid (subH H n s.data.toList = ((5, 0), H)) := (unhide HR0).trans (if_pos hsk)
      rw [unhide HR]
      have HFS := hide (fun (g f : ByteArray) (x : World) (hb : Below w.heap.size w x) => findSub_any p S H n g f x (h.below hb))
      obtain ⟨a, cc, c0, hp, hl8, hat⟩ := h.subsAt
      have HSK : Hid (∀ g f : ByteArray, g.data.toList = (partS s.data.toList).1 → f.data.toList = (partS s.data.toList).2 → seekS (sameS n g.data.toList f.data.toList) 0 H.subs = seekN H n s.data.toList) := fun g f hg hf => by rw [hg, hf]; rfl
      clear h hat HR HR0 hk0
      generalize seekN H n s.data.toList = sk at *
      go_enter Try.func15, Try.ntmps15
      go_wp2_with fail
      refine (unhide HCK).mono ?_
      rintro e w1 ⟨rfl, n1, rfl⟩
      go_wp2_with fail
      refine (split_any' s _ hs24).mono ?_
      rintro e w2 ⟨g, f, rfl, hg, hf, n2, rfl⟩
      have HSE := hide (unhide HSK g f hg hf)
      have HF2 := hide (unhide HFS g f)
      rw [unhide HSE] at HF2
      clear HSE
      go_wp2_with fail
      go_region_with (go_at_call 30; refine (unhide HF2 _ ?_).mono ?_; (exact ⟨rfl, rfl, rfl, Nat.le_refl _, fun _ _ => rfl⟩); rintro e w3 ⟨rfl, hb⟩; have c2 : w3.cell? ⟨p, 18, none⟩ = some (.slice a H.subs.length cc) := (hb.cell (p := ⟨p, 18, none⟩) hp).trans c0)
      all_goals
        replace hb : Below w.heap.size w w3 := ⟨hb.os, hb.tape, hb.output, hb.size, hb.block⟩
        go_wp2_with fail
        go_ret2
        exact HubPost.same (unhide HH) (by first | exact hb | exact ⟨hb.os, hb.tape, hb.output, hb.size, hb.block⟩)
    · have HFS := hide (fun (g f : ByteArray) (x : World) (hb : Below w.heap.size w x) => findSub_any p S H n g f x (h.below hb))
      obtain ⟨a, cc, c0, hp, hl8, hat⟩ := h.subsAt
      have HSK : Hid (∀ g f : ByteArray, g.data.toList = (partS s.data.toList).1 → f.data.toList = (partS s.data.toList).2 → seekS (sameS n g.data.toList f.data.toList) 0 H.subs = seekN H n s.data.toList) := fun g f hg hf => by rw [hg, hf]; rfl
      have hskI : decide (((seekN H n s.data.toList : Nat) : Int) < (H.subs.length : Int)) = false := by simp; omega
      have hskN : H.subs.length ≤ seekN H n s.data.toList := by omega
      have hskJ : ¬ ((seekN H n s.data.toList : Nat) : Int) < (H.subs.length : Int) := by omega
      clear h hat hk0
      by_cases h8 : 8 ≤ H.subs.length
      · have HR : Hid (subH H n s.data.toList = ((7, 0), H)) := (unhide HR0).trans ((if_neg hsk).trans (if_pos h8))
        rw [unhide HR]
        have h8I : (8 : Int) ≤ (H.subs.length : Int) := by omega
        clear HR HR0 hsk
        generalize seekN H n s.data.toList = sk at *
        go_enter Try.func15, Try.ntmps15
        go_wp2_with fail
        refine (unhide HCK).mono ?_
        rintro e w1 ⟨rfl, n1, rfl⟩
        go_wp2_with fail
        refine (split_any' s _ hs24).mono ?_
        rintro e w2 ⟨g, f, rfl, hg, hf, n2, rfl⟩
        have HSE := hide (unhide HSK g f hg hf)
        have HF2 := hide (unhide HFS g f)
        rw [unhide HSE] at HF2
        clear HSE
        go_wp2_with fail
        go_region_with (go_at_call 30; refine (unhide HF2 _ ?_).mono ?_; (exact ⟨rfl, rfl, rfl, Nat.le_refl _, fun _ _ => rfl⟩); rintro e w3 ⟨rfl, hb⟩; have c2 : w3.cell? ⟨p, 18, none⟩ = some (.slice a H.subs.length cc) := (hb.cell (p := ⟨p, 18, none⟩) hp).trans c0)
        all_goals
          replace hb : Below w.heap.size w w3 := ⟨hb.os, hb.tape, hb.output, hb.size, hb.block⟩
          go_wp2_with fail
          go_ret2
          exact HubPost.same (unhide HH) (by first | exact hb | exact ⟨hb.os, hb.tape, hb.output, hb.size, hb.block⟩)
      · have h8I : decide ((8 : Int) ≤ (H.subs.length : Int)) = false := by simp; omega
        by_cases hpg : (partS s.data.toList).1 = []
        · have HR : Hid (subH H n s.data.toList = ((0, 0), delK n (partS s.data.toList).2 (addS H n s.data.toList) H.kept)) := (unhide HR0).trans ((if_neg hsk).trans ((if_neg h8).trans (by rw [if_pos hpg])))
          rw [unhide HR]
          clear HR HR0 hsk
          generalize seekN H n s.data.toList = sk at *
          go_enter Try.func15, Try.ntmps15
          go_wp2_with fail
          refine (unhide HCK).mono ?_
          rintro e w1 ⟨rfl, n1, rfl⟩
          go_wp2_with fail
          refine (split_any' s _ hs24).mono ?_
          rintro e w2 ⟨g, f, rfl, hg, hf, n2, rfl⟩
          have HSE := hide (unhide HSK g f hg hf)
          have HF2 := hide (unhide HFS g f)
          rw [unhide HSE] at HF2
          clear HSE
          go_wp2_with fail
          go_region_with (go_at_call 30; refine (unhide HF2 _ ?_).mono ?_; (exact ⟨rfl, rfl, rfl, Nat.le_refl _, fun _ _ => rfl⟩); rintro e w3 ⟨rfl, hb⟩; have c2 : w3.cell? ⟨p, 18, none⟩ = some (.slice a H.subs.length cc) := (hb.cell (p := ⟨p, 18, none⟩) hp).trans c0)
          all_goals
            replace hb : Below w.heap.size w w3 := ⟨hb.os, hb.tape, hb.output, hb.size, hb.block⟩
            have hH3 := (unhide HH).below hb
            obtain ⟨A, qv, sv, kv, hw, hSS⟩ := hH3.body
            obtain ⟨av', lv', cv', hsv⟩ := own_slice hw.sown
            subst hsv
            have hlv : lv' = H.subs.length := own_len hw.sown
            subst hlv
            have hGD := hH3.good
            clear c2 c0 hH3
            have c4 := cell_block hw.blk hw.subc
            have f4 := free_block (i := 18) hw.blk
            have hp4 := hw.lt
            have HW := hide hw
            have HGD := hide hGD
            have HBW := hide hb
            have HSS := hide hSS
            clear hw hGD hb hSS
            go_wp2_with (at_builtin; refine wpList_append_moves _ rfl _ _ 59 rfl 66 i0 (.agg #[.int .i64 0, .string ByteArray.empty, .string ByteArray.empty, .bool false]) 4 48 Try.underlying59 hi hz0 hz1 hz2 rfl (by decide) _ _ _ rfl ((unhide HW).sown.alloc _) ⟨w3.heap.size, 0, none⟩ 1 1 [.int .i64 (n : Int), .string g, .string f, .bool false] rfl rfl ?c1 ?c2 ?c3 ?c4 ?_)
            first
              | (case c1 =>
                  intro j u hj
                  match j, hj with
                  | 0, hj => simp at hj; subst hj; simp [Addr.add]
                  | 1, hj => simp at hj; subst hj; simp [Addr.add]
                  | 2, hj => simp at hj; subst hj; simp [Addr.add]
                  | 3, hj => simp at hj; subst hj; simp [Addr.add])
              | skip
            case c2 => intro u hu; simp at hu; rcases hu with rfl | rfl | rfl | rfl <;> rfl
            case c3 => unfold maxLen; omega
            case c4 => omega
            intro v' w4 hown' hgrow hmv
            have hkeep : ∀ k, k < w3.heap.size → (Value.slice av' H.subs.length cv').ownBlock ≠ some k → w4.heap[k]? = w3.heap[k]? := fun k hk hne => by
              rw [hgrow.block k (by simp; omega) (fun e => hne e.symm), Below.heap_alloc _ _ _ hk]
            have hp5 : w4.heap[p]? = some (.cells A 61 (0, 0)) := by rw [hkeep p hp4 (unhide HW).np.2.1]; exact (unhide HW).blk
            have c5 := cell_block hp5 (unhide HW).subc
            have f5 := free_block (i := 18) hp5
            have hst := hub_setS (unhide HW) (w2 := w4) (v' := v') (L := H.subs ++ [newS n s.data.toList]) hgrow.os hgrow.tape hgrow.output (by have := hgrow.size; simp at this; omega) hkeep
              (by rw [List.length_append, subCells_snoc, show strV (newS n s.data.toList).grp = .string g from by show strV (partS s.data.toList).1 = _; rw [← hg]; unfold strV; rw [arr_back], show strV (newS n s.data.toList).fil = .string f from by show strV (partS s.data.toList).2 = _; rw [← hf]; unfold strV; rw [arr_back]]; exact hown')
              (fun k hk => by rcases hmv k hk with h1 | h1
                              · exact Or.inl h1
                              · exact Or.inr (by first | omega | (simp at h1; omega)))
              (addS_good (unhide HGD) n s.data.toList hn (by rw [len_list]; exact hs24) h8)
            obtain ⟨S5, t1, t2⟩ := hst
            obtain ⟨av5, lv5, cv5, rfl⟩ := own_slice hown'
            have HT1 : Hid (HubAt (w4.setCell ⟨p, 18, none⟩ (.slice av5 lv5 cv5)) p S5 (addS H n s.data.toList)) := t1
            have HT2 : Hid (Fr S w (w4.setCell ⟨p, 18, none⟩ (.slice av5 lv5 cv5)) S5) := by
              have hx := Fr.of_below (S := S) (unhide HBW)
              rw [unhide HSS] at hx ⊢
              exact hx.trans t2
            have HFE := hide hf
            clear t1 t2 hown' hgrow hmv hkeep hp5 c4 f4 HW HGD HBW
            have q1 : (g.toList == []) = true := by rw [Lib.toList_data, hg, hpg]; rfl
            have HDK := hide (delKept_any p S5 (addS H n s.data.toList) n hn f (by rw [← len_list, hf]; exact hf24) _ (unhide HT1))
            rw [hf] at HDK
            clear hg hf
            go_wp2_with fail
            refine (unhide HDK).mono ?_
            rintro e w6 ⟨⟨v6, rfl⟩, S6, x1, x2⟩
            have HX1 := hide x1
            have HX2 := hide ((unhide HT2).trans x2)
            clear x1 x2
            go_wp2_with fail
            go_ret2
            exact ⟨rfl, S6, unhide HX1, unhide HX2⟩
        · have HR : Hid (subH H n s.data.toList = ((0, 0), addS H n s.data.toList)) := (unhide HR0).trans ((if_neg hsk).trans ((if_neg h8).trans (by rw [if_neg hpg])))
          rw [unhide HR]
          clear HR HR0 hsk
          generalize seekN H n s.data.toList = sk at *
          go_enter Try.func15, Try.ntmps15
          go_wp2_with fail
          refine (unhide HCK).mono ?_
          rintro e w1 ⟨rfl, n1, rfl⟩
          go_wp2_with fail
          refine (split_any' s _ hs24).mono ?_
          rintro e w2 ⟨g, f, rfl, hg, hf, n2, rfl⟩
          have HSE := hide (unhide HSK g f hg hf)
          have HF2 := hide (unhide HFS g f)
          rw [unhide HSE] at HF2
          clear HSE
          go_wp2_with fail
          go_region_with (go_at_call 30; refine (unhide HF2 _ ?_).mono ?_; (exact ⟨rfl, rfl, rfl, Nat.le_refl _, fun _ _ => rfl⟩); rintro e w3 ⟨rfl, hb⟩; have c2 : w3.cell? ⟨p, 18, none⟩ = some (.slice a H.subs.length cc) := (hb.cell (p := ⟨p, 18, none⟩) hp).trans c0)
          all_goals
            replace hb : Below w.heap.size w w3 := ⟨hb.os, hb.tape, hb.output, hb.size, hb.block⟩
            have hH3 := (unhide HH).below hb
            obtain ⟨A, qv, sv, kv, hw, hSS⟩ := hH3.body
            obtain ⟨av', lv', cv', hsv⟩ := own_slice hw.sown
            subst hsv
            have hlv : lv' = H.subs.length := own_len hw.sown
            subst hlv
            have hGD := hH3.good
            clear c2 c0 hH3
            have c4 := cell_block hw.blk hw.subc
            have f4 := free_block (i := 18) hw.blk
            have hp4 := hw.lt
            have HW := hide hw
            have HGD := hide hGD
            have HBW := hide hb
            have HSS := hide hSS
            clear hw hGD hb hSS
            go_wp2_with (at_builtin; refine wpList_append_moves _ rfl _ _ 59 rfl 66 i0 (.agg #[.int .i64 0, .string ByteArray.empty, .string ByteArray.empty, .bool false]) 4 48 Try.underlying59 hi hz0 hz1 hz2 rfl (by decide) _ _ _ rfl ((unhide HW).sown.alloc _) ⟨w3.heap.size, 0, none⟩ 1 1 [.int .i64 (n : Int), .string g, .string f, .bool false] rfl rfl ?c1 ?c2 ?c3 ?c4 ?_)
            first
              | (case c1 =>
                  intro j u hj
                  match j, hj with
                  | 0, hj => simp at hj; subst hj; simp [Addr.add]
                  | 1, hj => simp at hj; subst hj; simp [Addr.add]
                  | 2, hj => simp at hj; subst hj; simp [Addr.add]
                  | 3, hj => simp at hj; subst hj; simp [Addr.add])
              | skip
            case c2 => intro u hu; simp at hu; rcases hu with rfl | rfl | rfl | rfl <;> rfl
            case c3 => unfold maxLen; omega
            case c4 => omega
            intro v' w4 hown' hgrow hmv
            have hkeep : ∀ k, k < w3.heap.size → (Value.slice av' H.subs.length cv').ownBlock ≠ some k → w4.heap[k]? = w3.heap[k]? := fun k hk hne => by
              rw [hgrow.block k (by simp; omega) (fun e => hne e.symm), Below.heap_alloc _ _ _ hk]
            have hp5 : w4.heap[p]? = some (.cells A 61 (0, 0)) := by rw [hkeep p hp4 (unhide HW).np.2.1]; exact (unhide HW).blk
            have c5 := cell_block hp5 (unhide HW).subc
            have f5 := free_block (i := 18) hp5
            have hst := hub_setS (unhide HW) (w2 := w4) (v' := v') (L := H.subs ++ [newS n s.data.toList]) hgrow.os hgrow.tape hgrow.output (by have := hgrow.size; simp at this; omega) hkeep
              (by rw [List.length_append, subCells_snoc, show strV (newS n s.data.toList).grp = .string g from by show strV (partS s.data.toList).1 = _; rw [← hg]; unfold strV; rw [arr_back], show strV (newS n s.data.toList).fil = .string f from by show strV (partS s.data.toList).2 = _; rw [← hf]; unfold strV; rw [arr_back]]; exact hown')
              (fun k hk => by rcases hmv k hk with h1 | h1
                              · exact Or.inl h1
                              · exact Or.inr (by first | omega | (simp at h1; omega)))
              (addS_good (unhide HGD) n s.data.toList hn (by rw [len_list]; exact hs24) h8)
            obtain ⟨S5, t1, t2⟩ := hst
            obtain ⟨av5, lv5, cv5, rfl⟩ := own_slice hown'
            have HT1 : Hid (HubAt (w4.setCell ⟨p, 18, none⟩ (.slice av5 lv5 cv5)) p S5 (addS H n s.data.toList)) := t1
            have HT2 : Hid (Fr S w (w4.setCell ⟨p, 18, none⟩ (.slice av5 lv5 cv5)) S5) := by
              have hx := Fr.of_below (S := S) (unhide HBW)
              rw [unhide HSS] at hx ⊢
              exact hx.trans t2
            have HFE := hide hf
            clear t1 t2 hown' hgrow hmv hkeep hp5 c4 f4 HW HGD HBW
            have q1 : (g.toList == []) = false := by rw [Lib.toList_data, hg]; simpa using hpg
            clear hg hf
            go_wp2_with fail
            go_ret2
            exact ⟨rfl, S5, unhide HT1, unhide HT2⟩
  · have hb0 : ((checkS H c s.data.toList).1 != 0) = true := by simp [hk0]
    have HR : Hid (subH H c s.data.toList = (checkS H c s.data.toList, H)) := by unfold Hid subH; rw [if_pos hk0]
    rw [unhide HR]
    clear h HR hk0
    generalize checkS H c s.data.toList = ck at *
    go_enter Try.func15, Try.ntmps15
    go_wp2_with fail
    refine (unhide HCK).mono ?_
    rintro e w1 ⟨rfl, n1, rfl⟩
    go_wp2_with fail
    go_ret2
    exact HubPost.same (unhide HH) ⟨rfl, rfl, rfl, Nat.le_refl _, fun _ _ => rfl⟩

end Go.Proofs.Ytchhmojnoiephab
