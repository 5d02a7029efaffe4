import Derived.Test.YtchhmojnoiephabGreatDoorZmHubJ
/- The program's hub: Subscribe, the walk. -/
namespace Go.Proofs.YtchhmojnoiephabGreatDoor
open Go.ChangeShapes Go.WideShapes Go.ChangeAt Go.RowKit
set_option linter.unusedVariables false

def newS (n : Nat) (s : List UInt8) : SubL := ⟨n, (partS s).1, (partS s).2, false⟩
def addS (H : HubL) (n : Nat) (s : List UInt8) : HubL := { H with subs := H.subs ++ [newS n s] }
def seekN (H : HubL) (n : Nat) (s : List UInt8) : Nat := seekS (sameS n (partS s).1 (partS s).2) 0 H.subs
def subH (H : HubL) (c : Int) (s : List UInt8) : (Int × Int) × HubL :=
  if (checkS H c s).1 ≠ 0 then (checkS H c s, H)
  else if seekN H c.toNat s < H.subs.length then ((5, 0), H)
  else if 8 ≤ H.subs.length then ((7, 0), H)
  else ((0, 0), if (partS s).1 = [] then delK c.toNat (partS s).2 (addS H c.toNat s) H.kept else addS H c.toNat s)
theorem checkS_zero {H : HubL} {c : Int} {s : List UInt8} (h : (checkS H c s).1 = 0) : ∃ n : Nat, c = n ∧ n < 6 ∧ s.length ≤ 24 ∧ (filterR (partS s).2).1 = 0 ∧ H.on n = true := by
  unfold checkS at h
  cases hc : cliB c with
  | false => rw [if_neg (by simp [hc])] at h; simp at h
  | true =>
    obtain ⟨n, rfl, hn⟩ := cliB_nat hc
    rw [if_pos hc] at h
    split at h
    · simp at h
    · split at h
      · rename_i hx; exact absurd h hx
      · split at h
        · rename_i h1 h2 h3
          exact ⟨n, rfl, hn, by omega, by simpa using h2, by simpa using h3⟩
        · simp at h
theorem addS_good {H : HubL} (hg : goodH H) (n : Nat) (s : List UInt8) (hn : n < 6) (hs : s.length ≤ 24) (h8 : ¬ 8 ≤ H.subs.length) : goodH (addS H n s) := by
  refine ⟨hg.queue, ⟨?_, fun x hx => ?_⟩, hg.kept⟩
  · show (H.subs ++ [newS n s]).length ≤ 8
    rw [List.length_append, List.length_singleton]; omega
  · have hx' : x ∈ H.subs ++ [newS n s] := hx
    rcases List.mem_append.1 hx' with h | h
    · exact hg.subs.2 x h
    · rw [List.mem_singleton.1 h]
      have := partS_len s
      exact ⟨hn, by show (partS s).1.length ≤ 24; omega, by show (partS s).2.length ≤ 24; omega⟩

abbrev pairV (r : Int × Int) : Value := .tuple #[.int .i64 r.1, .int .i64 r.2]

set_option maxHeartbeats 4000000 in
set_option maxRecDepth 1000000 in
theorem subscribe_any (p : Nat) (S : Nat → Prop) (H : HubL) (c : Int) (s : ByteArray) (hs : s.size ≤ maxLen) (w : World) (h : HubAt w p S H) :
    Calls Tryz.prog 32 #[.pointer (some ⟨p, 0, none⟩), .int .i64 c, .string s] w (HubPost w p S (pairV (subH H c s.data.toList).1) (subH H c s.data.toList).2) := by
  obtain ⟨i0, hi, hz0, hz1, hz2⟩ := info_parts info_sub
  have HH := hide h
  have HCK := hide (checkSub_any p S H c s hs w h)
  by_cases hk0 : (checkS H c s.data.toList).1 = 0
  · obtain ⟨n, rfl, hn, hs24, hf0, hon⟩ := checkS_zero hk0
    have hb0 : ((checkS H n s.data.toList).1 != 0) = false := by simp [hk0]
    rw [len_list] at hs24
    have hf24 := (filterR_len _ hf0).1
    have HR0 : Hid (subH H n s.data.toList = if seekN H n s.data.toList < H.subs.length then ((5, 0), H) else if 8 ≤ H.subs.length then ((7, 0), H) else ((0, 0), if (partS s.data.toList).1 = [] then delK n (partS s.data.toList).2 (addS H n s.data.toList) H.kept else addS H n s.data.toList)) := by
      unfold Hid subH; rw [if_neg (by simp [hk0]), Int.toNat_natCast]
    have hbd : ∀ k, Below w.heap.size w (w.drewN k) := fun k => ⟨rfl, rfl, rfl, Nat.le_refl _, fun _ _ => rfl⟩
    generalize checkS H n s.data.toList = ck at *
    by_cases hsk : seekN H n s.data.toList < H.subs.length
    · have HR : Hid (subH H n s.data.toList = ((5, 0), H)) := (unhide HR0).trans (if_pos hsk)
      rw [unhide HR]
      have HFS := hide (fun (g f : ByteArray) (x : World) (hb : Below w.heap.size w x) => findSub_any p S H n g f x (h.below hb))
      obtain ⟨a, cc, c0, hp, hl8, hat⟩ := h.subsAt
      have HSK : Hid (∀ g f : ByteArray, g.data.toList = (partS s.data.toList).1 → f.data.toList = (partS s.data.toList).2 → seekS (sameS n g.data.toList f.data.toList) 0 H.subs = seekN H n s.data.toList) := fun g f hg hf => by rw [hg, hf]; rfl
      clear h hat HR HR0 hk0
      generalize seekN H n s.data.toList = sk at *
      go_enter Tryz.func32, Tryz.ntmps32
      go_wp2_with fail
      refine (unhide HCK).mono ?_
      rintro e w1 ⟨rfl, n1, rfl⟩
      go_wp2_with fail
      refine (split_any' s _ hs24).mono ?_
      rintro e w2 ⟨g, f, rfl, hg, hf, n2, rfl⟩
      have HSE := hide (unhide HSK g f hg hf)
      have HF2 := hide (unhide HFS g f)
      rw [unhide HSE] at HF2
      clear HSE
      go_wp2_with fail
      go_region_with (go_at_call 68; refine (unhide HF2 _ ?_).mono ?_; (exact ⟨rfl, rfl, rfl, Nat.le_refl _, fun _ _ => rfl⟩); rintro e w3 ⟨rfl, hb⟩; have c2 : w3.cell? ⟨p, 18, none⟩ = some (.slice a H.subs.length cc) := (hb.cell (p := ⟨p, 18, none⟩) hp).trans c0)
      all_goals
        replace hb : Below w.heap.size w w3 := ⟨hb.os, hb.tape, hb.output, hb.size, hb.block⟩
        go_wp2_with fail
        go_ret2
        exact HubPost.same (unhide HH) (by first | exact hb | exact ⟨hb.os, hb.tape, hb.output, hb.size, hb.block⟩)
    · have HFS := hide (fun (g f : ByteArray) (x : World) (hb : Below w.heap.size w x) => findSub_any p S H n g f x (h.below hb))
      obtain ⟨a, cc, c0, hp, hl8, hat⟩ := h.subsAt
      have HSK : Hid (∀ g f : ByteArray, g.data.toList = (partS s.data.toList).1 → f.data.toList = (partS s.data.toList).2 → seekS (sameS n g.data.toList f.data.toList) 0 H.subs = seekN H n s.data.toList) := fun g f hg hf => by rw [hg, hf]; rfl
      have hskI : decide (((seekN H n s.data.toList : Nat) : Int) < (H.subs.length : Int)) = false := by simp; omega
      have hskN : H.subs.length ≤ seekN H n s.data.toList := by omega
      have hskJ : ¬ ((seekN H n s.data.toList : Nat) : Int) < (H.subs.length : Int) := by omega
      clear h hat hk0
      by_cases h8 : 8 ≤ H.subs.length
      · have HR : Hid (subH H n s.data.toList = ((7, 0), H)) := (unhide HR0).trans ((if_neg hsk).trans (if_pos h8))
        rw [unhide HR]
        have h8I : (8 : Int) ≤ (H.subs.length : Int) := by omega
        clear HR HR0 hsk
        generalize seekN H n s.data.toList = sk at *
        go_enter Tryz.func32, Tryz.ntmps32
        go_wp2_with fail
        refine (unhide HCK).mono ?_
        rintro e w1 ⟨rfl, n1, rfl⟩
        go_wp2_with fail
        refine (split_any' s _ hs24).mono ?_
        rintro e w2 ⟨g, f, rfl, hg, hf, n2, rfl⟩
        have HSE := hide (unhide HSK g f hg hf)
        have HF2 := hide (unhide HFS g f)
        rw [unhide HSE] at HF2
        clear HSE
        go_wp2_with fail
        go_region_with (go_at_call 68; refine (unhide HF2 _ ?_).mono ?_; (exact ⟨rfl, rfl, rfl, Nat.le_refl _, fun _ _ => rfl⟩); rintro e w3 ⟨rfl, hb⟩; have c2 : w3.cell? ⟨p, 18, none⟩ = some (.slice a H.subs.length cc) := (hb.cell (p := ⟨p, 18, none⟩) hp).trans c0)
        all_goals
          replace hb : Below w.heap.size w w3 := ⟨hb.os, hb.tape, hb.output, hb.size, hb.block⟩
          go_wp2_with fail
          go_ret2
          exact HubPost.same (unhide HH) (by first | exact hb | exact ⟨hb.os, hb.tape, hb.output, hb.size, hb.block⟩)
      · have h8I : decide ((8 : Int) ≤ (H.subs.length : Int)) = false := by simp; omega
        by_cases hpg : (partS s.data.toList).1 = []
        · have HR : Hid (subH H n s.data.toList = ((0, 0), delK n (partS s.data.toList).2 (addS H n s.data.toList) H.kept)) := (unhide HR0).trans ((if_neg hsk).trans ((if_neg h8).trans (by rw [if_pos hpg])))
          rw [unhide HR]
          clear HR HR0 hsk
          generalize seekN H n s.data.toList = sk at *
          go_enter Tryz.func32, Tryz.ntmps32
          go_wp2_with fail
          refine (unhide HCK).mono ?_
          rintro e w1 ⟨rfl, n1, rfl⟩
          go_wp2_with fail
          refine (split_any' s _ hs24).mono ?_
          rintro e w2 ⟨g, f, rfl, hg, hf, n2, rfl⟩
          have HSE := hide (unhide HSK g f hg hf)
          have HF2 := hide (unhide HFS g f)
          rw [unhide HSE] at HF2
          clear HSE
          go_wp2_with fail
          go_region_with (go_at_call 68; refine (unhide HF2 _ ?_).mono ?_; (exact ⟨rfl, rfl, rfl, Nat.le_refl _, fun _ _ => rfl⟩); rintro e w3 ⟨rfl, hb⟩; have c2 : w3.cell? ⟨p, 18, none⟩ = some (.slice a H.subs.length cc) := (hb.cell (p := ⟨p, 18, none⟩) hp).trans c0)
          all_goals
            replace hb : Below w.heap.size w w3 := ⟨hb.os, hb.tape, hb.output, hb.size, hb.block⟩
            have hH3 := (unhide HH).below hb
            obtain ⟨A, qv, sv, kv, hw, hSS⟩ := hH3.body
            obtain ⟨av', lv', cv', hsv⟩ := own_slice hw.sown
            subst hsv
            have hlv : lv' = H.subs.length := own_len hw.sown
            subst hlv
            have hGD := hH3.good
            clear c2 c0 hH3
            have c4 := cell_block hw.blk hw.subc
            have f4 := free_block (i := 18) hw.blk
            have hp4 := hw.lt
            have HW := hide hw
            have HGD := hide hGD
            have HBW := hide hb
            have HSS := hide hSS
            clear hw hGD hb hSS
            go_wp2_with (at_builtin; refine wpList_append_moves _ rfl _ _ 71 rfl 129 i0 (.agg #[.int .i64 0, .string ByteArray.empty, .string ByteArray.empty, .bool false]) 4 48 Tryz.underlying71 hi hz0 hz1 hz2 rfl (by decide) _ _ _ rfl ((unhide HW).sown.alloc _) ⟨w3.heap.size, 0, none⟩ 1 1 [.int .i64 (n : Int), .string g, .string f, .bool false] rfl rfl ?c1 ?c2 ?c3 ?c4 ?_)
            first
              | (case c1 =>
                  intro j u hj
                  match j, hj with
                  | 0, hj => simp at hj; subst hj; simp [Addr.add]
                  | 1, hj => simp at hj; subst hj; simp [Addr.add]
                  | 2, hj => simp at hj; subst hj; simp [Addr.add]
                  | 3, hj => simp at hj; subst hj; simp [Addr.add])
              | skip
            case c2 => intro u hu; simp at hu; rcases hu with rfl | rfl | rfl | rfl <;> rfl
            case c3 => unfold maxLen; omega
            case c4 => omega
            intro v' w4 hown' hgrow hmv
            have hkeep : ∀ k, k < w3.heap.size → (Value.slice av' H.subs.length cv').ownBlock ≠ some k → w4.heap[k]? = w3.heap[k]? := fun k hk hne => by
              rw [hgrow.block k (by simp; omega) (fun e => hne e.symm), Below.heap_alloc _ _ _ hk]
            have hp5 : w4.heap[p]? = some (.cells A 73 (0, 0)) := by rw [hkeep p hp4 (unhide HW).np.2.1]; exact (unhide HW).blk
            have c5 := cell_block hp5 (unhide HW).subc
            have f5 := free_block (i := 18) hp5
            have hst := hub_setS (unhide HW) (w2 := w4) (v' := v') (L := H.subs ++ [newS n s.data.toList]) hgrow.os hgrow.tape hgrow.output (by have := hgrow.size; simp at this; omega) hkeep
              (by rw [List.length_append, subCells_snoc, show strV (newS n s.data.toList).grp = .string g from by show strV (partS s.data.toList).1 = _; rw [← hg]; unfold strV; rw [arr_back], show strV (newS n s.data.toList).fil = .string f from by show strV (partS s.data.toList).2 = _; rw [← hf]; unfold strV; rw [arr_back]]; exact hown')
              (fun k hk => by rcases hmv k hk with h1 | h1
                              · exact Or.inl h1
                              · exact Or.inr (by first | omega | (simp at h1; omega)))
              (addS_good (unhide HGD) n s.data.toList hn (by rw [len_list]; exact hs24) h8)
            obtain ⟨S5, t1, t2⟩ := hst
            obtain ⟨av5, lv5, cv5, rfl⟩ := own_slice hown'
            have HT1 : Hid (HubAt (w4.setCell ⟨p, 18, none⟩ (.slice av5 lv5 cv5)) p S5 (addS H n s.data.toList)) := t1
            have HT2 : Hid (Fr S w (w4.setCell ⟨p, 18, none⟩ (.slice av5 lv5 cv5)) S5) := by
              have hx := Fr.of_below (S := S) (unhide HBW)
              rw [unhide HSS] at hx ⊢
              exact hx.trans t2
            have HFE := hide hf
            clear t1 t2 hown' hgrow hmv hkeep hp5 c4 f4 HW HGD HBW
            have q1 : (g.toList == []) = true := by rw [Lib.toList_data, hg, hpg]; rfl
            have HDK := hide (delKept_any p S5 (addS H n s.data.toList) n hn f (by rw [← len_list, hf]; exact hf24) _ (unhide HT1))
            rw [hf] at HDK
            clear hg hf
            go_wp2_with fail
            refine (unhide HDK).mono ?_
            rintro e w6 ⟨⟨v6, rfl⟩, S6, x1, x2⟩
            have HX1 := hide x1
            have HX2 := hide ((unhide HT2).trans x2)
            clear x1 x2
            go_wp2_with fail
            go_ret2
            exact ⟨rfl, S6, unhide HX1, unhide HX2⟩
        · have HR : Hid (subH H n s.data.toList = ((0, 0), addS H n s.data.toList)) := (unhide HR0).trans ((if_neg hsk).trans ((if_neg h8).trans (by rw [if_neg hpg])))
          rw [unhide HR]
          clear HR HR0 hsk
          generalize seekN H n s.data.toList = sk at *
          go_enter Tryz.func32, Tryz.ntmps32
          go_wp2_with fail
          refine (unhide HCK).mono ?_
          rintro e w1 ⟨rfl, n1, rfl⟩
          go_wp2_with fail
          refine (split_any' s _ hs24).mono ?_
          rintro e w2 ⟨g, f, rfl, hg, hf, n2, rfl⟩
          have HSE := hide (unhide HSK g f hg hf)
          have HF2 := hide (unhide HFS g f)
          rw [unhide HSE] at HF2
          clear HSE
          go_wp2_with fail
          go_region_with (go_at_call 68; refine (unhide HF2 _ ?_).mono ?_; (exact ⟨rfl, rfl, rfl, Nat.le_refl _, fun _ _ => rfl⟩); rintro e w3 ⟨rfl, hb⟩; have c2 : w3.cell? ⟨p, 18, none⟩ = some (.slice a H.subs.length cc) := (hb.cell (p := ⟨p, 18, none⟩) hp).trans c0)
          all_goals
            replace hb : Below w.heap.size w w3 := ⟨hb.os, hb.tape, hb.output, hb.size, hb.block⟩
            have hH3 := (unhide HH).below hb
            obtain ⟨A, qv, sv, kv, hw, hSS⟩ := hH3.body
            obtain ⟨av', lv', cv', hsv⟩ := own_slice hw.sown
            subst hsv
            have hlv : lv' = H.subs.length := own_len hw.sown
            subst hlv
            have hGD := hH3.good
            clear c2 c0 hH3
            have c4 := cell_block hw.blk hw.subc
            have f4 := free_block (i := 18) hw.blk
            have hp4 := hw.lt
            have HW := hide hw
            have HGD := hide hGD
            have HBW := hide hb
            have HSS := hide hSS
            clear hw hGD hb hSS
            go_wp2_with (at_builtin; refine wpList_append_moves _ rfl _ _ 71 rfl 129 i0 (.agg #[.int .i64 0, .string ByteArray.empty, .string ByteArray.empty, .bool false]) 4 48 Tryz.underlying71 hi hz0 hz1 hz2 rfl (by decide) _ _ _ rfl ((unhide HW).sown.alloc _) ⟨w3.heap.size, 0, none⟩ 1 1 [.int .i64 (n : Int), .string g, .string f, .bool false] rfl rfl ?c1 ?c2 ?c3 ?c4 ?_)
            first
              | (case c1 =>
                  intro j u hj
                  match j, hj with
                  | 0, hj => simp at hj; subst hj; simp [Addr.add]
                  | 1, hj => simp at hj; subst hj; simp [Addr.add]
                  | 2, hj => simp at hj; subst hj; simp [Addr.add]
                  | 3, hj => simp at hj; subst hj; simp [Addr.add])
              | skip
            case c2 => intro u hu; simp at hu; rcases hu with rfl | rfl | rfl | rfl <;> rfl
            case c3 => unfold maxLen; omega
            case c4 => omega
            intro v' w4 hown' hgrow hmv
            have hkeep : ∀ k, k < w3.heap.size → (Value.slice av' H.subs.length cv').ownBlock ≠ some k → w4.heap[k]? = w3.heap[k]? := fun k hk hne => by
              rw [hgrow.block k (by simp; omega) (fun e => hne e.symm), Below.heap_alloc _ _ _ hk]
            have hp5 : w4.heap[p]? = some (.cells A 73 (0, 0)) := by rw [hkeep p hp4 (unhide HW).np.2.1]; exact (unhide HW).blk
            have c5 := cell_block hp5 (unhide HW).subc
            have f5 := free_block (i := 18) hp5
            have hst := hub_setS (unhide HW) (w2 := w4) (v' := v') (L := H.subs ++ [newS n s.data.toList]) hgrow.os hgrow.tape hgrow.output (by have := hgrow.size; simp at this; omega) hkeep
              (by rw [List.length_append, subCells_snoc, show strV (newS n s.data.toList).grp = .string g from by show strV (partS s.data.toList).1 = _; rw [← hg]; unfold strV; rw [arr_back], show strV (newS n s.data.toList).fil = .string f from by show strV (partS s.data.toList).2 = _; rw [← hf]; unfold strV; rw [arr_back]]; exact hown')
              (fun k hk => by rcases hmv k hk with h1 | h1
                              · exact Or.inl h1
                              · exact Or.inr (by first | omega | (simp at h1; omega)))
              (addS_good (unhide HGD) n s.data.toList hn (by rw [len_list]; exact hs24) h8)
            obtain ⟨S5, t1, t2⟩ := hst
            obtain ⟨av5, lv5, cv5, rfl⟩ := own_slice hown'
            have HT1 : Hid (HubAt (w4.setCell ⟨p, 18, none⟩ (.slice av5 lv5 cv5)) p S5 (addS H n s.data.toList)) := t1
            have HT2 : Hid (Fr S w (w4.setCell ⟨p, 18, none⟩ (.slice av5 lv5 cv5)) S5) := by
              have hx := Fr.of_below (S := S) (unhide HBW)
              rw [unhide HSS] at hx ⊢
              exact hx.trans t2
            have HFE := hide hf
            clear t1 t2 hown' hgrow hmv hkeep hp5 c4 f4 HW HGD HBW
            have q1 : (g.toList == []) = false := by rw [Lib.toList_data, hg]; simpa using hpg
            clear hg hf
            go_wp2_with fail
            go_ret2
            exact ⟨rfl, S5, unhide HT1, unhide HT2⟩
  · have hb0 : ((checkS H c s.data.toList).1 != 0) = true := by simp [hk0]
    have HR : Hid (subH H c s.data.toList = (checkS H c s.data.toList, H)) := by unfold Hid subH; rw [if_pos hk0]
    rw [unhide HR]
    clear h HR hk0
    generalize checkS H c s.data.toList = ck at *
    go_enter Tryz.func32, Tryz.ntmps32
    go_wp2_with fail
    refine (unhide HCK).mono ?_
    rintro e w1 ⟨rfl, n1, rfl⟩
    go_wp2_with fail
    go_ret2
    exact HubPost.same (unhide HH) ⟨rfl, rfl, rfl, Nat.le_refl _, fun _ _ => rfl⟩

end Go.Proofs.YtchhmojnoiephabGreatDoor

/- The program's hub, younger than a world: the calls as the laws meet them. -/
namespace Go.Proofs.YtchhmojnoiephabGreatDoor
open Go.ChangeShapes Go.WideShapes Go.ChangeAt Go.RowKit
set_option linter.unusedVariables false

/-- the hub at p, all its blocks younger than w0, and nothing older is changed -/
def Sit (w0 wr : World) (p : Nat) (H : HubL) : Prop := ∃ S, HubAt wr p S H ∧ (∀ k, S k → w0.heap.size ≤ k) ∧ Below w0.heap.size w0 wr
theorem Sit.bel {w0 wr : World} {p : Nat} {H : HubL} (h : Sit w0 wr p H) : Below w0.heap.size w0 wr := by obtain ⟨_, _, _, h3⟩ := h; exact h3
theorem Sit.good {w0 wr : World} {p : Nat} {H : HubL} (h : Sit w0 wr p H) : goodH H := by obtain ⟨_, h1, _, _⟩ := h; exact h1.good
theorem Sit.on {w0 wr w2 : World} {p : Nat} {H : HubL} (h : Sit w0 wr p H) (hb : Below wr.heap.size wr w2) : Sit w0 w2 p H := by
  obtain ⟨S, h1, h2, h3⟩ := h
  exact ⟨S, h1.below hb, h2, h3.trans (hb.mono h3.size)⟩
theorem sit_next {w0 wr w' : World} {p : Nat} {S S' : Nat → Prop} {H' : HubL} (h2 : ∀ k, S k → w0.heap.size ≤ k) (h3 : Below w0.heap.size w0 wr) (h1 : HubAt w' p S' H') (hf : Fr S wr w' S') : Sit w0 w' p H' :=
  ⟨S', h1, fun k hk => by
    rcases hf.new k hk with h | h
    · exact h2 k h
    · exact Nat.le_trans h3.size h, hf.below h3 (Nat.le_refl _) h2⟩
theorem sit_new (w : World) : Calls Tryz.prog 9 #[] w fun e w' => e = .returned (.pointer (some ⟨w.heap.size, 0, none⟩)) ∧ Sit w w' w.heap.size hub0 :=
  (newHub_any w).mono fun e w' ⟨he, ⟨S, h1, h2⟩, hb⟩ => ⟨he, S, h1, fun k hk => by rw [h2 k hk]; exact Nat.le_refl _, hb⟩
theorem sit_newP (w : World) : Calls Tryz.prog 9 #[] w fun e w' => ∃ P, e = .returned (.pointer (some ⟨P, 0, none⟩)) ∧ Sit w w' P hub0 := (sit_new w).mono fun e w' ⟨he, hs⟩ => ⟨_, he, hs⟩
theorem sit_connect {w0 wr : World} {p : Nat} {H : HubL} (h : Sit w0 wr p H) (c a : Int) (H' : HubL) (hr : connectH H c = (a, H')) :
    Calls Tryz.prog 72 #[.pointer (some ⟨p, 0, none⟩), .int .i64 c] wr fun e w' => e = .returned (.int .i64 a) ∧ Sit w0 w' p H' := by
  obtain ⟨S, h1, h2, h3⟩ := h
  have := connect_any p S H c wr h1
  rw [hr] at this
  exact this.mono fun e w' ⟨he, S', x1, x2⟩ => ⟨he, sit_next h2 h3 x1 x2⟩
theorem sit_publish {w0 wr : World} {p : Nat} {H : HubL} (h : Sit w0 wr p H) (t q : ByteArray) (keep : Bool) (ht : t.size ≤ maxLen) (hq : q.size ≤ maxLen) (l : List Int) (a b : Int) (H' : HubL) (hr : pubH H t.data.toList q.data.toList keep = ((l, a, b), H')) :
    Calls Tryz.prog 11 #[.pointer (some ⟨p, 0, none⟩), .string t, .string q, .bool keep] wr fun e w' => ∃ v, e = .returned (.tuple #[v, .int .i64 a, .int .i64 b]) ∧ w'.ownsRow wr.heap.size 3 1 v l.length (l.map (Value.int .i64)) ∧ Sit w0 w' p H' := by
  obtain ⟨S, h1, h2, h3⟩ := h
  have := publish_any p S H t q keep ht hq wr h1
  rw [hr] at this
  exact this.mono fun e w' ⟨v, S', he, hv, hn, x1, x2⟩ => ⟨v, he, hv, sit_next h2 h3 x1 x2⟩
theorem sit_subscribe {w0 wr : World} {p : Nat} {H : HubL} (h : Sit w0 wr p H) (c : Int) (s : ByteArray) (hs : s.size ≤ maxLen) (a b : Int) (H' : HubL) (hr : subH H c s.data.toList = ((a, b), H')) :
    Calls Tryz.prog 32 #[.pointer (some ⟨p, 0, none⟩), .int .i64 c, .string s] wr fun e w' => e = .returned (.tuple #[.int .i64 a, .int .i64 b]) ∧ Sit w0 w' p H' := by
  obtain ⟨S, h1, h2, h3⟩ := h
  have := subscribe_any p S H c s hs wr h1
  rw [hr] at this
  exact this.mono fun e w' ⟨he, S', x1, x2⟩ => ⟨he, sit_next h2 h3 x1 x2⟩
theorem sit_take {w0 wr : World} {p : Nat} {H : HubL} (h : Sit w0 wr p H) (c : Int) (l : List UInt8) (a : Int) (H' : HubL) (hr : takeQ H c = ((l, a), H')) :
    Calls Tryz.prog 78 #[.pointer (some ⟨p, 0, none⟩), .int .i64 c] wr fun e w' => ∃ s : ByteArray, e = .returned (.tuple #[.string s, .int .i64 a]) ∧ s.data.toList = l ∧ Sit w0 w' p H' := by
  obtain ⟨S, h1, h2, h3⟩ := h
  have := take_any p S H c wr h1
  rw [hr] at this
  exact this.mono fun e w' ⟨s, S', he, hs, x1, x2⟩ => ⟨s, he, hs, sit_next h2 h3 x1 x2⟩

end Go.Proofs.YtchhmojnoiephabGreatDoor

/- The program's hub: Leave, Forget, Unsubscribe. -/
namespace Go.Proofs.YtchhmojnoiephabGreatDoor
open Go.ChangeShapes Go.WideShapes Go.ChangeAt Go.RowKit
set_option linter.unusedVariables false

def leaveH (H : HubL) (c : Int) : Int × HubL := if cliB c = true then (if H.on c.toNat = true then (0, goH H c.toNat) else (9, H)) else (4, H)

set_option maxHeartbeats 1000000 in
theorem leave_any (p : Nat) (S : Nat → Prop) (H : HubL) (c : Int) (w : World) (h : HubAt w p S H) : Calls Tryz.prog 74 #[.pointer (some ⟨p, 0, none⟩), .int .i64 c] w (HubPost w p S (.int .i64 (leaveH H c).1) (leaveH H c).2) := by
  have HH := hide h
  have HHE := hide (isHere_any p S H c w h)
  cases hc : cliB c with
  | false =>
    have HR : Hid (leaveH H c = (4, H)) := by unfold Hid leaveH; rw [if_neg (by simp [hc])]
    rw [unhide HR]
    clear h
    go_enter Tryz.func74, Tryz.ntmps74
    go_wp2_with fail
    refine (isClient_any _ _).mono ?_
    rw [hc]
    rintro e w' ⟨rfl, rfl⟩
    go_wp2_with fail
    go_ret
    exact HubPost.stay (unhide HH)
  | true =>
    obtain ⟨n, rfl, hn⟩ := cliB_nat hc
    rw [hereB_of H n hn] at HHE
    cases hon : H.on n with
    | false =>
      have HR : Hid (leaveH H n = (9, H)) := by unfold Hid leaveH; rw [if_pos hc, if_neg (by simp [hon])]
      rw [unhide HR]
      rw [hon] at HHE
      clear h
      go_enter Tryz.func74, Tryz.ntmps74
      go_wp2_with fail
      refine (isClient_any _ _).mono ?_
      rw [hc]
      rintro e w' ⟨rfl, rfl⟩
      go_wp2_with fail
      refine (unhide HHE).mono ?_
      rintro e w' ⟨rfl, rfl⟩
      go_wp2_with fail
      go_ret
      exact HubPost.stay (unhide HH)
    | true =>
      have HR : Hid (leaveH H n = (0, goH H n)) := by unfold Hid leaveH; rw [if_pos hc, if_pos (by simpa using hon)]; simp
      rw [unhide HR]
      rw [hon] at HHE
      obtain ⟨A, qv, sv, kv, hw, rfl⟩ := h.body
      obtain ⟨c1, c2, c3⟩ := hw.cli n hn
      have z1 := cell_block hw.blk c1
      have f1 := free_block (i := n * 3) hw.blk
      have HW := hide (hw.setOn hn false)
      have HG := hide (go_good h.good n)
      clear h hw c1 c2 c3 HH
      go_enter Tryz.func74, Tryz.ntmps74
      go_wp2_with fail
      refine (isClient_any _ _).mono ?_
      rw [hc]
      rintro e w' ⟨rfl, rfl⟩
      go_wp2_with fail
      refine (unhide HHE).mono ?_
      rintro e w' ⟨rfl, rfl⟩
      go_wp2_with fail
      go_ret
      exact ⟨rfl, _, ⟨⟨_, _, _, _, unhide HW, rfl⟩, unhide HG⟩, fr_cell _⟩

def SubsRow (w : World) (a : Option Addr) (c : Nat) (L : List SubL) : Prop := ∀ k (hk : k < L.length), ∃ g, a = some ⟨g, 0, none⟩ ∧ L.length ≤ c ∧ c ≤ 9223372036854775807 ∧ L[k].who < 6 ∧ L[k].fil.length ≤ 24 ∧ ∀ w', Below w.heap.size w w' →
      w'.cell? ⟨g, k * 4, none⟩ = some (.int .i64 (L[k].who : Int)) ∧ w'.cell? ⟨g, k * 4 + 1, none⟩ = some (.string ⟨L[k].grp.toArray⟩) ∧ w'.cell? ⟨g, k * 4 + 2, none⟩ = some (.string ⟨L[k].fil.toArray⟩) ∧ w'.cell? ⟨g, k * 4 + 3, none⟩ = some (.bool L[k].had)
/-- a client is forgotten -/
def clearH (H : HubL) (n : Nat) : HubL := { H with on := updF H.on n false, known := updF H.known n false, q := updF H.q n [] }
def lessS (L : List SubL) (n : Nat) : List SubL := L.filter (fun s => !decide (s.who = n))
def forgetH (H : HubL) (c : Int) : Int × HubL := if cliB c = true then (if H.known c.toNat = true then (0, { clearH H c.toNat with subs := lessS H.subs c.toNat }) else (6, H)) else (4, H)
theorem clear_good {H : HubL} (hg : goodH H) (n : Nat) : goodH (clearH H n) := by
  refine ⟨fun k => ?_, hg.subs, hg.kept⟩
  by_cases hk : k = n
  · subst hk
    rw [show (clearH H k).q k = [] from updF_same _ _ _]; simp
  · rw [show (clearH H n).q k = H.q k from updF_other _ _ hk]; exact hg.queue k
theorem subs_good {H : HubL} (hg : goodH H) (L : List SubL) (hl : L.length ≤ 8) (hL : ∀ s ∈ L, s ∈ H.subs) : goodH { H with subs := L } := ⟨hg.queue, ⟨hl, fun s hs => hg.subs.2 s (hL s hs)⟩, hg.kept⟩

set_option maxHeartbeats 4000000 in
set_option maxRecDepth 1000000 in
theorem forget_any (p : Nat) (S : Nat → Prop) (H : HubL) (c : Int) (w : World) (h : HubAt w p S H) : Calls Tryz.prog 76 #[.pointer (some ⟨p, 0, none⟩), .int .i64 c] w (HubPost w p S (.int .i64 (forgetH H c).1) (forgetH H c).2) := by
  obtain ⟨i0, hi, hz0, hz1, hz2⟩ := info_parts info_sub
  have HH := hide h
  cases hc : cliB c with
  | false =>
    have HR : Hid (forgetH H c = (4, H)) := by unfold Hid forgetH; rw [if_neg (by simp [hc])]
    rw [unhide HR]
    clear h
    go_enter Tryz.func76, Tryz.ntmps76
    go_wp2_with fail
    refine (isClient_any _ _).mono ?_
    rw [hc]
    rintro e w' ⟨rfl, rfl⟩
    go_wp2_with fail
    go_ret
    exact HubPost.stay (unhide HH)
  | true =>
    obtain ⟨n, rfl, hn⟩ := cliB_nat hc
    obtain ⟨z0, z1⟩ := h.cells hn
    cases hkn : H.known n with
    | false =>
      have HR : Hid (forgetH H n = (6, H)) := by unfold Hid forgetH; rw [if_pos hc, if_neg (by simp [hkn])]
      rw [unhide HR]
      rw [hkn] at z1
      clear h
      go_enter Tryz.func76, Tryz.ntmps76
      go_wp2_with fail
      refine (isClient_any _ _).mono ?_
      rw [hc]
      rintro e w' ⟨rfl, rfl⟩
      go_wp2_with fail
      go_ret
      exact HubPost.stay (unhide HH)
    | true =>
      have HR : Hid (forgetH H n = (0, { clearH H n with subs := lessS H.subs n })) := by unfold Hid forgetH; rw [if_pos hc, if_pos (by simpa using hkn)]; simp
      rw [unhide HR]
      rw [hkn] at z1
      obtain ⟨A, qv, sv, kv, hw, rfl⟩ := h.body
      obtain ⟨asv, ls, cs, hsv⟩ := own_slice hw.sown
      subst hsv
      have hls : ls = H.subs.length := own_len hw.sown
      subst hls
      have f0 := free_block (i := n * 3) hw.blk
      have hw1 := hw.setOn hn false
      have y1 := cell_block hw1.blk (hw1.cli n hn).2.1
      have f1 := free_block (i := n * 3 + 1) hw1.blk
      have hw2 := hw1.setKnown hn false
      have y2 := cell_block hw2.blk (hw2.cli n hn).2.2
      have f2 := free_block (i := n * 3 + 2) hw2.blk
      obtain ⟨hw3, hf3⟩ := hub_setQw (Q := []) hw2 (w2 := (w.setCell ⟨p, n * 3, none⟩ (.bool false)).setCell ⟨p, n * 3 + 1, none⟩ (.bool false)) hn (v' := .slice none 0 0) rfl rfl rfl (Nat.le_refl _) (fun _ _ _ => rfl) (World.ownsRow_nil _ _ _ _) (fun k hk => by cases hk)
      have HFR := hide (((fr_cell (w := w) (p := p) (i := n * 3) (qv := qv) (sv := .slice asv H.subs.length cs) (kv := kv) (.bool false)).trans (fr_cell (i := n * 3 + 1) (.bool false))).trans hf3)
      obtain ⟨w3, hw3e⟩ : ∃ w3, w3 = (((w.setCell ⟨p, n * 3, none⟩ (.bool false)).setCell ⟨p, n * 3 + 1, none⟩ (.bool false)).setCell ⟨p, n * 3 + 2, none⟩ (.slice none 0 0)) := ⟨_, rfl⟩
      rw [← hw3e] at hw3 HFR
      have hH3 : HubAt w3 p _ (clearH H n) := ⟨⟨_, _, _, _, hw3, rfl⟩, clear_good h.good n⟩
      obtain ⟨a, cc, c0, hp, hl8, hat⟩ := hH3.subsAt
      have hse : (clearH H n).subs = H.subs := rfl
      rw [hse] at c0 hl8
      have HAT : Hid (SubsRow w3 a cc H.subs) := hat
      have HEND : Hid (∀ (wr : World) (v' : Value), wr.ownsRow w3.heap.size 129 4 v' (lessS H.subs n).length (subCells (lessS H.subs n)) → Below w3.heap.size w3 wr → (wr.cell? ⟨p, 18, none⟩ = some (.slice asv H.subs.length cs) ∧ wr.frozen? ⟨p, 18, none⟩ = false) ∧
          ∃ S', HubAt (wr.setCell ⟨p, 18, none⟩ v') p S' { clearH H n with subs := lessS H.subs n } ∧ Fr (blkS p qv (.slice asv H.subs.length cs) kv) w (wr.setCell ⟨p, 18, none⟩ v') S') := by
        intro wr v' ho hb
        have hp3 : wr.heap[p]? = _ := (hb.block p hw3.lt).trans hw3.blk
        have hgd := subs_good (clear_good h.good n) (lessS H.subs n) (Nat.le_trans (List.length_filter_le _ _) h.good.subs.1) (fun s hs => (List.mem_filter.1 hs).1)
        obtain ⟨S', t1, t2⟩ := hub_setS hw3 hb.os hb.tape hb.output hb.size (fun k hk _ => hb.block k hk) (own_mono ho (Nat.zero_le _)) (fun k hk => Or.inr (ho.lt k hk).1) hgd
        exact ⟨⟨cell_block hp3 hw3.subc, free_block hp3⟩, S', t1, (unhide HFR).trans t2⟩
      obtain ⟨F, hF⟩ : ∃ F : Nat → List SubL, F = fun k => lessS (H.subs.take k) n := ⟨_, rfl⟩
      have HF0 : Hid (F 0 = []) := by subst hF; rfl
      have HFL : Hid (∀ k, (F k).length ≤ 8) := fun k => by subst hF; exact Nat.le_trans (List.length_filter_le _ _) (by rw [List.length_take]; omega)
      have HFE : Hid (F H.subs.length = lessS H.subs n) := by subst hF; unfold Hid; simp
      have HFS0 : Hid (∀ k (hk : k < H.subs.length), F (k + 1) = if H.subs[k].who = n then F k else F k ++ [H.subs[k]]) := fun k hk => by
        subst hF
        simp only [lessS]
        rw [List.take_succ_eq_append_getElem hk, List.filter_append]
        by_cases hx : H.subs[k].who = n <;> simp [hx]
      clear hF h hw hw1 hw2 hw3 hf3 hH3 hat HH hse HR
      have y1' : (w.setCell ⟨p, n * 3, none⟩ (.bool false)).cell? ⟨p, n * 3 + 1, none⟩ = some (.bool (H.known n)) := y1
      clear y1
      obtain ⟨L, hL⟩ : ∃ L, L = H.subs := ⟨_, rfl⟩
      rw [← hL] at HFR c0 hl8 HAT HEND HFE HFS0 ⊢
      clear hL
      go_enter Tryz.func76, Tryz.ntmps76
      go_upto_region 6 with (go_at_call 97; refine (isClient_any _ _).mono ?_; rw [hc]; rintro e w' ⟨rfl, rfl⟩)
      rw [← hw3e]
      clear hw3e y1' y2 f0 f1 f2 z0 z1
      have HR0 : Hid (w3.ownsRow w3.heap.size 129 4 (.slice none 0 0) (F 0).length (subCells (F 0))) := by unfold Hid; rw [unhide HF0]; exact World.ownsRow_nil _ _ _ _
      go_wp2_with fail
      go_loopg [5, 7, 30] L.length (fun gk av _ i wr => ∃ k : Nat, k ≤ L.length ∧ gk = L.length - k ∧ i = .int .i64 k ∧ Hid (wr.ownsRow w3.heap.size 129 4 av (F k).length (subCells (F k))) ∧ Hid (Below w3.heap.size w3 wr))
      case atStart => exact ⟨0, by omega, by omega, rfl, HR0, Below.refl _ _⟩
      case round =>
        clear HR0 c0
        obtain ⟨k, hk, rfl, rfl, HROW, HB⟩ := hrel
        have hbs := (unhide HB).size
        obtain ⟨av, lv, cv, rfl⟩ := own_slice (unhide HROW)
        by_cases hlt : k < L.length
        · obtain ⟨b, rfl, hc1, hc2, hw6, hf24, hcs⟩ := unhide HAT k hlt
          obtain ⟨e1, e2, e3, e4⟩ := hcs wr (unhide HB)
          clear hcs hw6 hf24
          have hfl := unhide HFL k
          have HFS := hide (unhide HFS0 k hlt)
          have HS1 : Hid (strV L[k].grp = .string ⟨L[k].grp.toArray⟩ ∧ strV L[k].fil = .string ⟨L[k].fil.toArray⟩) := ⟨rfl, rfl⟩
          generalize L[k] = x at *
          generalize (⟨x.grp.toArray⟩ : ByteArray) = gs at *
          generalize (⟨x.fil.toArray⟩ : ByteArray) = fs at *
          have HOW := hide ((unhide HROW).alloc (.cells #[.int .i64 (x.who : Int), .string gs, .string fs, .bool x.had] 129))
          have HBR := hide ((unhide HB).alloc hbs (.cells #[.int .i64 (x.who : Int), .string gs, .string fs, .bool x.had] 129))
          by_cases hq : x.who = n
          · rw [if_pos hq] at HFS
            have q1 : ((x.who : Int) != (n : Int)) = false := by rw [hq]; simp
            clear hq
            go_wp2_with fail
            go_roundg (L.length - (k + 1))
            case measure => omega
            case rel => exact ⟨k + 1, by omega, rfl, by go_num, by rw [unhide HFS]; exact HOW, HBR⟩
          · rw [if_neg hq] at HFS
            have q1 : ((x.who : Int) != (n : Int)) = true := by simp; omega
            clear hq
            go_wp2_with (at_builtin; refine wpList_append_own _ rfl _ _ 71 rfl w3.heap.size 129 i0 (.agg #[.int .i64 0, .string ByteArray.empty, .string ByteArray.empty, .bool false]) 4 48 Tryz.underlying71 hi hz0 hz1 hz2 rfl (by decide) _ _ _ rfl ((unhide HOW).alloc _) ⟨wr.heap.size + 1, 0, none⟩ 1 1 [.int .i64 (x.who : Int), .string gs, .string fs, .bool x.had] rfl rfl ?c1 ?c2 ?c3 ?c4 ?c5 ?_)
            first
              | (case c1 =>
                  intro j u hj
                  match j, hj with
                  | 0, hj => simp at hj; subst hj; simp [Addr.add]
                  | 1, hj => simp at hj; subst hj; simp [Addr.add]
                  | 2, hj => simp at hj; subst hj; simp [Addr.add]
                  | 3, hj => simp at hj; subst hj; simp [Addr.add])
              | skip
            case c2 => intro u hu; simp at hu; rcases hu with rfl | rfl | rfl | rfl <;> rfl
            case c3 => unfold maxLen; omega
            case c4 => omega
            case c5 => first | omega | (simp; omega)
            intro v' w9 hown' hgrow _
            have HO3 : Hid (w9.ownsRow w3.heap.size 129 4 v' (F (k + 1)).length (subCells (F (k + 1)))) := by
              unfold Hid
              rw [unhide HFS, List.length_append, subCells_snoc, (unhide HS1).1, (unhide HS1).2]
              exact hown'
            have HB3 : Hid (Below w3.heap.size w3 w9) := ((unhide HBR).alloc (by simp; omega) _).grown hgrow (by simp; omega) (fun k hk => ((unhide HOW).lt k hk).1)
            clear hown' hgrow HOW HBR
            go_wp2_with fail
            go_roundg (L.length - (k + 1))
            case measure => omega
            case rel => exact ⟨k + 1, by omega, rfl, by go_num, HO3, HB3⟩
        · have hke : k = L.length := by omega
          subst hke
          rw [unhide HFE] at HROW
          obtain ⟨⟨z1, f1⟩, hst⟩ := unhide HEND wr _ (unhide HROW) (unhide HB)
          have HST := hide hst
          clear hst
          go_wp2_with fail
          go_ret
          obtain ⟨S', t1, t2⟩ := unhide HST
          exact ⟨rfl, S', t1, t2⟩

/-- where the subscription stood, it stands no more -/
def unsubH (H : HubL) (c : Int) (s : List UInt8) : (Int × Int) × HubL :=
  if (checkS H c s).1 ≠ 0 then (checkS H c s, H) else if seekN H c.toNat s = H.subs.length then ((6, 0), H) else ((0, 0), { H with subs := H.subs.eraseIdx (seekN H c.toNat s) })
theorem keepS_step (L : List SubL) (i k : Nat) (h : k < L.length) : (L.take (k + 1)).eraseIdx i = if k = i then (L.take k).eraseIdx i else (L.take k).eraseIdx i ++ [L[k]] := by
  rw [List.take_succ_eq_append_getElem h]
  by_cases hk : k = i
  · subst hk
    rw [if_pos rfl, List.eraseIdx_append_of_length_le (by simp; omega), List.eraseIdx_of_length_le (l := L.take k) (by simp; omega)]
    simp
    omega
  · rw [if_neg hk]
    by_cases hlt : i < k
    · rw [List.eraseIdx_append_of_lt_length (by simp; omega)]
    · rw [List.eraseIdx_of_length_le (by simp; omega), List.eraseIdx_of_length_le (by simp; omega)]
theorem seekS_le (p : SubL → Bool) (L : List SubL) : ∀ i, seekS p i L ≤ i + L.length := by
  induction L with
  | nil => intro i; simp [seekS]
  | cons s L ih =>
    intro i
    simp only [seekS]
    split
    · simp
    · have := ih (i + 1); simp; omega

set_option maxHeartbeats 4000000 in
set_option maxRecDepth 1000000 in
theorem unsub_any (p : Nat) (S : Nat → Prop) (H : HubL) (c : Int) (s : ByteArray) (hs : s.size ≤ maxLen) (w : World) (h : HubAt w p S H) :
    Calls Tryz.prog 35 #[.pointer (some ⟨p, 0, none⟩), .int .i64 c, .string s] w (HubPost w p S (pairV (unsubH H c s.data.toList).1) (unsubH H c s.data.toList).2) := by
  obtain ⟨i0, hi, hz0, hz1, hz2⟩ := info_parts info_sub
  have HH := hide h
  have HCK := hide (checkSub_any p S H c s hs w h)
  by_cases hk0 : (checkS H c s.data.toList).1 = 0
  · obtain ⟨n, rfl, hn, hs24, hf0, hon⟩ := checkS_zero hk0
    have hb0 : ((checkS H n s.data.toList).1 != 0) = false := by simp [hk0]
    rw [len_list] at hs24
    have HR0 : Hid (unsubH H n s.data.toList = if seekN H n s.data.toList = H.subs.length then ((6, 0), H) else ((0, 0), { H with subs := H.subs.eraseIdx (seekN H n s.data.toList) })) := by
      unfold Hid unsubH; rw [if_neg (by simp [hk0]), Int.toNat_natCast]
    generalize checkS H n s.data.toList = ck at *
    have HFS := hide (fun (g f : ByteArray) (x : World) (hb : Below w.heap.size w x) => findSub_any p S H n g f x (h.below hb))
    have HSK : Hid (∀ g f : ByteArray, g.data.toList = (partS s.data.toList).1 → f.data.toList = (partS s.data.toList).2 → seekS (sameS n g.data.toList f.data.toList) 0 H.subs = seekN H n s.data.toList) := fun g f hg hf => by rw [hg, hf]; rfl
    have hsl : seekN H n s.data.toList ≤ H.subs.length := by have := seekS_le (sameS n (partS s.data.toList).1 (partS s.data.toList).2) H.subs 0; unfold seekN; omega
    obtain ⟨a, cc, c0, hp, hl8, hat⟩ := h.subsAt
    have HAT0 : Hid (SubsRow w a cc H.subs) := hat
    clear hat hk0
    by_cases hse : seekN H n s.data.toList = H.subs.length
    · have HR : Hid (unsubH H n s.data.toList = ((6, 0), H)) := (unhide HR0).trans (if_pos hse)
      rw [unhide HR]
      rw [hse] at HSK
      clear h HR HR0 hse hsl
      go_enter Tryz.func35, Tryz.ntmps35
      go_wp2_with fail
      refine (unhide HCK).mono ?_
      rintro e w1 ⟨rfl, n1, rfl⟩
      go_wp2_with fail
      refine (split_any' s _ hs24).mono ?_
      rintro e w2 ⟨g, f, rfl, hg, hf, n2, rfl⟩
      have HF2 := hide (unhide HFS g f (w.drewN (n1 + n2)) ⟨rfl, rfl, rfl, Nat.le_refl _, fun _ _ => rfl⟩)
      rw [unhide HSK g f hg hf] at HF2
      go_wp2_with fail
      refine (unhide HF2).mono ?_
      rintro e w3 ⟨rfl, hb3⟩
      have hb : Below w.heap.size w w3 := ⟨hb3.os, hb3.tape, hb3.output, hb3.size, hb3.block⟩
      have c2 : w3.cell? ⟨p, 18, none⟩ = some (.slice a H.subs.length cc) := (hb.cell (p := ⟨p, 18, none⟩) hp).trans c0
      clear hb3 c0
      go_wp2_with fail
      go_ret2
      exact HubPost.same (unhide HH) hb
    · have HR : Hid (unsubH H n s.data.toList = ((0, 0), { H with subs := H.subs.eraseIdx (seekN H n s.data.toList) })) := (unhide HR0).trans (if_neg hse)
      rw [unhide HR]
      have hseI : (((seekN H n s.data.toList : Nat) : Int) == (H.subs.length : Int)) = false := by simp; omega
      have HGD := hide (subs_good h.good (H.subs.eraseIdx (seekN H n s.data.toList)) (Nat.le_trans (List.length_eraseIdx_le _ _) hl8) (fun x hx => List.mem_of_mem_eraseIdx hx))
      obtain ⟨F, hF⟩ : ∃ F : Nat → List SubL, F = fun k => (H.subs.take k).eraseIdx (seekN H n s.data.toList) := ⟨_, rfl⟩
      have HF0 : Hid (F 0 = []) := by subst hF; rfl
      have HFL : Hid (∀ k, (F k).length ≤ 8) := fun k => by subst hF; exact Nat.le_trans (List.length_eraseIdx_le _ _) (by rw [List.length_take]; omega)
      have HFE : Hid (F H.subs.length = H.subs.eraseIdx (seekN H n s.data.toList)) := by subst hF; unfold Hid; simp
      have HFS0 : Hid (∀ k (hk : k < H.subs.length), F (k + 1) = if k = seekN H n s.data.toList then F k else F k ++ [H.subs[k]]) := fun k hk => by subst hF; exact keepS_step H.subs _ k hk
      clear hF h HR HR0 hse
      generalize seekN H n s.data.toList = sk at *
      go_enter Tryz.func35, Tryz.ntmps35
      go_wp2_with fail
      refine (unhide HCK).mono ?_
      rintro e w1 ⟨rfl, n1, rfl⟩
      go_wp2_with fail
      refine (split_any' s _ hs24).mono ?_
      rintro e w2 ⟨g, f, rfl, hg, hf, n2, rfl⟩
      have HF2 := hide (unhide HFS g f (w.drewN (n1 + n2)) ⟨rfl, rfl, rfl, Nat.le_refl _, fun _ _ => rfl⟩)
      rw [unhide HSK g f hg hf] at HF2
      go_wp2_with fail
      refine (unhide HF2).mono ?_
      rintro e w3 ⟨rfl, hb3⟩
      have hb : Below w.heap.size w w3 := ⟨hb3.os, hb3.tape, hb3.output, hb3.size, hb3.block⟩
      have c2 : w3.cell? ⟨p, 18, none⟩ = some (.slice a H.subs.length cc) := (hb.cell (p := ⟨p, 18, none⟩) hp).trans c0
      have hp3 : p < w3.heap.size := Nat.lt_of_lt_of_le hp hb.size
      have HAT : Hid (SubsRow w3 a cc H.subs) := fun k hk => by
        obtain ⟨b, x1, x2, x3, x4, x5, x6⟩ := unhide HAT0 k hk
        exact ⟨b, x1, x2, x3, x4, x5, fun w' hb' => x6 w' (hb.trans (hb'.mono hb.size))⟩
      have HEND : Hid (∀ (wr : World) (v' : Value), wr.ownsRow w3.heap.size 129 4 v' (H.subs.eraseIdx sk).length (subCells (H.subs.eraseIdx sk)) → Below w3.heap.size w3 wr → (∃ u, wr.cell? ⟨p, 18, none⟩ = some u ∧ wr.frozen? ⟨p, 18, none⟩ = false) ∧
          ∃ S', HubAt (wr.setCell ⟨p, 18, none⟩ v') p S' { H with subs := H.subs.eraseIdx sk } ∧ Fr S w (wr.setCell ⟨p, 18, none⟩ v') S') := by
        intro wr v' ho hbr
        have hH3 := (unhide HH).below hb
        obtain ⟨A, qv, sv, kv, hw, hSS⟩ := hH3.body
        have hp4 : wr.heap[p]? = _ := (hbr.block p hw.lt).trans hw.blk
        obtain ⟨S', t1, t2⟩ := hub_setS hw hbr.os hbr.tape hbr.output hbr.size (fun k hk _ => hbr.block k hk) (own_mono ho (Nat.zero_le _)) (fun k hk => Or.inr (ho.lt k hk).1) (unhide HGD)
        refine ⟨⟨_, cell_block hp4 hw.subc, free_block hp4⟩, S', t1, ?_⟩
        have hx := Fr.of_below (S := S) hb
        rw [hSS] at hx ⊢
        exact hx.trans t2
      have HR0 : Hid (w3.ownsRow w3.heap.size 129 4 (.slice none 0 0) (F 0).length (subCells (F 0))) := by unfold Hid; rw [unhide HF0]; exact World.ownsRow_nil _ _ _ _
      clear hb3 hb c0 HH HFS HSK HF2 HAT0 HCK HGD
      obtain ⟨L, hL⟩ : ∃ L, L = H.subs := ⟨_, rfl⟩
      rw [← hL] at c2 hl8 hsl hseI HAT HEND HFE HFS0 ⊢
      have HLL := hide hL
      clear hL
      go_wp2_with fail
      go_loopg [13, 14, 15, 49] L.length (fun gk av _ _ i wr => ∃ k : Nat, k ≤ L.length ∧ gk = L.length - k ∧ i = .int .i64 k ∧ Hid (wr.ownsRow w3.heap.size 129 4 av (F k).length (subCells (F k))) ∧ Hid (Below w3.heap.size w3 wr))
      case atStart => exact ⟨0, by omega, by omega, rfl, HR0, Below.refl _ _⟩
      case round =>
        clear HR0 c2
        obtain ⟨k, hk, rfl, rfl, HROW, HB⟩ := hrel
        have hbs := (unhide HB).size
        obtain ⟨av, lv, cv, rfl⟩ := own_slice (unhide HROW)
        by_cases hlt : k < L.length
        · obtain ⟨b, rfl, hc1, hc2, hw6, hf24, hcs⟩ := unhide HAT k hlt
          obtain ⟨e1, e2, e3, e4⟩ := hcs wr (unhide HB)
          clear hcs hw6 hf24
          have hfl := unhide HFL k
          have HFS := hide (unhide HFS0 k hlt)
          have HS1 : Hid (strV L[k].grp = .string ⟨L[k].grp.toArray⟩ ∧ strV L[k].fil = .string ⟨L[k].fil.toArray⟩) := ⟨rfl, rfl⟩
          generalize L[k] = x at *
          generalize (⟨x.grp.toArray⟩ : ByteArray) = gs at *
          generalize (⟨x.fil.toArray⟩ : ByteArray) = fs at *
          have HOW := hide ((unhide HROW).alloc (.cells #[.int .i64 (x.who : Int), .string gs, .string fs, .bool x.had] 129))
          have HBR := hide ((unhide HB).alloc hbs (.cells #[.int .i64 (x.who : Int), .string gs, .string fs, .bool x.had] 129))
          by_cases hq : k = sk
          · rw [if_pos hq] at HFS
            have q1 : ((k : Int) != (sk : Int)) = false := by rw [hq]; simp
            clear hq
            go_wp2_with fail
            go_roundg (L.length - (k + 1))
            case measure => omega
            case rel => exact ⟨k + 1, by omega, rfl, by go_num, by rw [unhide HFS]; exact HOW, HBR⟩
          · rw [if_neg hq] at HFS
            have q1 : ((k : Int) != (sk : Int)) = true := by simp; omega
            clear hq
            go_wp2_with (at_builtin; refine wpList_append_own _ rfl _ _ 71 rfl w3.heap.size 129 i0 (.agg #[.int .i64 0, .string ByteArray.empty, .string ByteArray.empty, .bool false]) 4 48 Tryz.underlying71 hi hz0 hz1 hz2 rfl (by decide) _ _ _ rfl ((unhide HOW).alloc _) ⟨wr.heap.size + 1, 0, none⟩ 1 1 [.int .i64 (x.who : Int), .string gs, .string fs, .bool x.had] rfl rfl ?c1 ?c2 ?c3 ?c4 ?c5 ?_)
            first
              | (case c1 =>
                  intro j u hj
                  match j, hj with
                  | 0, hj => simp at hj; subst hj; simp [Addr.add]
                  | 1, hj => simp at hj; subst hj; simp [Addr.add]
                  | 2, hj => simp at hj; subst hj; simp [Addr.add]
                  | 3, hj => simp at hj; subst hj; simp [Addr.add])
              | skip
            case c2 => intro u hu; simp at hu; rcases hu with rfl | rfl | rfl | rfl <;> rfl
            case c3 => unfold maxLen; omega
            case c4 => omega
            case c5 => first | omega | (simp; omega)
            intro v' w9 hown' hgrow _
            have HO3 : Hid (w9.ownsRow w3.heap.size 129 4 v' (F (k + 1)).length (subCells (F (k + 1)))) := by
              unfold Hid
              rw [unhide HFS, List.length_append, subCells_snoc, (unhide HS1).1, (unhide HS1).2]
              exact hown'
            have HB3 : Hid (Below w3.heap.size w3 w9) := ((unhide HBR).alloc (by simp; omega) _).grown hgrow (by simp; omega) (fun k hk => ((unhide HOW).lt k hk).1)
            clear hown' hgrow HOW HBR
            go_wp2_with fail
            go_roundg (L.length - (k + 1))
            case measure => omega
            case rel => exact ⟨k + 1, by omega, rfl, by go_num, HO3, HB3⟩
        · have hke : k = L.length := by omega
          subst hke
          rw [unhide HFE] at HROW
          obtain ⟨⟨u, z1, f1⟩, hst⟩ := unhide HEND wr _ (unhide HROW) (unhide HB)
          have HST := hide hst
          clear hst
          go_wp2_with fail
          go_ret2
          obtain ⟨S', t1, t2⟩ := unhide HST
          rw [unhide HLL] at t1
          exact ⟨rfl, S', t1, t2⟩
  · have hb0 : ((checkS H c s.data.toList).1 != 0) = true := by simp [hk0]
    have HR : Hid (unsubH H c s.data.toList = (checkS H c s.data.toList, H)) := by unfold Hid unsubH; rw [if_pos hk0]
    rw [unhide HR]
    clear h HR hk0
    generalize checkS H c s.data.toList = ck at *
    go_enter Tryz.func35, Tryz.ntmps35
    go_wp2_with fail
    refine (unhide HCK).mono ?_
    rintro e w1 ⟨rfl, n1, rfl⟩
    go_wp2_with fail
    go_ret2
    exact HubPost.same (unhide HH) ⟨rfl, rfl, rfl, Nat.le_refl _, fun _ _ => rfl⟩

theorem sit_leave {w0 wr : World} {p : Nat} {H : HubL} (h : Sit w0 wr p H) (c : Int) : Calls Tryz.prog 74 #[.pointer (some ⟨p, 0, none⟩), .int .i64 c] wr fun e w' => e = .returned (.int .i64 (leaveH H c).1) ∧ Sit w0 w' p (leaveH H c).2 := by
  obtain ⟨S, h1, h2, h3⟩ := h
  exact (leave_any p S H c wr h1).mono fun e w' ⟨he, S', x1, x2⟩ => ⟨he, sit_next h2 h3 x1 x2⟩
theorem sit_forget {w0 wr : World} {p : Nat} {H : HubL} (h : Sit w0 wr p H) (c : Int) : Calls Tryz.prog 76 #[.pointer (some ⟨p, 0, none⟩), .int .i64 c] wr fun e w' => e = .returned (.int .i64 (forgetH H c).1) ∧ Sit w0 w' p (forgetH H c).2 := by
  obtain ⟨S, h1, h2, h3⟩ := h
  exact (forget_any p S H c wr h1).mono fun e w' ⟨he, S', x1, x2⟩ => ⟨he, sit_next h2 h3 x1 x2⟩
theorem sit_unsub {w0 wr : World} {p : Nat} {H : HubL} (h : Sit w0 wr p H) (c : Int) (s : ByteArray) (hs : s.size ≤ maxLen) : Calls Tryz.prog 35 #[.pointer (some ⟨p, 0, none⟩), .int .i64 c, .string s] wr fun e w' => e = .returned (pairV (unsubH H c s.data.toList).1) ∧ Sit w0 w' p (unsubH H c s.data.toList).2 := by
  obtain ⟨S, h1, h2, h3⟩ := h
  exact (unsub_any p S H c s hs wr h1).mono fun e w' ⟨he, S', x1, x2⟩ => ⟨he, sit_next h2 h3 x1 x2⟩

end Go.Proofs.YtchhmojnoiephabGreatDoor
