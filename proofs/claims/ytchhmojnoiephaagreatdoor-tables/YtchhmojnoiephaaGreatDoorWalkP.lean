import Derived.Test.YtchhmojnoiephaaGreatDoorWalkO
namespace Go.Proofs.YtchhmojnoiephaaGreatDoor
open Go.ChangeShapes Go.WideShapes Go.ChangeAt Go.RowKit
set_option linter.unusedVariables false

theorem info_pair : (Tryz.prog.info? 88).map (fun i => (i.zero, i.size, i.bytes)) = some (some (.agg #[.string ByteArray.empty, .int .i64 0]), 2, 24) := by kernel_rfl

/-- the table's list is another one now -/
theorem tab_store {w w2 : World} {p : Nat} {S : Nat → Prop} {L L' : List PairL} {v' : Value} (h : TabAt w p S L) (hos : w2.os = w.os) (htp : w2.tape = w.tape) (hou : w2.output = w.output) (hsz : w.heap.size ≤ w2.heap.size)
    (hkeep : ∀ k, k < w.heap.size → (¬ S k ∨ k = p) → w2.heap[k]? = w.heap[k]?) (hown : w2.ownsRow 0 88 2 v' L'.length (edgeCells L')) (hmv : ∀ k, v'.ownBlock = some k → S k ∨ w.heap.size ≤ k) (hL : goodL L') :
    TabAt (w2.setCell ⟨p, 0, none⟩ v') p (fun k => S k ∨ v'.ownBlock = some k) L' ∧ Fr S w (w2.setCell ⟨p, 0, none⟩ v') (fun k => S k ∨ v'.ownBlock = some k) := by
  obtain ⟨v, h1, h2, h3⟩ := h.body
  have hp := heap_lt h1
  have hp2 : w2.heap[p]? = some (.cells #[v] 70 (0, 0)) := by rw [hkeep p hp (Or.inr rfl)]; exact h1
  have hne := own_not hown hp2 (by decide)
  refine ⟨⟨⟨v', ?_, own_same hown (fun k hk => Below.heap_setCell _ _ _ _ (fun e => hne (by rw [hk, e]))), fun k hk => Or.inr hk⟩, Or.inl h.self, fun k hk => ?_, hL⟩, ⟨?_, ?_, ?_, ?_, fun k hk hn => ?_, fun k hk => ?_⟩⟩
  · rw [heap_setCell_same w2 p 0 _ _ v' hp2]; rfl
  · rcases hk with hk | hk
    · have := h.lt k hk; simp; omega
    · simpa using (hown.lt k hk).2
  · exact hos
  · exact htp
  · exact hou
  · simpa using hsz
  · rw [Below.heap_setCell _ _ _ _ (fun e => hn (by rw [e]; exact h.self))]
    exact hkeep k hk (Or.inl hn)
  · rcases hk with hk | hk
    · exact Or.inl hk
    · exact hmv k hk

/-- what Add and Drop answer: two numbers; the table is another one -/
def TabPost (w : World) (p : Nat) (S : Nat → Prop) (r : (Int × Int) × List PairL) (e : Ending) (w' : World) : Prop :=
  e = .returned (.tuple #[.int .i64 r.1.1, .int .i64 r.1.2]) ∧ ∃ S', TabAt w' p S' r.2 ∧ Fr S w w' S'

theorem TabPost.same {w w' : World} {p : Nat} {S : Nat → Prop} {L : List PairL} {r : (Int × Int) × List PairL} {a b : Int} (h : TabAt w p S L) (hb : Below w.heap.size w w') (hr : r = ((a, b), L)) : TabPost w p S r (.returned (.tuple #[.int .i64 a, .int .i64 b])) w' := by
  subst hr; exact ⟨rfl, S, h.below hb, Fr.of_below hb⟩

set_option maxHeartbeats 2000000 in
set_option maxRecDepth 1000000 in
theorem refAdd_any (p : Nat) (S : Nat → Prop) (L : List PairL) (f : ByteArray) (who : Int) (w : World) (h : TabAt w p S L) (hf : f.size ≤ maxLen) :
    Calls Tryz.prog 15 #[.pointer (some ⟨p, 0, none⟩), .string f, .int .i64 who] w (TabPost w p S (addR L f.data.toList who)) := by
  obtain ⟨i0, hi, hz0, hz1, hz2⟩ := info_parts info_pair
  have HT := hide h
  have hl := h.good.1
  by_cases ha : (askR f.data.toList who).1 = 0
  · have hab : ((askR f.data.toList who).1 != 0) = false := by simp [ha]
    by_cases hm : (f.data.toList, who) ∈ L
    · obtain ⟨k, hk, hat, _, _⟩ := atFrom_some _ L 0 hm
      have HR := hide (addR_2 ha hm)
      have hk0 : (0 : Int) ≤ atFrom (f.data.toList, who) 0 L := by rw [hat]; omega
      have hat2 := at_any p S L f who
      generalize atFrom (f.data.toList, who) 0 L = q at *
      have HAT := hide hat2
      clear ha hm h hat hat2
      go_enter Tryz.func15, Tryz.ntmps15
      go_wp2_with fail
      refine (asked_any f who _ hf).mono ?_
      rintro e w1 ⟨rfl, rfl⟩
      go_wp2_with fail
      refine (unhide HAT _ (unhide HT)).mono ?_
      rintro e w2 ⟨rfl, hb⟩
      go_wp2_with fail
      go_ret2
      exact TabPost.same (unhide HT) hb (unhide HR)
    · have hat := atFrom_none _ L 0 hm
      have hat2 := at_any p S L f who
      rw [hat] at hat2
      have HAT := hide hat2
      clear hat hat2
      by_cases h6 : 6 ≤ L.length
      · have HR := hide (addR_3 ha hm h6)
        clear ha hm h
        go_enter Tryz.func15, Tryz.ntmps15
        go_wp2_with fail
        refine (asked_any f who _ hf).mono ?_
        rintro e w1 ⟨rfl, rfl⟩
        go_wp2_with fail
        refine (unhide HAT _ (unhide HT)).mono ?_
        rintro e w2 ⟨rfl, hb⟩
        have hT2 := (unhide HT).below hb
        obtain ⟨v, h1, h2, h3⟩ := hT2.body
        obtain ⟨av, lv, cv, rfl⟩ := own_slice h2
        have hlv : lv = L.length := own_len h2
        subst hlv
        have c0 := cell_block (i := 0) h1 rfl
        clear hT2 h1 h2 h3
        go_wp2_with fail
        go_ret2
        exact TabPost.same (unhide HT) hb (unhide HR)
      · have HR := hide (addR_4 ha hm h6)
        have HGD := hide (addR_good L f.data.toList who h.good)
        rw [unhide HR] at HGD
        clear ha hm h
        go_enter Tryz.func15, Tryz.ntmps15
        go_wp2_with fail
        refine (asked_any f who _ hf).mono ?_
        rintro e w1 ⟨rfl, rfl⟩
        go_wp2_with fail
        refine (unhide HAT _ (unhide HT)).mono ?_
        rintro e w2 ⟨rfl, hb⟩
        have hT2 := (unhide HT).below hb
        obtain ⟨v, h1, h2, h3⟩ := hT2.body
        obtain ⟨av, lv, cv, rfl⟩ := own_slice h2
        have hlv : lv = L.length := own_len h2
        subst hlv
        have c0 := cell_block (i := 0) h1 rfl
        have f0 := free_block (i := 0) h1
        have hp := heap_lt h1
        have HT2 := hide hT2
        have H1 := hide h1
        have H2 := hide h2
        have H3 := hide h3
        have HB := hide hb
        clear hT2 h1 h2 h3 hb
        go_wp2_with (at_builtin; refine wpList_append_moves _ rfl _ _ 68 rfl 88 i0 (.agg #[.string ByteArray.empty, .int .i64 0]) 2 24 Tryz.underlying68 hi hz0 hz1 hz2 rfl (by decide) _ _ _ rfl ((unhide H2).alloc _) ⟨w2.heap.size, 0, none⟩ 1 1 [.string f, .int .i64 who] rfl rfl ?c1 ?c2 ?c3 ?c4 ?_)
        case c1 =>
          intro j u hj
          match j, hj with
          | 0, hj => simp at hj; subst hj; simp [Addr.add]
          | 1, hj => simp at hj; subst hj; simp [Addr.add]
        case c2 => intro u hu; simp at hu; rcases hu with rfl | rfl <;> rfl
        case c3 => unfold maxLen; omega
        case c4 => omega
        intro v' w3 hown' hgrow hmv
        have hst := tab_store (w2 := w3) (L' := L ++ [(f.data.toList, who)]) (unhide HT2) hgrow.os hgrow.tape hgrow.output (by have := hgrow.size; simp at this; omega)
          (fun k hk hkk => by
            rw [hgrow.block k (by simp; omega) (fun e => by
              rcases hkk with hkk | rfl
              · exact hkk (unhide H3 k e.symm)
              · exact own_not (unhide H2) (unhide H1) (by decide) e.symm), Below.heap_alloc _ _ _ hk])
          (by rw [edgeCells_snoc, List.length_append, show strV (f.data.toList, who).1 = Value.string f from by unfold strV; simp]; exact hown')
          (fun k hk => by rcases hmv k hk with h | h
                          · exact Or.inl (unhide H3 k h)
                          · exact Or.inr (by first | omega | (simp at h; omega)))
          (unhide HGD)
        obtain ⟨g', cap', rfl⟩ := own_form hown' (by omega)
        have c0' : w3.cell? ⟨p, 0, none⟩ = some (.slice av L.length cv) ∧ w3.frozen? ⟨p, 0, none⟩ = false := by
          have hpp : w3.heap[p]? = some (.cells #[.slice av L.length cv] 70 (0, 0)) := by
            rw [hgrow.block p (by simp; omega) (fun e => own_not (unhide H2) (unhide H1) (by decide) e.symm), Below.heap_alloc _ _ _ hp]; exact unhide H1
          exact ⟨cell_block (i := 0) hpp rfl, free_block (i := 0) hpp⟩
        obtain ⟨c1, f1⟩ := c0'
        have HST := hide hst
        clear hst hown' hgrow hmv c0 f0
        go_wp2_with fail
        go_ret2
        obtain ⟨t1, t2⟩ := unhide HST
        rw [unhide HR]
        exact ⟨rfl, _, t1, (Fr.of_below (unhide HB)).trans t2⟩
  · have hab : ((askR f.data.toList who).1 != 0) = true := by simp [ha]
    have HR := hide (addR_1 (L := L) ha)
    clear ha h
    go_enter Tryz.func15, Tryz.ntmps15
    go_wp2_with fail
    refine (asked_any f who _ hf).mono ?_
    rintro e w1 ⟨rfl, rfl⟩
    go_wp2_with fail
    go_ret2
    exact TabPost.same (unhide HT) (Below.refl _ _) (by rw [unhide HR])

set_option maxHeartbeats 2000000 in
set_option maxRecDepth 1000000 in
theorem refDrop_any (p : Nat) (S : Nat → Prop) (L : List PairL) (f : ByteArray) (who : Int) (w : World) (h : TabAt w p S L) (hf : f.size ≤ maxLen) :
    Calls Tryz.prog 18 #[.pointer (some ⟨p, 0, none⟩), .string f, .int .i64 who] w (TabPost w p S (dropR L f.data.toList who)) := by
  obtain ⟨i0, hi, hz0, hz1, hz2⟩ := info_parts info_pair
  have HT := hide h
  have hl := h.good.1
  by_cases ha : (askR f.data.toList who).1 = 0
  · have hab : ((askR f.data.toList who).1 != 0) = false := by simp [ha]
    by_cases hm : (f.data.toList, who) ∈ L
    · obtain ⟨n, hn, hat, _, her⟩ := atFrom_some _ L 0 hm
      rw [Nat.zero_add] at hat
      have HR := hide (dropR_3 ha hm)
      have HGD := hide (dropR_good L f.data.toList who h.good)
      rw [unhide HR] at HGD
      have HER := hide her
      have hat2 := at_any p S L f who
      rw [hat] at hat2
      have HAT := hide hat2
      clear ha hm h hat hat2 her
      go_enter Tryz.func18, Tryz.ntmps18
      go_wp2_with fail
      refine (asked_any f who _ hf).mono ?_
      rintro e w1 ⟨rfl, rfl⟩
      go_wp2_with fail
      refine (unhide HAT _ (unhide HT)).mono ?_
      rintro e w2 ⟨rfl, hb⟩
      have hT2 := (unhide HT).below hb
      obtain ⟨v, h1, h2, h3⟩ := hT2.body
      obtain ⟨g, cap, rfl⟩ := own_form h2 (by omega)
      have hcc := own_cap h2
      unfold maxLen at hcc
      obtain ⟨hcap, hcap2⟩ := hcc
      have hp := heap_lt h1
      have HT2 := hide hT2
      have H1 := hide h1
      have H2 := hide h2
      have H3 := hide h3
      have HB := hide hb
      clear hT2 h1 h2 h3 hb
      go_wp2_with fail
      go_loopg [11, 12] L.length (fun gk o kk wr => ∃ k : Nat, k ≤ L.length ∧ gk = L.length - k ∧ kk = .int .i64 k ∧ wr.ownsRow w2.heap.size 88 2 o (keepTo L n k).length (edgeCells (keepTo L n k)) ∧ Below w2.heap.size w2 wr)
      case atStart => exact ⟨0, by omega, by omega, rfl, World.ownsRow_nil _ _ _ _, Below.refl _ _⟩
      case round =>
        obtain ⟨k, hk, rfl, rfl, hown, hbr⟩ := hrel
        have hbs := hbr.size
        have hpr : wr.heap[p]? = some (.cells #[.slice (some ⟨g, 0, none⟩) L.length cap] 70 (0, 0)) := by rw [hbr.block p hp]; exact unhide H1
        have c0 := cell_block (i := 0) hpr rfl
        have f0 := free_block (i := 0) hpr
        have hkl := keepTo_len L n k
        by_cases hlt : k < L.length
        · obtain ⟨he1, he2⟩ := own_edge (own_below (unhide H2) hbr) hlt
          have hstr : strV L[k].1 = .string ⟨L[k].1.toArray⟩ := rfl
          by_cases hkn : k = n
          · have hbk : ((k : Int) != (n : Int)) = false := by simp [hkn]
            have HK : Hid (keepTo L n (k + 1) = keepTo L n k) := by unfold Hid; rw [hkn]; exact keepTo_hit L n hn
            have HOW := hide hown
            have HBR := hide hbr
            clear hown hbr hpr hstr hkn
            go_wp2_with fail
            go_roundg (L.length - (k + 1))
            case measure => omega
            case rel => exact ⟨k + 1, by omega, rfl, by go_num, by rw [unhide HK]; exact unhide HOW, unhide HBR⟩
          · have hbk : ((k : Int) != (n : Int)) = true := by simp; omega
            have HK := hide (keepTo_other L n k hlt hkn)
            have HOW := hide hown
            have HBR := hide hbr
            have HS := hide hstr
            clear hown hbr hpr hstr hkn
            generalize (⟨L[k].1.toArray⟩ : ByteArray) = es at *
            generalize hL2 : L[k].2 = eto at *
            have HL2 := hide hL2
            clear hL2
            go_wp2_with (at_builtin; refine wpList_append_own _ rfl _ _ 68 rfl w2.heap.size 88 i0 (.agg #[.string ByteArray.empty, .int .i64 0]) 2 24 Tryz.underlying68 hi hz0 hz1 hz2 rfl (by decide) _ _ _ rfl ((unhide HOW).alloc _) ⟨wr.heap.size, 0, none⟩ 1 1 [.string es, .int .i64 eto] rfl rfl ?c1 ?c2 ?c3 ?c4 ?c5 ?_)
            case c1 =>
              intro j u hj
              match j, hj with
              | 0, hj => simp at hj; subst hj; simp [Addr.add]
              | 1, hj => simp at hj; subst hj; simp [Addr.add]
            case c2 => intro u hu; simp at hu; rcases hu with rfl | rfl <;> rfl
            case c3 => unfold maxLen; omega
            case c4 => omega
            case c5 => simp; omega
            intro v' w3 hown' hgrow _
            have HO3 : Hid (w3.ownsRow w2.heap.size 88 2 v' (keepTo L n (k + 1)).length (edgeCells (keepTo L n (k + 1)))) := by
              unfold Hid
              rw [unhide HK, edgeCells_snoc, List.length_append, unhide HS, unhide HL2]; exact hown'
            have HB3 : Hid (Below w2.heap.size w2 w3) := ((unhide HBR).alloc hbs _).grown hgrow (by simp; omega) (fun k hk => ((unhide HOW).lt k hk).1)
            clear hown' hgrow HOW HBR HS HL2 c0 f0 he1 he2
            go_wp2_with fail
            go_roundg (L.length - (k + 1))
            case measure => omega
            case rel => exact ⟨k + 1, by omega, rfl, by go_num, unhide HO3, unhide HB3⟩
        · have hke : k = L.length := by omega
          have hst := tab_store (w2 := wr) (L' := L.erase (f.data.toList, who)) (unhide HT2) hbr.os hbr.tape hbr.output hbr.size (fun j hj _ => hbr.block j hj)
            (by rw [hke, keepTo_all, unhide HER] at hown; exact own_mono hown (Nat.zero_le _))
            (fun j hj => Or.inr (hown.lt j hj).1) (unhide HGD)
          obtain ⟨ao, lo, co, rfl⟩ := own_slice hown
          have HST := hide hst
          clear hst hown hbr hpr
          go_wp2_with fail
          go_ret2
          obtain ⟨t1, t2⟩ := unhide HST
          rw [unhide HR]
          exact ⟨rfl, _, t1, (Fr.of_below (unhide HB)).trans t2⟩
    · have hat := atFrom_none _ L 0 hm
      have hat2 := at_any p S L f who
      rw [hat] at hat2
      have HAT := hide hat2
      have HR := hide (dropR_2 ha hm)
      clear hat hat2 ha hm h
      go_enter Tryz.func18, Tryz.ntmps18
      go_wp2_with fail
      refine (asked_any f who _ hf).mono ?_
      rintro e w1 ⟨rfl, rfl⟩
      go_wp2_with fail
      refine (unhide HAT _ (unhide HT)).mono ?_
      rintro e w2 ⟨rfl, hb⟩
      go_wp2_with fail
      go_ret2
      exact TabPost.same (unhide HT) hb (unhide HR)
  · have hab : ((askR f.data.toList who).1 != 0) = true := by simp [ha]
    have HR := hide (dropR_1 (L := L) ha)
    clear ha h
    go_enter Tryz.func18, Tryz.ntmps18
    go_wp2_with fail
    refine (asked_any f who _ hf).mono ?_
    rintro e w1 ⟨rfl, rfl⟩
    go_wp2_with fail
    go_ret2
    exact TabPost.same (unhide HT) (Below.refl _ _) (by rw [unhide HR])

end Go.Proofs.YtchhmojnoiephaaGreatDoor
