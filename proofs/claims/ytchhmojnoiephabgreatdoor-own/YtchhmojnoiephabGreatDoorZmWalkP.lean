import Derived.Test.YtchhmojnoiephabGreatDoorWalkO
import Derived.Test.YtchhmojnoiephabGreatDoorWalkN
import Derived.Test.YtchhmojnoiephabGreatDoorPureC
namespace Go.Proofs.YtchhmojnoiephabGreatDoor
open Go.ChangeShapes Go.WideShapes Go.ChangeAt Go.RowKit
set_option linter.unusedVariables false

theorem info_pair : (Tryz.prog.info? 143).map (fun i => (i.zero, i.size, i.bytes)) = some (some (.agg #[.string ByteArray.empty, .int .i64 0]), 2, 24) := by kernel_rfl

/-- the table's list is another one now -/
theorem tab_store {w w2 : World} {p : Nat} {S : Nat → Prop} {L L' : List PairL} {v' : Value} (h : TabAt w p S L) (hos : w2.os = w.os) (htp : w2.tape = w.tape) (hou : w2.output = w.output) (hsz : w.heap.size ≤ w2.heap.size)
    (hkeep : ∀ k, k < w.heap.size → (¬ S k ∨ k = p) → w2.heap[k]? = w.heap[k]?) (hown : w2.ownsRow 0 143 2 v' L'.length (edgeCells L')) (hmv : ∀ k, v'.ownBlock = some k → S k ∨ w.heap.size ≤ k) (hL : goodL L') :
    TabAt (w2.setCell ⟨p, 0, none⟩ v') p (fun k => S k ∨ v'.ownBlock = some k) L' ∧ Fr S w (w2.setCell ⟨p, 0, none⟩ v') (fun k => S k ∨ v'.ownBlock = some k) := by
  obtain ⟨v, h1, h2, h3⟩ := h.body
  have hp := heap_lt h1
  have hp2 : w2.heap[p]? = some (.cells #[v] 66 (0, 0)) := by rw [hkeep p hp (Or.inr rfl)]; exact h1
  have hne := own_not hown hp2 (by decide)
  refine ⟨⟨⟨v', ?_, own_same hown (fun k hk => Below.heap_setCell _ _ _ _ (fun e => hne (by rw [hk, e]))), fun k hk => Or.inr hk⟩, Or.inl h.self, fun k hk => ?_, hL⟩, ⟨?_, ?_, ?_, ?_, fun k hk hn => ?_, fun k hk => ?_⟩⟩
  · rw [heap_setCell_same w2 p 0 _ _ v' hp2]; rfl
  · rcases hk with hk | hk
    · have := h.lt k hk; simp; omega
    · simpa using (hown.lt k hk).2
  · exact hos
  · exact htp
  · exact hou
  · simpa using hsz
  · rw [Below.heap_setCell _ _ _ _ (fun e => hn (by rw [e]; exact h.self))]
    exact hkeep k hk (Or.inl hn)
  · rcases hk with hk | hk
    · exact Or.inl hk
    · exact hmv k hk

/-- what Add and Drop answer: two numbers; the table is another one -/
def TabPost (w : World) (p : Nat) (S : Nat → Prop) (r : (Int × Int) × List PairL) (e : Ending) (w' : World) : Prop :=
  e = .returned (.tuple #[.int .i64 r.1.1, .int .i64 r.1.2]) ∧ ∃ S', TabAt w' p S' r.2 ∧ Fr S w w' S'

theorem TabPost.same {w w' : World} {p : Nat} {S : Nat → Prop} {L : List PairL} {r : (Int × Int) × List PairL} {a b : Int} (h : TabAt w p S L) (hb : Below w.heap.size w w') (hr : r = ((a, b), L)) : TabPost w p S r (.returned (.tuple #[.int .i64 a, .int .i64 b])) w' := by
  subst hr; exact ⟨rfl, S, h.below hb, Fr.of_below hb⟩

set_option maxHeartbeats 2000000 in
set_option maxRecDepth 1000000 in
theorem refAdd_any (p : Nat) (S : Nat → Prop) (L : List PairL) (f : ByteArray) (who : Int) (w : World) (h : TabAt w p S L) (hf : f.size ≤ maxLen) :
    Calls Tryz.prog 39 #[.pointer (some ⟨p, 0, none⟩), .string f, .int .i64 who] w (TabPost w p S (addR L f.data.toList who)) := by
  obtain ⟨i0, hi, hz0, hz1, hz2⟩ := info_parts info_pair
  have HT := hide h
  have hl := h.good.1
  by_cases ha : (askR f.data.toList who).1 = 0
  · have hab : ((askR f.data.toList who).1 != 0) = false := by simp [ha]
    by_cases hm : (f.data.toList, who) ∈ L
    · obtain ⟨k, hk, hat, _, _⟩ := atFrom_some _ L 0 hm
      have HR := hide (addR_2 ha hm)
      have hk0 : (0 : Int) ≤ atFrom (f.data.toList, who) 0 L := by rw [hat]; omega
      have hat2 := at_any p S L f who
      generalize atFrom (f.data.toList, who) 0 L = q at *
      have HAT := hide hat2
      clear ha hm h hat hat2
      go_enter Tryz.func39, Tryz.ntmps39
      go_wp2_with fail
      refine (asked_any f who _ hf).mono ?_
      rintro e w1 ⟨rfl, rfl⟩
      go_wp2_with fail
      refine (unhide HAT _ (unhide HT)).mono ?_
      rintro e w2 ⟨rfl, hb⟩
      go_wp2_with fail
      go_ret2
      exact TabPost.same (unhide HT) hb (unhide HR)
    · have hat := atFrom_none _ L 0 hm
      have hat2 := at_any p S L f who
      rw [hat] at hat2
      have HAT := hide hat2
      clear hat hat2
      by_cases h6 : 6 ≤ L.length
      · have HR := hide (addR_3 ha hm h6)
        clear ha hm h
        go_enter Tryz.func39, Tryz.ntmps39
        go_wp2_with fail
        refine (asked_any f who _ hf).mono ?_
        rintro e w1 ⟨rfl, rfl⟩
        go_wp2_with fail
        refine (unhide HAT _ (unhide HT)).mono ?_
        rintro e w2 ⟨rfl, hb⟩
        have hT2 := (unhide HT).below hb
        obtain ⟨v, h1, h2, h3⟩ := hT2.body
        obtain ⟨av, lv, cv, rfl⟩ := own_slice h2
        have hlv : lv = L.length := own_len h2
        subst hlv
        have c0 := cell_block (i := 0) h1 rfl
        clear hT2 h1 h2 h3
        go_wp2_with fail
        go_ret2
        exact TabPost.same (unhide HT) hb (unhide HR)
      · have HR := hide (addR_4 ha hm h6)
        have HGD := hide (addR_good L f.data.toList who h.good)
        rw [unhide HR] at HGD
        clear ha hm h
        go_enter Tryz.func39, Tryz.ntmps39
        go_wp2_with fail
        refine (asked_any f who _ hf).mono ?_
        rintro e w1 ⟨rfl, rfl⟩
        go_wp2_with fail
        refine (unhide HAT _ (unhide HT)).mono ?_
        rintro e w2 ⟨rfl, hb⟩
        have hT2 := (unhide HT).below hb
        obtain ⟨v, h1, h2, h3⟩ := hT2.body
        obtain ⟨av, lv, cv, rfl⟩ := own_slice h2
        have hlv : lv = L.length := own_len h2
        subst hlv
        have c0 := cell_block (i := 0) h1 rfl
        have f0 := free_block (i := 0) h1
        have hp := heap_lt h1
        have HT2 := hide hT2
        have H1 := hide h1
        have H2 := hide h2
        have H3 := hide h3
        have HB := hide hb
        clear hT2 h1 h2 h3 hb
        go_wp2_with (at_builtin; refine wpList_append_moves _ rfl _ _ 64 rfl 143 i0 (.agg #[.string ByteArray.empty, .int .i64 0]) 2 24 Tryz.underlying64 hi hz0 hz1 hz2 rfl (by decide) _ _ _ rfl ((unhide H2).alloc _) ⟨w2.heap.size, 0, none⟩ 1 1 [.string f, .int .i64 who] rfl rfl ?c1 ?c2 ?c3 ?c4 ?_)
        case c1 =>
          intro j u hj
          match j, hj with
          | 0, hj => simp at hj; subst hj; simp [Addr.add]
          | 1, hj => simp at hj; subst hj; simp [Addr.add]
        case c2 => intro u hu; simp at hu; rcases hu with rfl | rfl <;> rfl
        case c3 => unfold maxLen; omega
        case c4 => omega
        intro v' w3 hown' hgrow hmv
        have hst := tab_store (w2 := w3) (L' := L ++ [(f.data.toList, who)]) (unhide HT2) hgrow.os hgrow.tape hgrow.output (by have := hgrow.size; simp at this; omega)
          (fun k hk hkk => by
            rw [hgrow.block k (by simp; omega) (fun e => by
              rcases hkk with hkk | rfl
              · exact hkk (unhide H3 k e.symm)
              · exact own_not (unhide H2) (unhide H1) (by decide) e.symm), Below.heap_alloc _ _ _ hk])
          (by rw [edgeCells_snoc, List.length_append, show strV (f.data.toList, who).1 = Value.string f from by unfold strV; simp]; exact hown')
          (fun k hk => by rcases hmv k hk with h | h
                          · exact Or.inl (unhide H3 k h)
                          · exact Or.inr (by first | omega | (simp at h; omega)))
          (unhide HGD)
        obtain ⟨g', cap', rfl⟩ := own_form hown' (by omega)
        have c0' : w3.cell? ⟨p, 0, none⟩ = some (.slice av L.length cv) ∧ w3.frozen? ⟨p, 0, none⟩ = false := by
          have hpp : w3.heap[p]? = some (.cells #[.slice av L.length cv] 66 (0, 0)) := by
            rw [hgrow.block p (by simp; omega) (fun e => own_not (unhide H2) (unhide H1) (by decide) e.symm), Below.heap_alloc _ _ _ hp]; exact unhide H1
          exact ⟨cell_block (i := 0) hpp rfl, free_block (i := 0) hpp⟩
        obtain ⟨c1, f1⟩ := c0'
        have HST := hide hst
        clear hst hown' hgrow hmv c0 f0
        go_wp2_with fail
        go_ret2
        obtain ⟨t1, t2⟩ := unhide HST
        rw [unhide HR]
        exact ⟨rfl, _, t1, (Fr.of_below (unhide HB)).trans t2⟩
  · have hab : ((askR f.data.toList who).1 != 0) = true := by simp [ha]
    have HR := hide (addR_1 (L := L) ha)
    clear ha h
    go_enter Tryz.func39, Tryz.ntmps39
    go_wp2_with fail
    refine (asked_any f who _ hf).mono ?_
    rintro e w1 ⟨rfl, rfl⟩
    go_wp2_with fail
    go_ret2
    exact TabPost.same (unhide HT) (Below.refl _ _) (by rw [unhide HR])

set_option maxHeartbeats 2000000 in
set_option maxRecDepth 1000000 in
theorem refDrop_any (p : Nat) (S : Nat → Prop) (L : List PairL) (f : ByteArray) (who : Int) (w : World) (h : TabAt w p S L) (hf : f.size ≤ maxLen) :
    Calls Tryz.prog 41 #[.pointer (some ⟨p, 0, none⟩), .string f, .int .i64 who] w (TabPost w p S (dropR L f.data.toList who)) := by
  obtain ⟨i0, hi, hz0, hz1, hz2⟩ := info_parts info_pair
  have HT := hide h
  have hl := h.good.1
  by_cases ha : (askR f.data.toList who).1 = 0
  · have hab : ((askR f.data.toList who).1 != 0) = false := by simp [ha]
    by_cases hm : (f.data.toList, who) ∈ L
    · obtain ⟨n, hn, hat, _, her⟩ := atFrom_some _ L 0 hm
      rw [Nat.zero_add] at hat
      have HR := hide (dropR_3 ha hm)
      have HGD := hide (dropR_good L f.data.toList who h.good)
      rw [unhide HR] at HGD
      have HER := hide her
      have hat2 := at_any p S L f who
      rw [hat] at hat2
      have HAT := hide hat2
      clear ha hm h hat hat2 her
      go_enter Tryz.func41, Tryz.ntmps41
      go_wp2_with fail
      refine (asked_any f who _ hf).mono ?_
      rintro e w1 ⟨rfl, rfl⟩
      go_wp2_with fail
      refine (unhide HAT _ (unhide HT)).mono ?_
      rintro e w2 ⟨rfl, hb⟩
      have hT2 := (unhide HT).below hb
      obtain ⟨v, h1, h2, h3⟩ := hT2.body
      obtain ⟨g, cap, rfl⟩ := own_form h2 (by omega)
      have hcc := own_cap h2
      unfold maxLen at hcc
      obtain ⟨hcap, hcap2⟩ := hcc
      have hp := heap_lt h1
      have HT2 := hide hT2
      have H1 := hide h1
      have H2 := hide h2
      have H3 := hide h3
      have HB := hide hb
      clear hT2 h1 h2 h3 hb
      go_wp2_with fail
      go_loopg [11, 12] L.length (fun gk o kk wr => ∃ k : Nat, k ≤ L.length ∧ gk = L.length - k ∧ kk = .int .i64 k ∧ wr.ownsRow w2.heap.size 143 2 o (keepTo L n k).length (edgeCells (keepTo L n k)) ∧ Below w2.heap.size w2 wr)
      case atStart => exact ⟨0, by omega, by omega, rfl, World.ownsRow_nil _ _ _ _, Below.refl _ _⟩
      case round =>
        obtain ⟨k, hk, rfl, rfl, hown, hbr⟩ := hrel
        have hbs := hbr.size
        have hpr : wr.heap[p]? = some (.cells #[.slice (some ⟨g, 0, none⟩) L.length cap] 66 (0, 0)) := by rw [hbr.block p hp]; exact unhide H1
        have c0 := cell_block (i := 0) hpr rfl
        have f0 := free_block (i := 0) hpr
        have hkl := keepTo_len L n k
        by_cases hlt : k < L.length
        · obtain ⟨he1, he2⟩ := own_edge (own_below (unhide H2) hbr) hlt
          have hstr : strV L[k].1 = .string ⟨L[k].1.toArray⟩ := rfl
          by_cases hkn : k = n
          · have hbk : ((k : Int) != (n : Int)) = false := by simp [hkn]
            have HK : Hid (keepTo L n (k + 1) = keepTo L n k) := by unfold Hid; rw [hkn]; exact keepTo_hit L n hn
            have HOW := hide hown
            have HBR := hide hbr
            clear hown hbr hpr hstr hkn
            go_wp2_with fail
            go_roundg (L.length - (k + 1))
            case measure => omega
            case rel => exact ⟨k + 1, by omega, rfl, by go_num, by rw [unhide HK]; exact unhide HOW, unhide HBR⟩
          · have hbk : ((k : Int) != (n : Int)) = true := by simp; omega
            have HK := hide (keepTo_other L n k hlt hkn)
            have HOW := hide hown
            have HBR := hide hbr
            have HS := hide hstr
            clear hown hbr hpr hstr hkn
            generalize (⟨L[k].1.toArray⟩ : ByteArray) = es at *
            generalize hL2 : L[k].2 = eto at *
            have HL2 := hide hL2
            clear hL2
            go_wp2_with (at_builtin; refine wpList_append_own _ rfl _ _ 64 rfl w2.heap.size 143 i0 (.agg #[.string ByteArray.empty, .int .i64 0]) 2 24 Tryz.underlying64 hi hz0 hz1 hz2 rfl (by decide) _ _ _ rfl ((unhide HOW).alloc _) ⟨wr.heap.size, 0, none⟩ 1 1 [.string es, .int .i64 eto] rfl rfl ?c1 ?c2 ?c3 ?c4 ?c5 ?_)
            case c1 =>
              intro j u hj
              match j, hj with
              | 0, hj => simp at hj; subst hj; simp [Addr.add]
              | 1, hj => simp at hj; subst hj; simp [Addr.add]
            case c2 => intro u hu; simp at hu; rcases hu with rfl | rfl <;> rfl
            case c3 => unfold maxLen; omega
            case c4 => omega
            case c5 => simp; omega
            intro v' w3 hown' hgrow _
            have HO3 : Hid (w3.ownsRow w2.heap.size 143 2 v' (keepTo L n (k + 1)).length (edgeCells (keepTo L n (k + 1)))) := by
              unfold Hid
              rw [unhide HK, edgeCells_snoc, List.length_append, unhide HS, unhide HL2]; exact hown'
            have HB3 : Hid (Below w2.heap.size w2 w3) := ((unhide HBR).alloc hbs _).grown hgrow (by simp; omega) (fun k hk => ((unhide HOW).lt k hk).1)
            clear hown' hgrow HOW HBR HS HL2 c0 f0 he1 he2
            go_wp2_with fail
            go_roundg (L.length - (k + 1))
            case measure => omega
            case rel => exact ⟨k + 1, by omega, rfl, by go_num, unhide HO3, unhide HB3⟩
        · have hke : k = L.length := by omega
          have hst := tab_store (w2 := wr) (L' := L.erase (f.data.toList, who)) (unhide HT2) hbr.os hbr.tape hbr.output hbr.size (fun j hj _ => hbr.block j hj)
            (by rw [hke, keepTo_all, unhide HER] at hown; exact own_mono hown (Nat.zero_le _))
            (fun j hj => Or.inr (hown.lt j hj).1) (unhide HGD)
          obtain ⟨ao, lo, co, rfl⟩ := own_slice hown
          have HST := hide hst
          clear hst hown hbr hpr
          go_wp2_with fail
          go_ret2
          obtain ⟨t1, t2⟩ := unhide HST
          rw [unhide HR]
          exact ⟨rfl, _, t1, (Fr.of_below (unhide HB)).trans t2⟩
    · have hat := atFrom_none _ L 0 hm
      have hat2 := at_any p S L f who
      rw [hat] at hat2
      have HAT := hide hat2
      have HR := hide (dropR_2 ha hm)
      clear hat hat2 ha hm h
      go_enter Tryz.func41, Tryz.ntmps41
      go_wp2_with fail
      refine (asked_any f who _ hf).mono ?_
      rintro e w1 ⟨rfl, rfl⟩
      go_wp2_with fail
      refine (unhide HAT _ (unhide HT)).mono ?_
      rintro e w2 ⟨rfl, hb⟩
      go_wp2_with fail
      go_ret2
      exact TabPost.same (unhide HT) hb (unhide HR)
  · have hab : ((askR f.data.toList who).1 != 0) = true := by simp [ha]
    have HR := hide (dropR_1 (L := L) ha)
    clear ha h
    go_enter Tryz.func41, Tryz.ntmps41
    go_wp2_with fail
    refine (asked_any f who _ hf).mono ?_
    rintro e w1 ⟨rfl, rfl⟩
    go_wp2_with fail
    go_ret2
    exact TabPost.same (unhide HT) (Below.refl _ _) (by rw [unhide HR])

end Go.Proofs.YtchhmojnoiephabGreatDoor

namespace Go.Proofs.YtchhmojnoiephabGreatDoor
open Go.ChangeShapes Go.WideShapes Go.ChangeAt Go.RowKit
set_option linter.unusedVariables false

set_option maxHeartbeats 4000000 in
set_option maxRecDepth 1000000 in
theorem routed_any (p : Nat) (S : Nat → Prop) (L : List PairL) (t : ByteArray) (w : World) (h : TabAt w p S L) (ht : (topicR t.data.toList).1 = 0) :
    Calls Tryz.prog 84 #[.pointer (some ⟨p, 0, none⟩), .string t] w fun e w' => ∃ v, e = .returned v ∧ w'.ownsRow w.heap.size 3 1 v (routeL L t.data.toList).length ((routeL L t.data.toList).map (Value.int .i64)) ∧ Below w.heap.size w w' := by
  obtain ⟨i0, hi, hz0, hz1, hz2⟩ := info_parts info_int
  have htl := topicR_len _ ht
  have ht24 : t.size ≤ 24 := by have := htl.1; rw [len_list] at this; exact this
  have ht0 := topicR_pos t ht
  have hl := h.good.1
  obtain ⟨v, h1, h2, h3⟩ := h.body
  obtain ⟨av, lv, cv, rfl⟩ := own_slice h2
  have hlv : lv = L.length := own_len h2
  subst hlv
  have hp := heap_lt h1
  have HG := hide h.good.2.2
  have H1 := hide h1
  have H2 := hide h2
  clear h h1 h2 h3 ht htl
  go_enter Tryz.func84, Tryz.ntmps84
  go_wp2_with fail
  go_loopg [5, 6, 7, 8, 9] 16 (fun gk o nn _ _ _ wr => ∃ n : Nat, n ≤ 16 ∧ gk = 16 - n ∧ nn = .int .i64 n ∧ wr.ownsRow w.heap.size 3 1 o (routeTo L t.data.toList n).length ((routeTo L t.data.toList n).map (Value.int .i64)) ∧ Below w.heap.size w wr)
  case atStart => exact ⟨0, by omega, rfl, rfl, World.ownsRow_nil _ _ _ _, Below.refl _ _⟩
  case round =>
    obtain ⟨n, hn, rfl, rfl, hown, hb⟩ := hrel
    have hbs := hb.size
    have hrl := routeTo_len L t.data.toList n
    by_cases hn16 : n < 16
    · obtain ⟨wo, hwo⟩ : ∃ wo, wo = wr := ⟨_, rfl⟩
      subst hwo
      have hd16 : decide ((n : Int) < 16) = true := by simp; omega
      have HRS := hide (routeTo_succ L t.data.toList n)
      have HOW := hide hown
      have HB := hide hb
      clear hown hb
      go_wp2_with fail
      go_loopg [7, 8, 9] L.length (fun gk hh ii _ wi => ∃ k : Nat, k ≤ L.length ∧ gk = L.length - k ∧ ii = .int .i64 k ∧ hh = .bool (hasW (L.take k) t.data.toList (n : Int)) ∧ Below wo.heap.size wo wi)
      case atStart => exact ⟨0, by omega, by omega, rfl, rfl, Below.refl _ _⟩
      case round =>
        obtain ⟨k, hk, rfl, rfl, rfl, hbi⟩ := hrel
        have hbw := (unhide HB).trans (hbi.mono hbs)
        have hpr : wr.heap[p]? = some (.cells #[.slice av L.length cv] 66 (0, 0)) := by rw [hbw.block p hp]; exact unhide H1
        have c0 := cell_block (i := 0) hpr rfl
        by_cases hlt : k < L.length
        · have h2i := own_below (unhide H2) hbw
          obtain ⟨g, cap, hgv⟩ := own_form h2i (by omega)
          simp only [Value.slice.injEq] at hgv
          obtain ⟨rfl, _, rfl⟩ := hgv
          have hcc := own_cap h2i
          unfold maxLen at hcc
          obtain ⟨hcap, hcap2⟩ := hcc
          obtain ⟨he1, he2⟩ := own_edge h2i hlt
          have hgk := unhide HG L[k] (List.getElem_mem hlt)
          have hfl := filterR_len _ hgk.1
          have hss : (⟨L[k].1.toArray⟩ : ByteArray).data.toList = L[k].1 := by simp
          have HHS := hide (hasW_step L t.data.toList (n : Int) k hlt)
          have hm := refMatches_any (⟨L[k].1.toArray⟩ : ByteArray) t
          rw [hss] at hm
          have hsz : (⟨L[k].1.toArray⟩ : ByteArray).size ≤ 24 := by rw [Lib.size_eq, hss]; exact hfl.1
          have hsz0 : 0 < (⟨L[k].1.toArray⟩ : ByteArray).size := by rw [Lib.size_eq, hss]; exact List.length_pos_iff.2 hfl.2.1
          have HM := hide (fun w => hm w hsz ht24 hsz0 ht0)
          clear hm hsz hsz0 hss hfl hgk h2i hpr
          have HBI := hide hbi
          clear hbi hbw
          generalize (⟨L[k].1.toArray⟩ : ByteArray) = es at *
          generalize matchB L[k].1 t.data.toList = mb at *
          generalize L[k].2 = eto at *
          go_wp2_with fail
          refine (unhide HM _).mono ?_
          rintro e wj ⟨rfl, hbj⟩
          have c0' : wj.cell? ⟨p, 0, none⟩ = _ := (hbj.cell (p := ⟨p, 0, none⟩) (block_lt c0)).trans c0
          have he2' : wj.cell? ⟨g, k * 2 + 1, none⟩ = _ := (hbj.cell (p := ⟨g, k * 2 + 1, none⟩) (block_lt he2)).trans he2
          have HBJ := hide ((unhide HBI).trans (hbj.mono (unhide HBI).size))
          clear hbj c0 he1 he2
          cases hq : (eto == (n : Int)) <;> cases mb
          all_goals
            rw [hq] at HHS
            go_wp2_with fail
            go_roundg (L.length - (k + 1))
            case measure => omega
            case rel => exact ⟨k + 1, by omega, rfl, by go_num, by rw [unhide HHS]; simp, unhide HBJ⟩
        · have hke : k = L.length := by omega
          have hall : L.take k = L := by rw [hke]; exact List.take_length
          have HBI := hide hbi
          have HBW := hide hbw
          have HOI := hide (own_below (unhide HOW) hbi)
          rw [hall]
          clear hbi hbw hall hpr
          have hwi : w.heap.size ≤ wr.heap.size := (unhide HBW).size
          cases hh : hasW L t.data.toList (n : Int)
          · rw [hh] at HRS
            go_wp2_with fail
            go_roundg (16 - (n + 1))
            case measure => omega
            case rel => exact ⟨n + 1, by omega, rfl, by go_num, by rw [unhide HRS]; exact unhide HOI, unhide HBW⟩
          · rw [hh] at HRS
            go_wp2_with (at_builtin; refine wpList_append_own _ rfl _ _ 26 rfl w.heap.size 3 i0 (.int .i64 0) 1 8 Tryz.underlying26 hi hz0 hz1 hz2 rfl (by decide) _ _ _ rfl ((unhide HOI).alloc _) ⟨wr.heap.size, 0, none⟩ 1 1 [.int .i64 (n : Int)] rfl rfl ?c1 ?c2 ?c3 ?c4 ?c5 ?_)
            first
              | (case c1 =>
                  intro j u hj
                  match j, hj with
                  | 0, hj => simp at hj; subst hj; simp [Addr.add])
              | skip
            case c2 => first | rfl | (intro u hu; simp at hu; subst hu; rfl)
            case c3 => unfold maxLen; omega
            case c4 => omega
            case c5 => first | omega | (simp; omega)
            intro v' w4 hown' hgrow _
            have HB4 := hide (below_push' (unhide HBW) hwi (unhide HOI) hgrow)
            have HO4 : Hid (w4.ownsRow w.heap.size 3 1 v' (routeTo L t.data.toList (n + 1)).length ((routeTo L t.data.toList (n + 1)).map (Value.int .i64))) := by
              have h5 := unhide HRS; simp only [if_true] at h5; unfold Hid; rw [h5, List.length_append, List.map_append]; exact hown'
            clear hown' hgrow
            go_wp2_with fail
            go_roundg (16 - (n + 1))
            case measure => omega
            case rel => exact ⟨n + 1, by omega, rfl, by go_num, unhide HO4, unhide HB4⟩
    · have hne : n = 16 := by omega
      have HOW := hide hown
      have HB := hide hb
      clear hown hb
      go_wp2_with fail
      go_ret
      subst hne
      exact ⟨_, rfl, unhide HOW, unhide HB⟩

set_option maxHeartbeats 1000000 in
theorem refRoute_any (p : Nat) (S : Nat → Prop) (L : List PairL) (t : ByteArray) (w : World) (h : TabAt w p S L) (ht : t.size ≤ maxLen) :
    Calls Tryz.prog 42 #[.pointer (some ⟨p, 0, none⟩), .string t] w (IntsPost w (routeR L t.data.toList)) := by
  by_cases h0 : (topicR t.data.toList).1 = 0
  · have hb : ((topicR t.data.toList).1 != 0) = false := by simp [h0]
    have HR : Hid (routeR L t.data.toList = (routeL L t.data.toList, 0, 0)) := by unfold Hid routeR; rw [if_neg (by simp [h0])]
    have HC := hide (routed_any p S L t w h h0)
    clear h h0
    go_enter Tryz.func42, Tryz.ntmps42
    go_wp2_with fail
    refine (refTopic_any t _ ht).mono ?_
    rintro e w1 ⟨rfl, rfl⟩
    go_wp2_with fail
    refine (unhide HC).mono ?_
    rintro e w2 ⟨v, rfl, hown, hbl⟩
    go_wp2_with fail
    go_ret3
    rw [unhide HR]
    exact ⟨v, rfl, hown, hbl⟩
  · have hb : ((topicR t.data.toList).1 != 0) = true := by simp [h0]
    have HR : Hid (routeR L t.data.toList = ([], (topicR t.data.toList).1, (topicR t.data.toList).2)) := by unfold Hid routeR; rw [if_pos h0]
    clear h h0
    go_enter Tryz.func42, Tryz.ntmps42
    go_wp2_with fail
    refine (refTopic_any t _ ht).mono ?_
    rintro e w1 ⟨rfl, rfl⟩
    go_wp2_with fail
    go_ret3
    exact IntsPost.none (unhide HR) (Below.refl _ _)
end Go.Proofs.YtchhmojnoiephabGreatDoor
