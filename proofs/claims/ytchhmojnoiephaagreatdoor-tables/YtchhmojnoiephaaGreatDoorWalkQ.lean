import Derived.Test.YtchhmojnoiephaaGreatDoorWalkP
import Derived.Test.YtchhmojnoiephaaGreatDoorWalkN
import Derived.Test.YtchhmojnoiephaaGreatDoorPureC
namespace Go.Proofs.YtchhmojnoiephaaGreatDoor
open Go.ChangeShapes Go.WideShapes Go.ChangeAt Go.RowKit
set_option linter.unusedVariables false

set_option maxHeartbeats 4000000 in
set_option maxRecDepth 1000000 in
theorem routed_any (p : Nat) (S : Nat → Prop) (L : List PairL) (t : ByteArray) (w : World) (h : TabAt w p S L) (ht : (topicR t.data.toList).1 = 0) :
    Calls Tryz.prog 42 #[.pointer (some ⟨p, 0, none⟩), .string t] w fun e w' => ∃ v, e = .returned v ∧ w'.ownsRow w.heap.size 3 1 v (routeL L t.data.toList).length ((routeL L t.data.toList).map (Value.int .i64)) ∧ Below w.heap.size w w' := by
  obtain ⟨i0, hi, hz0, hz1, hz2⟩ := info_parts info_int
  have htl := topicR_len _ ht
  have ht24 : t.size ≤ 24 := by have := htl.1; rw [len_list] at this; exact this
  have ht0 := topicR_pos t ht
  have hl := h.good.1
  obtain ⟨v, h1, h2, h3⟩ := h.body
  obtain ⟨av, lv, cv, rfl⟩ := own_slice h2
  have hlv : lv = L.length := own_len h2
  subst hlv
  have hp := heap_lt h1
  have HG := hide h.good.2.2
  have H1 := hide h1
  have H2 := hide h2
  clear h h1 h2 h3 ht htl
  go_enter Tryz.func42, Tryz.ntmps42
  go_wp2_with fail
  go_loopg [5, 6, 7, 8, 9] 16 (fun gk o nn _ _ _ wr => ∃ n : Nat, n ≤ 16 ∧ gk = 16 - n ∧ nn = .int .i64 n ∧ wr.ownsRow w.heap.size 3 1 o (routeTo L t.data.toList n).length ((routeTo L t.data.toList n).map (Value.int .i64)) ∧ Below w.heap.size w wr)
  case atStart => exact ⟨0, by omega, rfl, rfl, World.ownsRow_nil _ _ _ _, Below.refl _ _⟩
  case round =>
    obtain ⟨n, hn, rfl, rfl, hown, hb⟩ := hrel
    have hbs := hb.size
    have hrl := routeTo_len L t.data.toList n
    by_cases hn16 : n < 16
    · obtain ⟨wo, hwo⟩ : ∃ wo, wo = wr := ⟨_, rfl⟩
      subst hwo
      have hd16 : decide ((n : Int) < 16) = true := by simp; omega
      have HRS := hide (routeTo_succ L t.data.toList n)
      have HOW := hide hown
      have HB := hide hb
      clear hown hb
      go_wp2_with fail
      go_loopg [7, 8, 9] L.length (fun gk hh ii _ wi => ∃ k : Nat, k ≤ L.length ∧ gk = L.length - k ∧ ii = .int .i64 k ∧ hh = .bool (hasW (L.take k) t.data.toList (n : Int)) ∧ Below wo.heap.size wo wi)
      case atStart => exact ⟨0, by omega, by omega, rfl, rfl, Below.refl _ _⟩
      case round =>
        obtain ⟨k, hk, rfl, rfl, rfl, hbi⟩ := hrel
        have hbw := (unhide HB).trans (hbi.mono hbs)
        have hpr : wr.heap[p]? = some (.cells #[.slice av L.length cv] 70 (0, 0)) := by rw [hbw.block p hp]; exact unhide H1
        have c0 := cell_block (i := 0) hpr rfl
        by_cases hlt : k < L.length
        · have h2i := own_below (unhide H2) hbw
          obtain ⟨g, cap, hgv⟩ := own_form h2i (by omega)
          simp only [Value.slice.injEq] at hgv
          obtain ⟨rfl, _, rfl⟩ := hgv
          have hcc := own_cap h2i
          unfold maxLen at hcc
          obtain ⟨hcap, hcap2⟩ := hcc
          obtain ⟨he1, he2⟩ := own_edge h2i hlt
          have hgk := unhide HG L[k] (List.getElem_mem hlt)
          have hfl := filterR_len _ hgk.1
          have hss : (⟨L[k].1.toArray⟩ : ByteArray).data.toList = L[k].1 := by simp
          have HHS := hide (hasW_step L t.data.toList (n : Int) k hlt)
          have hm := refMatches_any (⟨L[k].1.toArray⟩ : ByteArray) t
          rw [hss] at hm
          have hsz : (⟨L[k].1.toArray⟩ : ByteArray).size ≤ 24 := by rw [Lib.size_eq, hss]; exact hfl.1
          have hsz0 : 0 < (⟨L[k].1.toArray⟩ : ByteArray).size := by rw [Lib.size_eq, hss]; exact List.length_pos_iff.2 hfl.2.1
          have HM := hide (fun w => hm w hsz ht24 hsz0 ht0)
          clear hm hsz hsz0 hss hfl hgk h2i hpr
          have HBI := hide hbi
          clear hbi hbw
          generalize (⟨L[k].1.toArray⟩ : ByteArray) = es at *
          generalize matchB L[k].1 t.data.toList = mb at *
          generalize L[k].2 = eto at *
          go_wp2_with fail
          refine (unhide HM _).mono ?_
          rintro e wj ⟨rfl, hbj⟩
          have c0' : wj.cell? ⟨p, 0, none⟩ = _ := (hbj.cell (p := ⟨p, 0, none⟩) (block_lt c0)).trans c0
          have he2' : wj.cell? ⟨g, k * 2 + 1, none⟩ = _ := (hbj.cell (p := ⟨g, k * 2 + 1, none⟩) (block_lt he2)).trans he2
          have HBJ := hide ((unhide HBI).trans (hbj.mono (unhide HBI).size))
          clear hbj c0 he1 he2
          cases hq : (eto == (n : Int)) <;> cases mb
          all_goals
            rw [hq] at HHS
            go_wp2_with fail
            go_roundg (L.length - (k + 1))
            case measure => omega
            case rel => exact ⟨k + 1, by omega, rfl, by go_num, by rw [unhide HHS]; simp, unhide HBJ⟩
        · have hke : k = L.length := by omega
          have hall : L.take k = L := by rw [hke]; exact List.take_length
          have HBI := hide hbi
          have HBW := hide hbw
          have HOI := hide (own_below (unhide HOW) hbi)
          rw [hall]
          clear hbi hbw hall hpr
          have hwi : w.heap.size ≤ wr.heap.size := (unhide HBW).size
          cases hh : hasW L t.data.toList (n : Int)
          · rw [hh] at HRS
            go_wp2_with fail
            go_roundg (16 - (n + 1))
            case measure => omega
            case rel => exact ⟨n + 1, by omega, rfl, by go_num, by rw [unhide HRS]; exact unhide HOI, unhide HBW⟩
          · rw [hh] at HRS
            go_wp2_with (at_builtin; refine wpList_append_own _ rfl _ _ 52 rfl w.heap.size 3 i0 (.int .i64 0) 1 8 Tryz.underlying52 hi hz0 hz1 hz2 rfl (by decide) _ _ _ rfl ((unhide HOI).alloc _) ⟨wr.heap.size, 0, none⟩ 1 1 [.int .i64 (n : Int)] rfl rfl ?c1 ?c2 ?c3 ?c4 ?c5 ?_)
            first
              | (case c1 =>
                  intro j u hj
                  match j, hj with
                  | 0, hj => simp at hj; subst hj; simp [Addr.add])
              | skip
            case c2 => first | rfl | (intro u hu; simp at hu; subst hu; rfl)
            case c3 => unfold maxLen; omega
            case c4 => omega
            case c5 => first | omega | (simp; omega)
            intro v' w4 hown' hgrow _
            have HB4 := hide (below_push' (unhide HBW) hwi (unhide HOI) hgrow)
            have HO4 : Hid (w4.ownsRow w.heap.size 3 1 v' (routeTo L t.data.toList (n + 1)).length ((routeTo L t.data.toList (n + 1)).map (Value.int .i64))) := by
              have h5 := unhide HRS; simp only [if_true] at h5; unfold Hid; rw [h5, List.length_append, List.map_append]; exact hown'
            clear hown' hgrow
            go_wp2_with fail
            go_roundg (16 - (n + 1))
            case measure => omega
            case rel => exact ⟨n + 1, by omega, rfl, by go_num, unhide HO4, unhide HB4⟩
    · have hne : n = 16 := by omega
      have HOW := hide hown
      have HB := hide hb
      clear hown hb
      go_wp2_with fail
      go_ret
      subst hne
      exact ⟨_, rfl, unhide HOW, unhide HB⟩

set_option maxHeartbeats 1000000 in
theorem refRoute_any (p : Nat) (S : Nat → Prop) (L : List PairL) (t : ByteArray) (w : World) (h : TabAt w p S L) (ht : t.size ≤ maxLen) :
    Calls Tryz.prog 20 #[.pointer (some ⟨p, 0, none⟩), .string t] w (IntsPost w (routeR L t.data.toList)) := by
  by_cases h0 : (topicR t.data.toList).1 = 0
  · have hb : ((topicR t.data.toList).1 != 0) = false := by simp [h0]
    have HR : Hid (routeR L t.data.toList = (routeL L t.data.toList, 0, 0)) := by unfold Hid routeR; rw [if_neg (by simp [h0])]
    have HC := hide (routed_any p S L t w h h0)
    clear h h0
    go_enter Tryz.func20, Tryz.ntmps20
    go_wp2_with fail
    refine (refTopic_any t _ ht).mono ?_
    rintro e w1 ⟨rfl, rfl⟩
    go_wp2_with fail
    refine (unhide HC).mono ?_
    rintro e w2 ⟨v, rfl, hown, hbl⟩
    go_wp2_with fail
    go_ret3
    rw [unhide HR]
    exact ⟨v, rfl, hown, hbl⟩
  · have hb : ((topicR t.data.toList).1 != 0) = true := by simp [h0]
    have HR : Hid (routeR L t.data.toList = ([], (topicR t.data.toList).1, (topicR t.data.toList).2)) := by unfold Hid routeR; rw [if_pos h0]
    clear h h0
    go_enter Tryz.func20, Tryz.ntmps20
    go_wp2_with fail
    refine (refTopic_any t _ ht).mono ?_
    rintro e w1 ⟨rfl, rfl⟩
    go_wp2_with fail
    go_ret3
    exact IntsPost.none (unhide HR) (Below.refl _ _)
end Go.Proofs.YtchhmojnoiephaaGreatDoor
