import Derived.Test.YtchhmojnoiephabGreatDoorWalkM
import Derived.Test.YtchhmojnoiephabGreatDoorWalkF
namespace Go.Proofs.YtchhmojnoiephabGreatDoor
open Go.ChangeShapes Go.WideShapes Go.ChangeAt Go.RowKit
set_option linter.unusedVariables false

/-- a list of numbers of the call's own, an error's number and a place are answered -/
def IntsPost (w : World) (r : List Int × Int × Int) (e : Ending) (w' : World) : Prop :=
  ∃ v, e = .returned (.tuple #[v, .int .i64 r.2.1, .int .i64 r.2.2]) ∧ w'.ownsRow w.heap.size 3 1 v r.1.length (r.1.map (Value.int .i64)) ∧ Below w.heap.size w w'

theorem IntsPost.none {w w' : World} {r : List Int × Int × Int} {a b : Int} (h : r = ([], a, b)) (hb : Below w.heap.size w w') : IntsPost w r (.returned (.tuple #[.slice none 0 0, .int .i64 a, .int .i64 b])) w' := by
  subst h; exact ⟨_, rfl, World.ownsRow_nil _ _ _ _, hb⟩

theorem codeR_zero (L : List UInt8) (h : (codeR L).1 = 0) : L.length ≤ 40000 ∧ ∃ xs, codeP L = .ok xs := by
  unfold codeR at h
  split at h
  · simp at h
  · cases hc : codeP L with
    | error k => rw [hc] at h; simp at h
    | ok xs => exact ⟨by omega, xs, rfl⟩

theorem walkR_long (c t : ByteArray) (h : 40000 < (c.size : Int) ∨ 24 < (t.size : Int)) : walkR c.data.toList t.data.toList = ([], 1, 0) := by
  unfold walkR; rw [if_pos (by rw [len_list, len_list]; omega)]
theorem walkR_code (c t : ByteArray) (h : c.size ≤ 40000) (h' : t.size ≤ 24) (hf : ¬ (codeR c.data.toList).1 = 0) : walkR c.data.toList t.data.toList = ([], (codeR c.data.toList).1, (codeR c.data.toList).2) := by
  unfold walkR; rw [if_neg (by rw [len_list, len_list]; omega), if_pos hf]
theorem walkR_topic (c t : ByteArray) (h : c.size ≤ 40000) (h' : t.size ≤ 24) (hf : (codeR c.data.toList).1 = 0) (ht : ¬ (topicR t.data.toList).1 = 0) : walkR c.data.toList t.data.toList = ([], (topicR t.data.toList).1, (topicR t.data.toList).2) := by
  unfold walkR; rw [if_neg (by rw [len_list, len_list]; omega), if_neg (by simp [hf]), if_pos ht]
theorem walkR_good (c t : ByteArray) (xs : List St) (h : c.size ≤ 40000) (h' : t.size ≤ 24) (hf : (codeR c.data.toList).1 = 0) (ht : (topicR t.data.toList).1 = 0) (hc : codeP c.data.toList = .ok xs) :
    walkR c.data.toList t.data.toList = ((ansOf xs (walkK xs (if headI t.data.toList = 36 then 1 else 0) (levs t.data.toList))).map (fun b => (b.toNat : Int) - 65), 0, 0) := by
  unfold walkR; rw [if_neg (by rw [len_list, len_list]; omega), if_neg (by simp [hf]), if_neg (by simp [ht]), hc]

theorem levs_count (L : List UInt8) : (levs L).length ≤ L.length + 1 := by
  induction L with
  | nil => simp [levs]
  | cons c r ih =>
    unfold levs
    split
    · simp; exact ih
    · cases hr : levs r with
      | nil => simp
      | cons a b => rw [hr] at ih; simp at ih ⊢; omega

theorem topicR_pos' (f : ByteArray) (h : (topicR f.data.toList).1 = 0) : 0 < f.size := by
  refine Nat.pos_of_ne_zero fun h0 => ?_
  rw [topicR_empty f h0] at h; simp at h

theorem headI_at0 (s : ByteArray) (h : 0 < s.size) : headI s.data.toList = (s[0].toNat : Int) := by
  have := head_at s 0 h
  simpa using this

theorem stCells_at (xs : List St) (evs : List Value) (k : Nat) (h : xs.length = evs.length) (hk : k < xs.length) :
    (stCells xs evs)[k * 3]? = some (strV xs[k].ans) ∧ (stCells xs evs)[k * 3 + 1]? = evs[k]? ∧ (stCells xs evs)[k * 3 + 2]? = some (.int .i64 xs[k].star) := by
  induction xs generalizing evs k with
  | nil => simp at hk
  | cons x xs ih =>
    cases evs with
    | nil => simp at h
    | cons ev evs =>
      cases k with
      | zero => simp [stCells]
      | succ k =>
        have := ih evs k (by simpa using h) (by simpa using hk)
        simp only [stCells]
        rw [show (k + 1) * 3 = k * 3 + 1 + 1 + 1 from by omega, show k * 3 + 1 + 1 + 1 + 1 = (k * 3 + 1) + 1 + 1 + 1 from by omega, show k * 3 + 1 + 1 + 1 + 2 = (k * 3 + 2) + 1 + 1 + 1 from by omega]
        simpa only [List.getElem?_cons_succ, List.getElem_cons_succ] using this

theorem add_at (g i : Nat) : (⟨g, 0, none⟩ : Addr).add i = ⟨g, i, none⟩ := by
  cases i with
  | zero => simp [Addr.add]
  | succ m => simp [Addr.add]

/-- a state in memory -/
theorem StRow.at {w : World} {B g n cap k : Nat} {xs : List St} (h : StRow w B (.slice (some ⟨g, 0, none⟩) n cap) xs) (hk : k < xs.length) :
    ∃ av lv cv, w.cell? ⟨g, k * 3, none⟩ = some (.string ⟨xs[k].ans.toArray⟩) ∧ w.cell? ⟨g, k * 3 + 1, none⟩ = some (.slice av lv cv) ∧ w.cell? ⟨g, k * 3 + 2, none⟩ = some (.int .i64 xs[k].star) ∧
      w.ownsRow B 171 2 (.slice av lv cv) xs[k].edges.length (edgeCells xs[k].edges) := by
  obtain ⟨evs, h1, h2, h3⟩ := h
  have hke : k < evs.length := by omega
  have hev : evs[k]? = some evs[k] := List.getElem?_eq_getElem hke
  have ho := h3 k xs[k] evs[k] (List.getElem?_eq_getElem hk) hev
  obtain ⟨av, lv, cv, hv⟩ := own_slice ho
  rw [hv] at ho hev
  obtain ⟨a1, a2, a3⟩ := stCells_at xs evs k h1 hk
  rw [hev] at a2
  have c1 := h2.cells (g := g) rfl _ _ a1
  have c2 := h2.cells (g := g) rfl _ _ a2
  have c3 := h2.cells (g := g) rfl _ _ a3
  rw [add_at] at c1 c2 c3
  exact ⟨av, lv, cv, c1, c2, c3, ho⟩
theorem StRow.form {w : World} {B : Nat} {v : Value} {xs : List St} (h : StRow w B v xs) (hx : 0 < xs.length) : ∃ g cap, v = .slice (some ⟨g, 0, none⟩) xs.length cap ∧ xs.length ≤ cap ∧ cap ≤ maxLen := by
  obtain ⟨evs, h1, h2, h3⟩ := h
  obtain ⟨g, cap, rfl⟩ := own_form h2 hx
  exact ⟨g, cap, rfl, own_cap h2⟩

def intsOf (l : List UInt8) : List Int := l.map (fun b => (b.toNat : Int) - 65)
theorem intsOf_snoc (s : ByteArray) (n : Nat) (h : n < s.size) : (intsOf (s.data.toList.take (n + 1))).map (Value.int .i64) = (intsOf (s.data.toList.take n)).map (Value.int .i64) ++ [.int .i64 ((s[n].toNat : Int) - 65)] := by
  rw [List.take_succ_eq_append_getElem (by rw [len_list]; exact h), get_list s n h]; simp [intsOf]
theorem intsOf_len (s : ByteArray) (n : Nat) (h : n ≤ s.size) : (intsOf (s.data.toList.take n)).length = n := by
  simp [intsOf]; omega
theorem info_int : (Tryz.prog.info? 3).map (fun i => (i.zero, i.size, i.bytes)) = some (some (.int .i64 0), 1, 8) := by kernel_rfl

theorem below_push' {B : Nat} {w wr w1 : World} {v : Value} {e n : Nat} {xs : List Value} {o : Obj} (hb : Below B w wr) (hB : B ≤ wr.heap.size) (hown : wr.ownsRow B e 1 v n xs) (hg : (wr.alloc o).grownBy w1 v.ownBlock) : Below B w w1 :=
  (hb.alloc hB o).grown hg (by simp; omega) (fun k hk => (hown.lt k hk).1)

set_option maxHeartbeats 4000000 in
set_option maxRecDepth 1000000 in
theorem refWalk_any (c t : ByteArray) (w : World) (hc : c.size ≤ maxLen) (ht : t.size ≤ maxLen) :
    Calls Tryz.prog 87 #[.string c, .string t] w (IntsPost w (walkR c.data.toList t.data.toList)) := by
  obtain ⟨i0, hi, hz0, hz1, hz2⟩ := info_parts info_int
  have hc' := hc
  have ht' := ht
  unfold maxLen at hc ht
  by_cases h1 : 40000 < (c.size : Int)
  · go_enter Tryz.func87, Tryz.ntmps87
    go_wp2_with fail
    go_ret3
    exact IntsPost.none (walkR_long c t (Or.inl h1)) (Below.refl _ _)
  by_cases h2 : 24 < (t.size : Int)
  · go_enter Tryz.func87, Tryz.ntmps87
    go_wp2_with fail
    go_ret3
    exact IntsPost.none (walkR_long c t (Or.inr h2)) (Below.refl _ _)
  by_cases h3 : (codeR c.data.toList).1 = 0
  · have b3 : ((codeR c.data.toList).1 != 0) = false := by simp [h3]
    by_cases h4 : (topicR t.data.toList).1 = 0
    · have b4 : ((topicR t.data.toList).1 != 0) = false := by simp [h4]
      have ht0 := topicR_pos' t h4
      obtain ⟨_, xs, hxs⟩ := codeR_zero _ h3
      have hgood := codeP_good _ _ hxs
      have HR := hide (walkR_good c t xs (by omega) (by omega) h3 h4 hxs)
      rw [headI_at0 t ht0] at HR
      have hlv := levs_count t.data.toList
      rw [len_list] at hlv
      have hlp := List.length_pos_iff.2 (levs_ne t.data.toList)
      have HX := hide hxs
      have HG := hide hgood
      have hx2 := hgood.1
      clear h3 h4 hxs hgood
      cases hd : ((t[0].toNat : Int) == 36)
      · rw [if_neg (by simpa using hd)] at HR
        go_enter Tryz.func87, Tryz.ntmps87
        go_wp2_with fail
        refine (refCode_any c _ hc').mono ?_
        rintro e w1 ⟨rfl, hb1⟩
        go_wp2_with fail
        refine (refTopic_any t _ ht').mono ?_
        rintro e w1' ⟨rfl, rfl⟩
        go_wp2_with fail
        refine (states_any c _ (by omega)).mono ?_
        rintro e w2 ⟨lv, k0, ok, rfl, hb2, hcase⟩
        rw [unhide HX] at hcase
        rcases hcase with ⟨_, hno, _⟩ | ⟨rfl, rfl, ys, hys, hrow⟩
        · cases hno
        cases hys
        have HB2 := hide (hb1.trans (hb2.mono hb1.size))
        have HROW := hide (hrow)
        clear hb1 hb2 hrow
        go_wp2_with fail
        refine (levels_any t _ (by omega)).mono ?_
        rintro e w3 ⟨tv, rfl, hown3, hb3⟩
        have HROW3 := hide ((unhide HROW).below hb3)
        have HB3 := hide ((unhide HB2).trans (hb3.mono (unhide HB2).size))
        clear hb3 HROW
        obtain ⟨gt, capt, rfl⟩ := own_form hown3 hlp
        have hcc := own_cap hown3
        unfold maxLen at hcc
        obtain ⟨hcap, hcap2⟩ := hcc
        have HO3 := hide hown3
        clear hown3
        obtain ⟨gl, capl, rfl, hcl, hcl2⟩ := (unhide HROW3).form (by omega)
        unfold maxLen at hcl2
        generalize hP : levs t.data.toList = P at *
        clear hP
        go_upto_block 0 with fail
        go_cut [14, 16] (fun kk _ wc => ∃ k : Int, -1 ≤ k ∧ k < xs.length ∧ kk = .int .i64 k ∧ Below w3.heap.size w3 wc ∧ Hid (walkK xs 0 P = k))
        case first =>
          go_wp2_with fail
          go_loopg [14, 16] P.length (fun g kk i wr => ∃ (k : Int) (n : Nat), n ≤ P.length ∧ g = P.length - n ∧ -1 ≤ k ∧ k < xs.length ∧ kk = .int .i64 k ∧ i = .int .i64 n ∧ Below w3.heap.size w3 wr ∧ Hid (walkK xs 0 P = walkK xs k (P.drop n)))
          case atStart => exact ⟨0, 0, by omega, by omega, by omega, by omega, rfl, rfl, Below.refl _ _, hide rfl⟩
          case round =>
            obtain ⟨k, n, hn, rfl, hk1, hk2, rfl, rfl, hb, HK⟩ := hrel
            by_cases hk0 : 0 ≤ k
            · obtain ⟨kn, rfl⟩ := Int.eq_ofNat_of_zero_le hk0
              have hkn : kn < xs.length := by omega
              by_cases hlt : n < P.length
              · have HK2 := hide ((unhide HK).trans ((walkK_on xs _ P n hlt (by omega)).trans (by rw [stepS_some xs kn _ hkn])))
                obtain ⟨av, lv, cv, s0, s1, s2, hoe⟩ := ((unhide HROW3).below hb).at hkn
                have hcell := own_str_at (own_below (unhide HO3) hb) hlt
                have hgx := (unhide HG).2 xs[kn] (List.getElem_mem hkn)
                have hfg := followE_good (xs.length : Int) xs[kn].edges xs[kn].star P[n] hgx.1 hgx.2.1 hgx.2.2.1
                have HOE := hide hoe
                have HB := hide hb
                clear hoe hb hgx
                have hPn : (⟨P[n].toArray⟩ : ByteArray).data.toList = P[n] := by simp
                generalize hpb : (⟨P[n].toArray⟩ : ByteArray) = pb at *
                clear hpb
                rw [← hPn] at HK2 hfg
                clear hPn
                go_upto_block 1 with fail
                go_cut [14] (fun kk wc => kk = .int .i64 (followE xs[kn].edges xs[kn].star pb.data.toList) ∧ Below w3.heap.size w3 wc)
                case first =>
                  go_wp2_with fail
                  go_region_with (go_at_call 106; refine (follow_any _ _ _ _ xs[kn].edges _ _ (by exact unhide HOE)).mono ?_; rintro e w' ⟨rfl, rfl⟩)
                  all_goals
                    go_wp2_with fail
                    go_meet
                    exact ⟨rfl, by have h := unhide HB; have h2 := h.size; repeat (first | exact h | apply Below.drew | (refine Below.alloc ?_ (by first | omega | (simp; omega)) _))⟩
                case rest =>
                  obtain ⟨rfl, hbc⟩ := hcut
                  have HBC := hide hbc
                  clear hbc
                  go_wp2_with fail
                  go_roundg (P.length - (n + 1))
                  case measure => omega
                  case rel => exact ⟨_, n + 1, by omega, rfl, by omega, by omega, rfl, by go_num, unhide HBC, HK2⟩
              · have HZ := hide ((unhide HK).trans (walkK_end xs _ P n hlt))
                have HB := hide hb
                clear hb
                go_wp2_with fail
                go_meet
                exact ⟨_, by omega, by omega, rfl, unhide HB, HZ⟩
            · have HZ := hide ((unhide HK).trans (walkK_neg xs _ _ (by omega)))
              have HB := hide hb
              have hk' : k < 0 := by omega
              clear hb hk0
              by_cases hlt : n < P.length
              all_goals
                go_wp2_with fail
                go_meet
                exact ⟨_, by omega, by omega, rfl, unhide HB, HZ⟩
        case rest =>
          obtain ⟨k, hk1, hk2, rfl, hb, HK⟩ := hcut
          rw [unhide HK] at HR
          have HB := hide hb
          clear hb HK
          by_cases hk0 : 0 ≤ k
          · obtain ⟨kn, rfl⟩ := Int.eq_ofNat_of_zero_le hk0
            have hkn : kn < xs.length := by omega
            rw [ansOf_some xs kn hkn] at HR
            obtain ⟨_, _, _, hg80, hgx⟩ := (unhide HG).2 xs[kn] (List.getElem_mem hkn)
            obtain ⟨ab, hab, hcab⟩ : ∃ ab : ByteArray, ab.data.toList = xs[kn].ans ∧ ∀ wr, Below w3.heap.size w3 wr → wr.cell? ⟨gl, kn * 3, none⟩ = some (.string ab) := by
              refine ⟨⟨xs[kn].ans.toArray⟩, by simp, fun wr hb => ?_⟩
              obtain ⟨_, _, _, s0, _⟩ := ((unhide HROW3).below hb).at hkn
              exact s0
            rw [← hab] at HR hgx hg80
            rw [len_list] at hg80
            have HCA := hide hcab
            have HGX := hide hgx
            clear hab hcab hgx
            go_wp2_with fail
            go_loopg [17, 18] ab.size (fun g o i wr => ∃ n : Nat, n ≤ ab.size ∧ g = ab.size - n ∧ i = .int .i64 n ∧ wr.ownsRow w3.heap.size 3 1 o n ((intsOf (ab.data.toList.take n)).map (Value.int .i64)) ∧ Below w3.heap.size w3 wr)
            case atStart => exact ⟨0, by omega, by omega, rfl, World.ownsRow_nil _ _ _ _, unhide HB⟩
            case round =>
              obtain ⟨n, hn, rfl, rfl, hown, hb⟩ := hrel
              have hcell := unhide HCA wr hb
              have hbs := hb.size
              by_cases hlt : n < ab.size
              · have hg1 := unhide HGX ab[n] (by rw [← get_list ab n hlt]; exact List.getElem_mem _)
                obtain ⟨g65, g80⟩ := hg1
                go_wp2_with (at_builtin; refine wpList_append_own _ rfl _ _ 26 rfl w3.heap.size 3 i0 (.int .i64 0) 1 8 Tryz.underlying26 hi hz0 hz1 hz2 rfl (by decide) _ _ _ rfl (hown.alloc _) ⟨wr.heap.size, 0, none⟩ 1 1 [.int .i64 ((ab[n].toNat : Int) - 65)] rfl rfl ?c1 ?c2 ?c3 ?c4 ?c5 ?_)
                case c1 =>
                  intro j u hj
                  match j, hj with
                  | 0, hj => simp at hj; subst hj; simp [Addr.add]
                case c2 => intro u hu; simp at hu; subst hu; rfl
                case c3 => unfold maxLen; omega
                case c4 => omega
                case c5 => simp; omega
                intro v' w4 hown' hgrow _
                have HB4 := hide (below_push' hb hbs hown hgrow)
                have HO4 : Hid (w4.ownsRow w3.heap.size 3 1 v' (n + 1) ((intsOf (ab.data.toList.take (n + 1))).map (Value.int .i64))) := by
                  unfold Hid; rw [intsOf_snoc ab n hlt]; exact hown'
                clear hown' hgrow hown hb hcell
                go_wp2_with fail
                go_roundg (ab.size - (n + 1))
                case measure => omega
                case rel => exact ⟨n + 1, by omega, rfl, by go_num, unhide HO4, unhide HB4⟩
              · have HOW := hide hown
                have HBW := hide hb
                clear hown hb
                go_wp2_with fail
                go_ret3
                have hnn : n = ab.size := by omega
                subst hnn
                rw [unhide HR]
                refine ⟨_, rfl, ?_, (unhide HB3).trans ((unhide HBW).mono (unhide HB3).size)⟩
                have h := own_mono (unhide HOW) (unhide HB3).size
                rw [List.take_of_length_le (by rw [len_list]; exact Nat.le_refl _)] at h
                simpa [intsOf] using h
          · rw [ansOf_neg xs k (by omega)] at HR
            have hkneg : k < 0 := by omega
            clear hk0
            go_wp2_with fail
            go_loopg [17, 18] 0 (fun g o i wr => o = .slice none 0 0 ∧ i = .int .i64 0 ∧ wr = wc)
            case atStart => exact ⟨rfl, rfl, rfl⟩
            case round =>
              obtain ⟨rfl, rfl, rfl⟩ := hrel
              go_wp2_with fail
              go_ret3
              exact IntsPost.none (unhide HR) ((unhide HB3).trans ((unhide HB).mono (unhide HB3).size))
      · rw [if_pos (by simpa using hd)] at HR
        go_enter Tryz.func87, Tryz.ntmps87
        go_wp2_with fail
        refine (refCode_any c _ hc').mono ?_
        rintro e w1 ⟨rfl, hb1⟩
        go_wp2_with fail
        refine (refTopic_any t _ ht').mono ?_
        rintro e w1' ⟨rfl, rfl⟩
        go_wp2_with fail
        refine (states_any c _ (by omega)).mono ?_
        rintro e w2 ⟨lv, k0, ok, rfl, hb2, hcase⟩
        rw [unhide HX] at hcase
        rcases hcase with ⟨_, hno, _⟩ | ⟨rfl, rfl, ys, hys, hrow⟩
        · cases hno
        cases hys
        have HB2 := hide (hb1.trans (hb2.mono hb1.size))
        have HROW := hide (hrow)
        clear hb1 hb2 hrow
        go_wp2_with fail
        refine (levels_any t _ (by omega)).mono ?_
        rintro e w3 ⟨tv, rfl, hown3, hb3⟩
        have HROW3 := hide ((unhide HROW).below hb3)
        have HB3 := hide ((unhide HB2).trans (hb3.mono (unhide HB2).size))
        clear hb3 HROW
        obtain ⟨gt, capt, rfl⟩ := own_form hown3 hlp
        have hcc := own_cap hown3
        unfold maxLen at hcc
        obtain ⟨hcap, hcap2⟩ := hcc
        have HO3 := hide hown3
        clear hown3
        obtain ⟨gl, capl, rfl, hcl, hcl2⟩ := (unhide HROW3).form (by omega)
        unfold maxLen at hcl2
        generalize hP : levs t.data.toList = P at *
        clear hP
        go_upto_block 0 with fail
        go_cut [14, 16] (fun kk _ wc => ∃ k : Int, -1 ≤ k ∧ k < xs.length ∧ kk = .int .i64 k ∧ Below w3.heap.size w3 wc ∧ Hid (walkK xs 1 P = k))
        case first =>
          go_wp2_with fail
          go_loopg [14, 16] P.length (fun g kk i wr => ∃ (k : Int) (n : Nat), n ≤ P.length ∧ g = P.length - n ∧ -1 ≤ k ∧ k < xs.length ∧ kk = .int .i64 k ∧ i = .int .i64 n ∧ Below w3.heap.size w3 wr ∧ Hid (walkK xs 1 P = walkK xs k (P.drop n)))
          case atStart => exact ⟨1, 0, by omega, by omega, by omega, by omega, rfl, rfl, Below.refl _ _, hide rfl⟩
          case round =>
            obtain ⟨k, n, hn, rfl, hk1, hk2, rfl, rfl, hb, HK⟩ := hrel
            by_cases hk0 : 0 ≤ k
            · obtain ⟨kn, rfl⟩ := Int.eq_ofNat_of_zero_le hk0
              have hkn : kn < xs.length := by omega
              by_cases hlt : n < P.length
              · have HK2 := hide ((unhide HK).trans ((walkK_on xs _ P n hlt (by omega)).trans (by rw [stepS_some xs kn _ hkn])))
                obtain ⟨av, lv, cv, s0, s1, s2, hoe⟩ := ((unhide HROW3).below hb).at hkn
                have hcell := own_str_at (own_below (unhide HO3) hb) hlt
                have hgx := (unhide HG).2 xs[kn] (List.getElem_mem hkn)
                have hfg := followE_good (xs.length : Int) xs[kn].edges xs[kn].star P[n] hgx.1 hgx.2.1 hgx.2.2.1
                have HOE := hide hoe
                have HB := hide hb
                clear hoe hb hgx
                have hPn : (⟨P[n].toArray⟩ : ByteArray).data.toList = P[n] := by simp
                generalize hpb : (⟨P[n].toArray⟩ : ByteArray) = pb at *
                clear hpb
                rw [← hPn] at HK2 hfg
                clear hPn
                go_upto_block 1 with fail
                go_cut [14] (fun kk wc => kk = .int .i64 (followE xs[kn].edges xs[kn].star pb.data.toList) ∧ Below w3.heap.size w3 wc)
                case first =>
                  go_wp2_with fail
                  go_region_with (go_at_call 106; refine (follow_any _ _ _ _ xs[kn].edges _ _ (by exact unhide HOE)).mono ?_; rintro e w' ⟨rfl, rfl⟩)
                  all_goals
                    go_wp2_with fail
                    go_meet
                    exact ⟨rfl, by have h := unhide HB; have h2 := h.size; repeat (first | exact h | apply Below.drew | (refine Below.alloc ?_ (by first | omega | (simp; omega)) _))⟩
                case rest =>
                  obtain ⟨rfl, hbc⟩ := hcut
                  have HBC := hide hbc
                  clear hbc
                  go_wp2_with fail
                  go_roundg (P.length - (n + 1))
                  case measure => omega
                  case rel => exact ⟨_, n + 1, by omega, rfl, by omega, by omega, rfl, by go_num, unhide HBC, HK2⟩
              · have HZ := hide ((unhide HK).trans (walkK_end xs _ P n hlt))
                have HB := hide hb
                clear hb
                go_wp2_with fail
                go_meet
                exact ⟨_, by omega, by omega, rfl, unhide HB, HZ⟩
            · have HZ := hide ((unhide HK).trans (walkK_neg xs _ _ (by omega)))
              have HB := hide hb
              have hk' : k < 0 := by omega
              clear hb hk0
              by_cases hlt : n < P.length
              all_goals
                go_wp2_with fail
                go_meet
                exact ⟨_, by omega, by omega, rfl, unhide HB, HZ⟩
        case rest =>
          obtain ⟨k, hk1, hk2, rfl, hb, HK⟩ := hcut
          rw [unhide HK] at HR
          have HB := hide hb
          clear hb HK
          by_cases hk0 : 0 ≤ k
          · obtain ⟨kn, rfl⟩ := Int.eq_ofNat_of_zero_le hk0
            have hkn : kn < xs.length := by omega
            rw [ansOf_some xs kn hkn] at HR
            obtain ⟨_, _, _, hg80, hgx⟩ := (unhide HG).2 xs[kn] (List.getElem_mem hkn)
            obtain ⟨ab, hab, hcab⟩ : ∃ ab : ByteArray, ab.data.toList = xs[kn].ans ∧ ∀ wr, Below w3.heap.size w3 wr → wr.cell? ⟨gl, kn * 3, none⟩ = some (.string ab) := by
              refine ⟨⟨xs[kn].ans.toArray⟩, by simp, fun wr hb => ?_⟩
              obtain ⟨_, _, _, s0, _⟩ := ((unhide HROW3).below hb).at hkn
              exact s0
            rw [← hab] at HR hgx hg80
            rw [len_list] at hg80
            have HCA := hide hcab
            have HGX := hide hgx
            clear hab hcab hgx
            go_wp2_with fail
            go_loopg [17, 18] ab.size (fun g o i wr => ∃ n : Nat, n ≤ ab.size ∧ g = ab.size - n ∧ i = .int .i64 n ∧ wr.ownsRow w3.heap.size 3 1 o n ((intsOf (ab.data.toList.take n)).map (Value.int .i64)) ∧ Below w3.heap.size w3 wr)
            case atStart => exact ⟨0, by omega, by omega, rfl, World.ownsRow_nil _ _ _ _, unhide HB⟩
            case round =>
              obtain ⟨n, hn, rfl, rfl, hown, hb⟩ := hrel
              have hcell := unhide HCA wr hb
              have hbs := hb.size
              by_cases hlt : n < ab.size
              · have hg1 := unhide HGX ab[n] (by rw [← get_list ab n hlt]; exact List.getElem_mem _)
                obtain ⟨g65, g80⟩ := hg1
                go_wp2_with (at_builtin; refine wpList_append_own _ rfl _ _ 26 rfl w3.heap.size 3 i0 (.int .i64 0) 1 8 Tryz.underlying26 hi hz0 hz1 hz2 rfl (by decide) _ _ _ rfl (hown.alloc _) ⟨wr.heap.size, 0, none⟩ 1 1 [.int .i64 ((ab[n].toNat : Int) - 65)] rfl rfl ?c1 ?c2 ?c3 ?c4 ?c5 ?_)
                case c1 =>
                  intro j u hj
                  match j, hj with
                  | 0, hj => simp at hj; subst hj; simp [Addr.add]
                case c2 => intro u hu; simp at hu; subst hu; rfl
                case c3 => unfold maxLen; omega
                case c4 => omega
                case c5 => simp; omega
                intro v' w4 hown' hgrow _
                have HB4 := hide (below_push' hb hbs hown hgrow)
                have HO4 : Hid (w4.ownsRow w3.heap.size 3 1 v' (n + 1) ((intsOf (ab.data.toList.take (n + 1))).map (Value.int .i64))) := by
                  unfold Hid; rw [intsOf_snoc ab n hlt]; exact hown'
                clear hown' hgrow hown hb hcell
                go_wp2_with fail
                go_roundg (ab.size - (n + 1))
                case measure => omega
                case rel => exact ⟨n + 1, by omega, rfl, by go_num, unhide HO4, unhide HB4⟩
              · have HOW := hide hown
                have HBW := hide hb
                clear hown hb
                go_wp2_with fail
                go_ret3
                have hnn : n = ab.size := by omega
                subst hnn
                rw [unhide HR]
                refine ⟨_, rfl, ?_, (unhide HB3).trans ((unhide HBW).mono (unhide HB3).size)⟩
                have h := own_mono (unhide HOW) (unhide HB3).size
                rw [List.take_of_length_le (by rw [len_list]; exact Nat.le_refl _)] at h
                simpa [intsOf] using h
          · rw [ansOf_neg xs k (by omega)] at HR
            have hkneg : k < 0 := by omega
            clear hk0
            go_wp2_with fail
            go_loopg [17, 18] 0 (fun g o i wr => o = .slice none 0 0 ∧ i = .int .i64 0 ∧ wr = wc)
            case atStart => exact ⟨rfl, rfl, rfl⟩
            case round =>
              obtain ⟨rfl, rfl, rfl⟩ := hrel
              go_wp2_with fail
              go_ret3
              exact IntsPost.none (unhide HR) ((unhide HB3).trans ((unhide HB).mono (unhide HB3).size))
    · have b4 : ((topicR t.data.toList).1 != 0) = true := by simp [h4]
      have HR := hide (walkR_topic c t (by omega) (by omega) h3 h4)
      clear h3 h4
      go_enter Tryz.func87, Tryz.ntmps87
      go_wp2_with fail
      refine (refCode_any c _ hc').mono ?_
      rintro e w1 ⟨rfl, hb1⟩
      go_wp2_with fail
      refine (refTopic_any t _ ht').mono ?_
      rintro e w1' ⟨rfl, rfl⟩
      go_wp2_with fail
      go_ret3
      exact IntsPost.none (unhide HR) hb1
  · have b3 : ((codeR c.data.toList).1 != 0) = true := by simp [h3]
    have HR := hide (walkR_code c t (by omega) (by omega) h3)
    clear h3
    go_enter Tryz.func87, Tryz.ntmps87
    go_wp2_with fail
    refine (refCode_any c _ hc').mono ?_
    rintro e w1 ⟨rfl, hb1⟩
    go_wp2_with fail
    go_ret3
    exact IntsPost.none (unhide HR) hb1

end Go.Proofs.YtchhmojnoiephabGreatDoor
