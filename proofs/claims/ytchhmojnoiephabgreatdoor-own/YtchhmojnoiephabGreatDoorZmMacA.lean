import Derived.Test.YtchhmojnoiephabGreatDoorZmPureI
import Derived.Test.YtchhmojnoiephabGreatDoorFrA
import Derived.Test.YtchhmojnoiephabGreatDoorWalkN
import Derived.Deep.RegionWith
import Derived.BigQuiet
import Derived.Test.YtchhmojnoiephabGreatDoorWalkF
import Derived.Test.YtchhmojnoiephabGreatDoorWalkD
import Derived.Lib.SlicesS
namespace Go.Proofs.YtchhmojnoiephabGreatDoor
open Go.ChangeShapes Go.WideShapes Go.ChangeAt Go.RowKit
set_option linter.unusedVariables false

set_option maxHeartbeats 1000000 in
theorem group_any (gv : Value) (g : List Int) (k : Int) (w : World) (h : IntsAt w gv g) (hk : k < g.length) :
    Calls Tryz.prog 131 #[gv, .int .i64 k] w fun e w' => e = .returned (.int .i64 (grpF g k)) ∧ w' = w := by
  obtain ⟨a, c, rfl, hl⟩ := h.form
  unfold maxLen at hl
  by_cases h0 : k < 0
  · have HG := hide (grpF_neg g k h0)
    go_enter Tryz.func131, Tryz.ntmps131
    go_wp2
    go_ret
    exact ⟨by rw [unhide HG]; rfl, rfl⟩
  · obtain ⟨n, rfl⟩ : ∃ n : Nat, k = n := ⟨k.toNat, by omega⟩
    have hn : n < g.length := by omega
    rcases h with ⟨_, rfl⟩ | ⟨b, off, cap, he, h1, h2, h3⟩
    · simp at hn
    · cases he
      have c0 := h3 n hn
      have HG : Hid (grpF g (n : Int) = g[n]) := by unfold Hid; rw [grpF_nat]; simp [List.getD, List.getElem?_eq_getElem hn]
      clear h3
      generalize g[n] = x at *
      go_enter Tryz.func131, Tryz.ntmps131
      go_wp2
      go_ret
      exact ⟨by rw [unhide HG]; rfl, rfl⟩

theorem IntsAt.at {w : World} {v : Value} {g : List Int} (h : IntsAt w v g) (hn : 0 < g.length) : ∃ b off cap, v = .slice (some ⟨b, off, none⟩) g.length cap ∧ g.length ≤ cap ∧ cap ≤ 9223372036854775807 ∧ ∀ i (h : i < g.length), w.cell? ⟨b, off + i, none⟩ = some (.int .i64 (g.getD i (-1))) := by
  rcases h with ⟨_, rfl⟩ | ⟨b, off, cap, he, h1, h2, h3⟩
  · simp at hn
  · unfold maxLen at h2
    exact ⟨b, off, cap, he, h1, by omega, fun i hi => by rw [h3 i hi]; simp [List.getD, List.getElem?_eq_getElem hi]⟩

set_option maxHeartbeats 8000000 in
set_option maxRecDepth 1000000 in
theorem alike_any (sv gv tv : Value) (xs : List St) (g : List Int) (lv : List (List UInt8)) (B B2 i j : Nat) (w : World) (hs : StRow w B sv xs) (hg : IntsAt w gv g) (hl : w.ownsRow B2 9 1 tv lv.length (lv.map strV))
    (hlen : g.length = xs.length) (hx : inX xs) (hi : i < xs.length) (hj : j < xs.length) (hfew : xs.length ≤ 900) (hlv : lv.length ≤ 1000000) :
    Calls Tryz.prog 132 #[sv, gv, tv, .int .i64 i, .int .i64 j] w fun e w' => e = .returned (.bool (alikeF xs g lv i j)) ∧ Below w.heap.size w w' := by
  obtain ⟨gs, caps, rfl, hc1, hc2⟩ := hs.form (by omega)
  unfold maxLen at hc2
  obtain ⟨av, ln, cv, rfl⟩ := own_slice hl
  have hln : ln = lv.length := own_len hl
  subst hln
  obtain ⟨ai, li, ci, p0, p1, p2, hoi⟩ := hs.at hi
  obtain ⟨aj, lj, cj, q0, q1, q2, hoj⟩ := hs.at hj
  have HA := hide (alikeF_iff (xs := xs) (g := g) (lv := lv) hi hj)
  have hsi := (hx xs[i] (List.getElem_mem hi)).1
  have hsj := (hx xs[j] (List.getElem_mem hj)).1
  have HG := hide hg
  obtain ⟨bg, og, cg, rfl, hg1, hg2, hgc⟩ := hg.at (by omega)
  have gi := hgc i (by omega)
  have gj := hgc j (by omega)
  have HGA := hide (fun (k : Int) (hk : k < xs.length) (x : World) (hb : Below w.heap.size w x) => group_any _ g k x ((unhide HG).below hb) (by omega))
  rw [hlen] at HGA ⊢
  rw [hlen] at hg1
  clear hgc hs
  have HX : Hid (inX xs) := hx
  have HOI := hide hoi
  have HOJ := hide hoj
  have HL := hide hl
  clear hx hoi hoj hl
  by_cases hgg : g.getD i (-1) = g.getD j (-1)
  · by_cases hss : grpF g xs[i].star = grpF g xs[j].star
    · have HF1 : Hid ((∃ l ∈ lv, ¬ grpF g (followE xs[i].edges xs[i].star l) = grpF g (followE xs[j].edges xs[j].star l)) → alikeF xs g lv i j = false) := by
        rintro ⟨l, h1, h2⟩
        rw [Bool.eq_false_iff]
        intro h
        exact h2 (((sameF_iff _ _ _ _).1 ((unhide HA).1 h).2).2 l h1)
      have HF2 : Hid ((∀ l ∈ lv, grpF g (followE xs[i].edges xs[i].star l) = grpF g (followE xs[j].edges xs[j].star l)) → alikeF xs g lv i j = true) := fun h => (unhide HA).2 ⟨hgg, (sameF_iff _ _ _ _).2 ⟨hss, h⟩⟩
      have hne : (g.getD i (-1) != g.getD j (-1)) = false := by simpa using hgg
      have hns : (grpF g xs[i].star != grpF g xs[j].star) = false := by simpa using hss
      have HIN := hide (fun l => And.intro (followE_good (xs.length : Int) xs[i].edges xs[i].star l ((unhide HX) _ (List.getElem_mem hi)).2 hsi.1 hsi.2) (followE_good (xs.length : Int) xs[j].edges xs[j].star l ((unhide HX) _ (List.getElem_mem hj)).2 hsj.1 hsj.2))
      clear HA hgg hss HX
      generalize g.getD i (-1) = x at *
      generalize g.getD j (-1) = y at *
      generalize alikeF xs g lv i j = rr at *
      go_enter Tryz.func132, Tryz.ntmps132
      go_upto_region 1 with fail
      go_cut [39] (fun c wc => c = .bool false ∧ Below w.heap.size w wc)
      case first =>
        go_wp2_with fail
        go_quiet (first | (go_at_call 131; refine Calls.quiet_of_same (unhide HGA _ ?_ _ ?_); (first | exact hsi.2 | exact hsj.2); (exact ⟨rfl, rfl, rfl, Nat.le_refl _, fun _ _ => rfl⟩)))
        go_wp2_with fail
        go_meet
        exact ⟨rfl, ⟨rfl, rfl, rfl, Nat.le_refl _, fun _ _ => rfl⟩⟩
      case rest =>
        obtain ⟨rfl, hbc⟩ := hcut
        have HBC := hide hbc
        clear hbc
        go_wp2_with fail
        go_loopg [11, 12, 13] lv.length (fun gk kk _ _ wr => ∃ n : Nat, n ≤ lv.length ∧ gk = lv.length - n ∧ kk = .int .i64 n ∧ Below w.heap.size w wr ∧ Hid (∀ l ∈ lv.take n, grpF g (followE xs[i].edges xs[i].star l) = grpF g (followE xs[j].edges xs[j].star l)))
        case atStart => exact ⟨0, by omega, by omega, rfl, unhide HBC, fun l hl => by simp at hl⟩
        case round =>
          obtain ⟨n, hn, rfl, rfl, hb, HALL⟩ := hrel
          clear HBC
          by_cases hlt : n < lv.length
          · obtain ⟨gt, ct, he⟩ := own_form (unhide HL) (by omega)
            cases he
            have hct := own_cap (unhide HL)
            unfold maxLen at hct
            obtain ⟨hct1, hct2⟩ := hct
            have t0 := own_str_at (own_below (unhide HL) hb) hlt
            have bgs := blk_lt p0
            have P0 := (hb.cell (p := ⟨gs, i * 3, none⟩) bgs).trans p0
            have P1 := (hb.cell (p := ⟨gs, i * 3 + 1, none⟩) bgs).trans p1
            have P2 := (hb.cell (p := ⟨gs, i * 3 + 2, none⟩) bgs).trans p2
            have HOI2 := hide (own_below (unhide HOI) hb)
            have HOJ2 := hide (fun (x : World) (hx : Below w.heap.size w x) => own_below (unhide HOJ) hx)
            have HQ := hide (fun (x : World) (hx : Below w.heap.size w x) => And.intro ((hx.cell (p := ⟨gs, j * 3, none⟩) bgs).trans q0) (And.intro ((hx.cell (p := ⟨gs, j * 3 + 1, none⟩) bgs).trans q1) ((hx.cell (p := ⟨gs, j * 3 + 2, none⟩) bgs).trans q2)))
            have HTT := hide (fun (x : World) (hx : Below w.heap.size w x) => own_str_at (own_below (unhide HL) hx) hlt)
            have HB := hide hb
            have hfi := (unhide HIN lv[n]).1
            have hfj := (unhide HIN lv[n]).2
            have hPn : (⟨lv[n].toArray⟩ : ByteArray).data.toList = lv[n] := by simp
            have HSTEP : Hid (∀ l ∈ lv.take (n + 1), (l ∈ lv.take n ∨ l = lv[n])) := by
              intro l hl
              rw [List.take_succ_eq_append_getElem hlt] at hl
              rcases List.mem_append.1 hl with h | h
              · exact Or.inl h
              · exact Or.inr (List.mem_singleton.1 h)
            have HMEM := hide (List.getElem_mem hlt)
            generalize hpb : (⟨lv[n].toArray⟩ : ByteArray) = pb at *
            clear hpb
            generalize lv[n] = ln at *
            subst hPn
            clear hb p0 p1 p2 q0 q1 q2 gi gj bgs
            go_upto_region 6 with fail
            go_cut [12] (fun a wc => a = .int .i64 (followE xs[i].edges xs[i].star pb.data.toList) ∧ Below w.heap.size w wc)
            case first =>
              go_wp2_with fail
              go_region_with (go_at_call 106; refine (follow_any _ _ _ _ xs[i].edges _ _ (by exact unhide HOI2)).mono ?_; rintro e w' ⟨rfl, rfl⟩)
              all_goals
                go_wp2_with fail
                go_meet
                exact ⟨rfl, by have h := unhide HB; have h2 := h.size; repeat (first | exact h | apply Below.drew | (refine Below.alloc ?_ (by first | omega | (simp; omega)) _))⟩
            case rest =>
              obtain ⟨rfl, hb1⟩ := hcut
              clear P0 P1 P2 t0 HB
              have t1 := unhide HTT _ hb1
              obtain ⟨q0, q1, q2⟩ := unhide HQ _ hb1
              have HOJ3 := hide (unhide HOJ2 _ hb1)
              have HB1 := hide hb1
              clear hb1
              go_upto_region 7 with fail
              go_cut [13] (fun a wd => a = .int .i64 (followE xs[j].edges xs[j].star pb.data.toList) ∧ Below w.heap.size w wd)
              case first =>
                go_wp2_with fail
                go_region_with (go_at_call 106; refine (follow_any _ _ _ _ xs[j].edges _ _ (by exact unhide HOJ3)).mono ?_; rintro e w' ⟨rfl, rfl⟩)
                all_goals
                  go_wp2_with fail
                  go_meet
                  exact ⟨rfl, by have h := unhide HB1; have h2 := h.size; repeat (first | exact h | apply Below.drew | (refine Below.alloc ?_ (by first | omega | (simp; omega)) _))⟩
              case rest =>
                obtain ⟨rfl, hb2⟩ := hcut
                clear q0 q1 q2 t1 HB1
                have HB2 := hide hb2
                clear hb2
                by_cases heq : grpF g (followE xs[i].edges xs[i].star pb.data.toList) = grpF g (followE xs[j].edges xs[j].star pb.data.toList)
                · have HEQ := hide heq
                  have hbe : (grpF g (followE xs[i].edges xs[i].star pb.data.toList) != grpF g (followE xs[j].edges xs[j].star pb.data.toList)) = false := by simpa using heq
                  clear heq
                  go_wp2_with (go_at_call 131; refine (unhide HGA _ ?_ _ ?_).mono ?_; (first | exact hfi.2 | exact hfj.2); (exact unhide HB2); rintro e w' ⟨rfl, rfl⟩)
                  go_roundg (lv.length - (n + 1))
                  case measure => omega
                  case rel => exact ⟨n + 1, by omega, rfl, by go_num, unhide HB2, fun l hl => by
                    rcases unhide HSTEP l hl with h | h
                    · exact unhide HALL l h
                    · rw [h]; exact unhide HEQ⟩
                · have HR := hide (unhide HF1 ⟨_, unhide HMEM, heq⟩)
                  have hbe : (grpF g (followE xs[i].edges xs[i].star pb.data.toList) != grpF g (followE xs[j].edges xs[j].star pb.data.toList)) = true := by simpa using heq
                  clear heq
                  go_wp2_with (go_at_call 131; refine (unhide HGA _ ?_ _ ?_).mono ?_; (first | exact hfi.2 | exact hfj.2); (exact unhide HB2); rintro e w' ⟨rfl, rfl⟩)
                  go_ret
                  exact ⟨by rw [unhide HR]; rfl, unhide HB2⟩
          · have HR := hide (unhide HF2 (fun l hl => unhide HALL l (by rw [List.take_of_length_le (by omega)]; exact hl)))
            have HB := hide hb
            clear hb
            go_wp2_with fail
            go_ret
            exact ⟨by rw [unhide HR]; rfl, unhide HB⟩
    · have HF : Hid (alikeF xs g lv i j = false) := by
        unfold Hid
        rw [Bool.eq_false_iff]
        intro h
        exact hss ((sameF_iff _ _ _ _).1 ((unhide HA).1 h).2).1
      have hne : (g.getD i (-1) != g.getD j (-1)) = false := by simpa using hgg
      have hns : (grpF g xs[i].star != grpF g xs[j].star) = true := by simpa using hss
      clear HA hgg hss
      generalize g.getD i (-1) = x at *
      generalize g.getD j (-1) = y at *
      generalize alikeF xs g lv i j = rr at *
      go_enter Tryz.func132, Tryz.ntmps132
      go_upto_region 1 with fail
      go_cut [39] (fun c wc => c = .bool true ∧ Below w.heap.size w wc)
      case first =>
        go_wp2_with fail
        go_quiet (first | (go_at_call 131; refine Calls.quiet_of_same (unhide HGA _ ?_ _ ?_); (first | exact hsi.2 | exact hsj.2); (exact ⟨rfl, rfl, rfl, Nat.le_refl _, fun _ _ => rfl⟩)))
        go_wp2_with fail
        go_meet
        exact ⟨rfl, ⟨rfl, rfl, rfl, Nat.le_refl _, fun _ _ => rfl⟩⟩
      case rest =>
        obtain ⟨rfl, hbc⟩ := hcut
        have HBC := hide hbc
        clear hbc
        go_wp2_with fail
        go_ret
        exact ⟨by rw [unhide HF]; rfl, unhide HBC⟩
  · have HF : Hid (alikeF xs g lv i j = false) := by
      unfold Hid
      rw [Bool.eq_false_iff]
      intro h
      exact hgg ((unhide HA).1 h).1
    have hne : (g.getD i (-1) != g.getD j (-1)) = true := by simpa using hgg
    clear HA hgg
    generalize g.getD i (-1) = x at *
    generalize g.getD j (-1) = y at *
    generalize alikeF xs g lv i j = rr at *
    go_enter Tryz.func132, Tryz.ntmps132
    go_upto_region 1 with fail
    go_cut [39] (fun c wc => c = .bool true ∧ Below w.heap.size w wc)
    case first =>
      go_wp2_with fail
      go_quiet (fail)
      go_wp2_with fail
      go_meet
      exact ⟨rfl, ⟨rfl, rfl, rfl, Nat.le_refl _, fun _ _ => rfl⟩⟩
    case rest =>
      obtain ⟨rfl, hbc⟩ := hcut
      have HBC := hide hbc
      clear hbc
      go_wp2_with fail
      go_ret
      exact ⟨by rw [unhide HF]; rfl, unhide HBC⟩

end Go.Proofs.YtchhmojnoiephabGreatDoor

namespace Go.Proofs.YtchhmojnoiephabGreatDoor
open Go.ChangeShapes Go.WideShapes Go.ChangeAt Go.RowKit
set_option linter.unusedVariables false

theorem firstA_hit (p : Nat → Bool) (n i : Nat) (h : n < i) (hp : p n = true) : firstA p n (i - n) = n := by
  obtain ⟨k, hk⟩ : ∃ k, i - n = k + 1 := ⟨i - n - 1, by omega⟩
  rw [hk]; simp only [firstA]; rw [if_pos hp]
theorem firstA_miss (p : Nat → Bool) (n i : Nat) (h : n < i) (hp : p n = false) : firstA p n (i - n) = firstA p (n + 1) (i - (n + 1)) := by
  obtain ⟨k, hk⟩ : ∃ k, i - n = k + 1 := ⟨i - n - 1, by omega⟩
  rw [hk, show i - (n + 1) = k from by omega]; simp only [firstA]; rw [if_neg (by simp [hp])]

set_option maxHeartbeats 8000000 in
set_option maxRecDepth 1000000 in
theorem cut_any (sv gv tv : Value) (xs : List St) (g : List Int) (lv : List (List UInt8)) (B B2 i : Nat) (w : World) (hs : StRow w B sv xs) (hg : IntsAt w gv g) (hl : w.ownsRow B2 9 1 tv lv.length (lv.map strV))
    (hlen : g.length = xs.length) (hx : inX xs) (hi : i < xs.length) (hfew : xs.length ≤ 900) (hlv : lv.length ≤ 1000000) :
    Calls Tryz.prog 121 #[sv, gv, tv, .int .i64 i] w fun e w' => e = .returned (.int .i64 (cutF xs g lv i)) ∧ Below w.heap.size w w' := by
  have HALK := hide (fun (n : Nat) (hn : n < xs.length) (x : World) (hb : Below w.heap.size w x) => alike_any sv gv tv xs g lv B B2 i n x (hs.below hb) (hg.below hb) (own_below hl hb) hlen hx hi hn hfew hlv)
  obtain ⟨gs, caps, rfl, hc1, hc2⟩ := hs.form (by omega)
  unfold maxLen at hc2
  obtain ⟨av, ln, cv, rfl⟩ := own_slice hl
  have hln : ln = lv.length := own_len hl
  subst hln
  obtain ⟨ai, li, ci, p0, p1, p2, hoi⟩ := hs.at hi
  have hli : li = xs[i].edges.length := own_len hoi
  subst hli
  have hsi := (hx xs[i] (List.getElem_mem hi)).1
  have HEI := hide (hx xs[i] (List.getElem_mem hi)).2
  have HG := hide hg
  obtain ⟨bg, og, cg, rfl, hg1, hg2, hgc⟩ := hg.at (by omega)
  have gi := hgc i (by omega)
  have HGC := hide hgc
  have HGA := hide (fun (k : Int) (hk : k < xs.length) (x : World) (hb : Below w.heap.size w x) => group_any _ g k x ((unhide HG).below hb) (by omega))
  have HDF := hide (deadF_iff g xs[i])
  have HC0 : Hid (cutF xs g lv i = if g.getD i (-1) = -1 ∧ deadF g xs[i] = true then -1 else ((firstA (alikeF xs g lv i) 0 i : Nat) : Int)) := by
    unfold Hid cutF; rw [List.getElem?_eq_getElem hi]
  rw [hlen] at HGA HALK ⊢
  rw [hlen] at hg1
  have HOI := hide hoi
  clear hgc hs hg hx hl hoi
  by_cases hg0 : g.getD i (-1) = -1
  · have hb0 : (g.getD i (-1) == -1) = true := by simpa using hg0
    have HD1 : Hid (deadF g xs[i] = true → cutF xs g lv i = -1) := fun h => (unhide HC0).trans (if_pos ⟨hg0, h⟩)
    have HD2 : Hid (deadF g xs[i] = false → cutF xs g lv i = ((firstA (alikeF xs g lv i) 0 i : Nat) : Int)) := fun h => (unhide HC0).trans (if_neg (fun h2 => by rw [h] at h2; cases h2.2))
    have HDD : Hid (deadF g xs[i] = (decide (grpF g xs[i].star = -1) && xs[i].edges.all fun e => decide (grpF g e.2 = -1))) := rfl
    clear HC0 hg0 HDF
    generalize g.getD i (-1) = x at *
    generalize cutF xs g lv i = rr at *
    generalize deadF g xs[i] = dd at *
    go_enter Tryz.func121, Tryz.ntmps121
    go_upto_block 0 with (go_at_call 131; refine (unhide HGA _ ?_ _ ?_).mono ?_; (exact hsi.2); (exact ⟨rfl, rfl, rfl, Nat.le_refl _, fun _ _ => rfl⟩); rintro e w' ⟨rfl, hw'⟩; replace hw' := hw'.symm; subst hw')
    go_cut [9] (fun c wc => c = .bool dd ∧ wc = w)
    case first =>
      go_wp2_with fail
      go_loopg [9, 10] xs[i].edges.length (fun gk c kk wr => ∃ (n : Nat) (b : Bool), n ≤ xs[i].edges.length ∧ gk = xs[i].edges.length - n ∧ kk = .int .i64 n ∧ c = .bool b ∧ wr = w ∧ Hid (b = (decide (grpF g xs[i].star = -1) && (xs[i].edges.take n).all fun e => decide (grpF g e.2 = -1))))
      case atStart => exact ⟨0, _, by omega, by omega, rfl, rfl, rfl, by unfold Hid; simp; rfl⟩
      case round =>
        obtain ⟨n, b, hn, rfl, rfl, rfl, hwr, HK⟩ := hrel
        replace hwr := hwr.symm
        subst hwr
        by_cases hlt : n < xs[i].edges.length
        · obtain ⟨ge, ce, he⟩ := own_form (unhide HOI) (by omega)
          cases he
          have hct := own_cap (unhide HOI)
          unfold maxLen at hct
          obtain ⟨hct1, hct2⟩ := hct
          obtain ⟨e1, e2⟩ := own_edge (unhide HOI) hlt
          have hr := unhide HEI xs[i].edges[n] (List.getElem_mem hlt)
          obtain ⟨tn, htn⟩ : ∃ tn : Nat, xs[i].edges[n].2 = tn := ⟨xs[i].edges[n].2.toNat, by omega⟩
          rw [htn] at e2 hr
          have gt := unhide HGC tn (by omega)
          have HST : Hid (((xs[i].edges.take (n + 1)).all fun e => decide (grpF g e.2 = -1)) = (((xs[i].edges.take n).all fun e => decide (grpF g e.2 = -1)) && decide (g.getD tn (-1) = -1))) := by
            unfold Hid
            rw [List.take_succ_eq_append_getElem hlt, List.all_append]
            simp only [List.all_cons, List.all_nil, Bool.and_true]
            rw [htn, grpF_nat]
          clear htn
          generalize g.getD tn (-1) = y at *
          by_cases hy : y = -1
          · have hyb : (y != -1) = false := by simpa using hy
            have HN : Hid (b = (decide (grpF g xs[i].star = -1) && (xs[i].edges.take (n + 1)).all fun e => decide (grpF g e.2 = -1))) := by
              unfold Hid; rw [unhide HST, unhide HK]; simp [hy]
            clear hy
            go_wp2_with fail
            go_roundg (xs[i].edges.length - (n + 1))
            case measure => omega
            case rel => exact ⟨n + 1, b, by omega, rfl, by go_num, rfl, rfl, HN⟩
          · have hyb : (y != -1) = true := by simpa using hy
            have HN : Hid (false = (decide (grpF g xs[i].star = -1) && (xs[i].edges.take (n + 1)).all fun e => decide (grpF g e.2 = -1))) := by
              unfold Hid; rw [unhide HST]; simp [hy]
            clear hy
            go_wp2_with fail
            go_roundg (xs[i].edges.length - (n + 1))
            case measure => omega
            case rel => exact ⟨n + 1, false, by omega, rfl, by go_num, rfl, rfl, HN⟩
        · rw [List.take_of_length_le (by omega)] at HK
          have hbd : b = dd := (unhide HK).trans (unhide HDD).symm
          subst hbd
          go_wp2_with fail
          go_meet
          exact ⟨rfl, rfl⟩
    case rest =>
      obtain ⟨rfl, hwc⟩ := hcut
      replace hwc := hwc.symm
      subst hwc
      cases dd
      · have HC := hide (unhide HD2 rfl)
        clear HD1 HD2 HDD
        go_wp2_with fail
        go_loopg [11, 12] i (fun gk jj _ wr => ∃ n : Nat, n ≤ i ∧ gk = i - n ∧ jj = .int .i64 n ∧ Below w.heap.size w wr ∧ Hid (firstA (alikeF xs g lv i) 0 i = firstA (alikeF xs g lv i) n (i - n)))
        case atStart => exact ⟨0, by omega, by omega, rfl, ⟨rfl, rfl, rfl, Nat.le_refl _, fun _ _ => rfl⟩, rfl⟩
        case round =>
          obtain ⟨n, hn, rfl, rfl, hb, HK⟩ := hrel
          by_cases hlt : n < i
          · have HAL := hide (unhide HALK n (by omega) _ hb)
            have HB := hide hb
            clear hb
            cases hal : alikeF xs g lv i n with
            | true =>
              have HH := hide ((unhide HK).trans (firstA_hit _ n i hlt hal))
              rw [hal] at HAL
              clear hal
              go_wp2_with fail
              refine (unhide HAL).mono ?_
              rintro e w2 ⟨rfl, hb2⟩
              have HB2 := hide ((unhide HB).trans (hb2.mono (unhide HB).size))
              clear hb2
              go_wp2_with fail
              go_ret
              exact ⟨by rw [unhide HC, unhide HH]; rfl, unhide HB2⟩
            | false =>
              have HH := hide ((unhide HK).trans (firstA_miss _ n i hlt hal))
              rw [hal] at HAL
              clear hal
              go_wp2_with fail
              refine (unhide HAL).mono ?_
              rintro e w2 ⟨rfl, hb2⟩
              have HB2 := hide ((unhide HB).trans (hb2.mono (unhide HB).size))
              clear hb2
              go_wp2_with fail
              go_roundg (i - (n + 1))
              case measure => omega
              case rel => exact ⟨n + 1, by omega, rfl, by go_num, unhide HB2, HH⟩
          · obtain rfl : n = i := by omega
            have HH : Hid (firstA (alikeF xs g lv n) 0 n = n) := (unhide HK).trans (by rw [Nat.sub_self]; rfl)
            have HB := hide hb
            clear hb
            go_wp2_with fail
            go_ret
            exact ⟨by rw [unhide HC, unhide HH]; rfl, unhide HB⟩
      · have HC := hide (unhide HD1 rfl)
        go_wp2_with fail
        go_ret
        exact ⟨by rw [unhide HC]; rfl, Below.refl _ _⟩
  · have hb0 : (g.getD i (-1) == -1) = false := by simpa using hg0
    have HC : Hid (cutF xs g lv i = ((firstA (alikeF xs g lv i) 0 i : Nat) : Int)) := (unhide HC0).trans (if_neg (fun h => hg0 h.1))
    clear HC0 hg0
    generalize g.getD i (-1) = x at *
    generalize cutF xs g lv i = rr at *
    go_enter Tryz.func121, Tryz.ntmps121
    go_wp2_with fail
    go_loopg [11, 12] i (fun gk jj _ wr => ∃ n : Nat, n ≤ i ∧ gk = i - n ∧ jj = .int .i64 n ∧ Below w.heap.size w wr ∧ Hid (firstA (alikeF xs g lv i) 0 i = firstA (alikeF xs g lv i) n (i - n)))
    case atStart => exact ⟨0, by omega, by omega, rfl, ⟨rfl, rfl, rfl, Nat.le_refl _, fun _ _ => rfl⟩, rfl⟩
    case round =>
      obtain ⟨n, hn, rfl, rfl, hb, HK⟩ := hrel
      by_cases hlt : n < i
      · have HAL := hide (unhide HALK n (by omega) _ hb)
        have HB := hide hb
        clear hb
        cases hal : alikeF xs g lv i n with
        | true =>
          have HH := hide ((unhide HK).trans (firstA_hit _ n i hlt hal))
          rw [hal] at HAL
          clear hal
          go_wp2_with fail
          refine (unhide HAL).mono ?_
          rintro e w2 ⟨rfl, hb2⟩
          have HB2 := hide ((unhide HB).trans (hb2.mono (unhide HB).size))
          clear hb2
          go_wp2_with fail
          go_ret
          exact ⟨by rw [unhide HC, unhide HH]; rfl, unhide HB2⟩
        | false =>
          have HH := hide ((unhide HK).trans (firstA_miss _ n i hlt hal))
          rw [hal] at HAL
          clear hal
          go_wp2_with fail
          refine (unhide HAL).mono ?_
          rintro e w2 ⟨rfl, hb2⟩
          have HB2 := hide ((unhide HB).trans (hb2.mono (unhide HB).size))
          clear hb2
          go_wp2_with fail
          go_roundg (i - (n + 1))
          case measure => omega
          case rel => exact ⟨n + 1, by omega, rfl, by go_num, unhide HB2, HH⟩
      · obtain rfl : n = i := by omega
        have HH : Hid (firstA (alikeF xs g lv n) 0 n = n) := (unhide HK).trans (by rw [Nat.sub_self]; rfl)
        have HB := hide hb
        clear hb
        go_wp2_with fail
        go_ret
        exact ⟨by rw [unhide HC, unhide HH]; rfl, unhide HB⟩

end Go.Proofs.YtchhmojnoiephabGreatDoor

/- The program's threads in memory: what is left of them, whether they stay, those that live on, who has arrived. -/
namespace Go.Proofs.YtchhmojnoiephabGreatDoor
open Go.ChangeShapes Go.WideShapes Go.ChangeAt Go.RowKit
set_option linter.unusedVariables false

/-- a thread of the program: the filter, where it goes on, who -/
abbrev ThrC := List UInt8 × Nat × Int
def absT (c : ThrC) : Thr := (levsFrom c.1 c.2.1, c.2.2)
def okC (c : ThrC) : Prop := c.1.length ≤ 24 ∧ c.2.1 ≤ 25
def thrCells (T : List ThrC) : List Value := T.flatMap fun c => [strV c.1, .int .i64 (c.2.1 : Int), .int .i64 c.2.2]

theorem thrCells_len (T : List ThrC) : (thrCells T).length = T.length * 3 := by
  induction T with
  | nil => rfl
  | cons e T ih => simp [thrCells] at ih ⊢; omega
theorem thrCells_snoc (T : List ThrC) (c : ThrC) : thrCells (T ++ [c]) = thrCells T ++ [strV c.1, .int .i64 (c.2.1 : Int), .int .i64 c.2.2] := by simp [thrCells]
theorem thrCells_at (T : List ThrC) (k : Nat) (h : k < T.length) : (thrCells T)[k * 3]? = some (strV T[k].1) ∧ (thrCells T)[k * 3 + 1]? = some (.int .i64 (T[k].2.1 : Int)) ∧ (thrCells T)[k * 3 + 2]? = some (.int .i64 T[k].2.2) := by
  induction T generalizing k with
  | nil => simp at h
  | cons e E ih =>
    cases k with
    | zero => simp [thrCells]
    | succ k =>
      have := ih k (by simpa using h)
      have e1 : thrCells (e :: E) = strV e.1 :: .int .i64 (e.2.1 : Int) :: .int .i64 e.2.2 :: thrCells E := by simp [thrCells]
      rw [e1, show (k + 1) * 3 = k * 3 + 1 + 1 + 1 from by omega, show k * 3 + 1 + 1 + 1 + 1 = (k * 3 + 1) + 1 + 1 + 1 from by omega, show k * 3 + 1 + 1 + 1 + 2 = (k * 3 + 2) + 1 + 1 + 1 from by omega]
      simpa only [List.getElem?_cons_succ, List.getElem_cons_succ] using this

theorem add_at3 (g i : Nat) : (⟨g, 0, none⟩ : Addr).add i = ⟨g, i, none⟩ := by
  cases i with
  | zero => simp [Addr.add]
  | succ m => simp [Addr.add]

theorem own_thr {w : World} {B e g n cap k : Nat} {T : List ThrC} (h : w.ownsRow B e 3 (.slice (some ⟨g, 0, none⟩) n cap) n (thrCells T)) (hk : k < T.length) :
    w.cell? ⟨g, k * 3, none⟩ = some (.string ⟨T[k].1.toArray⟩) ∧ w.cell? ⟨g, k * 3 + 1, none⟩ = some (.int .i64 (T[k].2.1 : Int)) ∧ w.cell? ⟨g, k * 3 + 2, none⟩ = some (.int .i64 T[k].2.2) := by
  obtain ⟨a1, a2, a3⟩ := thrCells_at T k hk
  have c1 := h.cells (g := g) rfl _ _ a1
  have c2 := h.cells (g := g) rfl _ _ a2
  have c3 := h.cells (g := g) rfl _ _ a3
  rw [add_at3] at c1 c2 c3
  exact ⟨c1, c2, c3⟩

def headR : List (List UInt8) → List UInt8
  | [] => []
  | l :: _ => l
def leftB : List (List UInt8) → Bool
  | [] => false
  | _ :: _ => true

theorem arr_size (l : List UInt8) : (⟨l.toArray⟩ : ByteArray).size = l.length := by rw [Lib.size_eq]

set_option maxHeartbeats 1000000 in
theorem leftLevel_any (c : ThrC) (hc : okC c) (w : World) :
    Calls Tryz.prog 122 #[.agg #[strV c.1, .int .i64 (c.2.1 : Int), .int .i64 c.2.2]] w fun e w' => e = .returned (.tuple #[strV (headR (absT c).1), .bool (leftB (absT c).1)]) ∧ Below w.heap.size w w' := by
  obtain ⟨f, st, who⟩ := c
  obtain ⟨h1, h2⟩ := hc
  simp only at h1 h2
  unfold absT strV
  simp only
  have hsz : (⟨f.toArray⟩ : ByteArray).size = f.length := arr_size f
  have hdl : (⟨f.toArray⟩ : ByteArray).data.toList = f := by simp
  by_cases hst : st ≤ f.length
  · have HR := hide (levsFrom_step f st hst)
    have HLE := hide (levelEnd_any (⟨f.toArray⟩ : ByteArray) st)
    rw [hdl] at HLE
    have hr := runLen_le (f.drop st)
    rw [List.length_drop] at hr
    have HX : Hid ((⟨f.toArray⟩ : ByteArray).extract st (st + runLen (f.drop st)) = ⟨((f.drop st).take (runLen (f.drop st))).toArray⟩) := by
      unfold Hid
      rw [Lib.extract_eq, hdl]; congr 2; congr 1; omega
    generalize (⟨f.toArray⟩ : ByteArray) = s at *
    generalize runLen (f.drop st) = m at *
    have hg : ¬ (s.size : Int) < (st : Int) := by omega
    have hms : st + m ≤ s.size := by omega
    go_enter Tryz.func122, Tryz.ntmps122
    go_wp2_with fail
    refine (unhide HLE _ (by unfold maxLen; omega) (by omega)).mono ?_
    rintro e w1 ⟨rfl, rfl⟩
    go_wp2_with fail
    go_ret2
    refine ⟨?_, (Below.refl _ w).alloc (Nat.le_refl _) _⟩
    rw [unhide HR]
    simp only [headR, leftB]
    rw [← unhide HX]
    rfl
  · have HR := hide (levsFrom_behind f st hst)
    generalize (⟨f.toArray⟩ : ByteArray) = s at *
    have hg : (s.size : Int) < (st : Int) := by omega
    go_enter Tryz.func122, Tryz.ntmps122
    go_wp2_with fail
    go_ret2
    refine ⟨?_, (Below.refl _ w).alloc (Nat.le_refl _) _⟩
    rw [unhide HR]; rfl

theorem eq_str (l : List UInt8) (k : UInt8) : ((⟨l.toArray⟩ : ByteArray).toList == [k]) = (l == [k]) := by
  rw [Lib.toList_data]
theorem eq_strs (l m : List UInt8) : ((⟨l.toArray⟩ : ByteArray).toList == m) = (l == m) := by
  rw [Lib.toList_data]

theorem stay_form' (t : Thr) : stayB t = (leftB t.1 && headR t.1 == [35]) := by
  obtain ⟨r, q⟩ := t
  cases r <;> rfl
theorem arr_form (t : Thr) : arrB t = (!leftB t.1 || headR t.1 == [35]) := by
  obtain ⟨r, q⟩ := t
  cases r with
  | nil => rfl
  | cons l r => simp [arrB, leftB, headR]

set_option maxHeartbeats 1000000 in
theorem stays_any (c : ThrC) (hc : okC c) (w : World) :
    Calls Tryz.prog 134 #[.agg #[strV c.1, .int .i64 (c.2.1 : Int), .int .i64 c.2.2]] w fun e w' => e = .returned (.bool (stayB (absT c))) ∧ Below w.heap.size w w' := by
  have HL := hide (leftLevel_any c hc)
  have HS := hide (stay_form' (absT c))
  unfold strV at *
  have hs := eq_str (headR (absT c).1) 35
  generalize (⟨(headR (absT c).1).toArray⟩ : ByteArray) = lv at *
  generalize (headR (absT c).1 == [35]) = b35 at *
  generalize leftB (absT c).1 = lb at *
  generalize (⟨c.1.toArray⟩ : ByteArray) = fs at *
  cases lb
  · go_enter Tryz.func134, Tryz.ntmps134
    go_wp2_with fail
    refine (unhide HL _).mono ?_
    rintro e w1 ⟨rfl, hb⟩
    go_wp2_with fail
    go_ret
    exact ⟨ret_bool (by rw [unhide HS]; simp), ((Below.refl _ w).alloc (Nat.le_refl _) _).trans (hb.mono (by simp))⟩
  · go_enter Tryz.func134, Tryz.ntmps134
    go_wp2_with fail
    refine (unhide HL _).mono ?_
    rintro e w1 ⟨rfl, hb⟩
    go_wp2_with fail
    go_ret
    exact ⟨ret_bool (by rw [unhide HS]; simp), ((Below.refl _ w).alloc (Nat.le_refl _) _).trans (hb.mono (by simp))⟩

end Go.Proofs.YtchhmojnoiephabGreatDoor

/- The program's rows of threads: whether all stay, who has arrived, the answer, those that live on. -/
namespace Go.Proofs.YtchhmojnoiephabGreatDoor
open Go.ChangeShapes Go.WideShapes Go.ChangeAt Go.RowKit
set_option linter.unusedVariables false

theorem all_hit (T : List ThrC) (k : Nat) (h : k < T.length) (hs : stayB (absT T[k]) = false) : ((T.drop k).map absT).all stayB = false := by
  rw [List.drop_eq_getElem_cons h, List.map_cons, List.all_cons, hs]; rfl
theorem all_on (T : List ThrC) (k : Nat) (h : k < T.length) (hs : stayB (absT T[k]) = true) : ((T.drop k).map absT).all stayB = ((T.drop (k + 1)).map absT).all stayB := by
  rw [List.drop_eq_getElem_cons h, List.map_cons, List.all_cons, hs]; rfl
theorem all_end (T : List ThrC) (k : Nat) (h : ¬ k < T.length) : ((T.drop k).map absT).all stayB = true := by
  rw [List.drop_eq_nil_of_le (by omega)]; rfl

set_option maxHeartbeats 1000000 in
theorem allStay_any (T : List ThrC) (v : Value) (B : Nat) (w : World) (hT : ∀ c ∈ T, okC c) (hl : T.length ≤ 1000) (hown : w.ownsRow B 105 3 v T.length (thrCells T)) :
    Calls Tryz.prog 124 #[v] w fun e w' => e = .returned (.bool ((T.map absT).all stayB)) ∧ Below w.heap.size w w' := by
  obtain ⟨av, lv, cv, rfl⟩ := own_slice hown
  have hlv : lv = T.length := own_len hown
  subst hlv
  have HO := hide hown
  clear hown
  go_enter Tryz.func124, Tryz.ntmps124
  go_wp2_with fail
  go_loopg [4, 7] T.length (fun gk _ i wr => ∃ k : Nat, k ≤ T.length ∧ gk = T.length - k ∧ i = .int .i64 k ∧ Below w.heap.size w wr ∧ Hid ((T.map absT).all stayB = ((T.drop k).map absT).all stayB))
  case atStart => exact ⟨0, by omega, by omega, rfl, Below.refl _ _, hide rfl⟩
  case round =>
    obtain ⟨k, hk, rfl, rfl, hb, HF⟩ := hrel
    have hbs := hb.size
    by_cases hlt : k < T.length
    · obtain ⟨g, cap, hv⟩ := own_form (unhide HO) (by omega)
      simp only [Value.slice.injEq] at hv
      obtain ⟨rfl, _, rfl⟩ := hv
      have hcc := own_cap (unhide HO)
      unfold maxLen at hcc
      obtain ⟨hcap, hcap2⟩ := hcc
      obtain ⟨e1, e2, e3⟩ := own_thr (own_below (unhide HO) hb) hlt
      have HS := hide (stays_any T[k] (hT _ (List.getElem_mem hlt)))
      have HHIT := hide (all_hit T k hlt)
      have HON := hide (all_on T k hlt)
      have HB := hide hb
      unfold strV at HS
      clear hb
      generalize (⟨T[k].1.toArray⟩ : ByteArray) = es at *
      generalize (T[k].2.1 : Int) = est at *
      generalize T[k].2.2 = ewho at *
      cases hs : stayB (absT T[k])
      · rw [hs] at HS
        have HZ := hide ((unhide HF).trans (unhide HHIT hs))
        clear hs HHIT HON
        go_wp2_with fail
        refine (unhide HS _).mono ?_
        rintro e w1 ⟨rfl, hb1⟩
        have HB1 := hide (((unhide HB).alloc hbs (.cells #[.string es, .int .i64 est, .int .i64 ewho] 105)).trans (hb1.mono (by simp; omega)))
        clear hb1
        go_wp2_with fail
        go_ret
        exact ⟨ret_bool (unhide HZ).symm, unhide HB1⟩
      · rw [hs] at HS
        have HZ := hide ((unhide HF).trans (unhide HON hs))
        clear hs HHIT HON
        go_wp2_with fail
        refine (unhide HS _).mono ?_
        rintro e w1 ⟨rfl, hb1⟩
        have HB1 := hide (((unhide HB).alloc hbs (.cells #[.string es, .int .i64 est, .int .i64 ewho] 105)).trans (hb1.mono (by simp; omega)))
        clear hb1
        go_wp2_with fail
        go_roundg (T.length - (k + 1))
        case measure => omega
        case rel => exact ⟨k + 1, by omega, rfl, by go_num, unhide HB1, HZ⟩
    · have HZ := hide ((unhide HF).trans (all_end T k hlt))
      have HB := hide hb
      clear hb
      go_wp2_with fail
      go_ret
      exact ⟨ret_bool (unhide HZ).symm, unhide HB⟩

theorem arr_hit (T : List ThrC) (n k : Nat) (h : k < T.length) (h1 : (T[k].2.2 == (n : Int)) = true) (h2 : arrB (absT T[k]) = true) : hasA ((T.drop k).map absT) n = true := by
  rw [List.drop_eq_getElem_cons h]
  simp only [hasA, List.map_cons, List.any_cons]
  have e : (absT T[k]).2 = T[k].2.2 := rfl
  rw [e, h1, h2]; rfl
theorem arr_on (T : List ThrC) (n k : Nat) (h : k < T.length) (h1 : (T[k].2.2 == (n : Int) && arrB (absT T[k])) = false) : hasA ((T.drop k).map absT) n = hasA ((T.drop (k + 1)).map absT) n := by
  rw [List.drop_eq_getElem_cons h]
  simp only [hasA, List.map_cons, List.any_cons]
  have e : (absT T[k]).2 = T[k].2.2 := rfl
  rw [e, h1]; rfl
theorem arr_end (T : List ThrC) (n k : Nat) (h : ¬ k < T.length) : hasA ((T.drop k).map absT) n = false := by
  rw [List.drop_eq_nil_of_le (by omega)]; rfl

set_option maxHeartbeats 2000000 in
theorem hasArrived_any (T : List ThrC) (n : Nat) (v : Value) (B : Nat) (w : World) (hT : ∀ c ∈ T, okC c) (hl : T.length ≤ 1000) (hown : w.ownsRow B 105 3 v T.length (thrCells T)) :
    Calls Tryz.prog 133 #[v, .int .i64 (n : Int)] w fun e w' => e = .returned (.bool (hasA (T.map absT) n)) ∧ Below w.heap.size w w' := by
  obtain ⟨av, lv, cv, rfl⟩ := own_slice hown
  have hlv : lv = T.length := own_len hown
  subst hlv
  have HO := hide hown
  clear hown
  go_enter Tryz.func133, Tryz.ntmps133
  go_wp2_with fail
  go_loopg [6, 7, 8, 11] T.length (fun gk _ _ _ i wr => ∃ k : Nat, k ≤ T.length ∧ gk = T.length - k ∧ i = .int .i64 k ∧ Below w.heap.size w wr ∧ Hid (hasA (T.map absT) n = hasA ((T.drop k).map absT) n))
  case atStart => exact ⟨0, by omega, by omega, rfl, Below.refl _ _, hide rfl⟩
  case round =>
    obtain ⟨k, hk, rfl, rfl, hb, HF⟩ := hrel
    have hbs := hb.size
    by_cases hlt : k < T.length
    · obtain ⟨g, cap, hv⟩ := own_form (unhide HO) (by omega)
      simp only [Value.slice.injEq] at hv
      obtain ⟨rfl, _, rfl⟩ := hv
      have hcc := own_cap (unhide HO)
      unfold maxLen at hcc
      obtain ⟨hcap, hcap2⟩ := hcc
      obtain ⟨e1, e2, e3⟩ := own_thr (own_below (unhide HO) hb) hlt
      have HS := hide (leftLevel_any T[k] (hT _ (List.getElem_mem hlt)))
      have HHIT := hide (arr_hit T n k hlt)
      have HON := hide (arr_on T n k hlt)
      have hq := eq_str (headR (absT T[k]).1) 35
      rw [arr_form] at HHIT HON
      have HB := hide hb
      unfold strV at HS
      clear hb
      generalize (⟨T[k].1.toArray⟩ : ByteArray) = es at *
      generalize (T[k].2.1 : Int) = est at *
      generalize T[k].2.2 = ewho at *
      generalize (⟨(headR (absT T[k]).1).toArray⟩ : ByteArray) = lev at *
      generalize (headR (absT T[k]).1 == [35]) = b35 at *
      generalize leftB (absT T[k]).1 = lb at *
      have hba : ∀ w1, Below ((wr.alloc (.cells #[.string es, .int .i64 est, .int .i64 ewho] 105)).heap.size) (wr.alloc (.cells #[.string es, .int .i64 est, .int .i64 ewho] 105)) w1 → Below w.heap.size w w1 ∧ w1.cell? ⟨wr.heap.size, 2, none⟩ = some (.int .i64 ewho) :=
        fun w1 hb1 => ⟨((unhide HB).alloc hbs _).trans (hb1.mono (by simp; omega)), (hb1.cell (p := ⟨wr.heap.size, 2, none⟩) (by simp)).trans (by simp)⟩
      have HBA := hide hba
      clear hba
      cases hw : (ewho == (n : Int))
      · rw [hw] at HON
        have HZ := hide ((unhide HF).trans (unhide HON rfl))
        clear HHIT HON
        go_wp2_with fail
        refine (unhide HS _).mono ?_
        rintro e w1 ⟨rfl, hb1⟩
        obtain ⟨hb2, c2⟩ := unhide HBA w1 hb1
        have HB2 := hide hb2
        clear hb1 hb2
        go_wp2_with fail
        go_roundg (T.length - (k + 1))
        case measure => omega
        case rel => exact ⟨k + 1, by omega, rfl, by go_num, unhide HB2, HZ⟩
      · rw [hw] at HON HHIT
        cases lb
        · have HZ := hide ((unhide HF).trans (unhide HHIT rfl rfl))
          clear HHIT HON
          go_wp2_with fail
          refine (unhide HS _).mono ?_
          rintro e w1 ⟨rfl, hb1⟩
          obtain ⟨hb2, c2⟩ := unhide HBA w1 hb1
          have HB2 := hide hb2
          clear hb1 hb2
          go_wp2_with fail
          go_ret
          exact ⟨ret_bool (unhide HZ).symm, unhide HB2⟩
        · cases b35
          · have HZ := hide ((unhide HF).trans (unhide HON rfl))
            clear HHIT HON
            go_wp2_with fail
            refine (unhide HS _).mono ?_
            rintro e w1 ⟨rfl, hb1⟩
            obtain ⟨hb2, c2⟩ := unhide HBA w1 hb1
            have HB2 := hide hb2
            clear hb1 hb2
            go_wp2_with fail
            go_roundg (T.length - (k + 1))
            case measure => omega
            case rel => exact ⟨k + 1, by omega, rfl, by go_num, unhide HB2, HZ⟩
          · have HZ := hide ((unhide HF).trans (unhide HHIT rfl rfl))
            clear HHIT HON
            go_wp2_with fail
            refine (unhide HS _).mono ?_
            rintro e w1 ⟨rfl, hb1⟩
            obtain ⟨hb2, c2⟩ := unhide HBA w1 hb1
            have HB2 := hide hb2
            clear hb1 hb2
            go_wp2_with fail
            go_ret
            exact ⟨ret_bool (unhide HZ).symm, unhide HB2⟩
    · have HZ := hide ((unhide HF).trans (arr_end T n k hlt))
      have HB := hide hb
      clear hb
      go_wp2_with fail
      go_ret
      exact ⟨ret_bool (unhide HZ).symm, unhide HB⟩

theorem ansTo_succ (T : List Thr) (n : Nat) : ansTo T (n + 1) = if hasA T n then ansTo T n ++ [UInt8.ofNat (65 + n)] else ansTo T n := by
  unfold ansTo; rw [List.range_succ, List.filter_append]
  cases hw : hasA T n <;> simp [hw]
theorem ansTo_len (T : List Thr) (n : Nat) : (ansTo T n).length ≤ n := by
  unfold ansTo; rw [List.length_map]; exact Nat.le_trans (List.length_filter_le _ _) (by simp)
theorem letter_cut (n : Nat) (h : n < 16) : (⟨#[65, 66, 67, 68, 69, 70, 71, 72, 73, 74, 75, 76, 77, 78, 79, 80]⟩ : ByteArray).extract n (n + 1) = ⟨[UInt8.ofNat (65 + n)].toArray⟩ := by
  rw [Lib.extract_eq]
  congr 1
  obtain h | h | h | h | h | h | h | h | h | h | h | h | h | h | h | h := (by omega : n = 0 ∨ n = 1 ∨ n = 2 ∨ n = 3 ∨ n = 4 ∨ n = 5 ∨ n = 6 ∨ n = 7 ∨ n = 8 ∨ n = 9 ∨ n = 10 ∨ n = 11 ∨ n = 12 ∨ n = 13 ∨ n = 14 ∨ n = 15)
  all_goals (subst h; rfl)
theorem app_arr (a b : List UInt8) : (⟨a.toArray⟩ : ByteArray) ++ (⟨b.toArray⟩ : ByteArray) = ⟨(a ++ b).toArray⟩ := by
  apply ByteArray.ext
  rw [ByteArray.data_append]; simp


set_option maxHeartbeats 2000000 in
theorem answerOf_any (T : List ThrC) (v : Value) (B : Nat) (w : World) (hT : ∀ c ∈ T, okC c) (hl : T.length ≤ 1000) (hown : w.ownsRow B 105 3 v T.length (thrCells T)) :
    Calls Tryz.prog 123 #[v] w fun e w' => e = .returned (strV (ansT (T.map absT))) ∧ Below w.heap.size w w' := by
  obtain ⟨av, lv, cv, rfl⟩ := own_slice hown
  have HO := hide hown
  clear hown
  go_enter Tryz.func123, Tryz.ntmps123
  go_wp2_with fail
  go_loopg [3, 4] 16 (fun gk a nn wr => ∃ n : Nat, n ≤ 16 ∧ gk = 16 - n ∧ nn = .int .i64 n ∧ a = .string ⟨(ansTo (T.map absT) n).toArray⟩ ∧ Below w.heap.size w wr)
  case atStart => exact ⟨0, by omega, rfl, rfl, rfl, Below.refl _ _⟩
  case round =>
    obtain ⟨n, hn, rfl, rfl, rfl, hb⟩ := hrel
    have hbs := hb.size
    by_cases hn16 : n < 16
    · have hd16 : decide ((n : Int) < 16) = true := by simp; omega
      have HSU := hide (ansTo_succ (T.map absT) n)
      have HLC := hide (letter_cut n hn16)
      have HAP := hide (app_arr (ansTo (T.map absT) n) [UInt8.ofNat (65 + n)])
      have hsz : (⟨(ansTo (T.map absT) n).toArray⟩ : ByteArray).size ≤ 16 := by rw [arr_size]; exact Nat.le_trans (ansTo_len _ _) hn
      have HH := hide (hasArrived_any T n (.slice av lv cv) B wr hT hl (own_below (unhide HO) hb))
      have HB := hide hb
      have hw1 := wrap_small ((n : Int) + 1) (by omega) (by omega)
      clear hb
      generalize ha : (⟨(ansTo (T.map absT) n).toArray⟩ : ByteArray) = a at *
      have HA := hide ha
      clear ha
      cases hh : hasA (T.map absT) n
      · rw [hh] at HSU HH
        go_wp2_with fail
        refine (unhide HH).mono ?_
        rintro e w1 ⟨rfl, hb1⟩
        have HB1 := hide ((unhide HB).trans (hb1.mono hbs))
        clear hb1
        go_wp2_with fail
        go_roundg (16 - (n + 1))
        case measure => omega
        case rel => exact ⟨n + 1, by omega, rfl, by go_num, by rw [unhide HSU, ← unhide HA]; rfl, unhide HB1⟩
      · rw [hh] at HSU HH
        go_wp2_with fail
        refine (unhide HH).mono ?_
        rintro e w1 ⟨rfl, hb1⟩
        have HB1 := hide ((unhide HB).trans (hb1.mono hbs))
        clear hb1
        go_wp2_with fail
        go_roundg (16 - (n + 1))
        case measure => omega
        case rel => exact ⟨n + 1, by omega, rfl, by go_num, by rw [unhide HLC, unhide HAP, unhide HSU]; rfl, unhide HB1⟩
    · have hne : n = 16 := by omega
      have HB := hide hb
      clear hb
      go_wp2_with fail
      go_ret
      subst hne
      exact ⟨rfl, unhide HB⟩

end Go.Proofs.YtchhmojnoiephabGreatDoor

/- The program's threads that live on when a level is met; the levels that they name. -/
namespace Go.Proofs.YtchhmojnoiephabGreatDoor
open Go.ChangeShapes Go.WideShapes Go.ChangeAt Go.RowKit
set_option linter.unusedVariables false

def meetC (m : List UInt8) (c : ThrC) : Option ThrC :=
  if leftB (absT c).1 && (headR (absT c).1 == [43] || headR (absT c).1 == m) then some (c.1, c.2.1 + (headR (absT c).1).length + 1, c.2.2)
  else if leftB (absT c).1 && headR (absT c).1 == [35] then some c else none
def meetCs (m : List UInt8) (T : List ThrC) : List ThrC := T.filterMap (meetC m)

theorem levsFrom_cons (f : List UInt8) (st : Nat) (l : List UInt8) (r : List (List UInt8)) (h : levsFrom f st = l :: r) : st ≤ f.length ∧ st + l.length ≤ f.length ∧ levsFrom f (st + l.length + 1) = r := by
  by_cases hst : st ≤ f.length
  · rw [levsFrom_step f st hst] at h
    simp only [List.cons.injEq] at h
    have hr := runLen_le (f.drop st)
    rw [List.length_drop] at hr
    have hl : l.length = runLen (f.drop st) := by rw [← h.1, List.length_take, List.length_drop]; omega
    exact ⟨hst, by omega, by rw [hl]; exact h.2⟩
  · rw [levsFrom_behind f st hst] at h; cases h

theorem meetC_abs (m : List UInt8) (c : ThrC) : (meetC m c).map absT = meetT m (absT c) := by
  obtain ⟨f, st, who⟩ := c
  unfold meetC
  have e : absT (f, st, who) = (levsFrom f st, who) := rfl
  rw [e]
  cases hr : levsFrom f st with
  | nil => simp [leftB, meetT]
  | cons l r =>
    obtain ⟨_, _, h3⟩ := levsFrom_cons f st l r hr
    simp only [leftB, headR, Bool.true_and, meetT]
    by_cases h1 : l = [43] ∨ l = m
    · rw [if_pos (by rcases h1 with h | h <;> simp [h]), if_pos h1]
      simp only [Option.map_some, absT]; rw [h3]
    · rw [if_neg (by simpa using h1), if_neg h1]
      by_cases h2 : l = [35]
      · rw [if_pos (by simp [h2]), if_pos h2]; simp only [Option.map_some, e, hr]
      · rw [if_neg (by simpa using h2), if_neg h2]; rfl
theorem meetC_ok (m : List UInt8) (c u : ThrC) (hc : okC c) (h : meetC m c = some u) : okC u := by
  obtain ⟨f, st, who⟩ := c
  unfold meetC at h
  split at h
  · rename_i hh
    simp only [Option.some.injEq] at h; subst h
    have e : absT (f, st, who) = (levsFrom f st, who) := rfl
    rw [e] at hh ⊢
    cases hr : levsFrom f st with
    | nil => rw [hr] at hh; simp [leftB] at hh
    | cons l r =>
      obtain ⟨_, h2, _⟩ := levsFrom_cons f st l r hr
      have := hc.1
      simp only [headR] at *
      exact ⟨hc.1, by show st + l.length + 1 ≤ 25; omega⟩
  · split at h
    · simp only [Option.some.injEq] at h; subst h; exact hc
    · cases h
theorem meetCs_abs (m : List UInt8) (T : List ThrC) : (meetCs m T).map absT = meetL m (T.map absT) := by
  unfold meetCs meetL
  induction T with
  | nil => rfl
  | cons c T ih =>
    have h := meetC_abs m c
    rw [List.map_cons]
    cases hc : meetC m c with
    | none => rw [hc] at h; rw [List.filterMap_cons_none hc, List.filterMap_cons_none (by rw [← h]; rfl)]; exact ih
    | some u => rw [hc] at h; rw [List.filterMap_cons_some hc, List.filterMap_cons_some (b := absT u) (by rw [← h]; rfl), List.map_cons, ih]
theorem meetCs_ok (m : List UInt8) (T : List ThrC) (h : ∀ c ∈ T, okC c) : ∀ c ∈ meetCs m T, okC c := by
  intro u hu
  obtain ⟨c, hc, he⟩ := List.mem_filterMap.1 hu
  exact meetC_ok m c u (h c hc) he
theorem meetCs_len (m : List UInt8) (T : List ThrC) : (meetCs m T).length ≤ T.length := List.length_filterMap_le _ _
theorem meetCs_some (m : List UInt8) (T : List ThrC) (k : Nat) (h : k < T.length) (u : ThrC) (hu : meetC m T[k] = some u) : meetCs m (T.take (k + 1)) = meetCs m (T.take k) ++ [u] := by
  unfold meetCs
  rw [List.take_succ_eq_append_getElem h, List.filterMap_append]
  congr 1
  rw [List.filterMap_cons_some hu]; rfl
theorem meetCs_none (m : List UInt8) (T : List ThrC) (k : Nat) (h : k < T.length) (hu : meetC m T[k] = none) : meetCs m (T.take (k + 1)) = meetCs m (T.take k) := by
  unfold meetCs
  rw [List.take_succ_eq_append_getElem h, List.filterMap_append, List.filterMap_cons_none hu]; simp

theorem info_thr : (Tryz.prog.info? 105).map (fun i => (i.zero, i.size, i.bytes)) = some (some (.agg #[.string ByteArray.empty, .int .i64 0, .int .i64 0]), 3, 32) := by kernel_rfl

theorem own_setX {w : World} {B e sz n X i : Nat} {v u : Value} {xs : List Value} (h : w.ownsRow B e sz v n xs) (hX : ∀ k, v.ownBlock = some k → k ≠ X) : (w.setCell ⟨X, i, none⟩ u).ownsRow B e sz v n xs :=
  own_same h (fun k hk => Below.heap_setCell _ _ _ _ (hX k hk))

/-- what is known behind 'leftLevel' of a thread that lies in the block behind wr's heap -/
theorem thr_facts {B0 : Nat} {w wr w1 : World} {a b c : Value} {nx : Value} {n : Nat} {xs : List Value} (hb : Below w.heap.size w wr) (hrow : wr.ownsRow w.heap.size 105 3 nx n xs)
    (hb1 : Below ((wr.alloc (.cells #[a, b, c] 105)).heap.size) (wr.alloc (.cells #[a, b, c] 105)) w1) :
    Below w.heap.size w w1 ∧ w1.heap[wr.heap.size]? = some (.cells #[a, b, c] 105 (0, 0)) ∧ w1.ownsRow w.heap.size 105 3 nx n xs ∧ wr.heap.size < w1.heap.size ∧ ∀ k, nx.ownBlock = some k → k ≠ wr.heap.size := by
  have hs := hb1.size
  simp at hs
  refine ⟨(hb.alloc hb.size _).trans (hb1.mono (by have := hb.size; simp; omega)), ?_, own_below (hrow.alloc _) hb1, by omega, fun k hk => ?_⟩
  · rw [hb1.block _ (by simp)]; exact (MapKept.heap_alloc wr _).1
  · have := (hrow.lt k hk).2; omega

set_option maxHeartbeats 4000000 in
set_option maxRecDepth 1000000 in
theorem meet_any (T : List ThrC) (m : List UInt8) (v : Value) (B : Nat) (w : World) (hT : ∀ c ∈ T, okC c) (hl : T.length ≤ 1000) (hown : w.ownsRow B 105 3 v T.length (thrCells T)) :
    Calls Tryz.prog 108 #[v, strV m] w fun e w' => ∃ v', e = .returned v' ∧ w'.ownsRow w.heap.size 105 3 v' (meetCs m T).length (thrCells (meetCs m T)) ∧ Below w.heap.size w w' := by
  obtain ⟨i0, hi, hz0, hz1, hz2⟩ := info_parts info_thr
  obtain ⟨av, lv, cv, rfl⟩ := own_slice hown
  have hlv : lv = T.length := own_len hown
  subst hlv
  have HO := hide hown
  unfold strV
  clear hown
  go_enter Tryz.func108, Tryz.ntmps108
  go_wp2_with fail
  go_loopg [5, 7, 8, 9, 12] T.length (fun gk nx _ _ _ i wr => ∃ k : Nat, k ≤ T.length ∧ gk = T.length - k ∧ i = .int .i64 k ∧ wr.ownsRow w.heap.size 105 3 nx (meetCs m (T.take k)).length (thrCells (meetCs m (T.take k))) ∧ Below w.heap.size w wr)
  case atStart => exact ⟨0, by omega, by omega, rfl, World.ownsRow_nil _ _ _ _, Below.refl _ _⟩
  case round =>
    obtain ⟨k, hk, rfl, rfl, hrow, hb⟩ := hrel
    have hbs := hb.size
    by_cases hlt : k < T.length
    · obtain ⟨g, cap, hv⟩ := own_form (unhide HO) (by omega)
      simp only [Value.slice.injEq] at hv
      obtain ⟨rfl, _, rfl⟩ := hv
      have hcc := own_cap (unhide HO)
      unfold maxLen at hcc
      obtain ⟨hcap, hcap2⟩ := hcc
      obtain ⟨e1, e2, e3⟩ := own_thr (own_below (unhide HO) hb) hlt
      have hok := hT _ (List.getElem_mem hlt)
      have HS := hide (leftLevel_any T[k] hok)
      have hq43 := eq_str (headR (absT T[k]).1) 43
      have hq35 := eq_str (headR (absT T[k]).1) 35
      have hqm := eq_strs (headR (absT T[k]).1) m
      have hlen : (⟨(headR (absT T[k]).1).toArray⟩ : ByteArray).size = (headR (absT T[k]).1).length := arr_size _
      have hhl : (headR (absT T[k]).1).length ≤ 24 := by
        have e : absT T[k] = (levsFrom T[k].1 T[k].2.1, T[k].2.2) := rfl
        rw [e]
        cases hr : levsFrom T[k].1 T[k].2.1 with
        | nil => simp [headR]
        | cons l r => have := (levsFrom_cons _ _ _ _ hr).2.1; have := hok.1; simp only [headR]; omega
      have HSOME := hide (meetCs_some m T k hlt)
      have HNONE := hide (meetCs_none m T k hlt)
      unfold meetC at HSOME HNONE
      have hcl := meetCs_len m (T.take k)
      have hcl2 : (T.take k).length ≤ k := by simp; omega
      have hst25 := hok.2
      have HES : Hid (strV T[k].1 = .string ⟨T[k].1.toArray⟩) := rfl
      have HB := hide hb
      have HROW := hide hrow
      unfold strV at HS
      clear hb hrow
      generalize T[k] = c at *
      clear hok
      generalize hhn : (headR (absT c).1).length = hn at *
      have hlen2 : (((⟨(headR (absT c).1).toArray⟩ : ByteArray).size : Nat) : Int) = (hn : Int) := by rw [hlen]
      generalize (⟨(headR (absT c).1).toArray⟩ : ByteArray) = lev at *
      generalize (headR (absT c).1 == [43]) = b43 at *
      generalize (headR (absT c).1 == [35]) = b35 at *
      generalize (headR (absT c).1 == m) = bm at *
      generalize leftB (absT c).1 = lb at *
      clear hhn
      obtain ⟨f, st, who⟩ := c
      simp only at e1 e2 e3 HS HSOME HNONE HES hst25
      generalize (⟨f.toArray⟩ : ByteArray) = es at *
      cases lb
      · have HZ := hide (unhide HNONE rfl)
        clear HSOME HNONE
        go_wp2_with fail
        refine (unhide HS _).mono ?_
        rintro e w1 ⟨rfl, hb1⟩
        obtain ⟨hb2, hx, hrow1, hlt1, hne⟩ := thr_facts (B0 := 0) (unhide HB) (unhide HROW) hb1
        have HB2 := hide hb2
        have HROW1 := hide hrow1
        clear hb1 hb2 hx hrow1 hne HB HROW
        go_wp2_with fail
        go_roundg (T.length - (k + 1))
        case measure => omega
        case rel => exact ⟨k + 1, by omega, rfl, by go_num, by rw [unhide HZ]; exact unhide HROW1, unhide HB2⟩
      · cases b43
        · cases bm
          · cases b35
            · have HZ := hide (unhide HNONE rfl)
              clear HSOME HNONE
              go_wp2_with fail
              refine (unhide HS _).mono ?_
              rintro e w1 ⟨rfl, hb1⟩
              obtain ⟨hb2, hx, hrow1, hlt1, hne⟩ := thr_facts (B0 := 0) (unhide HB) (unhide HROW) hb1
              have HB2 := hide hb2
              have HROW1 := hide hrow1
              clear hb1 hb2 hx hrow1 hne HB HROW
              go_wp2_with fail
              go_roundg (T.length - (k + 1))
              case measure => omega
              case rel => exact ⟨k + 1, by omega, rfl, by go_num, by rw [unhide HZ]; exact unhide HROW1, unhide HB2⟩
            · have HZ := hide (unhide HSOME _ rfl)
              clear HSOME HNONE
              go_wp2_with fail
              refine (unhide HS _).mono ?_
              rintro e w1 ⟨rfl, hb1⟩
              obtain ⟨hb2, hx, hrow1, hlt1, hne⟩ := thr_facts (B0 := 0) (unhide HB) (unhide HROW) hb1
              have c0 := cell_block (i := 0) hx rfl
              have c1 := cell_block (i := 1) hx rfl
              have c2 := cell_block (i := 2) hx rfl
              have HB2 := hide hb2
              have HROW1 := hide hrow1
              clear hb1 hb2 hx hrow1 hne HB HROW
              go_wp2_with (at_builtin; refine wpList_append_own _ rfl _ _ 100 rfl w.heap.size 105 i0 (.agg #[.string ByteArray.empty, .int .i64 0, .int .i64 0]) 3 32 Tryz.underlying100 hi hz0 hz1 hz2 rfl (by decide) _ _ _ rfl ((unhide HROW1).alloc _) ⟨w1.heap.size, 0, none⟩ 1 1 [.string es, .int .i64 (st : Int), .int .i64 who] rfl rfl ?c1 ?c2 ?c3 ?c4 ?c5 ?_)
              case c1 =>
                intro j u hj
                match j, hj with
                | 0, hj => simp at hj; subst hj; first | (simp [Addr.add]; done) | (simp [Addr.add]; rw [World.cell?_alloc_at _ _ _ _ (by simp)]; rfl)
                | 1, hj => simp at hj; subst hj; first | (simp [Addr.add]; done) | (simp [Addr.add]; rw [World.cell?_alloc_at _ _ _ _ (by simp)]; rfl)
                | 2, hj => simp at hj; subst hj; first | (simp [Addr.add]; done) | (simp [Addr.add]; rw [World.cell?_alloc_at _ _ _ _ (by simp)]; rfl)
              case c2 => intro u hu; simp at hu; rcases hu with rfl | rfl | rfl <;> rfl
              case c3 => unfold maxLen; omega
              case c4 => omega
              case c5 => simp; omega
              intro v' w2 hown' hgrow _
              have HO2 : Hid (w2.ownsRow w.heap.size 105 3 v' (meetCs m (T.take (k + 1))).length (thrCells (meetCs m (T.take (k + 1))))) := by
                unfold Hid
                rw [unhide HZ, thrCells_snoc, List.length_append]
                simp only [unhide HES]
                exact hown'
              have HB3 : Hid (Below w.heap.size w w2) := ((unhide HB2).alloc (by omega) _).grown hgrow (by simp; omega) (fun k hk => ((unhide HROW1).lt k hk).1)
              clear hown' hgrow HB2 HROW1
              go_wp2_with fail
              go_roundg (T.length - (k + 1))
              case measure => omega
              case rel => exact ⟨k + 1, by omega, rfl, by go_num, unhide HO2, unhide HB3⟩
          · have HZ := hide (unhide HSOME _ rfl)
            clear HSOME HNONE
            go_wp2_with fail
            refine (unhide HS _).mono ?_
            rintro e w1 ⟨rfl, hb1⟩
            obtain ⟨hb2, hx, hrow1, hlt1, hne⟩ := thr_facts (B0 := 0) (unhide HB) (unhide HROW) hb1
            have f1 := free_block (i := 1) hx
            have c0 := cell_block (i := 0) hx rfl
            have c1 := cell_block (i := 1) hx rfl
            have c2 := cell_block (i := 2) hx rfl
            have HB2 := hide (hb2.setCell (B := w.heap.size) (p := ⟨wr.heap.size, 1, none⟩) hbs (.int .i64 ((st : Int) + (hn : Int) + 1)))
            have HROW1 := hide (own_setX (i := 1) (u := .int .i64 ((st : Int) + (hn : Int) + 1)) hrow1 hne)
            clear hb1 hb2 hx hrow1 hne HB HROW
            go_wp2_with (at_builtin; refine wpList_append_own _ rfl _ _ 100 rfl w.heap.size 105 i0 (.agg #[.string ByteArray.empty, .int .i64 0, .int .i64 0]) 3 32 Tryz.underlying100 hi hz0 hz1 hz2 rfl (by decide) _ _ _ rfl ((unhide HROW1).alloc _) ⟨w1.heap.size, 0, none⟩ 1 1 [.string es, .int .i64 ((st : Int) + (hn : Int) + 1), .int .i64 who] rfl rfl ?c1 ?c2 ?c3 ?c4 ?c5 ?_)
            case c1 =>
              intro j u hj
              match j, hj with
              | 0, hj => simp at hj; subst hj; first | (simp [Addr.add]; done) | (simp [Addr.add]; rw [World.cell?_alloc_at _ _ _ _ (by simp)]; rfl)
              | 1, hj => simp at hj; subst hj; first | (simp [Addr.add]; done) | (simp [Addr.add]; rw [World.cell?_alloc_at _ _ _ _ (by simp)]; rfl)
              | 2, hj => simp at hj; subst hj; first | (simp [Addr.add]; done) | (simp [Addr.add]; rw [World.cell?_alloc_at _ _ _ _ (by simp)]; rfl)
            case c2 => intro u hu; simp at hu; rcases hu with rfl | rfl | rfl <;> rfl
            case c3 => unfold maxLen; omega
            case c4 => omega
            case c5 => simp; omega
            intro v' w2 hown' hgrow _
            have HO2 : Hid (w2.ownsRow w.heap.size 105 3 v' (meetCs m (T.take (k + 1))).length (thrCells (meetCs m (T.take (k + 1))))) := by
              unfold Hid
              rw [unhide HZ, thrCells_snoc, List.length_append]
              simp only [unhide HES]
              have e : ((st + hn + 1 : Nat) : Int) = (st : Int) + (hn : Int) + 1 := by omega
              rw [e]; exact hown'
            have HB3 : Hid (Below w.heap.size w w2) := ((unhide HB2).alloc (by simp; omega) _).grown hgrow (by simp; omega) (fun k hk => ((unhide HROW1).lt k hk).1)
            clear hown' hgrow HB2 HROW1
            go_wp2_with fail
            go_roundg (T.length - (k + 1))
            case measure => omega
            case rel => exact ⟨k + 1, by omega, rfl, by go_num, unhide HO2, unhide HB3⟩
        · have HZ := hide (unhide HSOME _ rfl)
          clear HSOME HNONE
          go_wp2_with fail
          refine (unhide HS _).mono ?_
          rintro e w1 ⟨rfl, hb1⟩
          obtain ⟨hb2, hx, hrow1, hlt1, hne⟩ := thr_facts (B0 := 0) (unhide HB) (unhide HROW) hb1
          have f1 := free_block (i := 1) hx
          have c0 := cell_block (i := 0) hx rfl
          have c1 := cell_block (i := 1) hx rfl
          have c2 := cell_block (i := 2) hx rfl
          have HB2 := hide (hb2.setCell (B := w.heap.size) (p := ⟨wr.heap.size, 1, none⟩) hbs (.int .i64 ((st : Int) + (hn : Int) + 1)))
          have HROW1 := hide (own_setX (i := 1) (u := .int .i64 ((st : Int) + (hn : Int) + 1)) hrow1 hne)
          clear hb1 hb2 hx hrow1 hne HB HROW
          go_wp2_with (at_builtin; refine wpList_append_own _ rfl _ _ 100 rfl w.heap.size 105 i0 (.agg #[.string ByteArray.empty, .int .i64 0, .int .i64 0]) 3 32 Tryz.underlying100 hi hz0 hz1 hz2 rfl (by decide) _ _ _ rfl ((unhide HROW1).alloc _) ⟨w1.heap.size, 0, none⟩ 1 1 [.string es, .int .i64 ((st : Int) + (hn : Int) + 1), .int .i64 who] rfl rfl ?c1 ?c2 ?c3 ?c4 ?c5 ?_)
          case c1 =>
            intro j u hj
            match j, hj with
            | 0, hj => simp at hj; subst hj; first | (simp [Addr.add]; done) | (simp [Addr.add]; rw [World.cell?_alloc_at _ _ _ _ (by simp)]; rfl)
            | 1, hj => simp at hj; subst hj; first | (simp [Addr.add]; done) | (simp [Addr.add]; rw [World.cell?_alloc_at _ _ _ _ (by simp)]; rfl)
            | 2, hj => simp at hj; subst hj; first | (simp [Addr.add]; done) | (simp [Addr.add]; rw [World.cell?_alloc_at _ _ _ _ (by simp)]; rfl)
          case c2 => intro u hu; simp at hu; rcases hu with rfl | rfl | rfl <;> rfl
          case c3 => unfold maxLen; omega
          case c4 => omega
          case c5 => simp; omega
          intro v' w2 hown' hgrow _
          have HO2 : Hid (w2.ownsRow w.heap.size 105 3 v' (meetCs m (T.take (k + 1))).length (thrCells (meetCs m (T.take (k + 1))))) := by
            unfold Hid
            rw [unhide HZ, thrCells_snoc, List.length_append]
            simp only [unhide HES]
            have e : ((st + hn + 1 : Nat) : Int) = (st : Int) + (hn : Int) + 1 := by omega
            rw [e]; exact hown'
          have HB3 : Hid (Below w.heap.size w w2) := ((unhide HB2).alloc (by simp; omega) _).grown hgrow (by simp; omega) (fun k hk => ((unhide HROW1).lt k hk).1)
          clear hown' hgrow HB2 HROW1
          go_wp2_with fail
          go_roundg (T.length - (k + 1))
          case measure => omega
          case rel => exact ⟨k + 1, by omega, rfl, by go_num, unhide HO2, unhide HB3⟩
    · have hall : T.take k = T := List.take_of_length_le (by omega)
      rw [hall] at hrow
      have HB := hide hb
      have HROW := hide hrow
      clear hb hrow hall
      go_wp2_with fail
      go_ret
      exact ⟨_, rfl, unhide HROW, unhide HB⟩

end Go.Proofs.YtchhmojnoiephabGreatDoor

/- The levels that the threads name, rising. -/
namespace Go.Proofs.YtchhmojnoiephabGreatDoor
open Go.ChangeShapes Go.WideShapes Go.ChangeAt Go.RowKit
set_option linter.unusedVariables false

theorem gtr_less (a b : List UInt8) : (!(Go.Op.bytesLess a b || a == b)) = Go.Op.bytesLess b a := by
  rcases less_total a b with rfl | h | h
  · rw [less_irrefl]; simp
  · rw [h, less_asymm a b h]; rfl
  · rw [less_asymm b a h, h]
    have : a ≠ b := by rintro rfl; rw [less_irrefl] at h; cases h
    simp [this]

def below1 (m : List UInt8) (ls : List (List UInt8)) (k : Nat) : List (List UInt8) := (ls.take k).filter (fun t => Go.Op.bytesLess t m)
def above1 (m : List UInt8) (ls : List (List UInt8)) (k : Nat) : List (List UInt8) := (ls.take k).filter (fun t => Go.Op.bytesLess m t)
theorem below1_succ (m : List UInt8) (ls : List (List UInt8)) (k : Nat) (h : k < ls.length) : below1 m ls (k + 1) = if Go.Op.bytesLess ls[k] m then below1 m ls k ++ [ls[k]] else below1 m ls k := by
  unfold below1; rw [List.take_succ_eq_append_getElem h, List.filter_append]
  cases hw : Go.Op.bytesLess ls[k] m <;> simp [hw]
theorem above1_succ (m : List UInt8) (ls : List (List UInt8)) (k : Nat) (h : k < ls.length) : above1 m ls (k + 1) = if Go.Op.bytesLess m ls[k] then above1 m ls k ++ [ls[k]] else above1 m ls k := by
  unfold above1; rw [List.take_succ_eq_append_getElem h, List.filter_append]
  cases hw : Go.Op.bytesLess m ls[k] <;> simp [hw]
theorem below1_len (m : List UInt8) (ls : List (List UInt8)) (k : Nat) : (below1 m ls k).length ≤ k := by
  unfold below1; exact Nat.le_trans (List.length_filter_le _ _) (by simp; omega)
theorem above1_len (m : List UInt8) (ls : List (List UInt8)) (k : Nat) : (above1 m ls k).length ≤ k := by
  unfold above1; exact Nat.le_trans (List.length_filter_le _ _) (by simp; omega)
theorem ins_form (m : List UInt8) (ls : List (List UInt8)) : insL m ls = (below1 m ls ls.length ++ [m]) ++ above1 m ls ls.length := by
  unfold insL below1 above1; rw [List.take_length]; simp
theorem less_arr (a b : List UInt8) : Go.Op.bytesLess (⟨a.toArray⟩ : ByteArray).toList b = Go.Op.bytesLess a b := by rw [Lib.toList_data]

theorem rowstr_snoc (F : List (List UInt8)) (l : List UInt8) : (F ++ [l]).map strV = F.map strV ++ [strV l] := by simp

set_option maxHeartbeats 4000000 in
set_option maxRecDepth 1000000 in
theorem insert_any (ls : List (List UInt8)) (m : List UInt8) (v : Value) (B : Nat) (w : World) (hl : ls.length ≤ 1000) (hown : w.ownsRow B 9 1 v ls.length (ls.map strV)) :
    Calls Tryz.prog 127 #[v, strV m] w fun e w' => ∃ v', e = .returned v' ∧ w'.ownsRow w.heap.size 9 1 v' (insL m ls).length ((insL m ls).map strV) ∧ Below w.heap.size w w' := by
  obtain ⟨i0, hi, hz0, hz1, hz2⟩ := info_parts info_string
  obtain ⟨av, lv, cv, rfl⟩ := own_slice hown
  have hlv : lv = ls.length := own_len hown
  subst hlv
  have HO := hide hown
  unfold strV
  clear hown
  have hmk : strV m = .string ⟨m.toArray⟩ := rfl
  have HMK := hide hmk
  clear hmk
  go_enter Tryz.func127, Tryz.ntmps127
  go_upto_block 0 with fail
  go_cut [5] (fun a wc => wc.ownsRow w.heap.size 9 1 a (below1 m ls ls.length).length ((below1 m ls ls.length).map strV) ∧ Below w.heap.size w wc)
  case first =>
    go_wp2_with fail
    go_loopg [5, 7, 12] ls.length (fun gk a _ i wr => ∃ k : Nat, k ≤ ls.length ∧ gk = ls.length - k ∧ i = .int .i64 k ∧ wr.ownsRow w.heap.size 9 1 a (below1 m ls k).length ((below1 m ls k).map strV) ∧ Below w.heap.size w wr)
    case atStart => exact ⟨0, by omega, by omega, rfl, World.ownsRow_nil _ _ _ _, Below.refl _ _⟩
    case round =>
      obtain ⟨k, hk, rfl, rfl, hrow, hb⟩ := hrel
      have hbs := hb.size
      by_cases hlt : k < ls.length
      · obtain ⟨g, cap, hv⟩ := own_form (unhide HO) (by omega)
        simp only [Value.slice.injEq] at hv
        obtain ⟨rfl, _, rfl⟩ := hv
        have hcc := own_cap (unhide HO)
        unfold maxLen at hcc
        obtain ⟨hcap, hcap2⟩ := hcc
        have e1 := own_str_at (own_below (unhide HO) hb) hlt
        have HSU := hide (below1_succ m ls k hlt)
        have hq := less_arr ls[k] m
        have hbl := below1_len m ls k
        have HB := hide hb
        have HROW := hide hrow
        have HES : Hid (strV ls[k] = .string ⟨ls[k].toArray⟩) := rfl
        clear hb hrow
        generalize (⟨ls[k].toArray⟩ : ByteArray) = es at *
        cases hc : Go.Op.bytesLess ls[k] m
        · rw [hc] at HSU hq
          go_wp2_with fail
          go_roundg (ls.length - (k + 1))
          case measure => omega
          case rel => exact ⟨k + 1, by omega, rfl, by go_num, by rw [unhide HSU]; exact unhide HROW, unhide HB⟩
        · rw [hc] at HSU hq
          go_wp2_with (at_builtin; refine wpList_append_own _ rfl _ _ 107 rfl w.heap.size 9 i0 (.string ByteArray.empty) 1 16 Tryz.underlying107 hi hz0 hz1 hz2 rfl (by decide) _ _ _ rfl ((unhide HROW).alloc _) ⟨wr.heap.size, 0, none⟩ 1 1 [.string es] rfl rfl ?c1 ?c2 ?c3 ?c4 ?c5 ?_)
          first
            | (case c1 =>
                intro j u hj
                match j, hj with
                | 0, hj => simp at hj; subst hj; simp [Addr.add])
            | skip
          case c2 => first | rfl | (intro u hu; simp at hu; subst hu; rfl)
          case c3 => unfold maxLen; omega
          case c4 => omega
          case c5 => first | omega | (simp; omega)
          intro v' w1 hown' hgrow _
          have HB1 := hide (below_push' (unhide HB) hbs (unhide HROW) hgrow)
          have HO1 : Hid (w1.ownsRow w.heap.size 9 1 v' (below1 m ls (k + 1)).length ((below1 m ls (k + 1)).map strV)) := by
            unfold Hid; rw [unhide HSU]; simp only [if_true]; rw [List.length_append, rowstr_snoc, unhide HES]; exact hown'
          clear hown' hgrow
          go_wp2_with fail
          go_roundg (ls.length - (k + 1))
          case measure => omega
          case rel => exact ⟨k + 1, by omega, rfl, by go_num, unhide HO1, unhide HB1⟩
      · have hke : k = ls.length := by omega
        have HB := hide hb
        have HROW := hide hrow
        clear hb hrow
        go_wp2_with fail
        go_meet
        subst hke
        exact ⟨unhide HROW, unhide HB⟩
  case rest =>
    obtain ⟨hrow, hb⟩ := hcut
    have hbs := hb.size
    have hbl := below1_len m ls ls.length
    have HB := hide hb
    have HROW := hide hrow
    clear hb hrow
    go_wp2_with (at_builtin; refine wpList_append_own _ rfl _ _ 107 rfl w.heap.size 9 i0 (.string ByteArray.empty) 1 16 Tryz.underlying107 hi hz0 hz1 hz2 rfl (by decide) _ _ _ rfl ((unhide HROW).alloc _) ⟨wc.heap.size, 0, none⟩ 1 1 [.string ⟨m.toArray⟩] rfl rfl ?b1 ?b2 ?b3 ?b4 ?b5 ?_)
    first
      | (case b1 =>
          intro j u hj
          match j, hj with
          | 0, hj => simp at hj; subst hj; simp [Addr.add])
      | skip
    case b2 => first | rfl | (intro u hu; simp at hu; subst hu; rfl)
    case b3 => unfold maxLen; omega
    case b4 => omega
    case b5 => first | omega | (simp; omega)
    intro v' w1 hown' hgrow _
    have HB1 := hide (below_push' (unhide HB) hbs (unhide HROW) hgrow)
    have HO1 : Hid (w1.ownsRow w.heap.size 9 1 v' (below1 m ls ls.length ++ [m]).length ((below1 m ls ls.length ++ [m]).map strV)) := by
      unfold Hid; rw [List.length_append, rowstr_snoc, unhide HMK]; exact hown'
    clear hown' hgrow HB HROW
    go_wp2_with fail
    go_loopg [5, 9, 30] ls.length (fun gk a _ i wr => ∃ k : Nat, k ≤ ls.length ∧ gk = ls.length - k ∧ i = .int .i64 k ∧ wr.ownsRow w.heap.size 9 1 a ((below1 m ls ls.length ++ [m]) ++ above1 m ls k).length (((below1 m ls ls.length ++ [m]) ++ above1 m ls k).map strV) ∧ Below w.heap.size w wr)
    case atStart => exact ⟨0, by omega, by omega, rfl, by rw [show above1 m ls 0 = [] from rfl, List.append_nil]; exact unhide HO1, unhide HB1⟩
    case round =>
      obtain ⟨k, hk, rfl, rfl, hrow, hb⟩ := hrel
      have hbs2 := hb.size
      clear HO1 HB1
      by_cases hlt : k < ls.length
      · obtain ⟨g, cap, hv⟩ := own_form (unhide HO) (by omega)
        simp only [Value.slice.injEq] at hv
        obtain ⟨rfl, _, rfl⟩ := hv
        have hcc := own_cap (unhide HO)
        unfold maxLen at hcc
        obtain ⟨hcap, hcap2⟩ := hcc
        have e1 := own_str_at (own_below (unhide HO) hb) hlt
        have HSU := hide (above1_succ m ls k hlt)
        have hq := gtr_less ls[k] m
        rw [← less_arr ls[k] m] at hq
        have hq2 := eq_strs ls[k] m
        rw [← hq2] at hq
        have hal := above1_len m ls k
        have hln : ((below1 m ls ls.length ++ [m]) ++ above1 m ls k).length ≤ 2001 := by simp only [List.length_append, List.length_singleton]; omega
        have HB := hide hb
        have HROW := hide hrow
        have HES : Hid (strV ls[k] = .string ⟨ls[k].toArray⟩) := rfl
        clear hb hrow hq2
        generalize (⟨ls[k].toArray⟩ : ByteArray) = es at *
        generalize hFF : (below1 m ls ls.length ++ [m]) ++ above1 m ls k = FF at *
        have HFF := hide hFF
        clear hFF
        cases hc : Go.Op.bytesLess m ls[k]
        · rw [hc] at HSU hq
          go_wp2_with fail
          go_roundg (ls.length - (k + 1))
          case measure => omega
          case rel => exact ⟨k + 1, by omega, rfl, by go_num, by rw [unhide HSU]; simp only [Bool.false_eq_true, if_false]; rw [unhide HFF]; exact unhide HROW, unhide HB⟩
        · rw [hc] at HSU hq
          go_wp2_with (at_builtin; refine wpList_append_own _ rfl _ _ 107 rfl w.heap.size 9 i0 (.string ByteArray.empty) 1 16 Tryz.underlying107 hi hz0 hz1 hz2 rfl (by decide) _ _ _ rfl ((unhide HROW).alloc _) ⟨wr.heap.size, 0, none⟩ 1 1 [.string es] rfl rfl ?d1 ?d2 ?d3 ?d4 ?d5 ?_)
          first
            | (case d1 =>
                intro j u hj
                match j, hj with
                | 0, hj => simp at hj; subst hj; simp [Addr.add])
            | skip
          case d2 => first | rfl | (intro u hu; simp at hu; subst hu; rfl)
          case d3 => unfold maxLen; omega
          case d4 => omega
          case d5 => first | omega | (simp; omega)
          intro v' w1 hown' hgrow _
          have HB1 := hide (below_push' (unhide HB) hbs2 (unhide HROW) hgrow)
          have HO1 : Hid (w1.ownsRow w.heap.size 9 1 v' ((below1 m ls ls.length ++ [m]) ++ above1 m ls (k + 1)).length (((below1 m ls ls.length ++ [m]) ++ above1 m ls (k + 1)).map strV)) := by
            unfold Hid; rw [unhide HSU]; simp only [if_true]; rw [← List.append_assoc, unhide HFF, List.length_append, rowstr_snoc, unhide HES]; exact hown'
          clear hown' hgrow
          go_wp2_with fail
          go_roundg (ls.length - (k + 1))
          case measure => omega
          case rel => exact ⟨k + 1, by omega, rfl, by go_num, unhide HO1, unhide HB1⟩
      · have hke : k = ls.length := by omega
        have HI := hide (ins_form m ls)
        have HB := hide hb
        have HROW := hide hrow
        clear hb hrow
        go_wp2_with fail
        go_ret
        subst hke
        exact ⟨_, rfl, by rw [unhide HI]; exact unhide HROW, unhide HB⟩

end Go.Proofs.YtchhmojnoiephabGreatDoor

namespace Go.Proofs.YtchhmojnoiephabGreatDoor
open Go.ChangeShapes Go.WideShapes Go.ChangeAt Go.RowKit
set_option linter.unusedVariables false

theorem sum_take (f : St → Nat) (xs : List St) (n : Nat) (h : n < xs.length) : ((xs.take n).map f).sum + f xs[n] ≤ (xs.map f).sum := by
  induction xs generalizing n with
  | nil => simp at h
  | cons x xs ih =>
    cases n with
    | zero => simp
    | succ n => have := ih n (by simpa using h); simp only [List.take_succ_cons, List.map_cons, List.sum_cons, List.getElem_cons_succ]; omega
theorem all_len (xs : List St) (n k : Nat) (h : n < xs.length) : (addE (allF (xs.take n)) (xs[n].edges.take k)).length ≤ (xs.map fun x => x.edges.length).sum := by
  have h1 := (addE_mem (xs[n].edges.take k) (allF (xs.take n))).2.2
  have h2 := (allF_mem (xs.take n)).2
  have h3 := sum_take (fun x => x.edges.length) xs n h
  rw [List.length_take] at h1
  omega
theorem all_next (xs : List St) (n : Nat) (h : n < xs.length) : allF (xs.take (n + 1)) = addE (allF (xs.take n)) xs[n].edges := by
  unfold allF; rw [List.take_succ_eq_append_getElem h, List.foldl_append]; rfl
theorem addE_next (lv : List (List UInt8)) (E : List (List UInt8 × Int)) (k : Nat) (h : k < E.length) : addE lv (E.take (k + 1)) = addL (addE lv (E.take k)) E[k].1 := by
  unfold addE; rw [List.take_succ_eq_append_getElem h, List.foldl_append]; rfl

set_option maxHeartbeats 8000000 in
set_option maxRecDepth 1000000 in
theorem all_any (sv : Value) (xs : List St) (B : Nat) (w : World) (hs : StRow w B sv xs) (hpos : 0 < xs.length) (hfew : xs.length ≤ 900) (hsum : (xs.map fun x => x.edges.length).sum ≤ 40000) :
    Calls Tryz.prog 120 #[sv] w fun e w' => ∃ v', e = .returned v' ∧ w'.ownsRow w.heap.size 9 1 v' (allF xs).length ((allF xs).map strV) ∧ Below w.heap.size w w' := by
  obtain ⟨i0, hi, hz0, hz1, hz2⟩ := info_parts info_string
  obtain ⟨gs, caps, rfl, hc1, hc2⟩ := hs.form hpos
  unfold maxLen at hc2
  have HS := hide hs
  clear hs
  go_enter Tryz.func120, Tryz.ntmps120
  go_wp2_with fail
  go_loopg [3, 4, 5, 6, 7] xs.length (fun gk a ii _ _ _ wr => ∃ n : Nat, n ≤ xs.length ∧ gk = xs.length - n ∧ ii = .int .i64 n ∧ Hid (wr.ownsRow w.heap.size 9 1 a (allF (xs.take n)).length ((allF (xs.take n)).map strV)) ∧ Hid (Below w.heap.size w wr))
  case atStart => exact ⟨0, by omega, by omega, rfl, World.ownsRow_nil _ _ _ _, Below.refl _ _⟩
  case round =>
    obtain ⟨n, hn, rfl, rfl, HROW0, HB0⟩ := hrel
    obtain ⟨wo, hwo⟩ : ∃ wo, wo = wr := ⟨_, rfl⟩
    subst hwo
    by_cases hlt : n < xs.length
    · obtain ⟨ai, li, ci, p0, p1, p2, hoi⟩ := (unhide HS).at hlt
      have hli : li = xs[n].edges.length := own_len hoi
      subst hli
      have bgs := blk_lt p1
      have HP := hide (fun (x : World) (hx : Below w.heap.size w x) => (hx.cell (p := ⟨gs, n * 3 + 1, none⟩) bgs).trans p1)
      have HOI := hide hoi
      have HLEN := hide (fun k => Nat.le_trans (all_len xs n k hlt) hsum)
      have HNX := hide (all_next xs n hlt)
      have hel : xs[n].edges.length ≤ 40000 := by
        have := sum_take (fun x => x.edges.length) xs n hlt
        omega
      have P1 := unhide HP _ (unhide HB0)
      clear p0 p1 p2 hoi bgs
      generalize allF (xs.take n) = A at *
      generalize xs[n].edges = E at *
      go_wp2_with fail
      go_loopg [3, 5, 6, 7] E.length (fun gk a kk _ _ wr => ∃ k : Nat, k ≤ E.length ∧ gk = E.length - k ∧ kk = .int .i64 k ∧ Hid (wr.ownsRow w.heap.size 9 1 a (addE A (E.take k)).length ((addE A (E.take k)).map strV)) ∧ Hid (Below w.heap.size w wr))
      case atStart => exact ⟨0, by omega, by omega, rfl, HROW0, HB0⟩
      case round =>
        obtain ⟨k, hk, rfl, rfl, HROW, HB⟩ := hrel
        obtain ⟨wk, hwk⟩ : ∃ wk, wk = wr := ⟨_, rfl⟩
        subst hwk
        have P2 := unhide HP _ (unhide HB)
        clear P1 HROW0 HB0
        by_cases hlk : k < E.length
        · obtain ⟨ge, ce, he⟩ := own_form (unhide HOI) (by omega)
          cases he
          have hct := own_cap (unhide HOI)
          unfold maxLen at hct
          obtain ⟨hct1, hct2⟩ := hct
          have HE1 := hide (fun (x : World) (hx : Below w.heap.size w x) => (own_edge (own_below (unhide HOI) hx) hlk).1)
          have HAN := hide (addE_next A E k hlk)
          have hll := unhide HLEN k
          generalize addE A (E.take k) = lv at *
          generalize E[k].1 = l at *
          obtain ⟨av, ln, cv, rfl⟩ := own_slice (unhide HROW)
          have hln : ln = lv.length := own_len (unhide HROW)
          subst hln
          have e0 := unhide HE1 _ (unhide HB)
          have HBW := hide (fun (x : World) (hx : Below wk.heap.size wk x) => (unhide HB).trans (hx.mono (unhide HB).size))
          have HLE : Hid (strV l = .string ⟨l.toArray⟩) := rfl
          have HQ : Hid (∀ m : List UInt8, ((⟨m.toArray⟩ : ByteArray).toList == (⟨l.toArray⟩ : ByteArray).toList) = decide (m = l)) := by
            intro m
            rw [Lib.toList_data, Lib.toList_data]
            by_cases h : m = l
            · subst h; simp
            · have : (m == l) = false := by simpa using h
              simp [h]
          generalize (⟨l.toArray⟩ : ByteArray) = le at *
          go_wp2_with fail
          go_loopg [6, 7] lv.length (fun gk o jj wr => ∃ (m : Nat) (b : Bool), m ≤ lv.length ∧ gk = lv.length - m ∧ jj = .int .i64 m ∧ o = .bool b ∧ Hid (b = decide (l ∈ lv.take m)) ∧ Hid (Below wk.heap.size wk wr))
          case atStart => exact ⟨0, false, by omega, by omega, rfl, rfl, by unfold Hid; simp, Below.refl _ _⟩
          case round =>
            obtain ⟨m, b, hm, rfl, rfl, rfl, HK, HB3⟩ := hrel
            have e3 := unhide HE1 _ (unhide HBW _ (unhide HB3))
            have P3 := unhide HP _ (unhide HBW _ (unhide HB3))
            clear e0 P2
            by_cases hlm : m < lv.length
            · obtain ⟨go, co, he⟩ := own_form (unhide HROW) (by omega)
              cases he
              have hcu := own_cap (unhide HROW)
              unfold maxLen at hcu
              obtain ⟨hcu1, hcu2⟩ := hcu
              have c3 := own_str_at (own_below (unhide HROW) (unhide HB3)) hlm
              have hq := unhide HQ lv[m]
              have HST : Hid (decide (l ∈ lv.take (m + 1)) = (b || decide (lv[m] = l))) := by
                unfold Hid
                have hmem : l ∈ lv.take (m + 1) ↔ (l ∈ lv.take m ∨ lv[m] = l) := by
                  rw [List.take_succ_eq_append_getElem hlm, List.mem_append, List.mem_singleton]
                  exact or_congr Iff.rfl ⟨Eq.symm, Eq.symm⟩
                rw [unhide HK, decide_eq_decide.2 hmem, Bool.decide_or]
              generalize (⟨lv[m].toArray⟩ : ByteArray) = es at *
              cases hd : decide (lv[m] = l) with
              | true =>
                rw [hd] at hq HST
                rw [Bool.or_true] at HST
                clear hd
                go_wp2_with fail
                go_quiet (fail)
                go_wp2_with fail
                go_roundg (lv.length - (m + 1))
                case measure => omega
                case rel => exact ⟨m + 1, true, by omega, rfl, by go_num, rfl, (unhide HST).symm, (unhide HB3).trans ⟨rfl, rfl, rfl, Nat.le_refl _, fun _ _ => rfl⟩⟩
              | false =>
                rw [hd] at hq HST
                rw [Bool.or_false] at HST
                clear hd
                go_wp2_with fail
                go_quiet (fail)
                go_wp2_with fail
                go_roundg (lv.length - (m + 1))
                case measure => omega
                case rel => exact ⟨m + 1, b, by omega, rfl, by go_num, rfl, (unhide HST).symm, (unhide HB3).trans ⟨rfl, rfl, rfl, Nat.le_refl _, fun _ _ => rfl⟩⟩
            · rw [List.take_of_length_le (by omega)] at HK
              have HB4 := hide (unhide HBW _ (unhide HB3))
              have hbs := (unhide HB4).size
              have HROW4 := hide (own_below (unhide HROW) (unhide HB3))
              cases b with
              | true =>
                have hin : l ∈ lv := by simpa using (unhide HK).symm
                have HAD : Hid (addL lv l = lv) := by unfold Hid addL; rw [if_pos hin]
                clear hin
                go_wp2_with fail
                go_roundg (E.length - (k + 1))
                case measure => omega
                case rel => exact ⟨k + 1, by omega, rfl, by go_num, by rw [unhide HAN, unhide HAD]; exact HROW4, HB4⟩
              | false =>
                have hin : ¬ l ∈ lv := by simpa using (unhide HK).symm
                have HAD : Hid (addL lv l = lv ++ [l]) := by unfold Hid addL; rw [if_neg hin]
                clear hin
                go_wp2_with (at_builtin; refine wpList_append_own _ rfl _ _ 107 rfl w.heap.size 9 i0 (.string ByteArray.empty) 1 16 Tryz.underlying107 hi hz0 hz1 hz2 rfl (by decide) _ _ _ rfl ((unhide HROW4).alloc _) ⟨wr.heap.size, 0, none⟩ 1 1 [.string le] rfl rfl ?c1 ?c2 ?c3 ?c4 ?c5 ?_)
                first
                  | (case c1 =>
                      intro j u hj
                      match j, hj with
                      | 0, hj => simp at hj; subst hj; simp [Addr.add])
                  | skip
                case c2 => first | rfl | (intro u hu; simp at hu; subst hu; rfl)
                case c3 => unfold maxLen; omega
                case c4 => omega
                case c5 => first | omega | (simp; omega)
                intro v' w1 hown' hgrow _
                have HB1 := hide (below_push' (unhide HB4) hbs (unhide HROW4) hgrow)
                have HO1 : Hid (w1.ownsRow w.heap.size 9 1 v' (addE A (E.take (k + 1))).length ((addE A (E.take (k + 1))).map strV)) := by
                  unfold Hid; rw [unhide HAN, unhide HAD, List.length_append, rowstr_snoc, unhide HLE]; exact hown'
                clear hown' hgrow
                go_wp2_with fail
                go_roundg (E.length - (k + 1))
                case measure => omega
                case rel => exact ⟨k + 1, by omega, rfl, by go_num, HO1, HB1⟩
        · rw [List.take_of_length_le (by omega)] at HROW
          go_wp2_with fail
          go_roundg (xs.length - (n + 1))
          case measure => omega
          case rel => exact ⟨n + 1, by omega, rfl, by go_num, by rw [unhide HNX]; exact HROW, HB⟩
    · rw [List.take_of_length_le (by omega)] at HROW0
      go_wp2_with fail
      go_ret
      exact ⟨_, rfl, unhide HROW0, unhide HB0⟩

end Go.Proofs.YtchhmojnoiephabGreatDoor

namespace Go.Proofs.YtchhmojnoiephabGreatDoor
open Go.ChangeShapes Go.WideShapes Go.ChangeAt Go.RowKit
set_option linter.unusedVariables false

/-- a block of numbers -/
def NumsAt (w : World) (b e : Nat) (g : List Int) : Prop := w.heap[b]? = some (.cells (g.map (Value.int .i64)).toArray e (0, 0))
theorem NumsAt.cell {w : World} {b e : Nat} {g : List Int} (h : NumsAt w b e g) {i : Nat} (hi : i < g.length) : w.cell? ⟨b, i, none⟩ = some (.int .i64 (g.getD i (-1))) :=
  cell_block h (by simp [List.getD, List.getElem?_eq_getElem hi])
theorem NumsAt.free {w : World} {b e : Nat} {g : List Int} (h : NumsAt w b e g) (i : Nat) : w.frozen? ⟨b, i, none⟩ = false := free_block h
theorem NumsAt.set {w : World} {b e : Nat} {g : List Int} (h : NumsAt w b e g) (i : Nat) (x : Int) : NumsAt (w.setCell ⟨b, i, none⟩ (.int .i64 x)) b e (g.set i x) := by
  unfold NumsAt at *
  simp only [World.setCell, Array.getElem?_modify, h]
  simp [List.map_set]
theorem NumsAt.below {w w' : World} {b e : Nat} {g : List Int} (h : NumsAt w b e g) (hb : Below w.heap.size w w') : NumsAt w' b e g := by
  unfold NumsAt at *
  rw [hb.block b (heap_lt h)]; exact h
theorem NumsAt.ints {w : World} {b e : Nat} {g : List Int} (h : NumsAt w b e g) (hn : g.length ≤ 900) : IntsAt w (.slice (some ⟨b, 0, none⟩) g.length g.length) g :=
  Or.inr ⟨b, 0, g.length, rfl, Nat.le_refl _, by unfold maxLen; omega, fun i hi => by rw [Nat.zero_add, h.cell hi]; simp [List.getD, List.getElem?_eq_getElem hi]⟩
theorem below_set {B : Nat} {w w' : World} (h : Below B w w') {b : Nat} (hb : B ≤ b) (i : Nat) (v : Value) : Below B w (w'.setCell ⟨b, i, none⟩ v) :=
  ⟨h.os, h.tape, h.output, by simpa [World.setCell] using h.size, fun k hk => by rw [Below.heap_setCell _ _ _ _ (by simp; omega)]; exact h.block k hk⟩

end Go.Proofs.YtchhmojnoiephabGreatDoor

namespace Go.Proofs.YtchhmojnoiephabGreatDoor
open Go.ChangeShapes Go.WideShapes Go.ChangeAt Go.RowKit
set_option linter.unusedVariables false

/-- the cells of a row that is filled up to k -/
def fillTo (xs : List Int) (k : Nat) : List Value := (xs.take k).map (Value.int .i64) ++ List.replicate (xs.length - k) (Value.int .i64 0)
theorem fillTo_set (xs : List Int) (k : Nat) (h : k < xs.length) (v : Value) : (fillTo xs k).set k v = (xs.take k).map (Value.int .i64) ++ v :: List.replicate (xs.length - (k + 1)) (Value.int .i64 0) := by
  unfold fillTo
  have h1 : ((xs.take k).map (Value.int .i64)).length = k := by simp; omega
  rw [List.set_append_right _ _ (by omega), h1, Nat.sub_self]
  obtain ⟨m, hm⟩ : ∃ m, xs.length - k = m + 1 := ⟨xs.length - k - 1, by omega⟩
  have hm' : xs.length - (k + 1) = m := by omega
  rw [hm, hm', List.replicate_succ, List.set_cons_zero]
theorem fillTo_succ (xs : List Int) (k : Nat) (h : k < xs.length) : (fillTo xs k).set k (.int .i64 xs[k]) = fillTo xs (k + 1) := by
  rw [fillTo_set xs k h]
  unfold fillTo
  rw [List.take_succ_eq_append_getElem h, List.map_append, List.append_assoc]
  rfl
theorem fillTo_all (xs : List Int) (k : Nat) (h : xs.length ≤ k) : fillTo xs k = xs.map (Value.int .i64) := by
  unfold fillTo
  rw [List.take_of_length_le h, Nat.sub_eq_zero_of_le h]; simp
theorem fillTo_len (xs : List Int) (k : Nat) : (fillTo xs k).length = xs.length := by
  unfold fillTo; simp; omega

theorem grp_end {xs : List St} {g : List Int} (lv : List (List UInt8)) (h : GI xs g) : ∀ c' : Bool, (c' = true ↔ ∃ i, i < xs.length ∧ (nextF xs g lv).getD i (-1) ≠ g.getD i (-1)) →
    (if c' = true then wtG (nextF xs g lv) xs.length + 1 else 0) < wtG g xs.length + 1 ∧ GI xs (nextF xs g lv) ∧ (c' = false → ∀ i, i < xs.length → cutF xs (nextF xs g lv) lv i = (nextF xs g lv).getD i (-1)) := by
  intro c' hc
  refine ⟨?_, next_inv lv h, fun hf i hi => ?_⟩
  · cases c' with
    | true =>
      obtain ⟨i, hi, hd⟩ := hc.1 rfl
      have := next_wt lv h i hi hd
      simp; omega
    | false => simp
  · have hall : ∀ j, j < xs.length → (nextF xs g lv).getD j (-1) = g.getD j (-1) := by
      intro j hj
      refine Classical.byContradiction fun hne => ?_
      have := hc.2 ⟨j, hj, hne⟩
      rw [hf] at this; cases this
    have hl : (nextF xs g lv).length = xs.length := (next_inv lv h).len
    have he : nextF xs g lv = g := by
      refine List.ext_getElem (by rw [hl, h.len]) fun j h1 h2 => ?_
      have := hall j (by omega)
      rw [List.getD, List.getD, List.getElem?_eq_getElem h1, List.getElem?_eq_getElem h2] at this
      simpa using this
    rw [he]
    have h1 := next_at xs g lv i hi
    rw [he] at h1
    exact h1.symm
theorem grp_step (N g : List Int) (n : Nat) (c : Bool) (h : c = true ↔ ∃ i, i < n ∧ N.getD i (-1) ≠ g.getD i (-1)) :
    (N.getD n (-1) ≠ g.getD n (-1) → (true = true ↔ ∃ i, i < n + 1 ∧ N.getD i (-1) ≠ g.getD i (-1))) ∧ (N.getD n (-1) = g.getD n (-1) → (c = true ↔ ∃ i, i < n + 1 ∧ N.getD i (-1) ≠ g.getD i (-1))) := by
  refine ⟨fun hd => ⟨fun _ => ⟨n, by omega, hd⟩, fun _ => rfl⟩, fun he => ⟨fun hc => ?_, fun ⟨i, hi, hd⟩ => ?_⟩⟩
  · obtain ⟨i, hi, hd⟩ := h.1 hc
    exact ⟨i, by omega, hd⟩
  · refine h.2 ⟨i, ?_, hd⟩
    refine Nat.lt_of_le_of_ne (by omega) (fun e => ?_)
    subst e; exact hd he

/-- what 'groups' answers -/
def GrpPost (w : World) (xs : List St) (lv : List (List UInt8)) (e : Ending) (w' : World) : Prop :=
  ∃ (v : Value) (g : List Int), e = .returned v ∧ IntsAt w' v g ∧ GI xs g ∧ (∀ i, i < xs.length → cutF xs g lv i = g.getD i (-1)) ∧ Below w.heap.size w w'

set_option maxHeartbeats 8000000 in
set_option maxRecDepth 1000000 in
theorem groups_any (sv : Value) (xs : List St) (B : Nat) (w : World) (hs : StRow w B sv xs) (hpos : 0 < xs.length) (hfew : xs.length ≤ 900) (hsum : (xs.map fun x => x.edges.length).sum ≤ 40000) (hx : inX xs) :
    Calls Tryz.prog 105 #[sv] w (GrpPost w xs (allF xs)) := by
  obtain ⟨i0, hi, hz0, hz1, hz2⟩ := info_parts info_int
  have hal := (allF_mem xs).2
  have HALL := hide (all_any sv xs B w hs hpos hfew hsum)
  obtain ⟨gs, caps, rfl, hc1, hc2⟩ := hs.form hpos
  unfold maxLen at hc2
  have HS := hide hs
  have hlv : (allF xs).length ≤ 40000 := by omega
  have HX := hide hx
  have HG0 := hide (g0_inv xs)
  have hgl : (g0F xs).length = xs.length := (unhide HG0).len
  have HGA := hide (g0_at xs)
  clear hs hx hal
  generalize allF xs = lv at *
  generalize g0F xs = G at *
  go_enter Tryz.func105, Tryz.ntmps105
  go_wp2_with fail
  refine (unhide HALL).mono ?_
  rintro e w1 ⟨tv, rfl, hrow, hb1⟩
  have HT := hide hrow
  have HB1 := hide hb1
  have HS1 := hide ((unhide HS).below hb1)
  clear hrow hb1 HALL HS
  go_wp2_with (at_make; refine wpList_make_full _ rfl _ _ 26 rfl w1.heap.size 3 i0 (.int .i64 0) 1 Tryz.underlying26 hi hz0 hz1 .i64 .i64 xs.length xs.length xs.length rfl rfl rfl rfl (by rw [hz2]; omega) (by unfold maxLen; omega) (Nat.le_refl _) ?_; intro w2 hown hgrow)
  have hb2 : Below w1.heap.size w1 w2 := (Below.refl _ w1).grown hgrow (Nat.le_refl _) (fun k hk => by cases hk)
  have HO : Hid (w2.ownsRow w1.heap.size 3 1 (.slice (some ⟨w1.heap.size, 0, none⟩) xs.length xs.length) xs.length (fillTo G 0)) := by
    unfold Hid
    have he : (madeCells (Value.int .i64 0).cells (xs.length * 1)).toList = fillTo G 0 := by
      unfold fillTo; rw [Nat.mul_one, hgl]; exact (toList_madeCells_one _ _).trans (by simp)
    rw [← he]; exact hown
  have HB2 := hide hb2
  clear hown hgrow hb2
  have hbw : w.heap.size ≤ w1.heap.size := (unhide HB1).size
  go_loopg [5, 6] xs.length (fun gk ii _ wr => ∃ n : Nat, n ≤ xs.length ∧ gk = xs.length - n ∧ ii = .int .i64 n ∧ Hid (wr.ownsRow w1.heap.size 3 1 (.slice (some ⟨w1.heap.size, 0, none⟩) xs.length xs.length) xs.length (fillTo G n)) ∧ Hid (Below w1.heap.size w1 wr))
  case atStart => exact ⟨0, by omega, by omega, rfl, HO, HB2⟩
  case round =>
    clear HO HB2
    obtain ⟨n, hn, rfl, rfl, HO, HB⟩ := hrel
    obtain ⟨wo, hwo⟩ : ∃ wo, wo = wr := ⟨_, rfl⟩
    subst hwo
    by_cases hlt : n < xs.length
    · have hfz := (unhide HO).frozenAt n
      have hce := (unhide HO).cellAt n (by omega)
      have hlc : n < (fillTo G n).length := by rw [fillTo_len]; omega
      rw [List.getElem?_eq_getElem hlc] at hce
      generalize (fillTo G n)[n] = old at hce
      have HGN : Hid (lastF (ansP xs n) (n + 1) (-1) = G[n]) := by
        unfold Hid; rw [← unhide HGA n hlt]; simp [List.getD, List.getElem?_eq_getElem (show n < G.length by omega)]
      have HFS := hide (fillTo_succ G n (by omega))
      obtain ⟨a0, b0, d0, pn, _, _, _⟩ := ((unhide HS1)).at hlt
      have HPN := hide (fun (x : World) (hx : Below w1.heap.size w1 x) => (hx.cell (p := ⟨gs, n * 3, none⟩) (blk_lt pn)).trans pn)
      clear hlc pn
      generalize G[n] = gn at *
      go_wp2_with fail
      go_loopg [6] (n + 1) (fun gk jj wr => ∃ (k : Nat) (v : Int), k ≤ n + 1 ∧ k = gk ∧ jj = .int .i64 ((k : Int) - 1) ∧ Hid (lastF (ansP xs n) k v = gn) ∧ Hid (wr.ownsRow w1.heap.size 3 1 (.slice (some ⟨w1.heap.size, 0, none⟩) xs.length xs.length) xs.length ((fillTo G n).set n (.int .i64 v))) ∧ Hid (Below w1.heap.size w1 wr))
      case atStart => exact ⟨n + 1, -1, by omega, rfl, by congr 1; omega, HGN, ((unhide HO).stored n _).1, (unhide HB).setCell (Nat.le_refl _) _⟩
      case round =>
        clear hfz hce HO HB HGN
        obtain ⟨k, v, hk, hgk, hjj, HL, HO, HB⟩ := hrel
        subst hgk
        by_cases h0 : k = 0
        · subst h0
          replace hjj : _ = Value.int .i64 (-1) := hjj
          subst hjj
          have hv : v = gn := unhide HL
          subst hv
          rw [unhide HFS] at HO
          go_wp2_with fail
          go_roundg (xs.length - (n + 1))
          case measure => omega
          case rel => exact ⟨n + 1, by omega, rfl, by go_num, HO, HB⟩
        · obtain ⟨j, rfl⟩ : ∃ j, k = j + 1 := ⟨k - 1, by omega⟩
          replace hjj : _ = Value.int .i64 (j : Int) := hjj.trans (by congr 1; omega)
          subst hjj
          have hj : j < xs.length := by omega
          obtain ⟨a1, b1, d1, pj, _, _, _⟩ := ((unhide HS1)).at hj
          have pj := ((unhide HB).cell (p := ⟨gs, j * 3, none⟩) (blk_lt pj)).trans pj
          have pn := unhide HPN _ (unhide HB)
          have hfz := (unhide HO).frozenAt n
          have hce := (unhide HO).cellAt n (by omega)
          have hjj2 : IntKind.i64.wrap ((j : Int) - 1) = (j : Int) - 1 := by rw [IntKind.wrap_i64]; omega
          have hjd : decide ((0 : Int) ≤ (j : Int)) = true := by simp
          rw [List.getElem?_set_self (by rw [fillTo_len]; omega)] at hce
          have HA := hide (ansP_iff xs n j hlt hj)
          have hq : ((⟨xs[j].ans.toArray⟩ : ByteArray).toList == (⟨xs[n].ans.toArray⟩ : ByteArray).toList) = decide (xs[j].ans = xs[n].ans) := by
            rw [Lib.toList_data, Lib.toList_data]
            by_cases h : xs[j].ans = xs[n].ans
            · rw [h]; simp
            · have : (xs[j].ans == xs[n].ans) = false := by simpa using h
              simp [h]
          have hz : (⟨xs[n].ans.toArray⟩ : ByteArray).toList = xs[n].ans := by rw [Lib.toList_data]
          have HBD := hide (fun q => (unhide HB).trans (⟨rfl, rfl, rfl, Nat.le_refl _, fun _ _ => rfl⟩ : Below w1.heap.size wr (wr.drewN q)))
          have HOD := hide (fun q => own_below (unhide HO) (⟨rfl, rfl, rfl, Nat.le_refl _, fun _ _ => rfl⟩ : Below wr.heap.size wr (wr.drewN q)))
          generalize (⟨xs[j].ans.toArray⟩ : ByteArray) = ej at *
          generalize (⟨xs[n].ans.toArray⟩ : ByteArray) = en at *
          by_cases he : xs[j].ans = xs[n].ans
          · rw [decide_eq_true he] at hq
            by_cases hne : xs[n].ans = []
            · have HP : Hid (lastF (ansP xs n) j v = gn) := by
                have h := unhide HL
                simp only [lastF] at h
                rw [if_neg (fun h2 => ((unhide HA).1 h2).2 hne)] at h
                exact h
              rw [hne] at hz
              have hz2 : (en.toList != []) = false := by rw [hz]; rfl
              have hz3 : (en.toList == []) = true := by rw [hz]; rfl
              clear he hne HA hz
              go_wp2_with fail
              go_quiet (fail)
              go_wp2_with fail
              go_roundg j
              case measure => omega
              case rel => exact ⟨j, v, by omega, rfl, rfl, HP, unhide HOD _, unhide HBD _⟩
            · have HP : Hid (lastF (ansP xs n) j (j : Int) = gn) := by
                have h := unhide HL
                simp only [lastF] at h
                rw [if_pos ((unhide HA).2 ⟨he, hne⟩)] at h
                exact h
              rw [← hz] at hne
              have hz2 : (en.toList != []) = true := by simpa using hne
              have hz3 : (en.toList == []) = false := by simpa using hne
              have HSS : Hid (∀ q, ((wr.drewN q).setCell ⟨w1.heap.size, n, none⟩ (.int .i64 (j : Int))).ownsRow w1.heap.size 3 1 (.slice (some ⟨w1.heap.size, 0, none⟩) xs.length xs.length) xs.length ((fillTo G n).set n (.int .i64 (j : Int)))) := by
                intro q
                have h := ((unhide HOD q).stored n (.int .i64 (j : Int))).1
                rw [List.set_set] at h
                exact h
              clear he HA hz
              go_wp2_with fail
              go_quiet (fail)
              go_wp2_with fail
              go_roundg j
              case measure => omega
              case rel => exact ⟨j, (j : Int), by omega, rfl, rfl, HP, unhide HSS _, (unhide HBD _).setCell (Nat.le_refl _) _⟩
          · rw [decide_eq_false he] at hq
            have HP : Hid (lastF (ansP xs n) j v = gn) := by
              have h := unhide HL
              simp only [lastF] at h
              rw [if_neg (fun h2 => he ((unhide HA).1 h2).1)] at h
              exact h
            clear he HA hz
            go_wp2_with fail
            go_quiet (fail)
            go_wp2_with fail
            go_roundg j
            case measure => omega
            case rel => exact ⟨j, v, by omega, rfl, rfl, HP, unhide HOD _, unhide HBD _⟩
    · rw [fillTo_all G n (by omega)] at HO
      have HI0 := hide (IntsAt.of_own (unhide HO))
      clear HO
      go_wp2_with fail
      go_loopg [4, 7, 8, 9, 10] (wtG G xs.length + 1) (fun gk gv b _ _ _ wr => ∃ (g : List Int) (c : Bool), (if c = true then wtG g xs.length + 1 else 0) = gk ∧ b = .bool c ∧ Hid (IntsAt wr gv g) ∧ Hid (GI xs g) ∧ Hid (c = false → ∀ i, i < xs.length → cutF xs g lv i = g.getD i (-1)) ∧ Hid (Below w1.heap.size w1 wr))
      case atStart => exact ⟨G, true, by simp, rfl, by rw [← hgl] at HI0 ⊢; exact HI0, HG0, (fun h => absurd h (by decide)), HB⟩
      case round =>
        clear HI0 HB
        obtain ⟨g, c, hgk, rfl, HI, HGI, HFX, HB⟩ := hrel
        subst hgk
        obtain ⟨wg, hwg⟩ : ∃ wg, wg = wr := ⟨_, rfl⟩
        subst hwg
        cases c
        · have HFX2 := hide (unhide HFX rfl)
          have HBE := hide ((unhide HB1).trans ((unhide HB).mono hbw))
          go_wp2_with fail
          go_ret
          exact ⟨_, g, rfl, unhide HI, unhide HGI, unhide HFX2, unhide HBE⟩
        · obtain ⟨ag, cg, hav, _⟩ := (unhide HI).form
          subst hav
          have hglen := (unhide HGI).len
          obtain ⟨N, hN⟩ : ∃ N, N = nextF xs g lv := ⟨_, rfl⟩
          have hNl : N.length = xs.length := by rw [hN]; unfold nextF; simp
          have HCUT := hide (fun (m : Nat) (hm : m < xs.length) (x : World) (hb : Below wg.heap.size wg x) => cut_any _ _ tv xs g lv B w.heap.size m x (((unhide HS1).below (unhide HB)).below hb) ((unhide HI).below hb) (own_below (own_below (unhide HT) (unhide HB)) hb) hglen (unhide HX) hm hfew (by omega))
          have HNE : Hid (∀ (m : Nat) (hm : m < xs.length), (fillTo N m).set m (.int .i64 (cutF xs g lv m)) = fillTo N (m + 1)) := by
            intro m hm
            rw [← fillTo_succ N m (by omega)]
            have : N[m]'(by omega) = cutF xs g lv m := by subst hN; unfold nextF; simp
            rw [this]
          have HEND := hide (grp_end lv (unhide HGI))
          rw [← hN] at HEND
          have HBW := hide (fun (x : World) (hb : Below wg.heap.size wg x) => (unhide HB).trans (hb.mono (unhide HB).size))
          have HI2 := hide (fun (x : World) (hb : Below wg.heap.size wg x) => (unhide HI).below hb)
          clear hN HFX HGI HX HT HS1 HI HB HB1 HG0 HGA
          rw [hglen] at HCUT HI2
          rw [hglen]
          have hsz3 : xs.length ≤ 900 := hfew
          go_wp2_with (at_make; refine wpList_make_full _ rfl _ _ 26 rfl wg.heap.size 3 i0 (.int .i64 0) 1 Tryz.underlying26 hi hz0 hz1 .i64 .i64 xs.length xs.length xs.length rfl rfl rfl rfl (by rw [hz2]; omega) (by unfold maxLen; omega) (Nat.le_refl _) ?_; intro w3 hown hgrow)
          have hb3 : Below wg.heap.size wg w3 := (Below.refl _ wg).grown hgrow (Nat.le_refl _) (fun k hk => by cases hk)
          have HO3 : Hid (w3.ownsRow wg.heap.size 3 1 (.slice (some ⟨wg.heap.size, 0, none⟩) xs.length xs.length) xs.length (fillTo N 0)) := by
            unfold Hid
            have he : (madeCells (Value.int .i64 0).cells (xs.length * 1)).toList = fillTo N 0 := by
              unfold fillTo; rw [Nat.mul_one, hNl]; exact (toList_madeCells_one _ _).trans (by simp)
            rw [← he]; exact hown
          have HB3 := hide hb3
          clear hown hgrow hb3 hi hz0 hz1 hz2
          go_loopg [9] xs.length (fun gk ii wr => ∃ n : Nat, n ≤ xs.length ∧ gk = xs.length - n ∧ ii = .int .i64 n ∧ Hid (wr.ownsRow wg.heap.size 3 1 (.slice (some ⟨wg.heap.size, 0, none⟩) xs.length xs.length) xs.length (fillTo N n)) ∧ Hid (Below wg.heap.size wg wr))
          case atStart => exact ⟨0, by omega, by omega, rfl, HO3, HB3⟩
          case round =>
            clear HO3 HB3
            obtain ⟨m, hm, rfl, rfl, HO, HBm⟩ := hrel
            by_cases hlm : m < xs.length
            · have HCM := hide (unhide HCUT m hlm _ (unhide HBm))
              have HFS := hide (unhide HNE m hlm)
              have hlc : m < (fillTo N m).length := by rw [fillTo_len]; omega
              clear HCUT HNE HEND HBW HI2
              generalize cutF xs g lv m = cm at *
              go_wp2_with fail
              refine (unhide HCM).mono ?_
              rintro e w5 ⟨rfl, hb5⟩
              have HO5 := hide (own_below (unhide HO) hb5)
              have HB5 := hide ((unhide HBm).trans (hb5.mono (unhide HBm).size))
              clear hb5 HO HCM
              have hfz := (unhide HO5).frozenAt m
              have hce := (unhide HO5).cellAt m (by omega)
              rw [List.getElem?_eq_getElem hlc] at hce
              generalize (fillTo N m)[m] = old at hce
              clear hlc
              go_wp2_with fail
              go_roundg (xs.length - (m + 1))
              case measure => omega
              case rel =>
                refine ⟨m + 1, by omega, rfl, by go_num, ?_, ?_⟩
                · unfold Hid; rw [← unhide HFS]; exact ((unhide HO5).stored m _).1
                · exact (unhide HB5).setCell (Nat.le_refl _) _
            · rw [fillTo_all _ m (by omega)] at HO
              have HIN := hide (IntsAt.of_own (unhide HO))
              have HIG := hide (unhide HI2 _ (unhide HBm))
              have HBH := hide (unhide HBW _ (unhide HBm))
              clear HCUT HNE HBW HI2 HO HBm
              obtain ⟨wh, hwh⟩ : ∃ wh, wh = wr := ⟨_, rfl⟩
              subst hwh
              rw [← hNl] at HIN
              obtain ⟨bn, on, cn, hvn, hn1, hn2, hnc⟩ := (unhide HIN).at (by omega)
              rw [hNl] at hvn HIN
              cases hvn
              rw [← hglen] at HIG
              obtain ⟨bg, og, cgg, hvg, hg1, hg2, hgc⟩ := (unhide HIG).at (by omega)
              rw [hglen] at hvg
              cases hvg
              clear HIG
              have HNC := hide hnc
              have HGC := hide hgc
              clear hnc hgc
              go_wp2_with fail
              go_loopg [7, 10] xs.length (fun gk b ii wr => ∃ (n : Nat) (c : Bool), n ≤ xs.length ∧ gk = xs.length - n ∧ ii = .int .i64 n ∧ b = .bool c ∧ Hid (c = true ↔ ∃ i, i < n ∧ N.getD i (-1) ≠ g.getD i (-1)) ∧ Hid (Below wh.heap.size wh wr))
              case atStart => exact ⟨0, false, by omega, by omega, rfl, rfl, by unfold Hid; simp, Below.refl _ _⟩
              case round =>
                obtain ⟨n, c, hn, rfl, rfl, rfl, HC, HBn⟩ := hrel
                by_cases hln : n < xs.length
                · have x1 := ((unhide HBn).cell (p := ⟨wg.heap.size, 0 + n, none⟩) (blk_lt (unhide HNC n (by omega)))).trans (unhide HNC n (by omega))
                  have x2 := ((unhide HBn).cell (p := ⟨bg, og + n, none⟩) (blk_lt (unhide HGC n (by omega)))).trans (unhide HGC n (by omega))
                  rw [Nat.zero_add] at x1
                  have HST := hide (grp_step N g n c (unhide HC))
                  generalize N.getD n (-1) = p at *
                  generalize g.getD n (-1) = q at *
                  by_cases hpq : p = q
                  · have hbq : (p != q) = false := by simp [hpq]
                    have HC2 := hide ((unhide HST).2 hpq)
                    clear hpq HST HC HEND
                    go_wp2_with fail
                    go_quiet (fail)
                    go_wp2_with fail
                    go_roundg (xs.length - (n + 1))
                    case measure => omega
                    case rel => exact ⟨n + 1, c, by omega, rfl, by go_num, rfl, HC2, (unhide HBn).trans ⟨rfl, rfl, rfl, Nat.le_refl _, fun _ _ => rfl⟩⟩
                  · have hbq : (p != q) = true := by simp [hpq]
                    have HC2 := hide ((unhide HST).1 hpq)
                    clear hpq HST HC HEND
                    go_wp2_with fail
                    go_quiet (fail)
                    go_wp2_with fail
                    go_roundg (xs.length - (n + 1))
                    case measure => omega
                    case rel => exact ⟨n + 1, true, by omega, rfl, by go_num, rfl, (by unfold Hid at HC2 ⊢; simpa using HC2), (unhide HBn).trans ⟨rfl, rfl, rfl, Nat.le_refl _, fun _ _ => rfl⟩⟩
                · obtain rfl : n = xs.length := by omega
                  obtain ⟨hms, hgi, hfx⟩ := unhide HEND c (unhide HC)
                  have HGN := hide hgi
                  have HFN := hide hfx
                  have HINN := hide ((unhide HIN).below (unhide HBn))
                  have HBE := hide ((unhide HBH).trans ((unhide HBn).mono (unhide HBH).size))
                  clear hgi hfx HEND HC HIN HNC HGC
                  go_wp2_with fail
                  go_roundg (if c = true then wtG N xs.length + 1 else 0)
                  case measure => simpa using hms
                  case rel => exact ⟨N, c, rfl, rfl, HINN, HGN, HFN, HBE⟩

end Go.Proofs.YtchhmojnoiephabGreatDoor

namespace Go.Proofs.YtchhmojnoiephabGreatDoor
open Go.ChangeShapes Go.WideShapes Go.ChangeAt Go.RowKit
set_option linter.unusedVariables false

theorem info_bool : (Tryz.prog.info? 4).map (fun i => (i.zero, i.size, i.bytes)) = some (some (.bool false), 1, 1) := by kernel_rfl

abbrev rowB (w : World) (B N n : Nat) (r : List Bool) : Prop := w.ownsRow B 4 1 (.slice (some ⟨N, 0, none⟩) n n) n (r.map Value.bool)
theorem rowB_at {w : World} {B N n i : Nat} {r : List Bool} (h : rowB w B N n r) (hn : r.length = n) (hi : i < n) : w.cell? ⟨N, i, none⟩ = some (.bool (r.getD i false)) ∧ w.frozen? ⟨N, i, none⟩ = false := by
  have h1 := h.cellAt i (by omega)
  rw [List.getElem?_map, List.getElem?_eq_getElem (by omega)] at h1
  refine ⟨?_, h.frozenAt i⟩
  rw [List.getD, List.getElem?_eq_getElem (by omega)]
  exact h1
theorem rowB_set {w : World} {B N n : Nat} {r : List Bool} (h : rowB w B N n r) (i : Nat) : rowB (w.setCell ⟨N, i, none⟩ (.bool true)) B N n (r.set i true) := by
  have h1 := (h.stored i (.bool true)).1
  unfold rowB
  rw [List.map_set]
  exact h1

/-- what 'reached' answers -/
def ReaPost (w : World) (xs : List St) (e : Ending) (w' : World) : Prop :=
  ∃ (N : Nat) (r : List Bool), e = .returned (.slice (some ⟨N, 0, none⟩) xs.length xs.length) ∧ rowB w' w.heap.size N xs.length r ∧ r.length = xs.length ∧ closedR xs r ∧ (r.getD 0 false = true ∧ r.getD 1 false = true) ∧ Below w.heap.size w w'

set_option maxHeartbeats 8000000 in
set_option maxRecDepth 1000000 in
theorem reached_any (sv : Value) (xs : List St) (B : Nat) (w : World) (hs : StRow w B sv xs) (h2 : 2 ≤ xs.length) (hfew : xs.length ≤ 900) (hx : inX xs) (hlen : ∀ x ∈ xs, x.edges.length ≤ 40000) :
    Calls Tryz.prog 104 #[sv] w (ReaPost w xs) := by
  obtain ⟨i0, hi, hz0, hz1, hz2⟩ := info_parts info_bool
  obtain ⟨gs, caps, rfl, hc1, hc2⟩ := hs.form (by omega)
  unfold maxLen at hc2
  have HS := hide hs
  have HX := hide hx
  have HLE := hide hlen
  clear hs hx hlen
  go_enter Tryz.func104, Tryz.ntmps104
  go_upto_region 2 with (at_make; refine wpList_make_full _ rfl _ _ 164 rfl w.heap.size 4 i0 (.bool false) 1 Tryz.underlying164 hi hz0 hz1 .i64 .i64 xs.length xs.length xs.length rfl rfl rfl rfl (by rw [hz2]; omega) (by unfold maxLen; omega) (Nat.le_refl _) ?_; intro w1 hown hgrow)
  have hb1 : Below w.heap.size w w1 := (Below.refl _ w).grown hgrow (Nat.le_refl _) (fun k hk => by cases hk)
  have hr0 : rowB w1 w.heap.size w.heap.size xs.length (List.replicate xs.length false) := by
    have he : (madeCells (Value.bool false).cells (xs.length * 1)).toList = (List.replicate xs.length false).map Value.bool := by
      rw [Nat.mul_one, List.map_replicate]; exact toList_madeCells_one _ _
    unfold rowB
    rw [← he]; exact hown
  obtain ⟨z0, f0⟩ := rowB_at hr0 (by simp) (i := 0) (by omega)
  have hr1 := rowB_set hr0 0
  obtain ⟨z1, f1⟩ := rowB_at hr1 (by simp) (i := 1) (by omega)
  have HR2 := hide (rowB_set hr1 1)
  have HB2 : Hid (Below w.heap.size w ((w1.setCell ⟨w.heap.size, 0, none⟩ (.bool true)).setCell ⟨w.heap.size, 1, none⟩ (.bool true))) := (hb1.setCell (Nat.le_refl _) _).setCell (Nat.le_refl _) _
  have HL2 : Hid ((((List.replicate xs.length false).set 0 true).set 1 true).length = xs.length ∧ (((List.replicate xs.length false).set 0 true).set 1 true).getD 0 false = true ∧ (((List.replicate xs.length false).set 0 true).set 1 true).getD 1 false = true) := by
    obtain ⟨m, hm⟩ : ∃ m, xs.length = m + 2 := ⟨xs.length - 2, by omega⟩
    unfold Hid
    rw [hm]
    simp [List.replicate_succ, List.getD]
  clear hr0 hr1 hown hgrow hb1
  generalize ((List.replicate xs.length false).set 0 true).set 1 true = R at *
  generalize (List.replicate xs.length false).getD 0 false = b0 at *
  generalize ((List.replicate xs.length false).set 0 true).getD 1 false = b1 at *
  have hI0 : (0 : Int) < (xs.length : Int) := by omega
  have hI1 : (1 : Int) < (xs.length : Int) := by omega
  go_wp2_with fail
  go_loopg [4, 5, 6, 7] (cntF R + 1) (fun gk b _ _ _ wr => ∃ (r : List Bool) (c : Bool), (if c = true then cntF r + 1 else 0) = gk ∧ b = .bool c ∧ Hid (rowB wr w.heap.size w.heap.size xs.length r) ∧ Hid (r.length = xs.length ∧ r.getD 0 false = true ∧ r.getD 1 false = true) ∧ Hid (c = false → closedR xs r) ∧ Hid (Below w.heap.size w wr))
  case atStart => exact ⟨R, true, by simp, rfl, HR2, HL2, (fun h => by cases h), HB2⟩
  case round =>
    clear HR2 HB2 HL2 z0 z1 f0 f1
    obtain ⟨r, c, hgk, rfl, HR, HL, HCL, HB⟩ := hrel
    subst hgk
    cases c
    · have HC := hide (unhide HCL rfl)
      go_wp2_with fail
      go_ret
      exact ⟨_, r, rfl, unhide HR, (unhide HL).1, unhide HC, (unhide HL).2, unhide HB⟩
    · clear HCL
      have HRI := hide (RI.start (xs := xs) (unhide HL).1 (unhide HL).2)
      clear HL
      go_wp2_with fail
      go_loopg [4, 5, 6, 7] xs.length (fun gk b ii _ _ wr => ∃ (n : Nat) (s : List Bool) (a : Bool), n ≤ xs.length ∧ gk = xs.length - n ∧ ii = .int .i64 n ∧ b = .bool a ∧ Hid (rowB wr w.heap.size w.heap.size xs.length s) ∧ Hid (RI xs r s a n) ∧ Hid (Below w.heap.size w wr))
      case atStart => exact ⟨0, r, false, by omega, by omega, rfl, rfl, HR, HRI, HB⟩
      case round =>
        clear HR HRI HB
        obtain ⟨n, s, a, hn, rfl, rfl, rfl, HR, HRI, HB⟩ := hrel
        by_cases hlt : n < xs.length
        · obtain ⟨ai, li, ci, p0, p1, p2, hoi⟩ := (unhide HS).at hlt
          have hli : li = xs[n].edges.length := own_len hoi
          subst hli
          have bgs := blk_lt p1
          have HP1 := hide (fun (x : World) (hx : Below w.heap.size w x) => (hx.cell (p := ⟨gs, n * 3 + 1, none⟩) bgs).trans p1)
          have HP2 := hide (fun (x : World) (hx : Below w.heap.size w x) => (hx.cell (p := ⟨gs, n * 3 + 2, none⟩) bgs).trans p2)
          have HOI := hide hoi
          have hel : xs[n].edges.length ≤ 40000 := unhide HLE _ (List.getElem_mem hlt)
          have hst := (unhide HX _ (List.getElem_mem hlt)).1
          have HED := hide (unhide HX _ (List.getElem_mem hlt)).2
          have HALL := hide (fun (s : List Bool) (a : Bool) (h : RI xs r s a n) (hk : a = false → clTo xs[n] s (xs[n].edges.length + 1)) => h.all hlt hk)
          clear p0 p1 p2 hoi bgs
          generalize xs[n] = x at *
          go_wp2_with fail
          go_loopg [4, 6, 7] (x.edges.length + 1) (fun gk b kk _ wr => ∃ (k : Nat) (s : List Bool) (a : Bool), k ≤ x.edges.length + 1 ∧ gk = x.edges.length + 1 - k ∧ kk = .int .i64 ((k : Int) - 1) ∧ b = .bool a ∧ Hid (rowB wr w.heap.size w.heap.size xs.length s) ∧ Hid (RI xs r s a n) ∧ Hid (a = false → clTo x s k) ∧ Hid (Below w.heap.size w wr))
          case atStart => exact ⟨0, s, a, by omega, by omega, rfl, rfl, HR, HRI, (fun _ => clTo_zero _ _), HB⟩
          case round =>
            clear HR HRI HB
            obtain ⟨k, s, a, hk, rfl, hkk, rfl, HR, HRI, HTO, HB⟩ := hrel
            obtain ⟨wk, hwk⟩ : ∃ wk, wk = wr := ⟨_, rfl⟩
            subst hwk
            have hsl := (unhide HRI).len
            obtain ⟨cn, fn⟩ := rowB_at (unhide HR) hsl hlt
            have q1 := unhide HP1 _ (unhide HB)
            have q2 := unhide HP2 _ (unhide HB)
            obtain ⟨bn, hbn⟩ : ∃ bn, bn = s.getD n false := ⟨_, rfl⟩
            rw [← hbn] at cn
            cases bn
            · have HN := hide ((unhide HRI).not hbn.symm)
              clear hbn
              subst hkk
              go_wp2_with fail
              go_roundg (xs.length - (n + 1))
              case measure => omega
              case rel => exact ⟨n + 1, s, a, by omega, rfl, by go_num, rfl, HR, HN, HB⟩
            · clear hbn
              by_cases hke : k = x.edges.length + 1
              · subst hke
                replace hkk : _ = Value.int .i64 (x.edges.length : Int) := hkk.trans (by congr 1; omega)
                subst hkk
                have HN := hide (unhide HALL s a (unhide HRI) (unhide HTO))
                go_wp2_with fail
                go_roundg (xs.length - (n + 1))
                case measure => omega
                case rel => exact ⟨n + 1, s, a, by omega, rfl, by go_num, rfl, HR, HN, HB⟩
              · by_cases hk0 : k = 0
                · subst hk0
                  replace hkk : _ = Value.int .i64 (-1) := hkk
                  subst hkk
                  by_cases hneg : x.star < 0
                  · have HT1 : Hid (a = false → clTo x s 1) := fun _ => clTo_star (fun h => by omega)
                    have hd : decide ((0 : Int) ≤ x.star) = false := by simp; omega
                    go_wp2_with fail
                    go_roundg (x.edges.length + 1 - 1)
                    case measure => omega
                    case rel => exact ⟨1, s, a, by omega, rfl, rfl, rfl, HR, HRI, HT1, HB⟩
                  · obtain ⟨t, ht⟩ : ∃ t : Nat, x.star = t := ⟨x.star.toNat, by omega⟩
                    have htl : t < xs.length := by omega
                    have HMK := hide (fun hf => (unhide HRI).mark t htl hf)
                    have HCT := hide (fun h => clTo_star (x := x) (r := s) (fun _ => by rw [ht]; exact h))
                    rw [ht] at q2 hst
                    clear ht hneg
                    obtain ⟨ct, ft⟩ := rowB_at (unhide HR) hsl htl
                    obtain ⟨bt, hbt⟩ : ∃ bt, bt = s.getD t false := ⟨_, rfl⟩
                    rw [← hbt] at ct
                    cases bt
                    · have HM := hide (unhide HMK hbt.symm)
                      have HRS := hide (rowB_set (unhide HR) t)
                      clear hbt HMK HCT
                      go_wp2_with fail
                      go_roundg (x.edges.length + 1 - 1)
                      case measure => omega
                      case rel => exact ⟨1, s.set t true, true, by omega, rfl, rfl, rfl, HRS, HM, (fun h => by cases h), (unhide HB).setCell (Nat.le_refl _) _⟩
                    · have HC := hide (fun (_ : a = false) => unhide HCT hbt.symm)
                      clear hbt HMK HCT
                      go_wp2_with fail
                      go_roundg (x.edges.length + 1 - 1)
                      case measure => omega
                      case rel => exact ⟨1, s, a, by omega, rfl, rfl, rfl, HR, HRI, HC, HB⟩
                · obtain ⟨j, rfl⟩ : ∃ j, k = j + 1 := ⟨k - 1, by omega⟩
                  replace hkk : _ = Value.int .i64 (j : Int) := hkk.trans (by congr 1; omega)
                  subst hkk
                  have hj : j < x.edges.length := by omega
                  obtain ⟨ge, ce, he⟩ := own_form (unhide HOI) (by omega)
                  cases he
                  have hct := own_cap (unhide HOI)
                  unfold maxLen at hct
                  obtain ⟨hct1, hct2⟩ := hct
                  have e2 := (own_edge (own_below (unhide HOI) (unhide HB)) hj).2
                  have hin := unhide HED _ (List.getElem_mem hj)
                  have HEJ := hide (fun (h : clTo x s (j + 1)) (h2 : s.getD x.edges[j].2.toNat false = true) => clTo_edge h hj h2)
                  obtain ⟨t, ht⟩ : ∃ t : Nat, x.edges[j].2 = t := ⟨x.edges[j].2.toNat, by omega⟩
                  have htl : t < xs.length := by omega
                  have HMK := hide (fun hf => (unhide HRI).mark t htl hf)
                  rw [ht] at e2 HEJ
                  clear hin ht
                  obtain ⟨ct, ft⟩ := rowB_at (unhide HR) hsl htl
                  obtain ⟨bt, hbt⟩ : ∃ bt, bt = s.getD t false := ⟨_, rfl⟩
                  rw [← hbt] at ct
                  cases bt
                  · have HM := hide (unhide HMK hbt.symm)
                    have HRS := hide (rowB_set (unhide HR) t)
                    clear hbt HMK HEJ
                    go_wp2_with fail
                    go_roundg (x.edges.length + 1 - (j + 2))
                    case measure => omega
                    case rel => exact ⟨j + 2, s.set t true, true, by omega, rfl, by go_num, rfl, HRS, HM, (fun h => by cases h), (unhide HB).setCell (Nat.le_refl _) _⟩
                  · have HC := hide (fun (ha : a = false) => unhide HEJ (unhide HTO ha) hbt.symm)
                    clear hbt HMK HEJ
                    go_wp2_with fail
                    go_roundg (x.edges.length + 1 - (j + 2))
                    case measure => omega
                    case rel => exact ⟨j + 2, s, a, by omega, rfl, by go_num, rfl, HR, HRI, HC, HB⟩
        · obtain rfl : n = xs.length := by omega
          have HCLO : Hid (a = false → closedR xs s) := fun ha => by
            have h := unhide HRI
            rw [ha] at h
            exact h.closed
          have HLEN := hide ((⟨(unhide HRI).len, (unhide HRI).one⟩ : s.length = xs.length ∧ s.getD 0 false = true ∧ s.getD 1 false = true))
          have hyes := (unhide HRI).yes
          go_wp2_with fail
          go_roundg (if a = true then cntF s + 1 else 0)
          case measure =>
            cases a
            · simp
            · have := hyes rfl
              simp; omega
          case rel => exact ⟨s, a, rfl, rfl, HR, HLEN, HCLO, HB⟩

end Go.Proofs.YtchhmojnoiephabGreatDoor

namespace Go.Proofs.YtchhmojnoiephabGreatDoor
open Go.ChangeShapes Go.WideShapes Go.ChangeAt Go.RowKit
set_option linter.unusedVariables false

set_option maxHeartbeats 8000000 in
set_option maxRecDepth 1000000 in
theorem least_any (L : List PairL) (xs : List St) (c : ByteArray) (w : World) (hc : c.size ≤ 40000) (hp : codeP c.data.toList = .ok xs) (hok : CodeOK L xs) :
    Calls Tryz.prog 86 #[.string c] w fun e w' => e = .returned (.bool true) ∧ Below w.heap.size w w' := by
  have h2 := hok.two
  have hfew := hok.few
  have hx := ok_in hok
  have hsum := edges_few xs hok.len
  have hlen : ∀ x ∈ xs, x.edges.length ≤ 40000 := by
    intro x hxm
    obtain ⟨i, hi, rfl⟩ := List.mem_iff_getElem.1 hxm
    have := sum_take (fun x => x.edges.length) xs i hi
    omega
  have HP := hide hp
  have HOK := hide hok
  have HREA := hide (fun (v : Value) (B : Nat) (w : World) (h : StRow w B v xs) => reached_any v xs B w h h2 hfew hx hlen)
  have HGRP := hide (fun (v : Value) (B : Nat) (w : World) (h : StRow w B v xs) => groups_any v xs B w h (by omega) hfew hsum hx)
  have HLE := hide hlen
  have HX := hide hx
  clear hp hok hx hsum hlen
  go_enter Tryz.func86, Tryz.ntmps86
  go_wp2_with fail
  refine (states_any c _ hc).mono ?_
  rintro e w1 ⟨v, k, ok, rfl, hb1, h | ⟨rfl, rfl, xs', hp', hrow⟩⟩
  · have := unhide HP; rw [h.2.1] at this; cases this
  · have hxx : xs' = xs := by
      have := unhide HP; rw [hp'] at this; exact Except.ok.inj this
    subst hxx
    have HROW := hide hrow
    have HB1 := hide hb1
    clear hp' hrow hb1 HP
    go_wp2_with fail
    refine (unhide HREA _ _ _ (unhide HROW)).mono ?_
    rintro e w2 ⟨N, r, rfl, hR, hrl, hcl, hr01, hb2⟩
    have HRO : Hid (∀ m, 2 ≤ m → m < xs'.length → r.getD m false = true) := fun m hm1 hm2 => closed_reach (unhide HX) hcl h2 hr01.1 hr01.2 m ((unhide HOK).reach m hm1 hm2)
    have HR := hide hR
    have HROW2 := hide ((unhide HROW).below hb2)
    have HB2 := hide ((unhide HB1).trans (hb2.mono (unhide HB1).size))
    clear hR hcl hr01 hb2 HREA HROW HB1
    go_wp2_with fail
    refine (unhide HGRP _ _ _ (unhide HROW2)).mono ?_
    rintro e w3 ⟨gv, g, rfl, hI, hGI, hfix, hb3⟩
    obtain ⟨hl1, hl2⟩ := fix_least (unhide HOK).good hGI (unhide HX) (allF_mem xs').1 hfix
    have hglen := hGI.len
    have HL1 := hide hl1
    have HL2 := hide hl2
    have HR3 := hide (own_below (unhide HR) hb3)
    have HROW3 := hide ((unhide HROW2).below hb3)
    have HB3 := hide ((unhide HB2).trans (hb3.mono (unhide HB2).size))
    obtain ⟨bg, og, cg, rfl, hg1, hg2, hgc⟩ := hI.at (by omega)
    have HGC := hide hgc
    have HAP := hide (unhide HOK).apart
    clear hI hGI hfix hb3 hl1 hl2 hgc HGRP HR HROW2 HB2 HOK HX
    obtain ⟨gs, caps, hv, hc1, hc2⟩ := (unhide HROW3).form (by omega)
    subst hv
    unfold maxLen at hc2
    go_wp2_with fail
    go_loopg [8, 9, 10] xs'.length (fun gk ii _ _ wr => ∃ n : Nat, n ≤ xs'.length ∧ gk = xs'.length - n ∧ ii = .int .i64 n ∧ Hid (Below w3.heap.size w3 wr))
    case atStart => exact ⟨0, by omega, by omega, rfl, Below.refl _ _⟩
    case round =>
      obtain ⟨n, hn, rfl, rfl, HB⟩ := hrel
      by_cases hlt : n < xs'.length
      · obtain ⟨ai, li, ci, p0, p1, p2, hoi⟩ := (unhide HROW3).at hlt
        have hli : li = xs'[n].edges.length := own_len hoi
        subst hli
        have bgs := blk_lt p1
        have HP1 := hide (fun (x : World) (hx : Below w3.heap.size w3 x) => (hx.cell (p := ⟨gs, n * 3 + 1, none⟩) bgs).trans p1)
        have HP2 := hide (fun (x : World) (hx : Below w3.heap.size w3 x) => (hx.cell (p := ⟨gs, n * 3 + 2, none⟩) bgs).trans p2)
        have HOI := hide hoi
        have hel : xs'[n].edges.length ≤ 40000 := unhide HLE _ (List.getElem_mem hlt)
        have HAPN := hide (unhide HAP _ (List.getElem_mem hlt))
        clear p0 p1 p2 hoi bgs
        generalize xs'[n] = x at *
        go_wp2_with fail
        go_loopg [9] x.edges.length (fun gk kk wr => ∃ k : Nat, k ≤ x.edges.length ∧ gk = x.edges.length - k ∧ kk = .int .i64 k ∧ Hid (Below w3.heap.size w3 wr))
        case atStart => exact ⟨0, by omega, by omega, rfl, HB⟩
        case round =>
          clear HB
          obtain ⟨k, hk, rfl, rfl, HB⟩ := hrel
          have q1 := unhide HP1 _ (unhide HB)
          have q2 := unhide HP2 _ (unhide HB)
          by_cases hlk : k < x.edges.length
          · obtain ⟨ge, ce, he⟩ := own_form (unhide HOI) (by omega)
            cases he
            have hct := own_cap (unhide HOI)
            unfold maxLen at hct
            obtain ⟨hct1, hct2⟩ := hct
            have e2 := (own_edge (own_below (unhide HOI) (unhide HB)) hlk).2
            have hne : (x.edges[k].2 == x.star) = false := by simpa using unhide HAPN _ (List.getElem_mem hlk)
            generalize x.edges[k].2 = tt at *
            go_wp2_with fail
            go_quiet (fail)
            go_wp2_with fail
            go_roundg (x.edges.length - (k + 1))
            case measure => omega
            case rel => exact ⟨k + 1, by omega, rfl, by go_num, (unhide HB).trans ⟨rfl, rfl, rfl, Nat.le_refl _, fun _ _ => rfl⟩⟩
          · have hnw : n < w3.heap.size + 1000 := by omega
            obtain ⟨cn, fn⟩ := rowB_at (own_below (unhide HR3) (unhide HB)) hrl hlt
            have hbg := blk_lt (unhide HGC 0 (by omega))
            have HGCB := hide (fun (i : Nat) (hi : i < xs'.length) (y : World) (hy : Below w3.heap.size w3 y) => (hy.cell (p := ⟨bg, og + i, none⟩) hbg).trans (unhide HGC i (by omega)))
            have gn := unhide HGCB n hlt _ (unhide HB)
            clear hbg
            have hgw : g.length = xs'.length := hglen
            by_cases hn2 : 2 ≤ n
            · rw [unhide HRO n hn2 hlt] at cn
              have hg0 : (g.getD n (-1) == -1) = false := by simpa using unhide HL1 n hn2 hlt
              have HNE := hide (fun j hj1 hj2 => unhide HL2 n j hj1 hj2 hlt)
              have hd2 : decide ((2 : Int) ≤ (n : Int)) = true := by simp; omega
              generalize hgx : g.getD n (-1) = gx at *
              have HGX := hide hgx
              clear hgx
              go_wp2_with fail
              go_loopg [10] (n - 2) (fun gk jj wr => ∃ j : Nat, 2 ≤ j ∧ j ≤ n ∧ gk = n - j ∧ jj = .int .i64 j ∧ Hid (Below w3.heap.size w3 wr))
              case atStart => exact ⟨2, by omega, by omega, by omega, rfl, HB⟩
              case round =>
                clear HB cn fn gn q1 q2
                obtain ⟨j, hj2, hjn, rfl, rfl, HB⟩ := hrel
                have gn := unhide HGCB n hlt _ (unhide HB)
                rw [unhide HGX] at gn
                by_cases hlj : j < n
                · have gj := unhide HGCB j (by omega) _ (unhide HB)
                  have hgj : (gx == g.getD j (-1)) = false := by simpa using unhide HNE j hj2 hlj
                  generalize g.getD j (-1) = gy at *
                  go_wp2_with fail
                  go_quiet (fail)
                  go_wp2_with fail
                  go_roundg (n - (j + 1))
                  case measure => omega
                  case rel => exact ⟨j + 1, by omega, by omega, rfl, by go_num, (unhide HB).trans ⟨rfl, rfl, rfl, Nat.le_refl _, fun _ _ => rfl⟩⟩
                · go_wp2_with fail
                  go_roundg (xs'.length - (n + 1))
                  case measure => omega
                  case rel => exact ⟨n + 1, by omega, rfl, by go_num, HB⟩
            · have hd2 : decide ((2 : Int) ≤ (n : Int)) = false := by simp; omega
              have hd3 : decide ((2 : Int) < (n : Int)) = false := by simp; omega
              go_wp2_with fail
              go_loopg [10] 0 (fun gk jj wr => gk = 0 ∧ jj = .int .i64 2 ∧ Hid (Below w3.heap.size w3 wr))
              case atStart => exact ⟨rfl, rfl, HB⟩
              case round =>
                clear HB cn fn gn q1 q2
                obtain ⟨rfl, rfl, HB⟩ := hrel
                go_wp2_with fail
                go_roundg (xs'.length - (n + 1))
                case measure => omega
                case rel => exact ⟨n + 1, by omega, rfl, by go_num, HB⟩
      · have HE := hide ((unhide HB3).trans ((unhide HB).mono (unhide HB3).size))
        go_wp2_with fail
        go_ret
        exact ⟨rfl, unhide HE⟩

end Go.Proofs.YtchhmojnoiephabGreatDoor
