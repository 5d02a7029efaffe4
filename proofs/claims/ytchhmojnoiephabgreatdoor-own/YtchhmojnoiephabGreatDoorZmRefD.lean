import Derived.Test.YtchhmojnoiephabGreatDoorZmRefA
import Derived.Test.YtchhmojnoiephabGreatDoorZmHubQ
import Derived.Test.YtchhmojnoiephabGreatDoorFilR
import Derived.Test.YtchhmojnoiephabGreatDoorMatR
/- The document's hub: what a subscription means, and where it stands. -/
namespace Go.Proofs.YtchhmojnoiephabGreatDoor
open Go.ChangeShapes Go.WideShapes Go.ChangeAt Go.RowKit
set_option linter.unusedVariables false

/-- what parted answers -/
def PartPost3 (w : World) (L : List UInt8) (e : Ending) (w' : World) : Prop := ∃ g f : ByteArray, e = .returned (.tuple #[.string g, .string f, .int .i64 ((L.length : Int) - ((partS L).2.length : Int))]) ∧ g.data.toList = (partS L).1 ∧ f.data.toList = (partS L).2 ∧ ∃ n, w' = w.drewN n
theorem PartPost3.whole {w : World} {s : ByteArray} (h : partS s.data.toList = ([], s.data.toList)) : PartPost3 w s.data.toList (.returned (.tuple #[.string ⟨#[]⟩, .string s, .int .i64 0])) w := ⟨⟨#[]⟩, s, by rw [h]; simp, by rw [h], by rw [h], 0, rfl⟩
theorem ret_at3 {a b : Value} {x y : Int} (h : x = y) : Ending.returned (.tuple #[a, b, .int .i64 x]) = .returned (.tuple #[a, b, .int .i64 y]) := by rw [h]

set_option maxHeartbeats 2000000 in
theorem parted_any (s : ByteArray) (w : World) (hs : s.size ≤ 24) : Calls Tryz.prog 102 #[.string s] w (PartPost3 w s.data.toList) := by
  by_cases h7 : s.size < 7
  · have hI : (s.size : Int) < 7 := by omega
    have HR := hide (part_none s.data.toList (fun h => by have := congrArg List.length h; rw [List.length_take, len_list] at this; simp [shareL] at this; omega))
    go_enter Tryz.func102, Tryz.ntmps102
    go_wp2_with fail
    go_ret3
    exact PartPost3.whole (unhide HR)
  · have hI : decide ((s.size : Int) < 7) = false := by simp; omega
    have hI7 : (7 : Int) ≤ (s.size : Int) := by omega
    have hcut : (s.extract 0 7).toList = s.data.toList.take 7 := by rw [Lib.toList_data, cut_to]; simp
    by_cases hsh : s.data.toList.take 7 = shareL
    · have q1 : ((s.extract 0 7).toList != [36, 115, 104, 97, 114, 101, 47]) = false := by rw [hcut, hsh]; rfl
      have q2 : ((s.extract 0 7).toList == [36, 115, 104, 97, 114, 101, 47]) = true := by rw [hcut, hsh]; rfl
      have HSH := hide hsh
      have HP0 := hide (part_start s.data.toList)
      clear hcut hsh
      go_enter Tryz.func102, Tryz.ntmps102
      go_wp2_with fail
      go_loopg [6] s.size (fun gk en wr => ∃ k : Nat, 7 ≤ k ∧ k ≤ s.size ∧ gk = s.size - k + 7 ∧ en = .int .i64 k ∧ wr = w ∧ Hid (PartAt s.data.toList k))
      case atStart => exact ⟨7, by omega, by omega, by omega, rfl, rfl, HP0⟩
      case round =>
        clear HP0
        obtain ⟨k, hk7, hk, rfl, rfl, hwr, HP⟩ := hrel
        have hwr' := hwr.symm
        subst hwr'
        clear hwr
        have HBAD := hide (fun hs hb => PartPost3.whole (w := w) (part_bad (unhide HSH) (unhide HP) hs hb))
        have HGOOD := hide (part_good (unhide HSH) (unhide HP))
        by_cases hlt : k < s.size
        · have hlL : k < s.data.toList.length := by rw [len_list]; exact hlt
          have HST := hide (part_step s.data.toList k hk7 hlL)
          have HOF := hide (low_off s.data.toList k hlL)
          have hge : s.data.toList[k] = s[k] := get_list s k hlt
          have HGE := hide hge
          have hltI : (k : Int) < (s.size : Int) := by omega
          by_cases h97 : (97 : Int) ≤ (s[k].toNat : Int)
          · by_cases h122 : (s[k].toNat : Int) ≤ 122
            · have HZ := hide (unhide HST (by rw [hge]; unfold lowB; simp; omega) (unhide HP))
              clear hge
              go_wp2_with fail
              go_roundg (s.size - (k + 1) + 7)
              case measure => omega
              case rel => exact ⟨k + 1, by omega, by omega, rfl, by go_num, rfl, HZ⟩
            · have HO := hide (unhide HOF (by rw [hge]; unfold lowB; simp; omega))
              have hd : decide ((s[k].toNat : Int) ≤ 122) = false := by simp; omega
              have hne : ((s[k].toNat : Int) != 47) = true := by simp; omega
              have hne2 : ((s[k].toNat : Int) == 47) = false := by simp; omega
              have HPP := hide (unhide HBAD (unhide HO) (Or.inr (Or.inr ⟨hlL, by rw [hge, Ne, ← byte_47]; omega⟩)))
              clear hge
              by_cases hk77 : k = 7
              · subst hk77
                go_wp2_with fail
                go_ret3
                exact unhide HPP
              · have hkb : ((k : Int) == 7) = false := by simp; omega
                have hkn : ((k : Int) == (s.size : Int)) = false := by simp; omega
                go_wp2_with fail
                go_ret3
                exact unhide HPP
          · have HO := hide (unhide HOF (by rw [hge]; unfold lowB; simp; omega))
            have hd : decide ((97 : Int) ≤ (s[k].toNat : Int)) = false := by simp; omega
            by_cases hk77 : k = 7
            · have HPP := hide (unhide HBAD (unhide HO) (Or.inl hk77))
              subst hk77
              clear hge
              go_wp2_with fail
              go_ret3
              exact unhide HPP
            · have hkb : ((k : Int) == 7) = false := by simp; omega
              have hkn : ((k : Int) == (s.size : Int)) = false := by simp; omega
              by_cases h47 : (s[k].toNat : Int) = 47
              · have hne : ((s[k].toNat : Int) != 47) = false := by simp [h47]
                have hne2 : ((s[k].toNat : Int) == 47) = true := by simp [h47]
                have HG := hide (unhide HGOOD (unhide HO) (by omega) hlL (by rw [hge, ← byte_47]; exact h47))
                have hk1 : (k : Int) + 1 ≤ (s.size : Int) := by omega
                have hk70 : (7 : Int) ≤ (k : Int) := by omega
                clear hge h47
                go_wp2_with fail
                go_quiet (fail)
                go_wp2_with fail
                go_ret3
                exact ⟨_, _, ret_at3 (by rw [unhide HG, List.length_drop, len_list]; omega), by rw [unhide HG]; exact cut_to s 7 k, by rw [unhide HG]; exact cut_end s (k + 1), _, rfl⟩
              · have hne : ((s[k].toNat : Int) != 47) = true := by simp [h47]
                have hne2 : ((s[k].toNat : Int) == 47) = false := by simp [h47]
                have HPP := hide (unhide HBAD (unhide HO) (Or.inr (Or.inr ⟨hlL, by rw [hge, Ne, ← byte_47]; exact h47⟩)))
                clear hge h47
                go_wp2_with fail
                go_ret3
                exact unhide HPP
        · have hke : k = s.size := by omega
          have HPP := hide (unhide HBAD (low_end s.data.toList k (by rw [len_list]; exact hlt)) (Or.inr (Or.inl (by rw [len_list]; exact hlt))))
          have hltI : decide ((k : Int) < (s.size : Int)) = false := by simp; omega
          have hkn : ((k : Int) == (s.size : Int)) = true := by simp; omega
          by_cases hk77 : k = 7
          · have hkb : ((k : Int) == 7) = true := by simp [hk77]
            clear hk77 hke
            go_wp2_with fail
            go_ret3
            exact unhide HPP
          · have hkb : ((k : Int) == 7) = false := by simp; omega
            clear hke
            go_wp2_with fail
            go_ret3
            exact unhide HPP
    · have q1 : ((s.extract 0 7).toList != [36, 115, 104, 97, 114, 101, 47]) = true := by rw [hcut]; simpa [shareL] using hsh
      have q2 : ((s.extract 0 7).toList == [36, 115, 104, 97, 114, 101, 47]) = false := by rw [hcut]; simpa [shareL] using hsh
      have HR := hide (part_none s.data.toList hsh)
      clear hcut hsh
      go_enter Tryz.func102, Tryz.ntmps102
      go_wp2_with fail
      go_ret3
      exact PartPost3.whole (unhide HR)


/-- where a subscription stands among the document's -/
def sameR (c : Nat) (g f : List UInt8) (s : RSub) : Bool := decide (s.who = c) && (decide (s.grp = g) && decide (s.fil = f))
def seekR (p : RSub → Bool) : Nat → List RSub → Nat
  | i, [] => i
  | i, s :: L => if p s = true then i else seekR p (i + 1) L
theorem seekR_hit (p : RSub → Bool) (i k : Nat) (L : List RSub) (h : k < L.length) (he : p L[k] = true) : seekR p i (L.drop k) = i := by
  rw [List.drop_eq_getElem_cons h]; simp only [seekR]; rw [if_pos he]
theorem seekR_miss (p : RSub → Bool) (i k : Nat) (L : List RSub) (h : k < L.length) (he : p L[k] = false) : seekR p i (L.drop k) = seekR p (i + 1) (L.drop (k + 1)) := by
  rw [List.drop_eq_getElem_cons h]; simp only [seekR]; rw [if_neg (by simp [he])]
theorem seekR_end (p : RSub → Bool) (i k : Nat) (L : List RSub) (h : ¬ k < L.length) : seekR p i (L.drop k) = i := by
  rw [List.drop_eq_nil_of_le (by omega)]; rfl
def idxR (n len : Nat) : Int := if n < len then (n : Int) else -1

def RSubsRow (w : World) (a : Option Addr) (c : Nat) (L : List RSub) : Prop := ∀ k (hk : k < L.length), ∃ g, a = some ⟨g, 0, none⟩ ∧ L.length ≤ c ∧ c ≤ 9223372036854775807 ∧ okR L[k] ∧ ∀ w', Below w.heap.size w w' →
      w'.cell? ⟨g, k * 4, none⟩ = some (.int .i64 (L[k].who : Int)) ∧ w'.cell? ⟨g, k * 4 + 1, none⟩ = some (.string ⟨L[k].grp.toArray⟩) ∧ w'.cell? ⟨g, k * 4 + 2, none⟩ = some (.string ⟨L[k].fil.toArray⟩) ∧ w'.cell? ⟨g, k * 4 + 3, none⟩ = some (.int .i64 (L[k].last : Int))
theorem RefAt.subsAt {w : World} {d : Nat} {S : Nat → Prop} {R : RHub} (h : RefAt w d S R) : ∃ a c, w.cell? ⟨d, 1, none⟩ = some (.slice a R.subs.length c) ∧ d < w.heap.size ∧ R.subs.length ≤ 8 ∧ RSubsRow w a c R.subs := by
  obtain ⟨cb, A, qv, sv, kv, hw, rfl⟩ := h.body
  obtain ⟨a, l, c, rfl⟩ := own_slice hw.sown
  have hl : l = R.subs.length := own_len hw.sown
  subst hl
  refine ⟨a, c, cell_block (i := 1) hw.blk rfl, heap_lt hw.blk, h.good.subs.1, fun k hk => ?_⟩
  obtain ⟨g, cap, hv⟩ := own_form hw.sown (by omega)
  simp only [Value.slice.injEq] at hv
  obtain ⟨rfl, _, rfl⟩ := hv
  have hcc := own_cap hw.sown
  unfold maxLen at hcc
  exact ⟨g, rfl, hcc.1, by omega, h.good.subs.2 _ (List.getElem_mem hk), fun w' hb => own_rsub (own_below hw.sown hb) hk⟩

set_option maxHeartbeats 2000000 in
theorem rfind_any (d : Nat) (S : Nat → Prop) (R : RHub) (n : Nat) (g f : ByteArray) (w : World) (h : RefAt w d S R) :
    Calls Tryz.prog 71 #[.pointer (some ⟨d, 0, none⟩), .agg #[.int .i64 n, .string g, .string f, .int .i64 0]] w fun e w' => e = .returned (.int .i64 (idxR (seekR (sameR n g.data.toList f.data.toList) 0 R.subs) R.subs.length)) ∧ Below w.heap.size w w' := by
  obtain ⟨a, c, c0, hp, hl8, hat⟩ := h.subsAt
  have HAT := hide hat
  have HAB := hide ((Below.refl _ w).alloc (Nat.le_refl _) (.cells #[.int .i64 (n : Int), .string g, .string f, .int .i64 0] 121))
  have HMB := hide (MapKept.heap_alloc w (.cells #[.int .i64 (n : Int), .string g, .string f, .int .i64 0] 121)).1
  clear h hat
  generalize R.subs = L at *
  have HA0 : Hid (seekR (sameR n g.data.toList f.data.toList) 0 L = seekR (sameR n g.data.toList f.data.toList) 0 (L.drop 0)) := by unfold Hid; rw [List.drop_zero]
  go_enter Tryz.func71, Tryz.ntmps71
  go_wp2_with fail
  go_loopg [5, 6] L.length (fun gk i _ wr => ∃ k : Nat, k ≤ L.length ∧ gk = L.length - k ∧ i = .int .i64 k ∧ Hid (Below w.heap.size w wr) ∧ Hid (seekR (sameR n g.data.toList f.data.toList) 0 L = seekR (sameR n g.data.toList f.data.toList) k (L.drop k)) ∧ Hid (wr.heap[w.heap.size]? = some (.cells #[.int .i64 (n : Int), .string g, .string f, .int .i64 0] 121 (0, 0))))
  case atStart => exact ⟨0, by omega, by omega, rfl, HAB, HA0, HMB⟩
  case round =>
    clear HAB HA0 HMB
    obtain ⟨k, hk, rfl, rfl, HB, HA, HM⟩ := hrel
    have hbs := (unhide HB).size
    have c1 : wr.cell? ⟨d, 1, none⟩ = some (.slice a L.length c) := ((unhide HB).cell (p := ⟨d, 1, none⟩) hp).trans c0
    have m0 := cell_block (i := 0) (unhide HM) rfl
    have m1 := cell_block (i := 1) (unhide HM) rfl
    have m2 := cell_block (i := 2) (unhide HM) rfl
    have hXr := heap_lt (unhide HM)
    have hpr : d < wr.heap.size := by omega
    clear c0
    by_cases hlt : k < L.length
    · obtain ⟨b, rfl, hc1, hc2, _, hcs⟩ := unhide HAT k hlt
      obtain ⟨e1, e2, e3, e4⟩ := hcs wr (unhide HB)
      clear hcs
      have q1 := natEq L[k].who n
      have q2 := strEq L[k].grp g
      have q3 := strEq L[k].fil f
      have HHIT := hide (seekR_hit (sameR n g.data.toList f.data.toList) k k L hlt)
      have HMISS := hide (seekR_miss (sameR n g.data.toList f.data.toList) k k L hlt)
      have HM2 : Hid (∀ o, (wr.alloc o).heap[w.heap.size]? = some (.cells #[.int .i64 (n : Int), .string g, .string f, .int .i64 0] 121 (0, 0))) := fun o => by rw [Below.heap_alloc _ _ _ hXr]; exact unhide HM
      unfold sameR at HHIT HMISS
      generalize L[k].who = who at *
      generalize L[k].last = last at *
      generalize (⟨L[k].grp.toArray⟩ : ByteArray) = gs at *
      generalize (⟨L[k].fil.toArray⟩ : ByteArray) = fs at *
      generalize decide (L[k].grp = g.data.toList) = d2 at *
      generalize decide (L[k].fil = f.data.toList) = d3 at *
      generalize decide (who = n) = d1 at *
      cases d1
      · have HZ := hide ((unhide HA).trans (unhide HMISS rfl))
        go_wp2_with fail
        go_roundg (L.length - (k + 1))
        case measure => omega
        case rel => exact ⟨k + 1, by omega, rfl, by go_num, (unhide HB).alloc hbs _, HZ, unhide HM2 _⟩
      · cases d2
        · have HZ := hide ((unhide HA).trans (unhide HMISS rfl))
          go_wp2_with fail
          go_roundg (L.length - (k + 1))
          case measure => omega
          case rel => exact ⟨k + 1, by omega, rfl, by go_num, (unhide HB).alloc hbs _, HZ, unhide HM2 _⟩
        · cases d3
          · have HZ := hide ((unhide HA).trans (unhide HMISS rfl))
            go_wp2_with fail
            go_roundg (L.length - (k + 1))
            case measure => omega
            case rel => exact ⟨k + 1, by omega, rfl, by go_num, (unhide HB).alloc hbs _, HZ, unhide HM2 _⟩
          · have HZ := hide ((unhide HA).trans (unhide HHIT rfl))
            go_wp2_with fail
            go_ret
            exact ⟨ret_int (by rw [unhide HZ]; unfold idxR; rw [if_pos hlt]), (unhide HB).alloc hbs _⟩
    · have HZ := hide ((unhide HA).trans (seekR_end _ k k L hlt))
      go_wp2_with fail
      go_ret
      exact ⟨ret_int (by rw [unhide HZ]; unfold idxR; rw [if_neg hlt]), unhide HB⟩

end Go.Proofs.YtchhmojnoiephabGreatDoor

/- The document's hub: who wants a topic; a client is forgotten. -/
namespace Go.Proofs.YtchhmojnoiephabGreatDoor
open Go.ChangeShapes Go.WideShapes Go.ChangeAt Go.RowKit
set_option linter.unusedVariables false

def rwantS (n : Nat) (t : List UInt8) (s : RSub) : Bool := decide (s.who = n) && (decide (s.grp = []) && matchB s.fil t)
def rwantB (L : List RSub) (n : Nat) (t : List UInt8) : Bool := L.any (rwantS n t)
theorem rwantB_hit (L : List RSub) (n : Nat) (t : List UInt8) (k : Nat) (h : k < L.length) (hw : rwantS n t L[k] = true) : rwantB (L.drop k) n t = true := by
  rw [List.drop_eq_getElem_cons h]; unfold rwantB; rw [List.any_cons, hw]; rfl
theorem rwantB_miss (L : List RSub) (n : Nat) (t : List UInt8) (k : Nat) (h : k < L.length) (hw : rwantS n t L[k] = false) : rwantB (L.drop k) n t = rwantB (L.drop (k + 1)) n t := by
  rw [List.drop_eq_getElem_cons h]; unfold rwantB; rw [List.any_cons, hw]; rfl
theorem rwantB_end (L : List RSub) (n : Nat) (t : List UInt8) (k : Nat) (h : ¬ k < L.length) : rwantB (L.drop k) n t = false := by
  rw [List.drop_eq_nil_of_le (by omega)]; rfl

theorem rmatch_str (l : List UInt8) (t : ByteArray) (w : World) (hl : l.length ≤ 24) (hl0 : 0 < l.length) (ht : t.size ≤ 24) (ht0 : 0 < t.size) : Calls Tryz.prog 64 #[.string ⟨l.toArray⟩, .string t] w fun e w' => e = .returned (.bool (matchB l t.data.toList)) ∧ Below w.heap.size w w' := by
  have := refMatches_any (⟨l.toArray⟩ : ByteArray) t w (by rw [Lib.size_eq]; simpa using hl) ht (by rw [Lib.size_eq]; simpa using hl0) ht0
  simpa using this

set_option maxHeartbeats 2000000 in
theorem rwants_any (d : Nat) (S : Nat → Prop) (R : RHub) (n : Nat) (t : ByteArray) (ht : t.size ≤ 24) (ht0 : 0 < t.size) (w : World) (h : RefAt w d S R) :
    Calls Tryz.prog 62 #[.pointer (some ⟨d, 0, none⟩), .int .i64 n, .string t] w fun e w' => e = .returned (.bool (rwantB R.subs n t.data.toList)) ∧ Below w.heap.size w w' := by
  obtain ⟨a, c, c0, hp, hl8, hat⟩ := h.subsAt
  have HAT := hide hat
  clear h hat
  generalize R.subs = L at *
  go_enter Tryz.func62, Tryz.ntmps62
  go_wp2_with fail
  go_loopg [7, 8] L.length (fun gk i _ wr => ∃ k : Nat, k ≤ L.length ∧ gk = L.length - k ∧ i = .int .i64 k ∧ Hid (Below w.heap.size w wr) ∧ Hid (rwantB L n t.data.toList = rwantB (L.drop k) n t.data.toList))
  case atStart => exact ⟨0, by omega, by omega, rfl, Below.refl _ _, rfl⟩
  case round =>
    obtain ⟨k, hk, rfl, rfl, HB, HA⟩ := hrel
    have hbs := (unhide HB).size
    have c1 : wr.cell? ⟨d, 1, none⟩ = some (.slice a L.length c) := ((unhide HB).cell (p := ⟨d, 1, none⟩) hp).trans c0
    by_cases hlt : k < L.length
    · obtain ⟨b, rfl, hc1, hc2, hok, hcs⟩ := unhide HAT k hlt
      obtain ⟨e1, e2, e3, e4⟩ := hcs wr (unhide HB)
      have HCS := hide hcs
      have q1 := natEq L[k].who n
      have q2 := strNil L[k].grp
      have HM := hide (fun w => rmatch_str L[k].fil t w hok.2.2.1 hok.2.2.2 ht ht0)
      have HHIT := hide (rwantB_hit L n t.data.toList k hlt)
      have HMISS := hide (rwantB_miss L n t.data.toList k hlt)
      unfold rwantS at HHIT HMISS
      clear hcs hok
      generalize L[k].who = who at *
      generalize L[k].last = last at *
      generalize (⟨L[k].grp.toArray⟩ : ByteArray) = gs at *
      generalize (⟨L[k].fil.toArray⟩ : ByteArray) = fs at *
      generalize decide (L[k].grp = []) = d2 at *
      generalize matchB L[k].fil t.data.toList = d3 at *
      generalize decide (who = n) = d1 at *
      go_wp2_with fail
      refine (unhide HM _).mono ?_
      rintro e w4 ⟨rfl, hb4⟩
      have HB4 := hide ((unhide HB).trans (hb4.mono hbs))
      have c4 : w4.cell? ⟨d, 1, none⟩ = some (.slice (some ⟨b, 0, none⟩) L.length c) := ((unhide HB4).cell (p := ⟨d, 1, none⟩) hp).trans c0
      obtain ⟨x1, x2, x3, x4⟩ := unhide HCS w4 (unhide HB4)
      clear hb4 c1 e1 e2 e3 e4 c0 HCS
      cases d1
      · have HZ := hide ((unhide HA).trans (unhide HMISS rfl))
        go_wp2_with fail
        go_roundg (L.length - (k + 1))
        case measure => omega
        case rel => exact ⟨k + 1, by omega, rfl, by go_num, HB4, HZ⟩
      · cases d2
        · have HZ := hide ((unhide HA).trans (unhide HMISS rfl))
          go_wp2_with fail
          go_roundg (L.length - (k + 1))
          case measure => omega
          case rel => exact ⟨k + 1, by omega, rfl, by go_num, HB4, HZ⟩
        · cases d3
          · have HZ := hide ((unhide HA).trans (unhide HMISS rfl))
            go_wp2_with fail
            go_roundg (L.length - (k + 1))
            case measure => omega
            case rel => exact ⟨k + 1, by omega, rfl, by go_num, HB4, HZ⟩
          · have HZ := hide ((unhide HA).trans (unhide HHIT rfl))
            go_wp2_with fail
            go_ret
            exact ⟨ret_bool (unhide HZ).symm, unhide HB4⟩
    · have HZ := hide ((unhide HA).trans (rwantB_end L n t.data.toList k hlt))
      clear c0
      go_wp2_with fail
      go_ret
      exact ⟨ret_bool (unhide HZ).symm, unhide HB⟩

end Go.Proofs.YtchhmojnoiephabGreatDoor
