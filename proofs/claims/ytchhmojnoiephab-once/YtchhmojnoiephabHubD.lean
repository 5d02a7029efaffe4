import Derived.Test.YtchhmojnoiephabHubC
/- The program's hub: looking for subscriptions. -/
namespace Go.Proofs.Ytchhmojnoiephab
open Go.ChangeShapes Go.WideShapes Go.ChangeAt Go.RowKit
set_option linter.unusedVariables false

theorem strEq (l : List UInt8) (g : ByteArray) : ((⟨l.toArray⟩ : ByteArray).toList == g.toList) = decide (l = g.data.toList) := by
  rw [Lib.toList_data, Lib.toList_data]
  by_cases h : l = g.data.toList
  · subst h; simp
  · have : (l == g.data.toList) = false := by simpa using h
    simp [h]
theorem strNe (l : List UInt8) (g : ByteArray) : ((⟨l.toArray⟩ : ByteArray).toList != g.toList) = !decide (l = g.data.toList) := by
  rw [← strEq]; rfl
theorem strNil (l : List UInt8) : ((⟨l.toArray⟩ : ByteArray).toList == []) = decide (l = []) := by
  rw [Lib.toList_data]
  cases l <;> simp
theorem strNnil (l : List UInt8) : ((⟨l.toArray⟩ : ByteArray).toList != []) = !decide (l = []) := by
  rw [← strNil]; rfl
theorem natEq (a b : Nat) : ((a : Int) == (b : Int)) = decide (a = b) := by
  by_cases h : a = b
  · subst h; simp
  · have : ¬ (a : Int) = (b : Int) := by omega
    simp [h, this]

/-- the hub's subscriptions in memory -/
theorem HubAt.subsAt {w : World} {p : Nat} {S : Nat → Prop} {H : HubL} (h : HubAt w p S H) : ∃ a c, w.cell? ⟨p, 18, none⟩ = some (.slice a H.subs.length c) ∧ p < w.heap.size ∧ H.subs.length ≤ 8 ∧
    ∀ k (hk : k < H.subs.length), ∃ g, a = some ⟨g, 0, none⟩ ∧ H.subs.length ≤ c ∧ c ≤ 9223372036854775807 ∧ H.subs[k].who < 6 ∧ H.subs[k].fil.length ≤ 24 ∧ ∀ w', Below w.heap.size w w' →
      w'.cell? ⟨g, k * 4, none⟩ = some (.int .i64 (H.subs[k].who : Int)) ∧ w'.cell? ⟨g, k * 4 + 1, none⟩ = some (.string ⟨H.subs[k].grp.toArray⟩) ∧ w'.cell? ⟨g, k * 4 + 2, none⟩ = some (.string ⟨H.subs[k].fil.toArray⟩) ∧ w'.cell? ⟨g, k * 4 + 3, none⟩ = some (.bool H.subs[k].had) := by
  obtain ⟨A, qv, sv, kv, hw, rfl⟩ := h.body
  obtain ⟨a, l, c, rfl⟩ := own_slice hw.sown
  have hl : l = H.subs.length := own_len hw.sown
  subst hl
  refine ⟨a, c, cell_block hw.blk hw.subc, hw.lt, h.good.subs.1, fun k hk => ?_⟩
  obtain ⟨g, cap, hv⟩ := own_form hw.sown (by omega)
  simp only [Value.slice.injEq] at hv
  obtain ⟨rfl, _, rfl⟩ := hv
  have hcc := own_cap hw.sown
  unfold maxLen at hcc
  have hs := h.good.subs.2 _ (List.getElem_mem hk)
  exact ⟨g, rfl, hcc.1, by omega, hs.1, hs.2.2, fun w' hb => own_sub (own_below hw.sown hb) hk⟩

set_option maxHeartbeats 1000000 in
theorem findSub_any (p : Nat) (S : Nat → Prop) (H : HubL) (n : Nat) (g f : ByteArray) (w : World) (h : HubAt w p S H) :
    Calls Try.prog 30 #[.pointer (some ⟨p, 0, none⟩), .int .i64 n, .string g, .string f] w fun e w' => e = .returned (.int .i64 ((seekS (sameS n g.data.toList f.data.toList) 0 H.subs : Nat) : Int)) ∧ Below w.heap.size w w' := by
  obtain ⟨a, c, c0, hp, hl8, hat⟩ := h.subsAt
  have HAT := hide hat
  clear h hat
  generalize H.subs = L at *
  go_enter Try.func30, Try.ntmps30
  go_wp2_with fail
  go_loopg [9, 10, 16] L.length (fun gk _ _ i wr => ∃ k : Nat, k ≤ L.length ∧ gk = L.length - k ∧ i = .int .i64 k ∧ Hid (Below w.heap.size w wr) ∧ Hid (seekS (sameS n g.data.toList f.data.toList) 0 L = seekS (sameS n g.data.toList f.data.toList) k (L.drop k)))
  case atStart => exact ⟨0, by omega, by omega, rfl, Below.refl _ _, rfl⟩
  case round =>
    obtain ⟨k, hk, rfl, rfl, HB, HA⟩ := hrel
    have hbs := (unhide HB).size
    have c1 : wr.cell? ⟨p, 18, none⟩ = some (.slice a L.length c) := ((unhide HB).cell (p := ⟨p, 18, none⟩) hp).trans c0
    clear c0
    by_cases hlt : k < L.length
    · obtain ⟨b, rfl, hc1, hc2, _, _, hcs⟩ := unhide HAT k hlt
      obtain ⟨e1, e2, e3, e4⟩ := hcs wr (unhide HB)
      clear hcs
      have q1 := natEq L[k].who n
      have q2 := strEq L[k].grp g
      have q3 := strEq L[k].fil f
      have HHIT := hide (seekS_hit (sameS n g.data.toList f.data.toList) k k L hlt)
      have HMISS := hide (seekS_miss (sameS n g.data.toList f.data.toList) k k L hlt)
      unfold sameS at HHIT HMISS
      generalize L[k].who = who at *
      generalize L[k].had = had at *
      generalize (⟨L[k].grp.toArray⟩ : ByteArray) = gs at *
      generalize (⟨L[k].fil.toArray⟩ : ByteArray) = fs at *
      generalize decide (L[k].grp = g.data.toList) = d2 at *
      generalize decide (L[k].fil = f.data.toList) = d3 at *
      generalize decide (who = n) = d1 at *
      cases d1
      · have HZ := hide ((unhide HA).trans (unhide HMISS rfl))
        go_wp2_with fail
        go_roundg (L.length - (k + 1))
        case measure => omega
        case rel => exact ⟨k + 1, by omega, rfl, by go_num, (unhide HB).alloc hbs _, HZ⟩
      · cases d2
        · have HZ := hide ((unhide HA).trans (unhide HMISS rfl))
          go_wp2_with fail
          go_roundg (L.length - (k + 1))
          case measure => omega
          case rel => exact ⟨k + 1, by omega, rfl, by go_num, (unhide HB).alloc hbs _, HZ⟩
        · cases d3
          · have HZ := hide ((unhide HA).trans (unhide HMISS rfl))
            go_wp2_with fail
            go_roundg (L.length - (k + 1))
            case measure => omega
            case rel => exact ⟨k + 1, by omega, rfl, by go_num, (unhide HB).alloc hbs _, HZ⟩
          · have HZ := hide ((unhide HA).trans (unhide HHIT rfl))
            go_wp2_with fail
            go_ret
            exact ⟨ret_int (by rw [unhide HZ]), (unhide HB).alloc hbs _⟩
    · have HZ := hide ((unhide HA).trans (seekS_end _ k k L hlt))
      have hke : k = L.length := by omega
      go_wp2_with fail
      go_ret
      exact ⟨ret_int (by rw [unhide HZ, hke]), unhide HB⟩

/-- has the client a subscription that matches and is not shared? -/
def wantS (n : Nat) (t : List UInt8) (s : SubL) : Bool := decide (s.who = n) && (decide (s.grp = []) && matchB s.fil t)
def reachB (L : List SubL) (n : Nat) (t : List UInt8) : Bool := L.any (wantS n t)
theorem reachB_hit (L : List SubL) (n : Nat) (t : List UInt8) (k : Nat) (h : k < L.length) (hw : wantS n t L[k] = true) : reachB (L.drop k) n t = true := by
  rw [List.drop_eq_getElem_cons h]; unfold reachB; rw [List.any_cons, hw]; rfl
theorem reachB_miss (L : List SubL) (n : Nat) (t : List UInt8) (k : Nat) (h : k < L.length) (hw : wantS n t L[k] = false) : reachB (L.drop k) n t = reachB (L.drop (k + 1)) n t := by
  rw [List.drop_eq_getElem_cons h]; unfold reachB; rw [List.any_cons, hw]; rfl
theorem reachB_end (L : List SubL) (n : Nat) (t : List UInt8) (k : Nat) (h : ¬ k < L.length) : reachB (L.drop k) n t = false := by
  rw [List.drop_eq_nil_of_le (by omega)]; rfl

theorem match_str (l : List UInt8) (t : ByteArray) (w : World) (hl : l.length ≤ 24) (ht : t.size ≤ 24) : Calls Try.prog 40 #[.string ⟨l.toArray⟩, .string t] w fun e w' => e = .returned (.bool (matchB l t.data.toList)) ∧ w' = w := by
  have := matches_any (⟨l.toArray⟩ : ByteArray) t w (by rw [Lib.size_eq]; simpa using hl) ht
  simpa using this

set_option maxHeartbeats 1000000 in
theorem hreaches_any (p : Nat) (S : Nat → Prop) (H : HubL) (n : Nat) (t : ByteArray) (ht : t.size ≤ 24) (w : World) (h : HubAt w p S H) :
    Calls Try.prog 35 #[.pointer (some ⟨p, 0, none⟩), .int .i64 n, .string t] w fun e w' => e = .returned (.bool (reachB H.subs n t.data.toList)) ∧ Below w.heap.size w w' := by
  obtain ⟨a, c, c0, hp, hl8, hat⟩ := h.subsAt
  have HAT := hide hat
  clear h hat
  generalize H.subs = L at *
  go_enter Try.func35, Try.ntmps35
  go_wp2_with fail
  go_loopg [8, 14] L.length (fun gk _ i wr => ∃ k : Nat, k ≤ L.length ∧ gk = L.length - k ∧ i = .int .i64 k ∧ Hid (Below w.heap.size w wr) ∧ Hid (reachB L n t.data.toList = reachB (L.drop k) n t.data.toList))
  case atStart => exact ⟨0, by omega, by omega, rfl, Below.refl _ _, rfl⟩
  case round =>
    obtain ⟨k, hk, rfl, rfl, HB, HA⟩ := hrel
    have hbs := (unhide HB).size
    clear c0
    by_cases hlt : k < L.length
    · obtain ⟨b, rfl, hc1, hc2, _, hf24, hcs⟩ := unhide HAT k hlt
      obtain ⟨e1, e2, e3, e4⟩ := hcs wr (unhide HB)
      clear hcs
      have q1 := natEq L[k].who n
      have q2 := strNil L[k].grp
      have HM := hide (fun w => match_str L[k].fil t w hf24 ht)
      have HHIT := hide (reachB_hit L n t.data.toList k hlt)
      have HMISS := hide (reachB_miss L n t.data.toList k hlt)
      unfold wantS at HHIT HMISS
      generalize L[k].who = who at *
      generalize L[k].had = had at *
      generalize (⟨L[k].grp.toArray⟩ : ByteArray) = gs at *
      generalize (⟨L[k].fil.toArray⟩ : ByteArray) = fs at *
      generalize decide (L[k].grp = []) = d2 at *
      generalize matchB L[k].fil t.data.toList = d3 at *
      generalize decide (who = n) = d1 at *
      cases d1
      · have HZ := hide ((unhide HA).trans (unhide HMISS rfl))
        go_wp2_with fail
        go_roundg (L.length - (k + 1))
        case measure => omega
        case rel => exact ⟨k + 1, by omega, rfl, by go_num, (unhide HB).alloc hbs _, HZ⟩
      · cases d2
        · have HZ := hide ((unhide HA).trans (unhide HMISS rfl))
          go_wp2_with fail
          go_roundg (L.length - (k + 1))
          case measure => omega
          case rel => exact ⟨k + 1, by omega, rfl, by go_num, (unhide HB).alloc hbs _, HZ⟩
        · cases d3
          · have HZ := hide ((unhide HA).trans (unhide HMISS rfl))
            go_wp2_with fail
            refine (unhide HM _).mono ?_
            rintro e w4 ⟨rfl, rfl⟩
            go_wp2_with fail
            go_roundg (L.length - (k + 1))
            case measure => omega
            case rel => exact ⟨k + 1, by omega, rfl, by go_num, (unhide HB).alloc hbs _, HZ⟩
          · have HZ := hide ((unhide HA).trans (unhide HHIT rfl))
            go_wp2_with fail
            refine (unhide HM _).mono ?_
            rintro e w4 ⟨rfl, rfl⟩
            go_wp2_with fail
            go_ret
            exact ⟨ret_bool (unhide HZ).symm, (unhide HB).alloc hbs _⟩
    · have HZ := hide ((unhide HA).trans (reachB_end L n t.data.toList k hlt))
      go_wp2_with fail
      go_ret
      exact ⟨ret_bool (unhide HZ).symm, unhide HB⟩

end Go.Proofs.Ytchhmojnoiephab
