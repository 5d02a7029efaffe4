import Derived.Test.YtchhmojnoiephabGreatDoorZmHubA
/- The program's hub: delivering. -/
namespace Go.Proofs.YtchhmojnoiephabGreatDoor
open Go.ChangeShapes Go.WideShapes Go.ChangeAt Go.RowKit
set_option linter.unusedVariables false

theorem info_msg : (Tryz.prog.info? 82).map (fun i => (i.zero, i.size, i.bytes)) = some (some (.agg #[.string ByteArray.empty, .string ByteArray.empty]), 2, 32) := by kernel_rfl

abbrev msgV (m : MsgL) : Value := .agg #[strV m.1, strV m.2]
/-- a call without an answer, and the hub behind it -/
def HubDone (w : World) (p : Nat) (S : Nat → Prop) (H : HubL) (e : Ending) (w' : World) : Prop := (∃ v, e = .returned v) ∧ ∃ S', HubAt w' p S' H ∧ Fr S w w' S'

/-- a message behind a queue: the row behind the append, then the hub's cell -/
theorem push_queue {w W2 w3 : World} {p n : Nat} {A : Array Value} {qv : Nat → Value} {sv kv v' : Value} {H : HubL} {m : MsgL} (hw : HubW w p A qv sv kv H) (hg : goodH H) (hn : n < 6) (hm : smallM m) (hlt : (H.q n).length < 3) (hb : Below w.heap.size w W2)
    (hown' : w3.ownsRow 0 82 2 v' ((H.q n).length + 1) (msgCells (H.q n) ++ [strV m.1, strV m.2])) (hgrow : W2.grownBy w3 (qv n).ownBlock) (hmv : ∀ k, v'.ownBlock = some k → (qv n).ownBlock = some k ∨ W2.heap.size ≤ k) :
    (w3.cell? ⟨p, n * 3 + 2, none⟩ = some (qv n) ∧ w3.frozen? ⟨p, n * 3 + 2, none⟩ = false) ∧ HubW (w3.setCell ⟨p, n * 3 + 2, none⟩ v') p (A.setIfInBounds (n * 3 + 2) v') (updF qv n v') sv kv { H with q := updF H.q n (H.q n ++ [m]) } ∧ Fr (blkS p qv sv kv) w (w3.setCell ⟨p, n * 3 + 2, none⟩ v') (blkS p (updF qv n v') sv kv) := by
  have hbs := hb.size
  have hkeep : ∀ k, k < w.heap.size → (qv n).ownBlock ≠ some k → w3.heap[k]? = w.heap[k]? := fun k hk hne => by
    rw [hgrow.block k (by omega) (fun e => hne e.symm)]; exact hb.block k hk
  have hp3 : w3.heap[p]? = some (.cells A 73 (0, 0)) := by rw [hkeep p hw.lt (hw.np.1 n hn)]; exact hw.blk
  refine ⟨⟨cell_block hp3 (hw.cli n hn).2.2, free_block hp3⟩, ?_⟩
  refine hub_setQw hw hn (hgrow.os.trans hb.os) (hgrow.tape.trans hb.tape) (hgrow.output.trans hb.output) (Nat.le_trans hbs hgrow.size) hkeep (by rw [msgCells_snoc, List.length_append]; exact hown') (fun k hk => ?_)
  rcases hmv k hk with h1 | h1
  · exact Or.inl h1
  · exact Or.inr (by omega)

/-- deliver: another queue; all else as it was -/
def DelPost (w : World) (p : Nat) (qv : Nat → Value) (sv kv : Value) (H : HubL) (e : Ending) (w' : World) : Prop := (∃ v, e = .returned v) ∧ ∃ A' qv', HubW w' p A' qv' sv kv H ∧ Fr (blkS p qv sv kv) w w' (blkS p qv' sv kv)

set_option maxHeartbeats 2000000 in
set_option maxRecDepth 1000000 in
theorem deliver_w (p : Nat) (A : Array Value) (qv : Nat → Value) (sv kv : Value) (H : HubL) (n : Nat) (hn : n < 6) (m : MsgL) (hm : smallM m) (w : World) (hw : HubW w p A qv sv kv H) (hgd : goodH H) :
    Calls Tryz.prog 60 #[.pointer (some ⟨p, 0, none⟩), .int .i64 n, msgV m] w (DelPost w p qv sv kv (delH H n m)) := by
  obtain ⟨i0, hi, hz0, hz1, hz2⟩ := info_parts info_msg
  have hc := cliB_of n hn
  obtain ⟨c1, c2, c3⟩ := hw.cli n hn
  have hq := hw.qown n hn
  obtain ⟨aq, lq, cq, hqe⟩ := own_slice hq
  rw [hqe] at hq c3
  have hlq : lq = (H.q n).length := own_len hq
  subst hlq
  have z3 := cell_block hw.blk c3
  have f3 := free_block (i := n * 3 + 2) hw.blk
  have hp := hw.lt
  have hl3 := (hgd.queue n).1
  by_cases hlt : (H.q n).length < 3
  · have HD : Hid (delH H n m = { H with q := updF H.q n (H.q n ++ [m]) }) := by unfold Hid delH; rw [if_pos hlt]
    rw [unhide HD]
    have hltI : ((H.q n).length : Int) < 3 := by omega
    have hn6 : (n : Int) < 6 := by omega
    have hn0 : (0 : Int) ≤ (n : Int) := by omega
    have hbW : Below w.heap.size w ((w.alloc (.cells #[strV m.1, strV m.2] 82)).alloc (.cells #[strV m.1, strV m.2] 82)).drew := (((Below.refl _ w).alloc (Nat.le_refl _) _).alloc (by simp) _).drew
    have HOW := hide (own_below hq hbW)
    have HPQ := hide (fun v' w3 => push_queue (w3 := w3) (v' := v') hw hgd hn hm hlt hbW)
    rw [hqe] at HPQ
    have HC1 : Hid (∀ j u, [strV m.1, strV m.2][j]? = some u → ((w.alloc (.cells #[strV m.1, strV m.2] 82)).alloc (.cells #[strV m.1, strV m.2] 82)).drew.cell? ((⟨w.heap.size + 1, 0, none⟩ : Addr).add j) = some u) := by
      intro j u hj
      match j, hj with
      | 0, hj => simp at hj; subst hj; simp [Addr.add]
      | 1, hj => simp at hj; subst hj; simp [Addr.add]
    clear hbW hw hq c1 c2 c3
    unfold strV at HOW HPQ HC1
    unfold msgV strV
    go_enter Tryz.func60, Tryz.ntmps60
    go_wp2_with (go_at_call 97; refine (isClient_any _ _).mono ?_; rintro e w' ⟨rfl, rfl⟩)
    go_region_law (refine step_append_moves rfl (.tmp 27) (.tmp 29) 67 rfl 82 i0 (.agg #[.string ByteArray.empty, .string ByteArray.empty]) 2 32 Tryz.underlying67 hi hz0 hz1 hz2 rfl (by decide) (.slice aq (H.q n).length cq) (H.q n).length (msgCells (H.q n)) (by simp [Act.eval]) (unhide HOW) ⟨w.heap.size + 1, 0, none⟩ 1 1 [.string ⟨m.1.toArray⟩, .string ⟨m.2.toArray⟩] (by simp [Act.eval]) rfl (unhide HC1) (by intro u hu; simp at hu; rcases hu with rfl | rfl <;> rfl) (by unfold maxLen; omega) (by omega) ?_; intro v' w3 hown' hgrow hmv; obtain ⟨⟨z4, f4⟩, hst⟩ := unhide HPQ v' w3 hown' hgrow hmv; have HST := hide hst; obtain ⟨g', cap', rfl⟩ := own_form hown' (by omega); clear hown' hgrow hmv hst)
    all_goals
      go_wp2_with fail
      go_end0
      obtain ⟨t1, t2⟩ := unhide HST
      exact ⟨⟨_, rfl⟩, _, _, t1, t2⟩
  · have HD : Hid (delH H n m = H) := by unfold Hid delH; rw [if_neg hlt]
    rw [unhide HD]
    have HH := hide hw
    have hltI : decide (((H.q n).length : Int) < 3) = false := by simp; omega
    unfold msgV strV
    clear hw hq c1 c2 c3
    go_enter Tryz.func60, Tryz.ntmps60
    go_wp2_with (go_at_call 97; refine (isClient_any _ _).mono ?_; rintro e w' ⟨rfl, rfl⟩)
    go_end0
    exact ⟨⟨_, rfl⟩, _, _, (unhide HH).below ((Below.refl _ _).alloc (Nat.le_refl _) _), Fr.alloc _ _⟩

theorem deliver_any (p : Nat) (S : Nat → Prop) (H : HubL) (n : Nat) (hn : n < 6) (m : MsgL) (hm : smallM m) (w : World) (h : HubAt w p S H) :
    Calls Tryz.prog 60 #[.pointer (some ⟨p, 0, none⟩), .int .i64 n, msgV m] w (HubDone w p S (delH H n m)) := by
  obtain ⟨A, qv, sv, kv, hw, rfl⟩ := h.body
  refine (deliver_w p A qv sv kv H n hn m hm w hw h.good).mono ?_
  rintro e w' ⟨he, A', qv', h1, h2⟩
  exact ⟨he, _, ⟨⟨A', qv', sv, kv, h1, rfl⟩, del_good h.good n m hm⟩, h2⟩

end Go.Proofs.YtchhmojnoiephabGreatDoor

/- The program's hub: looking for subscriptions. -/
namespace Go.Proofs.YtchhmojnoiephabGreatDoor
open Go.ChangeShapes Go.WideShapes Go.ChangeAt Go.RowKit
set_option linter.unusedVariables false

theorem strEq (l : List UInt8) (g : ByteArray) : ((⟨l.toArray⟩ : ByteArray).toList == g.toList) = decide (l = g.data.toList) := by
  rw [Lib.toList_data, Lib.toList_data]
  by_cases h : l = g.data.toList
  · subst h; simp
  · have : (l == g.data.toList) = false := by simpa using h
    simp [h]
theorem strNe (l : List UInt8) (g : ByteArray) : ((⟨l.toArray⟩ : ByteArray).toList != g.toList) = !decide (l = g.data.toList) := by
  rw [← strEq]; rfl
theorem strNil (l : List UInt8) : ((⟨l.toArray⟩ : ByteArray).toList == []) = decide (l = []) := by
  rw [Lib.toList_data]
  cases l <;> simp
theorem strNnil (l : List UInt8) : ((⟨l.toArray⟩ : ByteArray).toList != []) = !decide (l = []) := by
  rw [← strNil]; rfl
theorem natEq (a b : Nat) : ((a : Int) == (b : Int)) = decide (a = b) := by
  by_cases h : a = b
  · subst h; simp
  · have : ¬ (a : Int) = (b : Int) := by omega
    simp [h, this]

/-- the hub's subscriptions in memory -/
theorem HubAt.subsAt {w : World} {p : Nat} {S : Nat → Prop} {H : HubL} (h : HubAt w p S H) : ∃ a c, w.cell? ⟨p, 18, none⟩ = some (.slice a H.subs.length c) ∧ p < w.heap.size ∧ H.subs.length ≤ 8 ∧
    ∀ k (hk : k < H.subs.length), ∃ g, a = some ⟨g, 0, none⟩ ∧ H.subs.length ≤ c ∧ c ≤ 9223372036854775807 ∧ H.subs[k].who < 6 ∧ H.subs[k].fil.length ≤ 24 ∧ ∀ w', Below w.heap.size w w' →
      w'.cell? ⟨g, k * 4, none⟩ = some (.int .i64 (H.subs[k].who : Int)) ∧ w'.cell? ⟨g, k * 4 + 1, none⟩ = some (.string ⟨H.subs[k].grp.toArray⟩) ∧ w'.cell? ⟨g, k * 4 + 2, none⟩ = some (.string ⟨H.subs[k].fil.toArray⟩) ∧ w'.cell? ⟨g, k * 4 + 3, none⟩ = some (.bool H.subs[k].had) := by
  obtain ⟨A, qv, sv, kv, hw, rfl⟩ := h.body
  obtain ⟨a, l, c, rfl⟩ := own_slice hw.sown
  have hl : l = H.subs.length := own_len hw.sown
  subst hl
  refine ⟨a, c, cell_block hw.blk hw.subc, hw.lt, h.good.subs.1, fun k hk => ?_⟩
  obtain ⟨g, cap, hv⟩ := own_form hw.sown (by omega)
  simp only [Value.slice.injEq] at hv
  obtain ⟨rfl, _, rfl⟩ := hv
  have hcc := own_cap hw.sown
  unfold maxLen at hcc
  have hs := h.good.subs.2 _ (List.getElem_mem hk)
  exact ⟨g, rfl, hcc.1, by omega, hs.1, hs.2.2, fun w' hb => own_sub (own_below hw.sown hb) hk⟩

set_option maxHeartbeats 1000000 in
theorem findSub_any (p : Nat) (S : Nat → Prop) (H : HubL) (n : Nat) (g f : ByteArray) (w : World) (h : HubAt w p S H) :
    Calls Tryz.prog 68 #[.pointer (some ⟨p, 0, none⟩), .int .i64 n, .string g, .string f] w fun e w' => e = .returned (.int .i64 ((seekS (sameS n g.data.toList f.data.toList) 0 H.subs : Nat) : Int)) ∧ Below w.heap.size w w' := by
  obtain ⟨a, c, c0, hp, hl8, hat⟩ := h.subsAt
  have HAT := hide hat
  clear h hat
  generalize H.subs = L at *
  go_enter Tryz.func68, Tryz.ntmps68
  go_wp2_with fail
  go_loopg [9, 10, 16] L.length (fun gk _ _ i wr => ∃ k : Nat, k ≤ L.length ∧ gk = L.length - k ∧ i = .int .i64 k ∧ Hid (Below w.heap.size w wr) ∧ Hid (seekS (sameS n g.data.toList f.data.toList) 0 L = seekS (sameS n g.data.toList f.data.toList) k (L.drop k)))
  case atStart => exact ⟨0, by omega, by omega, rfl, Below.refl _ _, rfl⟩
  case round =>
    obtain ⟨k, hk, rfl, rfl, HB, HA⟩ := hrel
    have hbs := (unhide HB).size
    have c1 : wr.cell? ⟨p, 18, none⟩ = some (.slice a L.length c) := ((unhide HB).cell (p := ⟨p, 18, none⟩) hp).trans c0
    clear c0
    by_cases hlt : k < L.length
    · obtain ⟨b, rfl, hc1, hc2, _, _, hcs⟩ := unhide HAT k hlt
      obtain ⟨e1, e2, e3, e4⟩ := hcs wr (unhide HB)
      clear hcs
      have q1 := natEq L[k].who n
      have q2 := strEq L[k].grp g
      have q3 := strEq L[k].fil f
      have HHIT := hide (seekS_hit (sameS n g.data.toList f.data.toList) k k L hlt)
      have HMISS := hide (seekS_miss (sameS n g.data.toList f.data.toList) k k L hlt)
      unfold sameS at HHIT HMISS
      generalize L[k].who = who at *
      generalize L[k].had = had at *
      generalize (⟨L[k].grp.toArray⟩ : ByteArray) = gs at *
      generalize (⟨L[k].fil.toArray⟩ : ByteArray) = fs at *
      generalize decide (L[k].grp = g.data.toList) = d2 at *
      generalize decide (L[k].fil = f.data.toList) = d3 at *
      generalize decide (who = n) = d1 at *
      cases d1
      · have HZ := hide ((unhide HA).trans (unhide HMISS rfl))
        go_wp2_with fail
        go_roundg (L.length - (k + 1))
        case measure => omega
        case rel => exact ⟨k + 1, by omega, rfl, by go_num, (unhide HB).alloc hbs _, HZ⟩
      · cases d2
        · have HZ := hide ((unhide HA).trans (unhide HMISS rfl))
          go_wp2_with fail
          go_roundg (L.length - (k + 1))
          case measure => omega
          case rel => exact ⟨k + 1, by omega, rfl, by go_num, (unhide HB).alloc hbs _, HZ⟩
        · cases d3
          · have HZ := hide ((unhide HA).trans (unhide HMISS rfl))
            go_wp2_with fail
            go_roundg (L.length - (k + 1))
            case measure => omega
            case rel => exact ⟨k + 1, by omega, rfl, by go_num, (unhide HB).alloc hbs _, HZ⟩
          · have HZ := hide ((unhide HA).trans (unhide HHIT rfl))
            go_wp2_with fail
            go_ret
            exact ⟨ret_int (by rw [unhide HZ]), (unhide HB).alloc hbs _⟩
    · have HZ := hide ((unhide HA).trans (seekS_end _ k k L hlt))
      have hke : k = L.length := by omega
      go_wp2_with fail
      go_ret
      exact ⟨ret_int (by rw [unhide HZ, hke]), unhide HB⟩

/-- has the client a subscription that matches and is not shared? -/
def wantS (n : Nat) (t : List UInt8) (s : SubL) : Bool := decide (s.who = n) && (decide (s.grp = []) && matchB s.fil t)
def reachB (L : List SubL) (n : Nat) (t : List UInt8) : Bool := L.any (wantS n t)
theorem reachB_hit (L : List SubL) (n : Nat) (t : List UInt8) (k : Nat) (h : k < L.length) (hw : wantS n t L[k] = true) : reachB (L.drop k) n t = true := by
  rw [List.drop_eq_getElem_cons h]; unfold reachB; rw [List.any_cons, hw]; rfl
theorem reachB_miss (L : List SubL) (n : Nat) (t : List UInt8) (k : Nat) (h : k < L.length) (hw : wantS n t L[k] = false) : reachB (L.drop k) n t = reachB (L.drop (k + 1)) n t := by
  rw [List.drop_eq_getElem_cons h]; unfold reachB; rw [List.any_cons, hw]; rfl
theorem reachB_end (L : List SubL) (n : Nat) (t : List UInt8) (k : Nat) (h : ¬ k < L.length) : reachB (L.drop k) n t = false := by
  rw [List.drop_eq_nil_of_le (by omega)]; rfl

theorem match_str (l : List UInt8) (t : ByteArray) (w : World) (hl : l.length ≤ 24) (ht : t.size ≤ 24) : Calls Tryz.prog 88 #[.string ⟨l.toArray⟩, .string t] w fun e w' => e = .returned (.bool (matchB l t.data.toList)) ∧ w' = w := by
  have := matches_any (⟨l.toArray⟩ : ByteArray) t w (by rw [Lib.size_eq]; simpa using hl) ht
  simpa using this

set_option maxHeartbeats 1000000 in
theorem hreaches_any (p : Nat) (S : Nat → Prop) (H : HubL) (n : Nat) (t : ByteArray) (ht : t.size ≤ 24) (w : World) (h : HubAt w p S H) :
    Calls Tryz.prog 59 #[.pointer (some ⟨p, 0, none⟩), .int .i64 n, .string t] w fun e w' => e = .returned (.bool (reachB H.subs n t.data.toList)) ∧ Below w.heap.size w w' := by
  obtain ⟨a, c, c0, hp, hl8, hat⟩ := h.subsAt
  have HAT := hide hat
  clear h hat
  generalize H.subs = L at *
  go_enter Tryz.func59, Tryz.ntmps59
  go_wp2_with fail
  go_loopg [8, 14] L.length (fun gk _ i wr => ∃ k : Nat, k ≤ L.length ∧ gk = L.length - k ∧ i = .int .i64 k ∧ Hid (Below w.heap.size w wr) ∧ Hid (reachB L n t.data.toList = reachB (L.drop k) n t.data.toList))
  case atStart => exact ⟨0, by omega, by omega, rfl, Below.refl _ _, rfl⟩
  case round =>
    obtain ⟨k, hk, rfl, rfl, HB, HA⟩ := hrel
    have hbs := (unhide HB).size
    clear c0
    by_cases hlt : k < L.length
    · obtain ⟨b, rfl, hc1, hc2, _, hf24, hcs⟩ := unhide HAT k hlt
      obtain ⟨e1, e2, e3, e4⟩ := hcs wr (unhide HB)
      clear hcs
      have q1 := natEq L[k].who n
      have q2 := strNil L[k].grp
      have HM := hide (fun w => match_str L[k].fil t w hf24 ht)
      have HHIT := hide (reachB_hit L n t.data.toList k hlt)
      have HMISS := hide (reachB_miss L n t.data.toList k hlt)
      unfold wantS at HHIT HMISS
      generalize L[k].who = who at *
      generalize L[k].had = had at *
      generalize (⟨L[k].grp.toArray⟩ : ByteArray) = gs at *
      generalize (⟨L[k].fil.toArray⟩ : ByteArray) = fs at *
      generalize decide (L[k].grp = []) = d2 at *
      generalize matchB L[k].fil t.data.toList = d3 at *
      generalize decide (who = n) = d1 at *
      cases d1
      · have HZ := hide ((unhide HA).trans (unhide HMISS rfl))
        go_wp2_with fail
        go_roundg (L.length - (k + 1))
        case measure => omega
        case rel => exact ⟨k + 1, by omega, rfl, by go_num, (unhide HB).alloc hbs _, HZ⟩
      · cases d2
        · have HZ := hide ((unhide HA).trans (unhide HMISS rfl))
          go_wp2_with fail
          go_roundg (L.length - (k + 1))
          case measure => omega
          case rel => exact ⟨k + 1, by omega, rfl, by go_num, (unhide HB).alloc hbs _, HZ⟩
        · cases d3
          · have HZ := hide ((unhide HA).trans (unhide HMISS rfl))
            go_wp2_with fail
            refine (unhide HM _).mono ?_
            rintro e w4 ⟨rfl, rfl⟩
            go_wp2_with fail
            go_roundg (L.length - (k + 1))
            case measure => omega
            case rel => exact ⟨k + 1, by omega, rfl, by go_num, (unhide HB).alloc hbs _, HZ⟩
          · have HZ := hide ((unhide HA).trans (unhide HHIT rfl))
            go_wp2_with fail
            refine (unhide HM _).mono ?_
            rintro e w4 ⟨rfl, rfl⟩
            go_wp2_with fail
            go_ret
            exact ⟨ret_bool (unhide HZ).symm, (unhide HB).alloc hbs _⟩
    · have HZ := hide ((unhide HA).trans (reachB_end L n t.data.toList k hlt))
      go_wp2_with fail
      go_ret
      exact ⟨ret_bool (unhide HZ).symm, unhide HB⟩

end Go.Proofs.YtchhmojnoiephabGreatDoor
