import Derived.Test.YtchhmojnoiephabHubB
/- The program's hub: delivering. -/
namespace Go.Proofs.Ytchhmojnoiephab
open Go.ChangeShapes Go.WideShapes Go.ChangeAt Go.RowKit
set_option linter.unusedVariables false

theorem info_msg : (Try.prog.info? 48).map (fun i => (i.zero, i.size, i.bytes)) = some (some (.agg #[.string ByteArray.empty, .string ByteArray.empty]), 2, 32) := by kernel_rfl

abbrev msgV (m : MsgL) : Value := .agg #[strV m.1, strV m.2]
/-- a call without an answer, and the hub behind it -/
def HubDone (w : World) (p : Nat) (S : Nat → Prop) (H : HubL) (e : Ending) (w' : World) : Prop := (∃ v, e = .returned v) ∧ ∃ S', HubAt w' p S' H ∧ Fr S w w' S'

/-- a message behind a queue: the row behind the append, then the hub's cell -/
theorem push_queue {w W2 w3 : World} {p n : Nat} {A : Array Value} {qv : Nat → Value} {sv kv v' : Value} {H : HubL} {m : MsgL} (hw : HubW w p A qv sv kv H) (hg : goodH H) (hn : n < 6) (hm : smallM m) (hlt : (H.q n).length < 3) (hb : Below w.heap.size w W2)
    (hown' : w3.ownsRow 0 48 2 v' ((H.q n).length + 1) (msgCells (H.q n) ++ [strV m.1, strV m.2])) (hgrow : W2.grownBy w3 (qv n).ownBlock) (hmv : ∀ k, v'.ownBlock = some k → (qv n).ownBlock = some k ∨ W2.heap.size ≤ k) :
    (w3.cell? ⟨p, n * 3 + 2, none⟩ = some (qv n) ∧ w3.frozen? ⟨p, n * 3 + 2, none⟩ = false) ∧ HubW (w3.setCell ⟨p, n * 3 + 2, none⟩ v') p (A.setIfInBounds (n * 3 + 2) v') (updF qv n v') sv kv { H with q := updF H.q n (H.q n ++ [m]) } ∧ Fr (blkS p qv sv kv) w (w3.setCell ⟨p, n * 3 + 2, none⟩ v') (blkS p (updF qv n v') sv kv) := by
  have hbs := hb.size
  have hkeep : ∀ k, k < w.heap.size → (qv n).ownBlock ≠ some k → w3.heap[k]? = w.heap[k]? := fun k hk hne => by
    rw [hgrow.block k (by omega) (fun e => hne e.symm)]; exact hb.block k hk
  have hp3 : w3.heap[p]? = some (.cells A 61 (0, 0)) := by rw [hkeep p hw.lt (hw.np.1 n hn)]; exact hw.blk
  refine ⟨⟨cell_block hp3 (hw.cli n hn).2.2, free_block hp3⟩, ?_⟩
  refine hub_setQw hw hn (hgrow.os.trans hb.os) (hgrow.tape.trans hb.tape) (hgrow.output.trans hb.output) (Nat.le_trans hbs hgrow.size) hkeep (by rw [msgCells_snoc, List.length_append]; exact hown') (fun k hk => ?_)
  rcases hmv k hk with h1 | h1
  · exact Or.inl h1
  · exact Or.inr (by omega)

/-- deliver: another queue; all else as it was -/
def DelPost (w : World) (p : Nat) (qv : Nat → Value) (sv kv : Value) (H : HubL) (e : Ending) (w' : World) : Prop := (∃ v, e = .returned v) ∧ ∃ A' qv', HubW w' p A' qv' sv kv H ∧ Fr (blkS p qv sv kv) w w' (blkS p qv' sv kv)

set_option maxHeartbeats 2000000 in
set_option maxRecDepth 1000000 in
theorem deliver_w (p : Nat) (A : Array Value) (qv : Nat → Value) (sv kv : Value) (H : HubL) (n : Nat) (hn : n < 6) (m : MsgL) (hm : smallM m) (w : World) (hw : HubW w p A qv sv kv H) (hgd : goodH H) :
    Calls Try.prog 36 #[.pointer (some ⟨p, 0, none⟩), .int .i64 n, msgV m] w (DelPost w p qv sv kv (delH H n m)) := by
  obtain ⟨i0, hi, hz0, hz1, hz2⟩ := info_parts info_msg
  have hc := cliB_of n hn
  obtain ⟨c1, c2, c3⟩ := hw.cli n hn
  have hq := hw.qown n hn
  obtain ⟨aq, lq, cq, hqe⟩ := own_slice hq
  rw [hqe] at hq c3
  have hlq : lq = (H.q n).length := own_len hq
  subst hlq
  have z3 := cell_block hw.blk c3
  have f3 := free_block (i := n * 3 + 2) hw.blk
  have hp := hw.lt
  have hl3 := (hgd.queue n).1
  by_cases hlt : (H.q n).length < 3
  · have HD : Hid (delH H n m = { H with q := updF H.q n (H.q n ++ [m]) }) := by unfold Hid delH; rw [if_pos hlt]
    rw [unhide HD]
    have hltI : ((H.q n).length : Int) < 3 := by omega
    have hn6 : (n : Int) < 6 := by omega
    have hn0 : (0 : Int) ≤ (n : Int) := by omega
    have hbW : Below w.heap.size w ((w.alloc (.cells #[strV m.1, strV m.2] 48)).alloc (.cells #[strV m.1, strV m.2] 48)).drew := (((Below.refl _ w).alloc (Nat.le_refl _) _).alloc (by simp) _).drew
    have HOW := hide (own_below hq hbW)
    have HPQ := hide (fun v' w3 => push_queue (w3 := w3) (v' := v') hw hgd hn hm hlt hbW)
    rw [hqe] at HPQ
    have HC1 : Hid (∀ j u, [strV m.1, strV m.2][j]? = some u → ((w.alloc (.cells #[strV m.1, strV m.2] 48)).alloc (.cells #[strV m.1, strV m.2] 48)).drew.cell? ((⟨w.heap.size + 1, 0, none⟩ : Addr).add j) = some u) := by
      intro j u hj
      match j, hj with
      | 0, hj => simp at hj; subst hj; simp [Addr.add]
      | 1, hj => simp at hj; subst hj; simp [Addr.add]
    clear hbW hw hq c1 c2 c3
    unfold strV at HOW HPQ HC1
    unfold msgV strV
    go_enter Try.func36, Try.ntmps36
    go_wp2_with (go_at_call 25; refine (isClient_any _ _).mono ?_; rintro e w' ⟨rfl, rfl⟩)
    go_region_law (refine step_append_moves rfl (.tmp 27) (.tmp 29) 55 rfl 48 i0 (.agg #[.string ByteArray.empty, .string ByteArray.empty]) 2 32 Try.underlying55 hi hz0 hz1 hz2 rfl (by decide) (.slice aq (H.q n).length cq) (H.q n).length (msgCells (H.q n)) (by simp [Act.eval]) (unhide HOW) ⟨w.heap.size + 1, 0, none⟩ 1 1 [.string ⟨m.1.toArray⟩, .string ⟨m.2.toArray⟩] (by simp [Act.eval]) rfl (unhide HC1) (by intro u hu; simp at hu; rcases hu with rfl | rfl <;> rfl) (by unfold maxLen; omega) (by omega) ?_; intro v' w3 hown' hgrow hmv; obtain ⟨⟨z4, f4⟩, hst⟩ := unhide HPQ v' w3 hown' hgrow hmv; have HST := hide hst; obtain ⟨g', cap', rfl⟩ := own_form hown' (by omega); clear hown' hgrow hmv hst)
    all_goals
      go_wp2_with fail
      go_end0
      obtain ⟨t1, t2⟩ := unhide HST
      exact ⟨⟨_, rfl⟩, _, _, t1, t2⟩
  · have HD : Hid (delH H n m = H) := by unfold Hid delH; rw [if_neg hlt]
    rw [unhide HD]
    have HH := hide hw
    have hltI : decide (((H.q n).length : Int) < 3) = false := by simp; omega
    unfold msgV strV
    clear hw hq c1 c2 c3
    go_enter Try.func36, Try.ntmps36
    go_wp2_with (go_at_call 25; refine (isClient_any _ _).mono ?_; rintro e w' ⟨rfl, rfl⟩)
    go_end0
    exact ⟨⟨_, rfl⟩, _, _, (unhide HH).below ((Below.refl _ _).alloc (Nat.le_refl _) _), Fr.alloc _ _⟩

theorem deliver_any (p : Nat) (S : Nat → Prop) (H : HubL) (n : Nat) (hn : n < 6) (m : MsgL) (hm : smallM m) (w : World) (h : HubAt w p S H) :
    Calls Try.prog 36 #[.pointer (some ⟨p, 0, none⟩), .int .i64 n, msgV m] w (HubDone w p S (delH H n m)) := by
  obtain ⟨A, qv, sv, kv, hw, rfl⟩ := h.body
  refine (deliver_w p A qv sv kv H n hn m hm w hw h.good).mono ?_
  rintro e w' ⟨he, A', qv', h1, h2⟩
  exact ⟨he, _, ⟨⟨A', qv', sv, kv, h1, rfl⟩, del_good h.good n m hm⟩, h2⟩

end Go.Proofs.Ytchhmojnoiephab
