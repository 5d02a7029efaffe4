import Derived.Test.YtchhmojnoiephabGreatDoorZmRefO
import Derived.Test.YtchhmojnoiephabGreatDoorZmRefI
/- The document's hub: how often a message goes to each client (plain mathematics, and the row of numbers in memory). -/
namespace Go.Proofs.YtchhmojnoiephabGreatDoor
open Go.ChangeShapes Go.WideShapes Go.ChangeAt Go.RowKit
set_option linter.unusedVariables false

/-- one group's turn: the delivery is counted, the subscription is marked, its client gets one more -/
def turnR (R : RHub) (k : Nat) : RHub := { R with count := R.count + 1, subs := match R.subs[k]? with | some x => R.subs.set k (lastS x (R.count + 1)) | none => R.subs }
def whoAt (R : RHub) (k : Nat) : Nat := match R.subs[k]? with | some x => x.who | none => 0
def servS (t : List UInt8) (i : Nat) (a : RHub × (Nat → Nat)) : RHub × (Nat → Nat) := match a.1.subs[i]? with
  | none => a
  | some x => if (!decide (x.grp = []) && (rfirst a.1.subs i && matchB x.fil t)) = true then (match rbest a.1.on x.grp x.fil a.1.subs a.1.subs.length with
      | none => a
      | some k => (turnR a.1 k, updF a.2 (whoAt a.1 k) (a.2 (whoAt a.1 k) + 1))) else a
def wantN (R : RHub) (t : List UInt8) (c : Nat) : Nat := if rwantB R.subs c t = true then 1 else 0
def servF (R : RHub) (t : List UInt8) : Nat → RHub × (Nat → Nat)
  | 0 => (R, wantN R t)
  | i + 1 => servS t i (servF R t i)
theorem turnR_at {R : RHub} {k : Nat} (h : k < R.subs.length) : turnR R k = { R with count := R.count + 1, subs := R.subs.set k (lastS R.subs[k] (R.count + 1)) } := by unfold turnR; rw [List.getElem?_eq_getElem h]
theorem whoAt_of {R : RHub} {k : Nat} (h : k < R.subs.length) : whoAt R k = R.subs[k].who := by unfold whoAt; rw [List.getElem?_eq_getElem h]
theorem turnR_good {R : RHub} (hg : goodR R) {k : Nat} (h : k < R.subs.length) : goodR (turnR R k) := by
  rw [turnR_at h]
  refine ⟨hg.queue, ⟨by show (R.subs.set k _).length ≤ 8; rw [List.length_set]; exact hg.subs.1, fun s hs => ?_⟩, hg.kept⟩
  rcases List.mem_or_eq_of_mem_set hs with hs | rfl
  · exact hg.subs.2 s hs
  · exact (show okR R.subs[k] from hg.subs.2 _ (List.getElem_mem h))
theorem turnR_len (R : RHub) (k : Nat) : (turnR R k).subs.length = R.subs.length := by
  unfold turnR; show (match R.subs[k]? with | some x => R.subs.set k (lastS x (R.count + 1)) | none => R.subs).length = _
  split <;> simp
theorem servS_len (t : List UInt8) (i : Nat) (a : RHub × (Nat → Nat)) : (servS t i a).1.subs.length = a.1.subs.length := by
  unfold servS
  split
  · rfl
  · split
    · split
      · rfl
      · exact turnR_len _ _
    · rfl
theorem servF_len (R : RHub) (t : List UInt8) (i : Nat) : (servF R t i).1.subs.length = R.subs.length := by
  induction i with
  | zero => rfl
  | succ i ih => rw [servF, servS_len, ih]
theorem servS_count (t : List UInt8) (i : Nat) (a : RHub × (Nat → Nat)) : (servS t i a).1.count ≤ a.1.count + 1 := by
  unfold servS
  split
  · omega
  · split
    · split
      · omega
      · exact Nat.le_refl _
    · omega
theorem servF_count (R : RHub) (t : List UInt8) (i : Nat) : (servF R t i).1.count ≤ R.count + i := by
  induction i with
  | zero => exact Nat.le_refl _
  | succ i ih => have := servS_count t i (servF R t i); rw [servF]; omega
theorem servS_num (t : List UInt8) (i : Nat) (a : RHub × (Nat → Nat)) (c : Nat) : (servS t i a).2 c ≤ a.2 c + 1 := by
  unfold servS
  split
  · omega
  · split
    · split
      · omega
      · rename_i k _
        by_cases h : c = whoAt a.1 k
        · subst h; exact Nat.le_of_eq (updF_same _ _ _)
        · exact Nat.le_trans (Nat.le_of_eq (updF_other _ _ h)) (by omega)
    · omega
theorem servF_num (R : RHub) (t : List UInt8) (i : Nat) (c : Nat) : (servF R t i).2 c ≤ 1 + i := by
  induction i with
  | zero => show wantN R t c ≤ 1 + 0; unfold wantN; split <;> omega
  | succ i ih => have := servS_num t i (servF R t i) c; rw [servF]; omega
theorem servS_on (t : List UInt8) (i : Nat) (a : RHub × (Nat → Nat)) : (servS t i a).1.on = a.1.on := by
  unfold servS
  split
  · rfl
  · split
    · split <;> rfl
    · rfl

/-- six numbers in a block of their own -/
def Nums (w : World) (N : Nat) (v : Nat → Nat) : Prop := ∃ B, w.heap[N]? = some (.cells B 3 (0, 0)) ∧ B.size = 6 ∧ ∀ c, c < 6 → B[c]? = some (.int .i64 (v c : Int))
theorem Nums.lt {w : World} {N : Nat} {v : Nat → Nat} (h : Nums w N v) : N < w.heap.size := by obtain ⟨B, hB, _⟩ := h; exact heap_lt hB
theorem Nums.same {w w' : World} {N : Nat} {v : Nat → Nat} (h : Nums w N v) (he : w'.heap[N]? = w.heap[N]?) : Nums w' N v := by obtain ⟨B, hB, h2⟩ := h; exact ⟨B, by rw [he]; exact hB, h2⟩
theorem Nums.below {w w' : World} {N : Nat} {v : Nat → Nat} (h : Nums w N v) (hb : Below w.heap.size w w') : Nums w' N v := h.same (hb.block N h.lt)
theorem Nums.cell {w : World} {N : Nat} {v : Nat → Nat} (h : Nums w N v) {c : Nat} (hc : c < 6) : w.cell? ⟨N, c, none⟩ = some (.int .i64 (v c : Int)) ∧ w.frozen? ⟨N, c, none⟩ = false := by
  obtain ⟨B, hB, _, h2⟩ := h; exact ⟨cell_block hB (h2 c hc), free_block hB⟩
theorem Nums.set {w : World} {N : Nat} {v : Nat → Nat} (h : Nums w N v) {c : Nat} (hc : c < 6) (n : Nat) : Nums (w.setCell ⟨N, c, none⟩ (.int .i64 (n : Int))) N (updF v c n) := by
  obtain ⟨B, hB, h1, h2⟩ := h
  refine ⟨_, blk_set hB _, by simp [h1], fun e he => ?_⟩
  by_cases hec : e = c
  · subst hec; rw [set_here _ _ _ (by omega), updF_same]
  · rw [set_at _ _ _ _ (by omega), updF_other _ _ hec]; exact h2 e he

end Go.Proofs.YtchhmojnoiephabGreatDoor

/- The document's hub: served, walked. -/
namespace Go.Proofs.YtchhmojnoiephabGreatDoor
open Go.ChangeShapes Go.WideShapes Go.ChangeAt Go.RowKit
set_option linter.unusedVariables false

theorem info_int6 : (Tryz.prog.info? 3).map (fun i => (i.zero, i.size, i.bytes)) = some (some (.int .i64 0), 1, 8) := by kernel_rfl
theorem made_int6 : madeCells (Value.int .i64 0).cells (6 * 1) = #[.int .i64 0, .int .i64 0, .int .i64 0, .int .i64 0, .int .i64 0, .int .i64 0] := by kernel_rfl
theorem Nums.congr {w : World} {N : Nat} {v u : Nat → Nat} (h : Nums w N v) (he : ∀ c, c < 6 → v c = u c) : Nums w N u := by
  obtain ⟨B, h1, h2, h3⟩ := h
  exact ⟨B, h1, h2, fun c hc => by rw [← he c hc]; exact h3 c hc⟩
theorem nums_new {w w1 : World} (hown : w1.ownsRow w.heap.size 3 1 (.slice (some ⟨w.heap.size, 0, none⟩) 6 6) 6 (madeCells (Value.int .i64 0).cells (6 * 1)).toList) (hgrow : w.grownBy w1 none) : Nums w1 w.heap.size (fun _ => 0) ∧ Below w.heap.size w w1 := by
  have hb1 : Below w.heap.size w w1 := grown_below (v := .slice none 0 0) (Below.refl _ w) hgrow (fun k hk => by cases hk)
  obtain ⟨_, ⟨hx, _⟩ | ⟨g, cap, cur, hv, hge, hg, h1, h2, h3, h4⟩⟩ := hown
  · cases hx
  · simp only [Value.slice.injEq, Option.some.injEq, Addr.mk.injEq, true_and, and_true] at hv
    obtain ⟨rfl, rfl⟩ := hv
    have hcur : cur = madeCells (Value.int .i64 0).cells (6 * 1) := by
      refine Array.ext' ?_
      rw [← h4, List.take_of_length_le (by simp [h3])]
    rw [made_int6] at hcur
    subst hcur
    refine ⟨⟨_, hg, rfl, fun c hc => ?_⟩, hb1⟩
    match c, hc with
    | 0, _ => rfl
    | 1, _ => rfl
    | 2, _ => rfl
    | 3, _ => rfl
    | 4, _ => rfl
    | 5, _ => rfl
/-- what served answers -/
def ServPost (w : World) (d : Nat) (S : Nat → Prop) (r : RHub × (Nat → Nat)) (e : Ending) (w' : World) : Prop :=
  ∃ N, e = .returned (.slice (some ⟨N, 0, none⟩) 6 6) ∧ w.heap.size ≤ N ∧ ∃ S', RefAt w' d S' r.1 ∧ Fr S w w' S' ∧ Nums w' N r.2 ∧ ¬ S' N
/-- the two stores of a turn -/
theorem rturn_end {w : World} {d : Nat} {S : Nat → Prop} {R : RHub} (h : RefAt w d S R) {k : Nat} (hk : k < R.subs.length) : ∃ g cap, w.cell? ⟨d, 1, none⟩ = some (.slice (some ⟨g, 0, none⟩) R.subs.length cap) ∧ R.subs.length ≤ cap ∧ cap ≤ 9223372036854775807 ∧ g ≠ d ∧ S d ∧ S g ∧ w.cell? ⟨d, 3, none⟩ = some (.int .i64 (R.count : Int)) ∧ w.frozen? ⟨d, 3, none⟩ = false ∧ w.cell? ⟨g, k * 4, none⟩ = some (.int .i64 (R.subs[k].who : Int)) ∧ w.cell? ⟨g, k * 4 + 3, none⟩ = some (.int .i64 (R.subs[k].last : Int)) ∧ w.frozen? ⟨g, k * 4 + 3, none⟩ = false ∧
    RefAt ((w.setCell ⟨d, 3, none⟩ (.int .i64 ((R.count + 1 : Nat) : Int))).setCell ⟨g, k * 4 + 3, none⟩ (.int .i64 ((R.count + 1 : Nat) : Int))) d S (turnR R k) ∧ Fr S w ((w.setCell ⟨d, 3, none⟩ (.int .i64 ((R.count + 1 : Nat) : Int))).setCell ⟨g, k * 4 + 3, none⟩ (.int .i64 ((R.count + 1 : Nat) : Int))) S := by
  have hgd := turnR_good h.good hk
  obtain ⟨cb, A, qv, sv, kv, hw, rfl⟩ := h.body
  obtain ⟨g, cap, hv⟩ := own_form hw.sown (by omega)
  subst hv
  have hcc := own_cap hw.sown
  unfold maxLen at hcc
  obtain ⟨e1, e2, e3, e4⟩ := own_rsub hw.sown hk
  have hne : g ≠ d := fun e => hw.nd.2.1.1 (by rw [e]; rfl)
  have h1 := hw.setCount (R.count + 1)
  have h2 := RefW.setLast (R := { R with count := R.count + 1 }) h1 (k := k) hk (R.count + 1)
  have hSd : blkR d cb qv (.slice (some ⟨g, 0, none⟩) R.subs.length cap) kv d := Or.inl rfl
  have hSg : blkR d cb qv (.slice (some ⟨g, 0, none⟩) R.subs.length cap) kv g := Or.inr (Or.inr (Or.inr (Or.inl rfl)))
  have hfz : w.frozen? ⟨g, k * 4 + 3, none⟩ = false := by
    obtain ⟨_, ⟨hx, _⟩ | ⟨g', cap', cur, hv, _, hg, _⟩⟩ := hw.sown
    · cases hx
    · simp only [Value.slice.injEq, Option.some.injEq, Addr.mk.injEq, true_and, and_true] at hv
      obtain ⟨rfl, rfl⟩ := hv
      exact free_block hg
  refine ⟨g, cap, cell_block (i := 1) hw.blk rfl, hcc.1, by omega, hne, hSd, hSg, cell_block (i := 3) hw.blk rfl, free_block hw.blk, e1, e4, hfz, ⟨⟨cb, A, qv, _, kv, (by rw [turnR_at hk]; exact h2), rfl⟩, hgd⟩, (fr_cellR _ hSd).trans (fr_cellR _ hSg)⟩

end Go.Proofs.YtchhmojnoiephabGreatDoor

/- The document's hub: served, walked. -/
namespace Go.Proofs.YtchhmojnoiephabGreatDoor
open Go.ChangeShapes Go.WideShapes Go.ChangeAt Go.RowKit
set_option linter.unusedVariables false

def wantK (R : RHub) (t : List UInt8) (k c : Nat) : Nat := if c < k then wantN R t c else 0
theorem wantK_hit {R : RHub} {t : List UInt8} {k : Nat} (h : rwantB R.subs k t = true) (c : Nat) : updF (wantK R t k) k 1 c = wantK R t (k + 1) c := by
  by_cases hc : c = k
  · subst hc; rw [updF_same]; unfold wantK wantN; rw [if_pos (by omega), if_pos h]
  · rw [updF_other _ _ hc]; unfold wantK
    by_cases hlt : c < k
    · rw [if_pos hlt, if_pos (by omega)]
    · rw [if_neg hlt, if_neg (by omega)]
theorem wantK_miss {R : RHub} {t : List UInt8} {k : Nat} (h : rwantB R.subs k t = false) (c : Nat) : wantK R t k c = wantK R t (k + 1) c := by
  unfold wantK
  by_cases hlt : c < k
  · rw [if_pos hlt, if_pos (by omega)]
  · rw [if_neg hlt]
    by_cases hc : c = k
    · subst hc; rw [if_pos (by omega)]; unfold wantN; rw [if_neg (by simp [h])]
    · rw [if_neg (by omega)]

theorem cell_ne {w : World} {a b : Addr} {v : Value} (h : a ≠ b) : (w.setCell a v).cell? b = w.cell? b := by apply World.cell?_setCell_other; exact h
theorem cell_eq {w : World} {a : Addr} {u v : Value} (h : w.cell? a = some u) : (w.setCell a v).cell? a = some v := by apply World.cell?_setCell_same; exact h
/-- a turn's client gets one more -/
theorem turn_nums {w w7 W2 W : World} {d N who : Nat} {S S' : Nat → Prop} {R' : RHub} {nk : Nat → Nat} (hR : RefAt W2 d S' R') (hF7 : Fr S w w7 S') (hF8 : Fr S' w7 W2 S') (hN : Nums w7 N nk) (hSN : ¬ S' N) (hNw : w.heap.size ≤ N) (hwho : who < 6)
    (e1 : W.os = W2.os) (e2 : W.tape = W2.tape) (e3 : W.output = W2.output) (e4 : W.heap = W2.heap) :
    (W.cell? ⟨N, who, none⟩ = some (.int .i64 (nk who : Int)) ∧ W.frozen? ⟨N, who, none⟩ = false) ∧ ∃ S'', RefAt (W.setCell ⟨N, who, none⟩ (.int .i64 ((nk who : Int) + 1))) d S'' R' ∧ Fr S w (W.setCell ⟨N, who, none⟩ (.int .i64 ((nk who : Int) + 1))) S'' ∧ Nums (W.setCell ⟨N, who, none⟩ (.int .i64 ((nk who : Int) + 1))) N (updF nk who (nk who + 1)) ∧ ¬ S'' N := by
  have hs : Fr (fun _ => False) W2 W (fun _ => False) := ⟨e1, e2, e3, by rw [e4]; exact Nat.le_refl _, fun k _ _ => by rw [e4], fun _ h => h.elim⟩
  have hNW : Nums W N nk := (hN.same (hF8.keep N hN.lt hSN)).same (by rw [e4])
  have hset : Fr (fun k => k = N) W (W.setCell ⟨N, who, none⟩ (.int .i64 ((nk who : Int) + 1))) (fun _ => False) := ⟨rfl, rfl, rfl, by simp, fun k _ hn => Below.heap_setCell _ _ _ _ hn, fun _ h => h.elim⟩
  have hF := hF7.trans hF8
  refine ⟨hNW.cell hwho, S', (hR.kept hs (fun _ _ h => h)).kept hset (fun k hk e => hSN (by rw [← e]; exact hk)), ⟨hset.os.trans (hs.os.trans hF.os), hset.tape.trans (hs.tape.trans hF.tape), hset.output.trans (hs.output.trans hF.output), Nat.le_trans hF.size (Nat.le_trans hs.size hset.size), fun k hk hn => ?_, hF.new⟩, ?_, hSN⟩
  · have h1 := hF.size
    have h2 := hs.size
    rw [hset.keep k (by omega) (by omega), hs.keep k (by omega) (fun h => h), hF.keep k hk hn]
  · have := hNW.set hwho (nk who + 1)
    rw [show (((nk who + 1 : Nat) : Int)) = (nk who : Int) + 1 by omega] at this
    exact this
theorem three_of {b0 b1 b2 : Bool} (h : (!b0 && (b1 && b2)) = true) : b0 = false ∧ b1 = true ∧ b2 = true := by cases b0 <;> cases b1 <;> cases b2 <;> simp_all

set_option maxHeartbeats 8000000 in
set_option maxRecDepth 1000000 in
theorem rserved_any (d : Nat) (S : Nat → Prop) (R : RHub) (t : ByteArray) (ht : t.size ≤ 24) (ht0 : 0 < t.size) (hct : R.count ≤ 4611686018427387904) (w : World) (h : RefAt w d S R) :
    Calls Tryz.prog 29 #[.pointer (some ⟨d, 0, none⟩), .string t] w (ServPost w d S (servF R t.data.toList R.subs.length)) := by
  obtain ⟨i0, hi, hz0, hz1, hz2⟩ := info_parts info_int6
  have HH := hide h
  have HSN : Hid (¬ S w.heap.size) := fun hs => by have := h.lt hs; omega
  have HW : Hid (∀ k x, RefAt x d S R → Calls Tryz.prog 62 #[.pointer (some ⟨d, 0, none⟩), .int .i64 (k : Nat), .string t] x fun e w' => e = .returned (.bool (rwantB R.subs k t.data.toList)) ∧ Below x.heap.size x w') := fun k x hx => rwants_any d S R k t ht ht0 x hx
  clear h
  go_enter Tryz.func29, Tryz.ntmps29
  go_wp2_with (at_make; refine wpList_make_full _ rfl _ _ 26 rfl w.heap.size 3 i0 (.int .i64 0) 1 Tryz.underlying26 hi hz0 hz1 .i64 .i64 6 6 6 rfl rfl rfl rfl (by rw [hz2]; omega) (by unfold maxLen; omega) (Nat.le_refl _) ?_)
  intro w1 hown hgrow
  obtain ⟨hnu, hbe⟩ := nums_new hown hgrow
  have HN0 := hide hnu
  have HB0 := hide hbe
  clear hown hgrow hnu hbe
  go_wp2_with fail
  go_loopg [6, 7] 6 (fun gk i _ wr => ∃ k : Nat, k ≤ 6 ∧ gk = 6 - k ∧ i = .int .i64 k ∧ Hid (Below w.heap.size w wr) ∧ Hid (Nums wr w.heap.size (wantK R t.data.toList k)))
  case atStart => exact ⟨0, by omega, by omega, rfl, HB0, (unhide HN0).congr (fun c _ => by unfold wantK; rw [if_neg (by omega)])⟩
  case round =>
    clear HN0 HB0
    obtain ⟨k, hk, rfl, rfl, HB, HN⟩ := hrel
    by_cases hlt : k < 6
    · have hkI : (k : Int) < 6 := by omega
      have HC := hide (unhide HW k wr ((unhide HH).below (unhide HB)))
      go_wp2_with fail
      refine (unhide HC).mono ?_
      rintro e w5 ⟨rfl, hb5⟩
      have HB5 := hide ((unhide HB).trans (hb5.mono (unhide HB).size))
      have HN5 := hide ((unhide HN).below hb5)
      clear hb5
      obtain ⟨n1, n2⟩ := (unhide HN5).cell hlt
      have HN6 := hide ((unhide HN5).set hlt 1)
      have HB6 : Hid (Below w.heap.size w (w5.setCell ⟨w.heap.size, k, none⟩ (.int .i64 1))) := (unhide HB5).setCell (Nat.le_refl _) _
      have HHIT := hide (fun h c => wantK_hit (R := R) (t := t.data.toList) (k := k) h c)
      have HMISS := hide (fun h c => wantK_miss (R := R) (t := t.data.toList) (k := k) h c)
      generalize rwantB R.subs k t.data.toList = b at *
      cases b
      · have HZ := hide (fun c => unhide HMISS rfl c)
        clear HHIT HMISS
        go_wp2_with fail
        go_roundg (6 - (k + 1))
        case measure => omega
        case rel => exact ⟨k + 1, by omega, rfl, by go_num, HB5, (unhide HN5).congr (fun c _ => unhide HZ c)⟩
      · have HZ := hide (fun c => unhide HHIT rfl c)
        clear HHIT HMISS
        go_wp2_with fail
        go_roundg (6 - (k + 1))
        case measure => omega
        case rel => exact ⟨k + 1, by omega, rfl, by go_num, HB6, (unhide HN6).congr (fun c _ => unhide HZ c)⟩
    · have hke : k = 6 := by omega
      subst hke
      have HN1 := hide ((unhide HN).congr (u := wantN R t.data.toList) (fun c hc => by unfold wantK; rw [if_pos hc]))
      clear HN hlt HW
      obtain ⟨F, hF⟩ : ∃ F : Nat → RHub × (Nat → Nat), F = servF R t.data.toList := ⟨_, rfl⟩
      have HF0 : Hid (F 0 = (R, wantN R t.data.toList)) := by subst hF; rfl
      have HFS : Hid (∀ i, F (i + 1) = servS t.data.toList i (F i)) := fun i => by subst hF; rfl
      have HFL : Hid (∀ i, (F i).1.subs.length = R.subs.length) := fun i => by subst hF; exact servF_len _ _ i
      have HFC : Hid (∀ i, (F i).1.count ≤ R.count + i) := fun i => by subst hF; exact servF_count _ _ i
      have HFN : Hid (∀ i c, (F i).2 c ≤ 1 + i) := fun i c => by subst hF; exact servF_num _ _ i c
      have HFE : Hid (servF R t.data.toList R.subs.length = F R.subs.length) := by subst hF; rfl
      have hl8 := (unhide HH).good.subs.1
      have HJ0 : Hid (∃ S', RefAt wr d S' (F 0).1 ∧ Fr S w wr S' ∧ Nums wr w.heap.size (F 0).2 ∧ ¬ S' w.heap.size) := ⟨S, by rw [unhide HF0]; exact (unhide HH).below (unhide HB), Fr.of_below (unhide HB), by rw [unhide HF0]; exact unhide HN1, unhide HSN⟩
      clear hF HF0 HN1 HB HH HSN
      generalize R.subs.length = n at *
      generalize R.count = ct at *
      go_wp2_with fail
      go_loopg [8, 9, 10, 11] n (fun gk i _ _ _ wr => ∃ k : Nat, k ≤ n ∧ gk = n - k ∧ i = .int .i64 k ∧ Hid (∃ S', RefAt wr d S' (F k).1 ∧ Fr S w wr S' ∧ Nums wr w.heap.size (F k).2 ∧ ¬ S' w.heap.size))
      case atStart => exact ⟨0, by omega, by omega, rfl, HJ0⟩
      case round =>
        clear HJ0
        obtain ⟨k, hk, rfl, rfl, HJ⟩ := hrel
        have hlk := unhide HFL k
        have hbd := unhide HFC k
        have hsv := unhide HFS k
        have hnb := unhide HFN k
        rcases hFk : F k with ⟨Rk, nk⟩
        rw [hFk] at HJ hlk hbd hsv hnb
        simp only at hlk hbd hnb
        obtain ⟨S', hr, hfr, hnu, hsn⟩ := unhide HJ
        simp only at hr hnu
        obtain ⟨a, c, c1, hp, hl, hat⟩ := hr.subsAt
        rw [hlk] at c1
        by_cases hlt : k < n
        · have hkl : k < Rk.subs.length := by omega
          obtain ⟨b, rfl, hc1, hc2, hok, hcs⟩ := hat k hkl
          rw [hlk] at hc1
          have hkI : (k : Int) < (n : Int) := by omega
          have HCS := hide hcs
          have HR := hide hr
          have HFR := hide hfr
          have HNU := hide hnu
          have HSN := hide hsn
          have HNB := hide hnb
          have HC1 := hide c1
          have HFI := hide (rfirst_any d S' Rk k hkl wr hr)
          have HM := hide (fun x => rmatch_str Rk.subs[k].fil t x hok.2.2.1 hok.2.2.2 ht ht0)
          have HTU : Hid (∀ x, RefAt x d S' Rk → Calls Tryz.prog 65 #[.pointer (some ⟨d, 0, none⟩), .string ⟨Rk.subs[k].grp.toArray⟩, .string ⟨Rk.subs[k].fil.toArray⟩] x fun e w' => e = .returned (.int .i64 (bestI (rbest Rk.on Rk.subs[k].grp Rk.subs[k].fil Rk.subs Rk.subs.length))) ∧ Below x.heap.size x w') := fun x hx => by
            have := rturn_any d S' Rk ⟨Rk.subs[k].grp.toArray⟩ ⟨Rk.subs[k].fil.toArray⟩ x hx
            simpa using this
          have HBJ := hide (fun j => rbest_lt Rk.on Rk.subs[k].grp Rk.subs[k].fil Rk.subs Rk.subs.length j)
          have HWHO : Hid (∀ j (hj : j < Rk.subs.length), Rk.subs[j].who < 6) := fun j hj => (hr.good.subs.2 _ (List.getElem_mem hj)).1
          unfold servS at hsv
          rw [List.getElem?_eq_getElem hkl] at hsv
          simp only at hsv
          have HSV := hide hsv
          obtain ⟨e1, e2, e3, e4⟩ := hcs wr (Below.refl _ _)
          have q0 := strNil Rk.subs[k].grp
          clear hr hfr hnu hsn hcs hat hok HJ hnb hsv hFk
          generalize Rk.subs[k] = x at *
          generalize (⟨x.grp.toArray⟩ : ByteArray) = gs at *
          generalize (⟨x.fil.toArray⟩ : ByteArray) = fs at *
          generalize rfirst Rk.subs k = b1 at *
          generalize matchB x.fil t.data.toList = b2 at *
          generalize decide (x.grp = []) = b0 at *
          go_wp2_with fail
          refine (unhide HFI).mono ?_
          rintro e w5 ⟨rfl, hb5⟩
          obtain ⟨f1, f2, f3, f4⟩ := unhide HCS w5 hb5
          have c5 := (hb5.cell (p := ⟨d, 1, none⟩) hp).trans c1
          have HB5 := hide hb5
          clear hb5 e1 e2 e3 e4 c1 HFI
          go_wp2_with fail
          refine (unhide HM w5).mono ?_
          rintro e w6 ⟨rfl, hb6⟩
          have HB6 := hide ((unhide HB5).trans (hb6.mono (unhide HB5).size))
          obtain ⟨g1, g2, g3, g4⟩ := unhide HCS w6 (unhide HB6)
          have c6 := ((unhide HB6).cell (p := ⟨d, 1, none⟩) hp).trans (unhide HC1)
          have HR6 := hide ((unhide HR).below (unhide HB6))
          have HF6 := hide ((unhide HFR).trans (Fr.of_below (unhide HB6)))
          have HN6 := hide ((unhide HNU).below (unhide HB6))
          have hp6 := Nat.lt_of_lt_of_le hp (unhide HB6).size
          clear hb6 f1 f2 f3 f4 c5 HB5 HM HCS HC1 HR HFR HNU HB6
          by_cases hcond : (!b0 && (b1 && b2)) = true
          · rw [if_pos hcond] at HSV
            obtain ⟨rfl, rfl, rfl⟩ := three_of hcond
            generalize rbest Rk.on x.grp x.fil Rk.subs Rk.subs.length = best at *
            clear hcond
            go_upto_region 14 with fail
            go_cut [11] (fun kv w7 => ∃ wz, wz = w7 ∧ kv = .int .i64 (bestI best) ∧ Hid (Below w6.heap.size w6 w7))
            case first =>
              have HTD := hide (unhide HTU w6.drew ((unhide HR6).below ⟨rfl, rfl, rfl, Nat.le_refl _, fun _ _ => rfl⟩))
              clear HSV HBJ HWHO HR6 HF6 HN6 HTU HNB HSN
              go_wp2_with fail
              go_region_with (go_at_call 65; refine (unhide HTD).mono ?_; rintro e w7 ⟨rfl, hb7⟩)
              all_goals
                have HB7 : Hid (Below w6.heap.size w6 w7) := (⟨rfl, rfl, rfl, Nat.le_refl _, fun _ _ => rfl⟩ : Below w6.heap.size w6 w6.drew).trans hb7
                clear hb7
                go_wp2_with fail
                go_meet
                exact ⟨_, rfl, rfl, HB7⟩
            case rest =>
              obtain ⟨w7, hw7, rfl, HB7⟩ := hcut
              subst hw7
              have HR7 := hide ((unhide HR6).below (unhide HB7))
              have HF7 := hide ((unhide HF6).trans (Fr.of_below (unhide HB7)))
              have HN7 := hide ((unhide HN6).below (unhide HB7))
              clear HR6 HF6 HN6 g1 g2 g3 g4 c6 HTU HB7 q0
              cases best with
              | none =>
                have HJ1 : Hid (∃ S'', RefAt w7 d S'' (F (k + 1)).1 ∧ Fr S w w7 S'' ∧ Nums w7 w.heap.size (F (k + 1)).2 ∧ ¬ S'' w.heap.size) := by rw [unhide HSV]; exact ⟨S', unhide HR7, unhide HF7, unhide HN7, unhide HSN⟩
                unfold bestI
                clear HR7 HF7 HN7 HSV HBJ HSN
                go_wp2_with fail
                go_roundg (n - (k + 1))
                case measure => omega
                case rel => exact ⟨k + 1, by omega, rfl, by go_num, HJ1⟩
              | some j =>
                have hj := unhide HBJ j rfl
                obtain ⟨g, cap, k1, k2, k3, hgd, hsd, hsg, k4, k5, k6, k7, k8, hR8, hF8⟩ := rturn_end (unhide HR7) hj
                rw [hlk] at k1 k2
                have hw6 := unhide HWHO j hj
                have hN := unhide HN7
                have hNd : w.heap.size ≠ d := fun e => unhide HSN (by rw [e]; exact hsd)
                have hNg : w.heap.size ≠ g := fun e => unhide HSN (by rw [e]; exact hsg)
                have hsv2 : F (k + 1) = (turnR Rk j, updF nk (whoAt Rk j) (nk (whoAt Rk j) + 1)) := unhide HSV
                rw [whoAt_of hj] at hsv2
                have hcI : ((Rk.count + 1 : Nat) : Int) = (Rk.count : Int) + 1 := by omega
                rw [hcI] at hR8 hF8
                obtain ⟨W1, hW1⟩ : ∃ W1, W1 = w7.setCell ⟨d, 3, none⟩ (.int .i64 ((Rk.count : Int) + 1)) := ⟨_, rfl⟩
                have hgd' : d ≠ g := fun e => hgd e.symm
                have a1 : W1.cell? ⟨d, 1, none⟩ = some (.slice (some ⟨g, 0, none⟩) n cap) := by rw [hW1]; exact (cell_ne (by simp)).trans k1
                have a3 : W1.cell? ⟨d, 3, none⟩ = some (.int .i64 ((Rk.count : Int) + 1)) := by rw [hW1]; exact cell_eq k4
                have a7 : W1.cell? ⟨g, j * 4 + 3, none⟩ = some (.int .i64 (Rk.subs[j].last : Int)) := by rw [hW1]; exact (cell_ne (fun e => hgd' (congrArg Addr.block e))).trans k7
                have f7 : W1.frozen? ⟨g, j * 4 + 3, none⟩ = false := by rw [hW1, World.frozen?_setCell]; exact k8
                have a6 : W1.cell? ⟨g, j * 4, none⟩ = some (.int .i64 (Rk.subs[j].who : Int)) := by rw [hW1]; exact (cell_ne (fun e => hgd' (congrArg Addr.block e))).trans k6
                have f6 : W1.frozen? ⟨d, 3, none⟩ = false := by rw [hW1, World.frozen?_setCell]; exact k5
                obtain ⟨W2, hW2⟩ : ∃ W2, W2 = W1.setCell ⟨g, j * 4 + 3, none⟩ (.int .i64 ((Rk.count : Int) + 1)) := ⟨_, rfl⟩
                rw [← hW1, ← hW2] at hR8 hF8
                have b1 : W2.drew.cell? ⟨d, 1, none⟩ = some (.slice (some ⟨g, 0, none⟩) n cap) := by show W2.cell? _ = _; rw [hW2]; exact (cell_ne (fun e => hgd (congrArg Addr.block e))).trans a1
                have b6 : W2.drew.cell? ⟨g, j * 4, none⟩ = some (.int .i64 (Rk.subs[j].who : Int)) := by show W2.cell? _ = _; rw [hW2]; exact (cell_ne (by simp)).trans a6
                obtain ⟨⟨bn, fn⟩, hfin⟩ := turn_nums hR8 (unhide HF7) hF8 (unhide HN7) (unhide HSN) (Nat.le_refl _) hw6 (W := W2.drew) rfl rfl rfl rfl
                have HJ1 : Hid (∃ S'', RefAt (W2.drew.setCell ⟨w.heap.size, Rk.subs[j].who, none⟩ (.int .i64 ((nk Rk.subs[j].who : Int) + 1))) d S'' (F (k + 1)).1 ∧ Fr S w (W2.drew.setCell ⟨w.heap.size, Rk.subs[j].who, none⟩ (.int .i64 ((nk Rk.subs[j].who : Int) + 1))) S'' ∧ Nums (W2.drew.setCell ⟨w.heap.size, Rk.subs[j].who, none⟩ (.int .i64 ((nk Rk.subs[j].who : Int) + 1))) w.heap.size (F (k + 1)).2 ∧ ¬ S'' w.heap.size) := by rw [hsv2]; exact hfin
                have hjI : (0 : Int) ≤ (j : Int) := by omega
                have hjn : j < n := by omega
                have hnb := unhide HNB Rk.subs[j].who
                clear HSV HR7 HF7 HN7 HBJ HWHO hsv2 hfin hR8 hF8 hN HNB HSN hNd hNg k7 k8 hsd hsg
                generalize Rk.subs[j].who = who at *
                generalize Rk.subs[j].last = last at *
                generalize nk who = nw at *
                have hct2 : Rk.count ≤ 4611686018427387904 + 8 := by omega
                generalize Rk.count = cnt at *
                unfold bestI
                go_upto_region 17 with fail
                rw [← hW1]
                clear hW1 k1 k4 k5 k6
                go_region
                rw [← hW2]
                clear hW2 a1 a3 a6 a7 f6 f7
                go_wp2_with fail
                go_roundg (n - (k + 1))
                case measure => omega
                case rel => exact ⟨k + 1, by omega, rfl, by go_num, HJ1⟩
          · rw [if_neg hcond] at HSV
            have HJ1 : Hid (∃ S'', RefAt w6 d S'' (F (k + 1)).1 ∧ Fr S w w6 S'' ∧ Nums w6 w.heap.size (F (k + 1)).2 ∧ ¬ S'' w.heap.size) := by rw [unhide HSV]; exact ⟨S', unhide HR6, unhide HF6, unhide HN6, unhide HSN⟩
            clear HSV HBJ HWHO HR6 HF6 HN6 HTU HNB HSN
            cases b0 <;> cases b1 <;> cases b2
            all_goals try exact (hcond rfl).elim
            all_goals
              go_wp2_with fail
              go_roundg (n - (k + 1))
              case measure => omega
              case rel => exact ⟨k + 1, by omega, rfl, by go_num, HJ1⟩
        · have hke : k = n := by omega
          subst hke
          clear hat
          go_wp2_with fail
          go_ret
          rw [unhide HFE, hFk]
          exact ⟨w.heap.size, rfl, Nat.le_refl _, S', hr, hfr, hnu, hsn⟩

end Go.Proofs.YtchhmojnoiephabGreatDoor
