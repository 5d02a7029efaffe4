import Derived.Test.YtchhmojnoiephabGreatDoorZmRefA
import Derived.Deep.RegionLaw
import Derived.BigRegion
/- The document's hub: clients, and delivering. -/
namespace Go.Proofs.YtchhmojnoiephabGreatDoor
open Go.ChangeShapes Go.WideShapes Go.ChangeAt Go.RowKit
set_option linter.unusedVariables false

theorem step_append_q {P : Program} {ops : Array Oper} {o : Oper} {a : Act} {w : World} {K : Act → World → Prop} {Q : Exit → Act → World → Prop} {E : Prop}
    (hg : o.guard = none) (s x : Operand) (t : TypeId) (hop : o.op = Op.call { callee := Callee.builtin Builtin.append, args := #[s, x], argTypes := #[t, t] })
    (i : TypeInfo) (h1 : P.underlying t = some (.slice 9)) (h2 : P.info? 9 = some i) (h3 : i.zero = some (.string ByteArray.empty)) (h4 : i.size = 1) (h5 : i.bytes = 16)
    (v : Value) (q : List (List UInt8)) (m : List UInt8) (hs : a.eval s = v) (hq : QRow w v q) (hl : q.length ≤ 3) (ad : Addr) (c : Nat) (hx : a.eval x = .slice (some ad) 1 c) (ha : w.cell? ad = some (strV m))
    (hK : ∀ v' w', QRow w' v' (q ++ [m]) → w.grownBy w' v.ownBlock → (∀ k, v'.ownBlock = some k → v.ownBlock = some k ∨ w.heap.size ≤ k) → K (a.put o.dst v') w') :
    if Region.wanted o (yielded ops a.tmps) = true then Oper.wp P o a w K Q else E := by
  have hw : Region.wanted o (yielded ops a.tmps) = true := by simp [Region.wanted, hg]
  rw [if_pos hw]
  obtain ⟨v', w', hrun, r1, r2, r3⟩ := run_append_q (P := P) w t o.type i h1 h2 h3 h4 h5 v q m hq hl ad c ha
  unfold Oper.wp
  simp [execOp, hop, resolve, invoke, builtin, hs, hx, hrun, Result.andThen]
  exact hK v' w' r1 r2 r3

set_option maxHeartbeats 400000 in
theorem rclient_any (c : Int) (w : World) : Calls Tryz.prog 101 #[.int .i64 c] w fun e w' => e = .returned (.bool (cliB c)) ∧ w' = w := by
  by_cases h0 : 0 ≤ c
  · have hd : decide (0 ≤ c) = true := by simpa using h0
    have HR : Hid (cliB c = decide (c < 6)) := by unfold Hid cliB; rw [hd]; rfl
    go_enter Tryz.func101, Tryz.ntmps101
    go_wp2_with fail
    go_ret
    exact ⟨ret_bool (unhide HR).symm, rfl⟩
  · have hd : decide (0 ≤ c) = false := by simpa using h0
    have HR : Hid (cliB c = false) := by unfold Hid cliB; rw [hd]; rfl
    go_enter Tryz.func101, Tryz.ntmps101
    go_wp2_with fail
    go_ret
    exact ⟨ret_bool (unhide HR).symm, rfl⟩

def rcome (R : RHub) (c : Nat) : RHub := { R with on := updF R.on c true, known := updF R.known c true }
def rconnect (R : RHub) (c : Int) : Int × RHub := if cliB c = true then (0, rcome R c.toNat) else (4, R)
def rgo (R : RHub) (c : Nat) : RHub := { R with on := updF R.on c false }
def rleave (R : RHub) (c : Int) : Int × RHub := if cliB c = true then (if R.on c.toNat = true then (0, rgo R c.toNat) else (9, R)) else (4, R)

set_option maxHeartbeats 1000000 in
theorem rconnect_any (d : Nat) (S : Nat → Prop) (R : RHub) (c : Int) (w : World) (h : RefAt w d S R) : Calls Tryz.prog 73 #[.pointer (some ⟨d, 0, none⟩), .int .i64 c] w (RefPost w d S (.int .i64 (rconnect R c).1) (rconnect R c).2) := by
  cases hc : cliB c with
  | false =>
    have HR : Hid (rconnect R c = (4, R)) := by unfold Hid rconnect; rw [if_neg (by simp [hc])]
    rw [unhide HR]
    have HH := hide h
    clear h
    go_enter Tryz.func73, Tryz.ntmps73
    go_wp2_with fail
    refine (rclient_any _ _).mono ?_
    rw [hc]
    rintro e w' ⟨rfl, rfl⟩
    go_wp2_with fail
    go_ret
    exact RefPost.stay (unhide HH)
  | true =>
    obtain ⟨n, rfl, hn⟩ := cliB_nat hc
    have HR : Hid (rconnect R n = (0, rcome R n)) := by unfold Hid rconnect; rw [if_pos hc]; simp
    rw [unhide HR]
    obtain ⟨cb, A, qv, sv, kv, hw, rfl⟩ := h.body
    have hn6 : (n : Int) < 6 := by omega
    have z0 := cell_block (i := 0) hw.blk rfl
    have z1 := cell_block hw.cs (hw.cli n hn).1
    have f1 := free_block (i := n * 3) hw.cs
    have hw1 := hw.setOn hn true
    have y0 := cell_block (i := 0) hw1.blk rfl
    have y1 := cell_block hw1.cs (hw1.cli n hn).2.1
    have g1 := free_block (i := n * 3 + 1) hw1.cs
    have HW := hide (hw1.setKnown hn true)
    have HG : Hid (goodR (rcome R n)) := ⟨h.good.queue, h.good.subs, h.good.kept⟩
    clear h hw hw1
    go_enter Tryz.func73, Tryz.ntmps73
    go_wp2_with fail
    refine (rclient_any _ _).mono ?_
    rw [hc]
    rintro e w' ⟨rfl, rfl⟩
    go_wp2_with fail
    go_ret
    exact ⟨rfl, _, ⟨⟨_, _, _, _, _, unhide HW, rfl⟩, unhide HG⟩, (fr_cellR _ (Or.inr (Or.inl rfl))).trans (fr_cellR _ (Or.inr (Or.inl rfl)))⟩

set_option maxHeartbeats 1000000 in
theorem rleave_any (d : Nat) (S : Nat → Prop) (R : RHub) (c : Int) (w : World) (h : RefAt w d S R) : Calls Tryz.prog 75 #[.pointer (some ⟨d, 0, none⟩), .int .i64 c] w (RefPost w d S (.int .i64 (rleave R c).1) (rleave R c).2) := by
  have HH := hide h
  cases hc : cliB c with
  | false =>
    have HR : Hid (rleave R c = (4, R)) := by unfold Hid rleave; rw [if_neg (by simp [hc])]
    rw [unhide HR]
    clear h
    go_enter Tryz.func75, Tryz.ntmps75
    go_wp2_with fail
    refine (rclient_any _ _).mono ?_
    rw [hc]
    rintro e w' ⟨rfl, rfl⟩
    go_wp2_with fail
    go_ret
    exact RefPost.stay (unhide HH)
  | true =>
    obtain ⟨n, rfl, hn⟩ := cliB_nat hc
    obtain ⟨cb, A, qv, sv, kv, hw, rfl⟩ := h.body
    have hn6 : (n : Int) < 6 := by omega
    have z0 := cell_block (i := 0) hw.blk rfl
    have z1 := cell_block hw.cs (hw.cli n hn).1
    have f1 := free_block (i := n * 3) hw.cs
    cases hon : R.on n with
    | false =>
      have HR : Hid (rleave R n = (9, R)) := by unfold Hid rleave; rw [if_pos hc, if_neg (by simp [hon])]
      rw [unhide HR]
      rw [hon] at z1
      clear h hw
      go_enter Tryz.func75, Tryz.ntmps75
      go_wp2_with fail
      refine (rclient_any _ _).mono ?_
      rw [hc]
      rintro e w' ⟨rfl, rfl⟩
      go_wp2_with fail
      go_ret
      exact RefPost.stay (unhide HH)
    | true =>
      have HR : Hid (rleave R n = (0, rgo R n)) := by unfold Hid rleave; rw [if_pos hc, if_pos (by simpa using hon)]; simp
      rw [unhide HR]
      rw [hon] at z1
      have HW := hide (hw.setOn hn false)
      have HG : Hid (goodR (rgo R n)) := ⟨h.good.queue, h.good.subs, h.good.kept⟩
      clear h hw HH
      go_enter Tryz.func75, Tryz.ntmps75
      go_wp2_with fail
      refine (rclient_any _ _).mono ?_
      rw [hc]
      rintro e w' ⟨rfl, rfl⟩
      go_wp2_with fail
      go_ret
      exact ⟨rfl, _, ⟨⟨_, _, _, _, _, unhide HW, rfl⟩, unhide HG⟩, fr_cellR _ (Or.inr (Or.inl rfl))⟩

theorem join_str (t p : ByteArray) : strV (t.data.toList ++ 61 :: p.data.toList) = .string (t ++ ⟨#[61]⟩ ++ p) := by
  unfold strV
  congr 1
  refine ByteArray.ext ?_
  refine Array.ext' ?_
  simp
/-- a message behind a client's queue, or lost -/
def rdel (R : RHub) (c : Nat) (m : List UInt8) : RHub := if (R.q c).length < 3 then { R with q := updF R.q c (R.q c ++ [m]) } else R
theorem rdel_good {R : RHub} (h : goodR R) (c : Nat) (m : List UInt8) (hm : m.length ≤ 40) : goodR (rdel R c m) := by
  unfold rdel
  split
  · rename_i hl
    refine ⟨fun k => ?_, h.subs, h.kept⟩
    by_cases hk : k = c
    · subst hk
      rw [show ({ R with q := updF R.q k (R.q k ++ [m]) } : RHub).q k = R.q k ++ [m] from updF_same _ _ _]
      refine ⟨by simp; omega, fun x hx => ?_⟩
      rcases List.mem_append.1 hx with hx | hx
      · exact (h.queue k).2 x hx
      · rw [List.mem_singleton.1 hx]; exact hm
    · rw [show ({ R with q := updF R.q c (R.q c ++ [m]) } : RHub).q k = R.q k from updF_other _ _ hk]
      exact h.queue k
  · exact h

set_option maxHeartbeats 4000000 in
set_option maxRecDepth 1000000 in
theorem rdeliver_w (d cb : Nat) (A : Array Value) (qv : Nat → Value) (sv kv : Value) (R : RHub) (n : Nat) (hn : n < 6) (t p : ByteArray) (ht : t.size ≤ 24) (hp : p.size ≤ 8) (w : World) (hw : RefW w d cb A qv sv kv R) (hgd : goodR R) :
    Calls Tryz.prog 30 #[.pointer (some ⟨d, 0, none⟩), .int .i64 n, .string t, .string p] w fun e w' => (∃ v, e = .returned v) ∧ ∃ A' qv', RefW w' d cb A' qv' sv kv (rdel R n (t.data.toList ++ 61 :: p.data.toList)) ∧ Fr (blkR d cb qv sv kv) w w' (blkR d cb qv' sv kv) := by
  obtain ⟨i0, hi, hz0, hz1, hz2⟩ := info_parts info_string
  have hn6 : (n : Int) < 6 := by omega
  have hn0 : (0 : Int) ≤ (n : Int) := by omega
  have z0 := cell_block (i := 0) hw.blk rfl
  have hq := hw.qown n hn
  obtain ⟨aq, cq, hqe⟩ := hq.form
  have z3 := cell_block hw.cs (hw.cli n hn).2.2
  have f3 := free_block (i := n * 3 + 2) hw.cs
  rw [hqe] at hq z3
  have hcb := heap_lt hw.cs
  have hd := heap_lt hw.blk
  have hne := hw.nd.2.2.2
  have hl3 := (hgd.queue n).1
  by_cases hlt : (R.q n).length < 3
  · have HD : Hid (rdel R n (t.data.toList ++ 61 :: p.data.toList) = { R with q := updF R.q n (R.q n ++ [t.data.toList ++ 61 :: p.data.toList]) }) := by unfold Hid rdel; rw [if_pos hlt]
    rw [unhide HD]
    have hltI : ((R.q n).length : Int) < 3 := by omega
    have hj := join_str t p
    have hbW : Below w.heap.size w (w.alloc (.cells #[.string (t ++ ⟨#[61]⟩ ++ p)] 9)).drew := ((Below.refl _ w).alloc (Nat.le_refl _) _).drew
    have HOW := hide (hq.same (w' := (w.alloc (.cells #[.string (t ++ ⟨#[61]⟩ ++ p)] 9)).drew) (fun k hk => hbW.block k (hq.lt k hk)))
    have HPQ : Hid (∀ v' w3, QRow w3 v' (R.q n ++ [t.data.toList ++ 61 :: p.data.toList]) → (w.alloc (.cells #[.string (t ++ ⟨#[61]⟩ ++ p)] 9)).drew.grownBy w3 (qv n).ownBlock → (∀ k, v'.ownBlock = some k → (qv n).ownBlock = some k ∨ (w.alloc (.cells #[.string (t ++ ⟨#[61]⟩ ++ p)] 9)).drew.heap.size ≤ k) →
        (w3.cell? ⟨d, 0, none⟩ = some (.slice (some ⟨cb, 0, none⟩) 6 6) ∧ w3.cell? ⟨cb, n * 3 + 2, none⟩ = some (qv n) ∧ w3.frozen? ⟨cb, n * 3 + 2, none⟩ = false) ∧ RefW (w3.setCell ⟨cb, n * 3 + 2, none⟩ v') d cb (A.setIfInBounds (n * 3 + 2) v') (updF qv n v') sv kv { R with q := updF R.q n (R.q n ++ [t.data.toList ++ 61 :: p.data.toList]) } ∧ Fr (blkR d cb qv sv kv) w (w3.setCell ⟨cb, n * 3 + 2, none⟩ v') (blkR d cb (updF qv n v') sv kv)) := by
      intro v' w3 x1 x2 x3
      have hbs := hbW.size
      have hkeep : ∀ k, k < w.heap.size → (qv n).ownBlock ≠ some k → w3.heap[k]? = w.heap[k]? := fun k hk hne => by
        rw [x2.block k (by omega) (fun e => hne e.symm)]; exact hbW.block k hk
      obtain ⟨n1, _, _, _⟩ := hw.nd
      have y1 : w3.heap[d]? = _ := (hkeep d hd (n1 n hn).1).trans hw.blk
      have y2 : w3.heap[cb]? = _ := (hkeep cb hcb (n1 n hn).2).trans hw.cs
      refine ⟨⟨cell_block (i := 0) y1 rfl, cell_block y2 (hw.cli n hn).2.2, free_block y2⟩, hw.setQ hn (x2.os.trans hbW.os) (x2.tape.trans hbW.tape) (x2.output.trans hbW.output) (Nat.le_trans hbs x2.size) hkeep x1 (fun k hk => ?_)⟩
      rcases x3 k hk with h1 | h1
      · exact Or.inl h1
      · exact Or.inr (by omega)
    rw [hqe] at HPQ
    have HC1 : Hid ((w.alloc (.cells #[.string (t ++ ⟨#[61]⟩ ++ p)] 9)).drew.cell? ⟨w.heap.size, 0, none⟩ = some (strV (t.data.toList ++ 61 :: p.data.toList))) := by
      unfold Hid; rw [hj]; simp
    have h0j : (t ++ ⟨#[61]⟩ : ByteArray).size = t.size + 1 := by rw [ByteArray.size_append]; rfl
    have hA1 : ¬ 9223372036854775807 < t.size + 1 := by omega
    have hA2 : ¬ 9223372036854775807 < t.size + 1 + p.size := by omega
    have hA3 : ¬ 9223372036854775807 < (t ++ ⟨#[61]⟩ : ByteArray).size + p.size := by rw [h0j]; omega
    clear hbW hw hq hqe hj hgd
    go_enter Tryz.func30, Tryz.ntmps30
    go_wp2_with fail
    go_region_law (refine step_append_q rfl (.tmp 30) (.tmp 35) 107 rfl i0 Tryz.underlying107 hi hz0 hz1 hz2 (.slice aq (R.q n).length cq) (R.q n) (t.data.toList ++ 61 :: p.data.toList) (by simp [Act.eval]) (unhide HOW) hl3 ⟨w.heap.size, 0, none⟩ 1 (by simp [Act.eval]) (unhide HC1) ?_; intro v' w3 hown' hgrow hmv; obtain ⟨⟨z4, z5, f5⟩, hst⟩ := unhide HPQ v' w3 hown' hgrow hmv; have HST := hide hst; obtain ⟨a5, c5, h5⟩ := hown'.form; rw [List.length_append, List.length_singleton] at h5; subst h5; clear hown' hgrow hmv hst)
    all_goals
      go_wp2_with fail
      go_end0
      obtain ⟨t1, t2⟩ := unhide HST
      exact ⟨⟨_, rfl⟩, _, _, t1, t2⟩
  · have HD : Hid (rdel R n (t.data.toList ++ 61 :: p.data.toList) = R) := by unfold Hid rdel; rw [if_neg hlt]
    rw [unhide HD]
    have HH := hide hw
    have hltI : decide (((R.q n).length : Int) < 3) = false := by simp; omega
    clear hw hq hqe hgd
    go_enter Tryz.func30, Tryz.ntmps30
    go_wp2_with fail
    go_end0
    exact ⟨⟨_, rfl⟩, _, _, unhide HH, Fr.of_below (Below.refl _ _)⟩

end Go.Proofs.YtchhmojnoiephabGreatDoor
