import Derived.Test.YtchhmojnoiephabHubA
import Derived.Deep.RegionLaw
/- The program's hub: clients, and delivering. -/
namespace Go.Proofs.Ytchhmojnoiephab
open Go.ChangeShapes Go.WideShapes Go.ChangeAt Go.RowKit
set_option linter.unusedVariables false

/-- append as a step of a region that draws: the row stays in its block, or it moves -/
theorem step_append_moves {P : Program} {ops : Array Oper} {o : Oper} {a : Act} {w : World} {K : Act → World → Prop} {Q : Exit → Act → World → Prop} {E : Prop}
    (hg : o.guard = none) (s x : Operand) (t : TypeId) (hop : o.op = Op.call { callee := Callee.builtin Builtin.append, args := #[s, x], argTypes := #[t, t] })
    (e : TypeId) (i : TypeInfo) (z : Value) (size bytes : Nat) (h1 : P.underlying t = some (.slice e)) (h2 : P.info? e = some i) (h3 : i.zero = some z) (h4 : i.size = size) (h5 : i.bytes = bytes) (h6 : z.cells.size = size) (h7 : 0 < size)
    (v : Value) (n : Nat) (xs : List Value) (hs : a.eval s = v) (hown : w.ownsRow 0 e size v n xs)
    (ad : Addr) (m c : Nat) (news : List Value) (hx : a.eval x = .slice (some ad) m c) (hn : news.length = m * size) (hc : ∀ j u, news[j]? = some u → w.cell? (ad.add j) = some u) (h1c : ∀ u ∈ news, u.oneCell' = true)
    (b1 : n + m ≤ maxLen) (b2 : (n + m) * bytes ≤ 140737488355328)
    (hK : ∀ v' w', w'.ownsRow 0 e size v' (n + m) (xs ++ news) → w.grownBy w' v.ownBlock → (∀ k, v'.ownBlock = some k → v.ownBlock = some k ∨ w.heap.size ≤ k) → K (a.put o.dst v') w') :
    if Region.wanted o (yielded ops a.tmps) = true then Oper.wp P o a w K Q else E := by
  have hw : Region.wanted o (yielded ops a.tmps) = true := by simp [Region.wanted, hg]
  rw [if_pos hw]
  obtain ⟨v', w', hrun, r1, r2, r3⟩ := run_append_moves (P := P) w t o.type e i z size bytes h1 h2 h3 h4 h5 h6 h7 v n xs hown ad m c news hn hc h1c b1 b2
  unfold Oper.wp
  simp [execOp, hop, resolve, invoke, builtin, hs, hx, hrun, Result.andThen]
  exact hK v' w' r1 r2 r3

def cliB (c : Int) : Bool := decide (0 ≤ c) && decide (c < 6)
theorem cliB_nat {c : Int} (h : cliB c = true) : ∃ n : Nat, c = n ∧ n < 6 := by
  unfold cliB at h
  simp at h
  exact ⟨c.toNat, by omega, by omega⟩
theorem cliB_of (n : Nat) (h : n < 6) : cliB (n : Int) = true := by unfold cliB; simp; omega

set_option maxHeartbeats 400000 in
theorem isClient_any (c : Int) (w : World) : Calls Try.prog 25 #[.int .i64 c] w fun e w' => e = .returned (.bool (cliB c)) ∧ w' = w := by
  by_cases h0 : 0 ≤ c
  · have hd : decide (0 ≤ c) = true := by simpa using h0
    have HR : Hid (cliB c = decide (c < 6)) := by unfold Hid cliB; rw [hd]; rfl
    go_enter Try.func25, Try.ntmps25
    go_wp2_with fail
    go_ret
    exact ⟨ret_bool (unhide HR).symm, rfl⟩
  · have hd : decide (0 ≤ c) = false := by simpa using h0
    have HR : Hid (cliB c = false) := by unfold Hid cliB; rw [hd]; rfl
    go_enter Try.func25, Try.ntmps25
    go_wp2_with fail
    go_ret
    exact ⟨ret_bool (unhide HR).symm, rfl⟩

/-- a hub's cells of a client -/
theorem HubAt.cells {w : World} {p : Nat} {S : Nat → Prop} {H : HubL} (h : HubAt w p S H) {n : Nat} (hn : n < 6) : w.cell? ⟨p, n * 3, none⟩ = some (.bool (H.on n)) ∧ w.cell? ⟨p, n * 3 + 1, none⟩ = some (.bool (H.known n)) := by
  obtain ⟨A, qv, sv, kv, hw, rfl⟩ := h.body
  obtain ⟨c1, c2, c3⟩ := hw.cli n hn
  exact ⟨cell_block hw.blk c1, cell_block hw.blk c2⟩

def hereB (H : HubL) (c : Int) : Bool := cliB c && H.on c.toNat
theorem hereB_nat {H : HubL} {c : Int} (h : hereB H c = true) : ∃ n : Nat, c = n ∧ n < 6 ∧ H.on n = true := by
  unfold hereB at h
  rw [Bool.and_eq_true] at h
  obtain ⟨n, rfl, hn⟩ := cliB_nat h.1
  exact ⟨n, rfl, hn, by simpa using h.2⟩

set_option maxHeartbeats 400000 in
theorem isHere_any (p : Nat) (S : Nat → Prop) (H : HubL) (c : Int) (w : World) (h : HubAt w p S H) : Calls Try.prog 26 #[.pointer (some ⟨p, 0, none⟩), .int .i64 c] w fun e w' => e = .returned (.bool (hereB H c)) ∧ w' = w := by
  cases hc : cliB c with
  | false =>
    have HR : Hid (hereB H c = false) := by unfold Hid hereB; rw [hc]; rfl
    go_enter Try.func26, Try.ntmps26
    go_wp2_with (go_at_call 25; refine (isClient_any _ _).mono ?_; rintro e w' ⟨rfl, rfl⟩)
    go_ret
    exact ⟨ret_bool (unhide HR).symm, rfl⟩
  | true =>
    obtain ⟨n, rfl, hn⟩ := cliB_nat hc
    have HR : Hid (hereB H n = H.on n) := by unfold Hid hereB; rw [hc]; simp
    obtain ⟨c1, c2⟩ := h.cells hn
    clear h
    go_enter Try.func26, Try.ntmps26
    go_wp2_with (go_at_call 25; refine (isClient_any _ _).mono ?_; rintro e w' ⟨rfl, rfl⟩)
    go_ret
    exact ⟨ret_bool (unhide HR).symm, rfl⟩

set_option maxHeartbeats 400000 in
theorem newHub_any (w : World) : Calls Try.prog 13 #[] w fun e w' => e = .returned (.pointer (some ⟨w.heap.size, 0, none⟩)) ∧ (∃ S, HubAt w' w.heap.size S hub0 ∧ ∀ k, S k → k = w.heap.size) ∧ Below w.heap.size w w' := by
  go_enter Try.func13, Try.ntmps13
  go_wp2_with fail
  go_ret
  refine ⟨rfl, ⟨_, ⟨⟨_, fun _ => .slice none 0 0, .slice none 0 0, .slice none 0 0, ⟨(MapKept.heap_alloc w _).1, rfl, ?_, rfl, rfl, fun c _ => World.ownsRow_nil _ _ _ _, World.ownsRow_nil _ _ _ _, World.ownsRow_nil _ _ _ _, (fun c d _ _ _ k hk => by cases hk), (fun c _ k hk => by cases hk)⟩, rfl⟩, good0⟩, ?_⟩, (Below.refl _ w).alloc (Nat.le_refl _) _⟩
  · intro c hc
    match c, hc with
    | 0, _ => exact ⟨rfl, rfl, rfl⟩
    | 1, _ => exact ⟨rfl, rfl, rfl⟩
    | 2, _ => exact ⟨rfl, rfl, rfl⟩
    | 3, _ => exact ⟨rfl, rfl, rfl⟩
    | 4, _ => exact ⟨rfl, rfl, rfl⟩
    | 5, _ => exact ⟨rfl, rfl, rfl⟩
  · rintro k (rfl | ⟨c, hc, hk⟩ | hk | hk)
    · rfl
    · cases hk
    · cases hk
    · cases hk

/-- Connect -/
def connectH (H : HubL) (c : Int) : Int × HubL := if cliB c = true then (0, comeH H c.toNat) else (4, H)

set_option maxHeartbeats 1000000 in
theorem connect_any (p : Nat) (S : Nat → Prop) (H : HubL) (c : Int) (w : World) (h : HubAt w p S H) : Calls Try.prog 14 #[.pointer (some ⟨p, 0, none⟩), .int .i64 c] w (HubPost w p S (.int .i64 (connectH H c).1) (connectH H c).2) := by
  cases hc : cliB c with
  | false =>
    have HR : Hid (connectH H c = (4, H)) := by unfold Hid connectH; rw [hc]; rfl
    rw [unhide HR]
    have HH := hide h
    clear h
    go_enter Try.func14, Try.ntmps14
    go_wp2_with (go_at_call 25; refine (isClient_any _ _).mono ?_; rintro e w' ⟨rfl, rfl⟩)
    go_ret
    exact HubPost.stay (unhide HH)
  | true =>
    obtain ⟨n, rfl, hn⟩ := cliB_nat hc
    have HR : Hid (connectH H n = (0, comeH H n)) := by unfold Hid connectH; rw [hc]; simp
    rw [unhide HR]
    obtain ⟨A, qv, sv, kv, hw, rfl⟩ := h.body
    obtain ⟨c1, c2, c3⟩ := hw.cli n hn
    have z1 := cell_block hw.blk c1
    have f1 := free_block (i := n * 3) hw.blk
    have hw1 := hw.setOn hn true
    obtain ⟨d1, d2, d3⟩ := hw1.cli n hn
    have z2 := cell_block hw1.blk d2
    have f2 := free_block (i := n * 3 + 1) hw1.blk
    have HW := hide (hw1.setKnown hn true)
    have HG := hide (come_good h.good n)
    clear h hw hw1 c1 c2 c3 d1 d2 d3
    go_enter Try.func14, Try.ntmps14
    go_wp2_with (go_at_call 25; refine (isClient_any _ _).mono ?_; rintro e w' ⟨rfl, rfl⟩)
    go_ret
    exact ⟨rfl, _, ⟨⟨_, _, _, _, unhide HW, rfl⟩, unhide HG⟩, (fr_cell _).trans (fr_cell _)⟩

end Go.Proofs.Ytchhmojnoiephab
