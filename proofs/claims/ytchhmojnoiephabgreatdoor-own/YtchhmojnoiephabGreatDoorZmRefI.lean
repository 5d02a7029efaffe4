import Derived.Test.YtchhmojnoiephabGreatDoorZmRefF
/- The document's hub: the oldest of its group and filter. -/
namespace Go.Proofs.YtchhmojnoiephabGreatDoor
open Go.ChangeShapes Go.WideShapes Go.ChangeAt Go.RowKit
set_option linter.unusedVariables false

theorem strEq2 (l m : List UInt8) : ((⟨l.toArray⟩ : ByteArray).toList == (⟨m.toArray⟩ : ByteArray).toList) = decide (l = m) := by
  have := strEq l ⟨m.toArray⟩
  simpa using this
theorem below_drew {B : Nat} {w w' : World} (h : Below B w w') (n : Nat) : Below B w (w'.drewN n) := h.trans ⟨rfl, rfl, rfl, Nat.le_refl _, fun _ _ => rfl⟩
def keyEq (a b : RSub) : Bool := decide (a.grp = b.grp) && decide (a.fil = b.fil)
def rfirst (L : List RSub) (i : Nat) : Bool := (L.take i).all fun s => !(match L[i]? with | some x => keyEq s x | none => true)
theorem rfirst_at {L : List RSub} {i : Nat} (h : i < L.length) : rfirst L i = (L.take i).all fun s => !keyEq s L[i] := by unfold rfirst; rw [List.getElem?_eq_getElem h]
theorem all_step (L : List RSub) (p : RSub → Bool) (k : Nat) (h : k < L.length) (ha : (L.take k).all p = true) (hk : p L[k] = true) : (L.take (k + 1)).all p = true := by
  rw [List.take_succ_eq_append_getElem h, List.all_append, ha]; simp [hk]
theorem all_bad (L : List RSub) (p : RSub → Bool) (k i : Nat) (h : k < L.length) (hi : k < i) (hk : p L[k] = false) : (L.take i).all p = false := by
  rw [List.all_eq_false]
  exact ⟨L[k], List.mem_take_iff_getElem.mpr ⟨k, by omega, rfl⟩, by simp [hk]⟩

set_option maxHeartbeats 2000000 in
theorem rfirst_any (d : Nat) (S : Nat → Prop) (R : RHub) (i : Nat) (hi : i < R.subs.length) (w : World) (h : RefAt w d S R) :
    Calls Tryz.prog 63 #[.pointer (some ⟨d, 0, none⟩), .int .i64 i] w fun e w' => e = .returned (.bool (rfirst R.subs i)) ∧ Below w.heap.size w w' := by
  obtain ⟨a, c, c0, hp, hl8, hat⟩ := h.subsAt
  have HAT := hide hat
  rw [rfirst_at hi]
  obtain ⟨b0, ha0, hc1, hc2, _, hcs0⟩ := hat i hi
  have HCS0 := hide hcs0
  clear h hat hcs0
  generalize R.subs = L at *
  go_enter Tryz.func63, Tryz.ntmps63
  go_wp2_with fail
  go_loopg [5] i (fun gk kv wr => ∃ k : Nat, k ≤ i ∧ gk = i - k ∧ kv = .int .i64 k ∧ Hid (Below w.heap.size w wr) ∧ Hid ((L.take k).all (fun s => !keyEq s L[i]) = true))
  case atStart => exact ⟨0, by omega, by omega, rfl, Below.refl _ _, by unfold Hid; simp⟩
  case round =>
    obtain ⟨k, hk, rfl, rfl, HB, HA⟩ := hrel
    have c1 : wr.cell? ⟨d, 1, none⟩ = some (.slice a L.length c) := ((unhide HB).cell (p := ⟨d, 1, none⟩) hp).trans c0
    by_cases hlt : k < i
    · have hkl : k < L.length := by omega
      subst ha0
      obtain ⟨b, hbb, _, _, _, hcs⟩ := unhide HAT k hkl
      simp only [Option.some.injEq, Addr.mk.injEq, and_true] at hbb
      subst hbb
      obtain ⟨e1, e2, e3, e4⟩ := hcs wr (unhide HB)
      obtain ⟨x1, x2, x3, x4⟩ := unhide HCS0 wr (unhide HB)
      have q2 := strEq2 L[k].grp L[i].grp
      have q3 := strEq2 L[k].fil L[i].fil
      have HHIT := hide (all_bad L (fun s => !keyEq s L[i]) k i hkl hlt)
      have HSTEP := hide (all_step L (fun s => !keyEq s L[i]) k hkl (unhide HA))
      simp only [keyEq] at HHIT HSTEP
      clear hcs e1 e4 x1 x4 c0
      generalize (⟨L[k].grp.toArray⟩ : ByteArray) = gs at *
      generalize (⟨L[k].fil.toArray⟩ : ByteArray) = fs at *
      generalize (⟨L[i].grp.toArray⟩ : ByteArray) = gi at *
      generalize (⟨L[i].fil.toArray⟩ : ByteArray) = fi at *
      generalize decide (L[k].grp = L[i].grp) = d2 at *
      generalize decide (L[k].fil = L[i].fil) = d3 at *
      have hkI : (k : Int) < (L.length : Int) := by omega
      have hiI : (i : Int) < (L.length : Int) := by omega
      cases d2
      · have HZ := hide (unhide HSTEP rfl)
        go_wp2_with fail
        go_quiet (fail)
        go_wp2_with fail
        go_roundg (i - (k + 1))
        case measure => omega
        case rel => exact ⟨k + 1, by omega, rfl, by go_num, below_drew (unhide HB) _, HZ⟩
      · cases d3
        · have HZ := hide (unhide HSTEP rfl)
          go_wp2_with fail
          go_quiet (fail)
          go_wp2_with fail
          go_roundg (i - (k + 1))
          case measure => omega
          case rel => exact ⟨k + 1, by omega, rfl, by go_num, below_drew (unhide HB) _, HZ⟩
        · have HZ := hide (unhide HHIT rfl)
          go_wp2_with fail
          go_quiet (fail)
          go_wp2_with fail
          go_ret
          exact ⟨ret_bool (unhide HZ).symm, below_drew (unhide HB) _⟩
    · have hke : k = i := by omega
      subst hke
      clear c0 c1
      go_wp2_with fail
      go_ret
      exact ⟨ret_bool (unhide HA).symm, unhide HB⟩

end Go.Proofs.YtchhmojnoiephabGreatDoor

/- The document's hub: whose turn it is. -/
namespace Go.Proofs.YtchhmojnoiephabGreatDoor
open Go.ChangeShapes Go.WideShapes Go.ChangeAt Go.RowKit
set_option linter.unusedVariables false

def lastAt (L : List RSub) (j : Nat) : Nat := match L[j]? with | some x => x.last | none => 0
theorem lastAt_of {L : List RSub} {j : Nat} (h : j < L.length) : lastAt L j = L[j].last := by unfold lastAt; rw [List.getElem?_eq_getElem h]
/-- is x a candidate, and better than the best so far? -/
def betterB (on : Nat → Bool) (g f : List UInt8) (L : List RSub) (b : Option Nat) (x : RSub) : Bool :=
  decide (x.grp = g) && decide (x.fil = f) && on x.who && (match b with | none => true | some j => decide (x.last < lastAt L j))
def rbest (on : Nat → Bool) (g f : List UInt8) (L : List RSub) : Nat → Option Nat
  | 0 => none
  | k + 1 => match L[k]? with
    | some x => if betterB on g f L (rbest on g f L k) x then some k else rbest on g f L k
    | none => rbest on g f L k
theorem rbest_step (on : Nat → Bool) (g f : List UInt8) (L : List RSub) (k : Nat) (h : k < L.length) : rbest on g f L (k + 1) = if betterB on g f L (rbest on g f L k) L[k] then some k else rbest on g f L k := by
  simp only [rbest]; rw [List.getElem?_eq_getElem h]
theorem rbest_lt (on : Nat → Bool) (g f : List UInt8) (L : List RSub) (k j : Nat) (h : rbest on g f L k = some j) : j < k := by
  induction k with
  | zero => simp [rbest] at h
  | succ k ih =>
    simp only [rbest] at h
    split at h
    · split at h
      · simp only [Option.some.injEq] at h; omega
      · have := ih h; omega
    · have := ih h; omega
def bestI : Option Nat → Int
  | none => -1
  | some j => (j : Int)
theorem natLt (a b : Nat) : decide ((a : Int) < (b : Int)) = decide (a < b) := by
  by_cases h : a < b
  · have : (a : Int) < b := by omega
    simp [h, this]
  · have : ¬ (a : Int) < b := by omega
    simp [h, this]

set_option maxHeartbeats 8000000 in
theorem rturn_any (d : Nat) (S : Nat → Prop) (R : RHub) (g f : ByteArray) (w : World) (h : RefAt w d S R) :
    Calls Tryz.prog 65 #[.pointer (some ⟨d, 0, none⟩), .string g, .string f] w fun e w' => e = .returned (.int .i64 (bestI (rbest R.on g.data.toList f.data.toList R.subs R.subs.length))) ∧ Below w.heap.size w w' := by
  obtain ⟨a, c, c0, hp, hl8, hat⟩ := h.subsAt
  have HAT := hide hat
  obtain ⟨cb, A, qv, sv, kv, hw, hSS⟩ := h.body
  have HON : Hid (∀ n, n < 6 → ∀ wr, Below w.heap.size w wr → wr.cell? ⟨cb, n * 3, none⟩ = some (.bool (R.on n))) := fun n hn wr hb => (hb.cell (p := ⟨cb, n * 3, none⟩) (heap_lt hw.cs)).trans (cell_block hw.cs (hw.cli n hn).1)
  have k0 := cell_block (i := 0) hw.blk rfl
  have hcb := heap_lt hw.cs
  clear h hat hw hSS
  generalize R.subs = L at *
  generalize R.on = on at *
  go_enter Tryz.func65, Tryz.ntmps65
  go_wp2_with fail
  go_loopg [7, 8, 9] L.length (fun gk bv iv _ wr => ∃ k : Nat, k ≤ L.length ∧ gk = L.length - k ∧ iv = .int .i64 k ∧ bv = .int .i64 (bestI (rbest on g.data.toList f.data.toList L k)) ∧ Hid (Below w.heap.size w wr))
  case atStart => exact ⟨0, by omega, by omega, rfl, rfl, Below.refl _ _⟩
  case round =>
    obtain ⟨k, hk, rfl, rfl, rfl, HB⟩ := hrel
    have hbs := (unhide HB).size
    have c1 : wr.cell? ⟨d, 1, none⟩ = some (.slice a L.length c) := ((unhide HB).cell (p := ⟨d, 1, none⟩) hp).trans c0
    have k1 : wr.cell? ⟨d, 0, none⟩ = some (.slice (some ⟨cb, 0, none⟩) 6 6) := ((unhide HB).cell (p := ⟨d, 0, none⟩) hp).trans k0
    have hd2 : d < wr.heap.size := by omega
    have hcb2 : cb < wr.heap.size := by omega
    clear c0 k0
    by_cases hlt : k < L.length
    · obtain ⟨b, rfl, hc1, hc2, hok, hcs⟩ := unhide HAT k hlt
      obtain ⟨e1, e2, e3, e4⟩ := hcs wr (unhide HB)
      have hb2 : b < wr.heap.size := World.block_lt_of_cell? _ _ e1
      have hx := unhide HON L[k].who hok.1 wr (unhide HB)
      have hwho := hok.1
      have HSTEP := hide (rbest_step on g.data.toList f.data.toList L k hlt)
      have HLT := hide (fun j hj => rbest_lt on g.data.toList f.data.toList L k j hj)
      have HLJ : Hid (∀ j, (hj : j < L.length) → wr.cell? ⟨b, j * 4 + 3, none⟩ = some (.int .i64 (lastAt L j : Int))) := fun j hj => by
        obtain ⟨b', hbb, _, _, _, hcs'⟩ := unhide HAT j hj
        simp only [Option.some.injEq, Addr.mk.injEq, and_true] at hbb
        subst hbb
        rw [lastAt_of hj]
        exact (hcs' wr (unhide HB)).2.2.2
      have q2 := strEq L[k].grp g
      have q3 := strEq L[k].fil f
      unfold betterB at HSTEP
      clear hcs hok
      generalize L[k].who = who at *
      generalize L[k].last = last at *
      generalize (⟨L[k].grp.toArray⟩ : ByteArray) = gs at *
      generalize (⟨L[k].fil.toArray⟩ : ByteArray) = fs at *
      generalize decide (L[k].grp = g.data.toList) = d2 at *
      generalize decide (L[k].fil = f.data.toList) = d3 at *
      generalize on who = d4 at *
      have hwi : (who : Int) < 6 := by omega
      have hkI : (k : Int) < (L.length : Int) := by omega
      cases d2
      · have HZ : Hid (rbest on g.data.toList f.data.toList L (k + 1) = rbest on g.data.toList f.data.toList L k) := (unhide HSTEP).trans (by simp)
        clear HSTEP HLT HLJ
        go_wp2_with fail
        go_quiet (fail)
        go_wp2_with fail
        go_roundg (L.length - (k + 1))
        case measure => omega
        case rel => exact ⟨k + 1, by omega, rfl, by go_num, by rw [unhide HZ], below_drew ((unhide HB).alloc hbs _) _⟩
      · cases d3
        · have HZ : Hid (rbest on g.data.toList f.data.toList L (k + 1) = rbest on g.data.toList f.data.toList L k) := (unhide HSTEP).trans (by simp)
          clear HSTEP HLT HLJ
          go_wp2_with fail
          go_quiet (fail)
          go_wp2_with fail
          go_roundg (L.length - (k + 1))
          case measure => omega
          case rel => exact ⟨k + 1, by omega, rfl, by go_num, by rw [unhide HZ], below_drew ((unhide HB).alloc hbs _) _⟩
        · cases d4
          · have HZ : Hid (rbest on g.data.toList f.data.toList L (k + 1) = rbest on g.data.toList f.data.toList L k) := (unhide HSTEP).trans (by simp)
            clear HSTEP HLT HLJ
            go_wp2_with fail
            go_quiet (fail)
            go_wp2_with fail
            go_roundg (L.length - (k + 1))
            case measure => omega
            case rel => exact ⟨k + 1, by omega, rfl, by go_num, by rw [unhide HZ], below_drew ((unhide HB).alloc hbs _) _⟩
          · cases hbest : rbest on g.data.toList f.data.toList L k with
            | none =>
              rw [hbest] at HSTEP
              have HZ : Hid (rbest on g.data.toList f.data.toList L (k + 1) = some k) := (unhide HSTEP).trans (by simp)
              clear HSTEP HLT HLJ hbest
              simp only [bestI]
              go_wp2_with fail
              go_quiet (fail)
              go_wp2_with fail
              go_roundg (L.length - (k + 1))
              case measure => omega
              case rel => exact ⟨k + 1, by omega, rfl, by go_num, by rw [unhide HZ]; rfl, below_drew ((unhide HB).alloc hbs _) _⟩
            | some j =>
              have hjk := unhide HLT j hbest
              have y4 := unhide HLJ j (by omega)
              have q4 := natLt last (lastAt L j)
              rw [hbest] at HSTEP
              replace HSTEP : Hid (rbest on g.data.toList f.data.toList L (k + 1) = if decide (last < lastAt L j) = true then some k else some j) := unhide HSTEP
              simp only [bestI]
              have hjI : (j : Int) < (L.length : Int) := by omega
              have hjl : j < L.length := by omega
              have hj0 : decide ((j : Int) < 0) = false := by simp
              clear HLT HLJ
              generalize lastAt L j = lj at *
              by_cases hll : last < lj
              · have HZ : Hid (rbest on g.data.toList f.data.toList L (k + 1) = some k) := (unhide HSTEP).trans (by simp [hll])
                have hli : decide ((last : Int) < (lj : Int)) = true := by simp; omega
                clear HSTEP hbest q4 hli
                go_wp2_with fail
                go_quiet (fail)
                go_wp2_with fail
                all_goals first | (exfalso; omega) | skip
                go_roundg (L.length - (k + 1))
                case measure => omega
                case rel => exact ⟨k + 1, by omega, rfl, by go_num, by rw [unhide HZ]; rfl, below_drew ((unhide HB).alloc hbs _) _⟩
              · have HZ : Hid (rbest on g.data.toList f.data.toList L (k + 1) = some j) := (unhide HSTEP).trans (by simp [hll])
                have hli : decide ((last : Int) < (lj : Int)) = false := by simp; omega
                clear HSTEP hbest q4 hli
                go_wp2_with fail
                go_quiet (fail)
                go_wp2_with fail
                all_goals first | (exfalso; omega) | skip
                go_roundg (L.length - (k + 1))
                case measure => omega
                case rel => exact ⟨k + 1, by omega, rfl, by go_num, by rw [unhide HZ]; rfl, below_drew ((unhide HB).alloc hbs _) _⟩
    · have hke : k = L.length := by omega
      subst hke
      go_wp2_with fail
      go_ret
      exact ⟨rfl, unhide HB⟩

end Go.Proofs.YtchhmojnoiephabGreatDoor
