import Derived.Test.YtchhmojnoiephabGreatDoorZmLawG
import Derived.Test.YtchhmojnoiephabGreatDoorZmHubT
import Derived.Test.YtchhmojnoiephabGreatDoorZmAllA
import Derived.Test.YtchhmojnoiephabGreatDoorZmWalkS
import Derived.Test.YtchhmojnoiephabGreatDoorRows
import Derived.Test.YtchhmojnoiephabGreatDoorTie
import Derived.Test.YtchhmojnoiephabGreatDoorCards
import Derived.Test.YtchhmojnoiephabGreatDoorScript
import Derived.Lib.Strings
import Derived.LaidMore
import Derived.Stop.Joined
import Derived.SevenTiedAt
/- Own: things side by side in memory; a list that is held, with its copy. -/
namespace Go.Proofs.YtchhmojnoiephabGreatDoor
open Go.ChangeShapes Go.WideShapes Go.ChangeAt Go.RowKit
set_option linter.unusedVariables false

/-- m things side by side, all younger than B -/
structure Fam (m B : Nat) (w0 wr : World) (Ob : Nat → World → (Nat → Prop) → Prop) (TT : Nat → Nat → Prop) : Prop where
  ob : ∀ j, j < m → Ob j wr (TT j)
  lt : ∀ j, j < m → ∀ k, TT j k → k < wr.heap.size
  dj : ∀ i j, i < m → j < m → i ≠ j → ∀ k, TT i k → ¬ TT j k
  own : ∀ j, j < m → ∀ k, TT j k → B ≤ k
  bel : Below B w0 wr
/-- what is a thing stays one while nothing of it is touched -/
def Stable (Ob : Nat → World → (Nat → Prop) → Prop) : Prop := ∀ j w w' T U U', Ob j w T → Fr U w w' U' → (∀ k, T k → ¬ U k) → Ob j w' T
theorem Fam.frame {m B : Nat} {w0 wr w' : World} {Ob : Nat → World → (Nat → Prop) → Prop} {TT : Nat → Nat → Prop} (h : Fam m B w0 wr Ob TT) (hs : Stable Ob) (hB : B ≤ w0.heap.size) (hf : Fr (fun _ => False) wr w' (fun _ => False)) : Fam m B w0 w' Ob TT :=
  ⟨fun j hj => hs j _ _ _ _ _ (h.ob j hj) hf (fun _ _ h => h), fun j hj k hk => Nat.lt_of_lt_of_le (h.lt j hj k hk) hf.size, h.dj, h.own, hf.below h.bel hB (fun _ h => h.elim)⟩
theorem Fam.on {m B : Nat} {w0 wr w' : World} {Ob : Nat → World → (Nat → Prop) → Prop} {TT : Nat → Nat → Prop} (h : Fam m B w0 wr Ob TT) (hs : Stable Ob) (hB : B ≤ w0.heap.size) (hb : Below wr.heap.size wr w') : Fam m B w0 w' Ob TT := h.frame hs hB (Fr.of_below hb)
theorem Fam.mono {m B : Nat} {w0 wr : World} {Ob Ob' : Nat → World → (Nat → Prop) → Prop} {TT : Nat → Nat → Prop} (h : Fam m B w0 wr Ob TT) (hm : ∀ j w T, Ob j w T → Ob' j w T) : Fam m B w0 wr Ob' TT :=
  ⟨fun j hj => hm j _ _ (h.ob j hj), h.lt, h.dj, h.own, h.bel⟩
/-- thing j has done a step; E: what it took in besides -/
theorem Fam.step {m B : Nat} {w0 wr w' : World} {Ob : Nat → World → (Nat → Prop) → Prop} {TT : Nat → Nat → Prop} (h : Fam m B w0 wr Ob TT) (hs : Stable Ob) (hB : B ≤ w0.heap.size) {j : Nat} (hj : j < m) {E T' : Nat → Prop} (hE : ∀ i, i < m → ∀ k, TT i k → ¬ E k) (hEB : ∀ k, E k → B ≤ k) (ho : Ob j w' T') (hl : ∀ k, T' k → k < w'.heap.size) (hf : Fr (fun k => TT j k ∨ E k) wr w' T') : Fam m B w0 w' Ob (updF TT j T') := by
  have hbs := h.bel.size
  have hap : ∀ i, i < m → i ≠ j → ∀ k, TT i k → ¬ T' k := fun i hi hij k hk ht => by
    rcases hf.new k ht with h1 | h1
    · rcases h1 with h1 | h1
      · exact h.dj i j hi hj hij k hk h1
      · exact hE i hi k hk h1
    · have := h.lt i hi k hk; omega
  refine ⟨fun i hi => ?_, fun i hi k hk => ?_, fun i i' hi hi' hne k hk hk' => ?_, fun i hi k hk => ?_, hf.below h.bel hB (fun k hk => ?_)⟩
  · by_cases e : i = j
    · subst e; rw [updF_same]; exact ho
    · rw [updF_other _ _ e]; exact hs i _ _ _ _ _ (h.ob i hi) hf (fun k hk hu => hu.elim (h.dj i j hi hj e k hk) (hE i hi k hk))
  · by_cases e : i = j
    · subst e; rw [updF_same] at hk; exact hl k hk
    · rw [updF_other _ _ e] at hk; exact Nat.lt_of_lt_of_le (h.lt i hi k hk) hf.size
  · by_cases e : i = j
    · subst e
      rw [updF_same] at hk; rw [updF_other _ _ (fun e => hne e.symm)] at hk'
      exact hap i' hi' (fun e => hne e.symm) k hk' hk
    · rw [updF_other _ _ e] at hk
      by_cases e' : i' = j
      · subst e'; rw [updF_same] at hk'; exact hap i hi e k hk hk'
      · rw [updF_other _ _ e'] at hk'; exact h.dj i i' hi hi' hne k hk hk'
  · by_cases e : i = j
    · subst e; rw [updF_same] at hk
      rcases hf.new k hk with h1 | h1
      · rcases h1 with h1 | h1
        · exact h.own i hi k h1
        · exact hEB k h1
      · omega
    · rw [updF_other _ _ e] at hk; exact h.own i hi k hk
  · rcases hk with hk | hk
    · exact h.own j hj k hk
    · exact hEB k hk
theorem Fam.step0 {m B : Nat} {w0 wr w' : World} {Ob : Nat → World → (Nat → Prop) → Prop} {TT : Nat → Nat → Prop} (h : Fam m B w0 wr Ob TT) (hs : Stable Ob) (hB : B ≤ w0.heap.size) {j : Nat} (hj : j < m) {T' : Nat → Prop} (ho : Ob j w' T') (hl : ∀ k, T' k → k < w'.heap.size) (hf : Fr (TT j) wr w' T') : Fam m B w0 w' Ob (updF TT j T') :=
  h.step hs hB hj (E := fun _ => False) (fun _ _ _ _ h => h) (fun _ h => h.elim) ho hl ⟨hf.os, hf.tape, hf.output, hf.size, fun k hk hn => hf.keep k hk (fun e => hn (Or.inl e)), fun k hk => (hf.new k hk).imp_left Or.inl⟩

/-- a list that is held at X, with its copy; T: their blocks -/
structure HeldS (w : World) (X : Nat) (T : Nat → Prop) (lv wv : Value) (xs : List Int) : Prop where
  blk : w.heap[X]? = some (.cells #[lv, wv] 28 (0, 0))
  l : w.ownsRow 0 3 1 lv xs.length (xs.map (Value.int .i64))
  was : w.ownsRow 0 3 1 wv xs.length (xs.map (Value.int .i64))
  ap : ∀ k, lv.ownBlock = some k → wv.ownBlock ≠ some k
  set : T = fun k => k = X ∨ lv.ownBlock = some k ∨ wv.ownBlock = some k
def HeldP (w : World) (X : Nat) (T : Nat → Prop) : Prop := ∃ lv wv xs, HeldS w X T lv wv xs
theorem HeldP.lt {w : World} {X : Nat} {T : Nat → Prop} (h : HeldP w X T) {k : Nat} (hk : T k) : k < w.heap.size := by
  obtain ⟨lv, wv, xs, hs⟩ := h
  rw [hs.set] at hk
  rcases hk with rfl | hk | hk
  · exact heap_lt hs.blk
  · exact (hs.l.lt k hk).2
  · exact (hs.was.lt k hk).2
theorem HeldP.kept {w w' : World} {X : Nat} {T U U' : Nat → Prop} (h : HeldP w X T) (hf : Fr U w w' U') (hd : ∀ k, T k → ¬ U k) : HeldP w' X T := by
  obtain ⟨lv, wv, xs, hs⟩ := h
  have hT := hs.set
  refine ⟨lv, wv, xs, (hf.keep X (heap_lt hs.blk) (hd X (by rw [hT]; exact Or.inl rfl))).trans hs.blk, own_same hs.l (fun k hk => hf.keep k (hs.l.lt k hk).2 (hd k (by rw [hT]; exact Or.inr (Or.inl hk)))), own_same hs.was (fun k hk => hf.keep k (hs.was.lt k hk).2 (hd k (by rw [hT]; exact Or.inr (Or.inr hk)))), hs.ap, hT⟩
theorem held_new {w : World} {X : Nat} (h : w.heap[X]? = some (.cells #[.slice none 0 0, .slice none 0 0] 28 (0, 0))) : HeldP w X (fun k => k = X) :=
  ⟨_, _, [], h, World.ownsRow_nil _ _ _ _, World.ownsRow_nil _ _ _ _, (fun k hk => by cases hk), by
    funext k
    refine propext ⟨fun e => Or.inl e, fun e => ?_⟩
    rcases e with e | e | e
    · exact e
    · cases e
    · cases e⟩

/-- a number of a row is stored anew -/
theorem ints_set {w : World} {B g n cap k : Nat} {xs : List Int} (h : w.ownsRow B 3 1 (.slice (some ⟨g, 0, none⟩) n cap) n (xs.map (Value.int .i64))) (hk : k < xs.length) (x : Int) :
    (w.setCell ⟨g, k, none⟩ (.int .i64 x)).ownsRow B 3 1 (.slice (some ⟨g, 0, none⟩) n cap) n ((xs.set k x).map (Value.int .i64)) := by
  obtain ⟨h0, ⟨hx, _⟩ | ⟨g', cap', cur, hv, hge, hg, h1, h2, h3, h4⟩⟩ := h
  · cases hx
  · simp only [Value.slice.injEq, Option.some.injEq, Addr.mk.injEq, true_and, and_true] at hv
    obtain ⟨rfl, rfl⟩ := hv
    have hlen : xs.length = n := by simpa using h0
    refine ⟨by simpa using h0, Or.inr ⟨g, cap, cur.setIfInBounds k (.int .i64 x), rfl, hge, blk_set hg _, h1, h2, by simpa using h3, ?_⟩⟩
    rw [Array.toList_setIfInBounds, List.take_set, h4, List.map_set]
theorem ints_at {w : World} {B g n cap k : Nat} {xs : List Int} (h : w.ownsRow B 3 1 (.slice (some ⟨g, 0, none⟩) n cap) n (xs.map (Value.int .i64))) (hk : k < xs.length) : w.cell? ⟨g, k, none⟩ = some (.int .i64 xs[k]) ∧ w.frozen? ⟨g, k, none⟩ = false := by
  refine ⟨?_, ?_⟩
  · have := h.cells (g := g) rfl k (.int .i64 xs[k]) (by simp [List.getElem?_eq_getElem hk])
    rw [add_at] at this; simpa using this
  · obtain ⟨_, ⟨hx, _⟩ | ⟨g', cap', cur, hv, _, hg, _⟩⟩ := h
    · cases hx
    · simp only [Value.slice.injEq, Option.some.injEq, Addr.mk.injEq, true_and, and_true] at hv
      obtain ⟨rfl, rfl⟩ := hv
      exact free_block hg
end Go.Proofs.YtchhmojnoiephabGreatDoor

/- Own: spoiling a list; holding the next one. -/
namespace Go.Proofs.YtchhmojnoiephabGreatDoor
open Go.ChangeShapes Go.WideShapes Go.ChangeAt Go.RowKit
set_option linter.unusedVariables false

theorem Fr.cellW (w : World) (g i : Nat) (v : Value) {S : Nat → Prop} (h : S g) : Fr S w (w.setCell ⟨g, i, none⟩ v) (fun _ => False) :=
  ⟨rfl, rfl, rfl, by simp, fun k _ hn => Below.heap_setCell _ _ _ _ (fun e => hn (by rw [e]; exact h)), fun _ h => h.elim⟩
theorem Fr.two {S : Nat → Prop} {w w1 w2 : World} (h : Fr S w w1 (fun _ => False)) (k : Fr S w1 w2 (fun _ => False)) : Fr S w w2 (fun _ => False) :=
  ⟨k.os.trans h.os, k.tape.trans h.tape, k.output.trans h.output, Nat.le_trans h.size k.size, fun j hj hn => (k.keep j (Nat.lt_of_lt_of_le hj h.size) hn).trans (h.keep j hj hn), fun _ h => h.elim⟩

set_option maxHeartbeats 2000000 in
set_option maxRecDepth 1000000 in
theorem spoil_any (lv : Value) (xs : List Int) (w : World) (h : w.ownsRow 0 3 1 lv xs.length (xs.map (Value.int .i64))) :
    Calls Tryz.prog 31 #[lv] w fun e w' => (∃ v, e = .returned v) ∧ Fr (fun k => lv.ownBlock = some k) w w' (fun _ => False) := by
  obtain ⟨a, l, c, rfl⟩ := own_slice h
  have hl : l = xs.length := own_len h
  subst hl
  have HO := hide h
  clear h
  go_enter Tryz.func31, Tryz.ntmps31
  go_wp2_with fail
  go_loopg [2] xs.length (fun gk i wr => ∃ (k : Nat) (ys : List Int), k ≤ xs.length ∧ ys.length = xs.length ∧ gk = xs.length - k ∧ i = .int .i64 k ∧ Hid (wr.ownsRow 0 3 1 (.slice a xs.length c) xs.length (ys.map (Value.int .i64))) ∧ Hid (Fr (fun k => (Value.slice a xs.length c).ownBlock = some k) w wr (fun _ => False)))
  case atStart => exact ⟨0, xs, by omega, rfl, by omega, rfl, HO, ⟨rfl, rfl, rfl, Nat.le_refl _, fun _ _ _ => rfl, fun _ h => h.elim⟩⟩
  case round =>
    clear HO
    obtain ⟨k, ys, hk, hy, rfl, rfl, HO, HF⟩ := hrel
    by_cases hlt : k < xs.length
    · obtain ⟨g, cap, hv⟩ := own_form (unhide HO) (by omega)
      simp only [Value.slice.injEq] at hv
      obtain ⟨rfl, _, rfl⟩ := hv
      have hcc := own_cap (unhide HO)
      unfold maxLen at hcc
      obtain ⟨hc1, hc2⟩ := hcc
      obtain ⟨x1, x2⟩ := ints_at (unhide HO) (show k < ys.length by omega)
      have HS := hide (fun x => ints_set (unhide HO) (show k < ys.length by omega) x)
      have HF2 := hide (fun x => (unhide HF).two (Fr.cellW wr g k x rfl))
      clear HO HF
      generalize ys[k] = y at *
      go_wp2_with fail
      go_roundg (xs.length - (k + 1))
      case measure => omega
      case rel => exact ⟨k + 1, _, by omega, by rw [List.length_set]; exact hy, rfl, by go_num, unhide HS _, unhide HF2 _⟩
    · go_wp2_with fail
      go_end0
      exact ⟨⟨_, rfl⟩, unhide HF⟩

theorem take_snoc (ys : List Int) (k : Nat) (h : k < ys.length) : (ys.take (k + 1)).map (Value.int .i64) = (ys.take k).map (Value.int .i64) ++ [.int .i64 ys[k]] := by
  rw [List.take_succ_eq_append_getElem h, List.map_append]; rfl
theorem HeldS.kept {w w' : World} {X : Nat} {T U U' : Nat → Prop} {lv wv : Value} {xs : List Int} (hs : HeldS w X T lv wv xs) (hf : Fr U w w' U') (hd : ∀ k, T k → ¬ U k) : HeldS w' X T lv wv xs := by
  have hT := hs.set
  exact ⟨(hf.keep X (heap_lt hs.blk) (hd X (by rw [hT]; exact Or.inl rfl))).trans hs.blk, own_same hs.l (fun k hk => hf.keep k (hs.l.lt k hk).2 (hd k (by rw [hT]; exact Or.inr (Or.inl hk)))), own_same hs.was (fun k hk => hf.keep k (hs.was.lt k hk).2 (hd k (by rw [hT]; exact Or.inr (Or.inr hk)))), hs.ap, hT⟩
theorem row_setX {w : World} {B e sz n X i : Nat} {v u : Value} {xs : List Value} (h : w.ownsRow B e sz v n xs) (hX : v.ownBlock ≠ some X) : (w.setCell ⟨X, i, none⟩ u).ownsRow B e sz v n xs :=
  own_same h (fun k hk => Below.heap_setCell _ _ _ _ (fun e => hX (by have e' : k = X := e; rw [← e']; exact hk)))
/-- the held list changes -/
theorem held_end {w w1 w2 wr : World} {X : Nat} {T : Nat → Prop} {lv wv v ov : Value} {xs ys : List Int} (hs : HeldS w1 X T lv wv xs) (hf1 : Fr (fun _ => False) w w1 (fun _ => False)) (hf2 : Fr (fun k => lv.ownBlock = some k) w1 w2 (fun _ => False)) (hv : w2.ownsRow 0 3 1 v ys.length (ys.map (Value.int .i64))) (hvX : v.ownBlock ≠ some X)
    (hx : w2.heap[X]? = some (.cells #[lv, wv] 28 (0, 0))) (hb : Below w2.heap.size (w2.setCell ⟨X, 0, none⟩ v) wr) (ho : wr.ownsRow w2.heap.size 3 1 ov ys.length (ys.map (Value.int .i64))) :
    (∃ u, wr.cell? ⟨X, 1, none⟩ = some u ∧ wr.frozen? ⟨X, 1, none⟩ = false) ∧ ∃ T', HeldP (wr.setCell ⟨X, 1, none⟩ ov) X T' ∧ Fr (fun k => T k ∨ v.ownBlock = some k) w (wr.setCell ⟨X, 1, none⟩ ov) T' := by
  have hXl := heap_lt hx
  have hT := hs.set
  have h3 : (w2.setCell ⟨X, 0, none⟩ v).heap[X]? = some (.cells #[v, wv] 28 (0, 0)) := by rw [heap_setCell_same w2 X 0 _ _ _ hx]; rfl
  have hr : wr.heap[X]? = some (.cells #[v, wv] 28 (0, 0)) := (hb.block X hXl).trans h3
  have hoX : ov.ownBlock ≠ some X := fun e => by have := (ho.lt X e).1; omega
  have hs2 : w2.heap.size ≤ wr.heap.size := by have := hb.size; simpa using this
  refine ⟨⟨_, cell_block (i := 1) hr rfl, free_block hr⟩, fun k => k = X ∨ v.ownBlock = some k ∨ ov.ownBlock = some k, ⟨v, ov, ys, ?_, ?_, ?_, ?_, rfl⟩, ?_⟩
  · rw [heap_setCell_same wr X 1 _ _ _ hr]; rfl
  · exact row_setX (own_same (row_setX (i := 0) (u := v) hv hvX) (fun k hk => hb.block k (by have := (hv.lt k hk).2; omega))) hvX
  · exact row_setX (own_mono ho (Nat.zero_le _)) hoX
  · intro k hk hk2
    have h1 := (hv.lt k hk).2
    have h2 := (ho.lt k hk2).1
    omega
  · have z1 := hf1.size
    have z2 := hf2.size
    refine ⟨?_, ?_, ?_, ?_, fun k hk hn => ?_, fun k hk => ?_⟩
    · show wr.os = w.os; rw [hb.os]; exact hf2.os.trans hf1.os
    · show wr.tape = w.tape; rw [hb.tape]; exact hf2.tape.trans hf1.tape
    · show wr.output = w.output; rw [hb.output]; exact hf2.output.trans hf1.output
    · simp; omega
    · have hTX : k ≠ X := fun e => hn (Or.inl (by rw [hT]; exact Or.inl e))
      have hTl : ¬ lv.ownBlock = some k := fun e => hn (Or.inl (by rw [hT]; exact Or.inr (Or.inl e)))
      rw [Below.heap_setCell _ _ _ _ hTX, hb.block k (by omega), Below.heap_setCell _ _ _ _ hTX, hf2.keep k (by omega) hTl, hf1.keep k hk (fun h => h)]
    · rcases hk with hk | hk | hk
      · left; left; rw [hT]; exact Or.inl hk
      · exact Or.inl (Or.inr hk)
      · have := (ho.lt k hk).1; right; omega

set_option maxHeartbeats 4000000 in
set_option maxRecDepth 1000000 in
theorem next_any (X : Nat) (T : Nat → Prop) (v : Value) (ys : List Int) (w : World) (h : HeldP w X T) (ho : w.ownsRow 0 3 1 v ys.length (ys.map (Value.int .i64))) (hl : ys.length ≤ 1000) (hd : ∀ k, v.ownBlock = some k → ¬ T k) :
    Calls Tryz.prog 14 #[.pointer (some ⟨X, 0, none⟩), v] w fun e w' => e = .returned (.bool true) ∧ ∃ T', HeldP w' X T' ∧ Fr (fun k => T k ∨ v.ownBlock = some k) w w' T' := by
  obtain ⟨i0, hi, hz0, hz1, hz2⟩ := info_parts info_int
  obtain ⟨lv, wv, xs, hs⟩ := h
  obtain ⟨a, l, c, rfl⟩ := own_slice ho
  have hle : l = ys.length := own_len ho
  subst hle
  obtain ⟨a1, l1, c1, rfl⟩ := own_slice hs.l
  obtain ⟨a2, l2, c2, rfl⟩ := own_slice hs.was
  have hXl := heap_lt hs.blk
  have p0 : w.cell? ⟨X, 0, none⟩ = some (.slice a1 l1 c1) := cell_block (i := 0) hs.blk rfl
  have p1 : w.cell? ⟨X, 1, none⟩ = some (.slice a2 l2 c2) := cell_block (i := 1) hs.blk rfl
  have HSA := hide (same_any (.slice a1 l1 c1) (.slice a2 l2 c2) xs xs w.drew ((IntsAt.of_own hs.l).below ⟨rfl, rfl, rfl, Nat.le_refl _, fun _ _ => rfl⟩) ((IntsAt.of_own hs.was).below ⟨rfl, rfl, rfl, Nat.le_refl _, fun _ _ => rfl⟩))
  have HHS := hide hs
  have HO := hide ho
  have HD := hide hd
  clear hs ho hd
  go_enter Tryz.func14, Tryz.ntmps14
  go_upto_region 1 with fail
  go_cut [5] (fun bv wd => ∃ wz, wz = wd ∧ bv = .bool true ∧ Hid (wd.os = w.os ∧ wd.tape = w.tape ∧ wd.output = w.output ∧ wd.heap = w.heap))
  case first =>
    go_wp2_with fail
    go_region_with (go_at_call 13; refine (unhide HSA).mono ?_; rw [show sameL xs xs = true from by simp [sameL]]; rintro e w1 ⟨rfl, m, rfl⟩)
    all_goals
      go_wp2_with fail
      go_meet
      exact ⟨_, rfl, rfl, ⟨rfl, rfl, rfl, rfl⟩⟩
  case rest =>
    obtain ⟨w1, hw1, rfl, HE⟩ := hcut
    subst hw1
    obtain ⟨q1, q2, q3, q4⟩ := unhide HE
    have hf1 : Fr (fun _ => False) w w1 (fun _ => False) := ⟨q1, q2, q3, by rw [q4]; exact Nat.le_refl _, fun k _ _ => by rw [q4], fun _ h => h.elim⟩
    have hs1 := (unhide HHS).kept hf1 (fun _ _ h => h)
    have ho1 := own_same (unhide HO) (fun k hk => hf1.keep k ((unhide HO).lt k hk).2 (fun h => h))
    have p0 : w1.cell? ⟨X, 0, none⟩ = some (.slice a1 l1 c1) := cell_block (i := 0) hs1.blk rfl
    have hX1 := heap_lt hs1.blk
    have HS1 := hide hs1
    have HO1 := hide ho1
    have HF1 := hide hf1
    have HSP := hide (spoil_any (.slice a1 l1 c1) xs w1 hs1.l)
    clear hs1 ho1 hf1 q1 q2 q3 q4 HE HSA HHS HO p1 hXl
    go_wp2_with fail
    refine (unhide HSP).mono ?_
    rintro e w2 ⟨⟨vv, rfl⟩, hf2⟩
    have hx2 : w2.heap[X]? = some (.cells #[.slice a1 l1 c1, .slice a2 l2 c2] 28 (0, 0)) := (hf2.keep X hX1 (fun e => own_notA (unhide HS1).l (unhide HS1).blk (by decide) e)).trans (unhide HS1).blk
    have hT := (unhide HS1).set
    have hv2 := own_same (unhide HO1) (fun k hk => hf2.keep k ((unhide HO1).lt k hk).2 (fun e => unhide HD k hk (by rw [hT]; exact Or.inr (Or.inl e))))
    have hvX : (Value.slice a ys.length c).ownBlock ≠ some X := fun e => unhide HD X e (by rw [hT]; exact Or.inl rfl)
    have z0 : w2.cell? ⟨X, 0, none⟩ = some (.slice a1 l1 c1) := cell_block (i := 0) hx2 rfl
    have z1 : w2.frozen? ⟨X, 0, none⟩ = false := free_block hx2
    have HEND := hide (fun (wr : World) (ov : Value) (hb : Below w2.heap.size (w2.setCell ⟨X, 0, none⟩ (.slice a ys.length c)) wr) (ho : wr.ownsRow w2.heap.size 3 1 ov ys.length (ys.map (Value.int .i64))) => held_end (unhide HS1) (unhide HF1) hf2 hv2 hvX hx2 hb ho)
    have HV3 := hide (row_setX (i := 0) (u := .slice a ys.length c) hv2 hvX)
    have hvl : ∀ k, (Value.slice a ys.length c).ownBlock = some k → k < w2.heap.size := fun k hk => (hv2.lt k hk).2
    have HVL := hide hvl
    have hX2 := heap_lt hx2
    clear hf2 hx2 hT hv2 hvX HS1 HO1 HF1 HSP HD p0 hvl
    go_wp2_with fail
    go_loopg [6, 7] ys.length (fun gk ov i wr => ∃ k : Nat, k ≤ ys.length ∧ gk = ys.length - k ∧ i = .int .i64 k ∧ Hid (wr.ownsRow w2.heap.size 3 1 ov k ((ys.take k).map (Value.int .i64))) ∧ Hid (Below w2.heap.size (w2.setCell ⟨X, 0, none⟩ (.slice a ys.length c)) wr))
    case atStart => exact ⟨0, by omega, by omega, rfl, World.ownsRow_nil _ _ _ _, ⟨rfl, rfl, rfl, Nat.le_refl _, fun _ _ => rfl⟩⟩
    case round =>
      obtain ⟨k, hk, rfl, rfl, HOV, HB⟩ := hrel
      obtain ⟨av, lv, cv, rfl⟩ := own_slice (unhide HOV)
      have hlv : k = lv := (own_len (unhide HOV)).symm
      subst hlv
      have hsz : w2.heap.size ≤ wr.heap.size := by have := (unhide HB).size; simpa using this
      by_cases hlt : k < ys.length
      · have hvr := own_same (unhide HV3) (fun j hj => (unhide HB).block j (unhide HVL j hj))
        obtain ⟨g, cap, hgv⟩ := own_form hvr (by omega)
        simp only [Value.slice.injEq] at hgv
        obtain ⟨rfl, _, rfl⟩ := hgv
        have hcc := own_cap hvr
        unfold maxLen at hcc
        obtain ⟨hc1, hc2⟩ := hcc
        obtain ⟨y1, y2⟩ := ints_at hvr hlt
        have HTS := hide (take_snoc ys k hlt)
        clear hvr y2
        generalize ys[k] = y at *
        go_wp2_with (at_builtin; refine wpList_append_own _ rfl _ _ 26 rfl w2.heap.size 3 i0 (.int .i64 0) 1 8 Tryz.underlying26 hi hz0 hz1 hz2 rfl (by decide) _ _ _ rfl ((unhide HOV).alloc _) ⟨wr.heap.size, 0, none⟩ 1 1 [.int .i64 y] rfl rfl ?c1 ?c2 ?c3 ?c4 ?c5 ?_)
        first
          | (case c1 =>
              intro j u hj
              match j, hj with
              | 0, hj => simp at hj; subst hj; simp [Addr.add])
          | skip
        case c2 => first | rfl | (intro u hu; simp at hu; subst hu; rfl)
        case c3 => unfold maxLen; omega
        case c4 => omega
        case c5 => first | omega | (simp; omega)
        intro v' w4 hown' hgrow _
        have HB4 := hide (below_push' (unhide HB) hsz (unhide HOV) hgrow)
        have HO4 : Hid (w4.ownsRow w2.heap.size 3 1 v' (k + 1) ((ys.take (k + 1)).map (Value.int .i64))) := by unfold Hid; rw [unhide HTS, List.map_take]; exact hown'
        clear hown' hgrow
        go_wp2_with fail
        go_roundg (ys.length - (k + 1))
        case measure => omega
        case rel => exact ⟨k + 1, by omega, rfl, by go_num, HO4, HB4⟩
      · have hke : k = ys.length := by omega
        have hov := unhide HOV
        rw [hke, List.take_length] at hov
        obtain ⟨⟨u, u1, u2⟩, hend⟩ := unhide HEND wr _ (unhide HB) hov
        have HE2 := hide hend
        clear hend hov HEND HV3 HVL
        subst hke
        go_wp2_with fail
        go_ret
        exact ⟨rfl, unhide HE2⟩
end Go.Proofs.YtchhmojnoiephabGreatDoor

/- Own: the five things of the law. -/
namespace Go.Proofs.YtchhmojnoiephabGreatDoor
open Go.ChangeShapes Go.WideShapes Go.ChangeAt Go.RowKit
set_option linter.unusedVariables false

/-- 0: the tables; 1: the hubs; 2, 3, 4: the lists that are held -/
def ObO (p d h g X2 X3 X4 n : Nat) (j : Nat) (w : World) (T : Nat → Prop) : Prop :=
  if j = 0 then TP hubTabI w p d T else if j = 1 then HP n w h g T else if j = 2 then HeldP w X2 T else if j = 3 then HeldP w X3 T else HeldP w X4 T
theorem ObO.lt {p d h g X2 X3 X4 n j : Nat} {w : World} {T : Nat → Prop} (ho : ObO p d h g X2 X3 X4 n j w T) {k : Nat} (hk : T k) : k < w.heap.size := by
  unfold ObO at ho
  split at ho
  · exact ho.lt hk
  split at ho
  · exact ho.lt hk
  split at ho
  · exact ho.lt hk
  split at ho
  · exact ho.lt hk
  · exact ho.lt hk
theorem stableO (p d h g X2 X3 X4 n : Nat) : Stable (ObO p d h g X2 X3 X4 n) := by
  intro j w w' T U U' ho hf hd
  unfold ObO at ho ⊢
  split at ho
  · rename_i e; rw [if_pos e]; exact ho.kept hf hd
  rename_i e0; rw [if_neg e0]
  split at ho
  · rename_i e; rw [if_pos e]; exact ho.kept hf hd
  rename_i e1; rw [if_neg e1]
  split at ho
  · rename_i e; rw [if_pos e]; exact ho.kept hf hd
  rename_i e2; rw [if_neg e2]
  split at ho
  · rename_i e; rw [if_pos e]; exact ho.kept hf hd
  rename_i e3; rw [if_neg e3]; exact ho.kept hf hd
theorem ObO.mono {p d h g X2 X3 X4 n m : Nat} (hm : n ≤ m) (j : Nat) (w : World) (T : Nat → Prop) (ho : ObO p d h g X2 X3 X4 n j w T) : ObO p d h g X2 X3 X4 m j w T := by
  unfold ObO at ho ⊢
  split at ho
  · rename_i e; rw [if_pos e]; exact ho
  rename_i e0; rw [if_neg e0]
  split at ho
  · rename_i e; rw [if_pos e]; exact ho.mono hm
  rename_i e1; rw [if_neg e1]; exact ho
theorem obO2 {p d h g X2 X3 X4 n : Nat} {w : World} {T : Nat → Prop} : ObO p d h g X2 X3 X4 n 2 w T ↔ HeldP w X2 T := by unfold ObO; rw [if_neg (by decide), if_neg (by decide), if_pos rfl]
theorem obO3 {p d h g X2 X3 X4 n : Nat} {w : World} {T : Nat → Prop} : ObO p d h g X2 X3 X4 n 3 w T ↔ HeldP w X3 T := by unfold ObO; rw [if_neg (by decide), if_neg (by decide), if_neg (by decide), if_pos rfl]
theorem obO4 {p d h g X2 X3 X4 n : Nat} {w : World} {T : Nat → Prop} : ObO p d h g X2 X3 X4 n 4 w T ↔ HeldP w X4 T := by unfold ObO; rw [if_neg (by decide), if_neg (by decide), if_neg (by decide), if_neg (by decide)]
/-- the law's things, and a list that is nobody's -/
structure Lone (B : Nat) (w : World) (TT : Nat → Nat → Prop) (v : Value) (ys : List Int) : Prop where
  row : w.ownsRow 0 3 1 v ys.length (ys.map (Value.int .i64))
  ap : ∀ i, i < 5 → ∀ k, TT i k → ¬ v.ownBlock = some k
  ge : ∀ k, v.ownBlock = some k → B ≤ k
  len : ys.length ≤ 1000
/-- a list was answered and nothing else was touched -/
theorem own_list {B : Nat} {w0 wr w' : World} {p d h g X2 X3 X4 n : Nat} {TT : Nat → Nat → Prop} {v : Value} {ys : List Int} (hF : Fam 5 B w0 wr (ObO p d h g X2 X3 X4 n) TT) (hB : B ≤ w0.heap.size) (hb : Below wr.heap.size wr w') (hr : w'.ownsRow wr.heap.size 3 1 v ys.length (ys.map (Value.int .i64))) (hl : ys.length ≤ 1000) :
    Fam 5 B w0 w' (ObO p d h g X2 X3 X4 n) TT ∧ Lone B w' TT v ys :=
  ⟨hF.on (stableO _ _ _ _ _ _ _ _) hB hb, own_mono hr (Nat.zero_le _), fun i hi k hk e => by have h1 := hF.lt i hi k hk; have h2 := (hr.lt k e).1; omega, fun k hk => by have h2 := (hr.lt k hk).1; have := hF.bel.size; omega, hl⟩
theorem Lone.on {B : Nat} {w w' : World} {TT : Nat → Nat → Prop} {v : Value} {ys : List Int} (h : Lone B w TT v ys) (hf : Fr (fun _ => False) w w' (fun _ => False)) : Lone B w' TT v ys :=
  ⟨own_same h.row (fun k hk => hf.keep k (h.row.lt k hk).2 (fun h => h)), h.ap, h.ge, h.len⟩
/-- the list is held now -/
theorem own_next {B : Nat} {w0 wr w' : World} {p d h g X2 X3 X4 n j : Nat} {TT : Nat → Nat → Prop} {v : Value} {ys : List Int} {T' : Nat → Prop} (hF : Fam 5 B w0 wr (ObO p d h g X2 X3 X4 n) TT) (hB : B ≤ w0.heap.size) (hL : Lone B wr TT v ys) (hj : j < 5) (ho : ObO p d h g X2 X3 X4 n j w' T') (hf : Fr (fun k => TT j k ∨ v.ownBlock = some k) wr w' T') : Fam 5 B w0 w' (ObO p d h g X2 X3 X4 n) (updF TT j T') :=
  hF.step (stableO _ _ _ _ _ _ _ _) hB hj (E := fun k => v.ownBlock = some k) hL.ap hL.ge ho (fun k hk => ho.lt hk) hf
/-- both hubs published -/
theorem own_pub {B : Nat} {w0 wr w2 w3 : World} {p d h g X2 X3 X4 n : Nat} {TT : Nat → Nat → Prop} {v : Value} {ys : List Int} {S D S2 D3 : Nat → Prop} {H H' : HubL} {R R' : RHub} (hF : Fam 5 B w0 wr (ObO p d h g X2 X3 X4 n) TT) (hB : B ≤ w0.heap.size) (hT : TT 1 = fun k => S k ∨ D k) (hb : HBo n wr h S g D H R)
    (hown : w2.ownsRow wr.heap.size 3 1 v ys.length (ys.map (Value.int .i64))) (hvS : ∀ k, v.ownBlock = some k → ¬ S2 k) (ht2 : HubAt w2 h S2 H') (hf2 : Fr S wr w2 S2) (ht3 : RefAt w3 g D3 R') (hf3 : Fr D w2 w3 D3) (hl : HubLink H' R') (hc : R'.count ≤ R.count + 8) (hle : ys.length ≤ 1000) :
    Fam 5 B w0 w3 (ObO p d h g X2 X3 X4 (n + 1)) (updF TT 1 (fun k => S2 k ∨ D3 k)) ∧ Lone B w3 (updF TT 1 (fun k => S2 k ∨ D3 k)) v ys := by
  obtain ⟨hp, hfr⟩ := hbo_step hb ht2 hf2 ht3 hf3 hl hc
  have hF1 := hF.mono (Ob' := ObO p d h g X2 X3 X4 (n + 1)) (ObO.mono (by omega))
  have hF2 := hF1.step0 (stableO _ _ _ _ _ _ _ _) hB (j := 1) (by omega) (T' := fun k => S2 k ∨ D3 k) (by unfold ObO; rw [if_neg (by omega), if_pos rfl]; exact hp) (fun k hk => hp.lt hk) (by rw [hT]; exact hfr)
  have hDv : ∀ k, v.ownBlock = some k → ¬ D k := fun k hk hd => by have h1 := (hown.lt k hk).1; have h2 := hb.ref.lt hd; omega
  refine ⟨hF2, ⟨own_mono (own_same hown (fun k hk => hf3.keep k (hown.lt k hk).2 (hDv k hk))) (Nat.zero_le _), fun i hi k hk e => ?_, fun k hk => ?_, hle⟩⟩
  · by_cases e1 : i = 1
    · subst e1; rw [updF_same] at hk
      rcases hk with hk | hk
      · exact hvS k e hk
      · rcases hf3.new k hk with h1 | h1
        · exact hDv k e h1
        · have := (hown.lt k e).2; omega
    · rw [updF_other _ _ e1] at hk
      have h1 := hF.lt i hi k hk; have h2 := (hown.lt k e).1; omega
  · have h2 := (hown.lt k hk).1; have := hF.bel.size; omega
theorem own_hub {B : Nat} {w0 wr w' : World} {p d h g X2 X3 X4 n : Nat} {TT : Nat → Nat → Prop} {T' : Nat → Prop} (hF : Fam 5 B w0 wr (ObO p d h g X2 X3 X4 n) TT) (hB : B ≤ w0.heap.size) (ho : HP (n + 1) w' h g T') (hf : Fr (TT 1) wr w' T') : Fam 5 B w0 w' (ObO p d h g X2 X3 X4 (n + 1)) (updF TT 1 T') :=
  (hF.mono (ObO.mono (by omega))).step0 (stableO _ _ _ _ _ _ _ _) hB (j := 1) (by omega) (by unfold ObO; rw [if_neg (by omega), if_pos rfl]; exact ho) (fun k hk => ho.lt hk) hf
theorem own_tab {B : Nat} {w0 wr w' : World} {p d h g X2 X3 X4 n : Nat} {TT : Nat → Nat → Prop} {T' : Nat → Prop} (hF : Fam 5 B w0 wr (ObO p d h g X2 X3 X4 n) TT) (hB : B ≤ w0.heap.size) (ho : TP hubTabI w' p d T') (hf : Fr (TT 0) wr w' T') : Fam 5 B w0 w' (ObO p d h g X2 X3 X4 n) (updF TT 0 T') :=
  hF.step0 (stableO _ _ _ _ _ _ _ _) hB (j := 0) (by omega) ho (fun k hk => ho.lt hk) hf
/-- the law begins -/
theorem own_start {B : Nat} {w wa w1 w2 w3 w4 : World} {p g X2 X3 X4 : Nat} {S S3 D : Nat → Prop} (hB : B ≤ w.heap.size) (hba : Below B w wa) (x2 : wa.heap[X2]? = some (.cells #[.slice none 0 0, .slice none 0 0] 28 (0, 0))) (x3 : wa.heap[X3]? = some (.cells #[.slice none 0 0, .slice none 0 0] 28 (0, 0))) (x4 : wa.heap[X4]? = some (.cells #[.slice none 0 0, .slice none 0 0] 28 (0, 0)))
    (l2 : B ≤ X2) (l3 : X2 < X3) (l4 : X3 < X4) (ht1 : hubTabI.tab w1 p S []) (hb1 : Below wa.heap.size wa w1) (hS : ∀ k, S k → wa.heap.size ≤ k) (ht2 : TabAt w2 w1.heap.size (fun k => k = w1.heap.size) []) (hb2 : Below w1.heap.size w1 w2) (hz : w2.heap.size = w1.heap.size + 1)
    (hH : HubAt w3 w2.heap.size S3 hub0) (hS3 : ∀ k, S3 k → k = w2.heap.size) (hb3 : Below w2.heap.size w2 w3) (hR : RefAt w4 g D ref0) (hb4 : Below w3.heap.size w3 w4) (hD : ∀ k, D k → w3.heap.size ≤ k) :
    Fam 5 B w w4 (ObO p w1.heap.size w2.heap.size g X2 X3 X4 0) (fun j => if j = 0 then (fun k => S k ∨ k = w1.heap.size) else if j = 1 then (fun k => S3 k ∨ D k) else if j = 2 then (fun k => k = X2) else if j = 3 then (fun k => k = X3) else (fun k => k = X4)) := by
  have s0 := hba.size
  have s1 := hb1.size
  have s2 := hb2.size
  have s3 := hb3.size
  have s4 := hb4.size
  have a4 := heap_lt x4
  have b34 : Below w2.heap.size w2 w4 := hb3.trans (hb4.mono s3)
  have b24 : Below w1.heap.size w1 w4 := hb2.trans (b34.mono s2)
  have b14 : Below wa.heap.size wa w4 := hb1.trans (b24.mono s1)
  have hSl : ∀ k, S k → k < w1.heap.size := fun k hk => hubTabI.lt ht1 hk
  have hS3l : ∀ k, S3 k → k < w3.heap.size := fun k hk => hH.lt hk
  have hDl : ∀ k, D k → k < w4.heap.size := fun k hk => hR.lt hk
  have e2 : w4.heap[X2]? = _ := (b14.block X2 (by omega)).trans x2
  have e3 : w4.heap[X3]? = _ := (b14.block X3 (by omega)).trans x3
  have e4 : w4.heap[X4]? = _ := (b14.block X4 a4).trans x4
  have hT : TP hubTabI w4 p w1.heap.size (fun k => S k ∨ k = w1.heap.size) :=
    ⟨S, _, [], ⟨hubTabI.kept ht1 (Fr.of_below (S := fun _ => False) b24) (fun _ _ h => h), ht2.below b34, fun k hk e => by have := hSl k hk; omega⟩, rfl⟩
  have hP : HP 0 w4 w2.heap.size g (fun k => S3 k ∨ D k) :=
    ⟨S3, D, hub0, ref0, ⟨hH.below hb4, hR, fun k hk hd => by have := hS3l k hk; have := hD k hd; omega, HubLink.zero, by simp [ref0]⟩, rfl⟩
  have hlt : ∀ j, j < 5 → ObO p w1.heap.size w2.heap.size g X2 X3 X4 0 j w4 ((fun j => if j = 0 then (fun k => S k ∨ k = w1.heap.size) else if j = 1 then (fun k => S3 k ∨ D k) else if j = 2 then (fun k => k = X2) else if j = 3 then (fun k => k = X3) else (fun k => k = X4)) j) := by
    intro j hj
    have : j = 0 ∨ j = 1 ∨ j = 2 ∨ j = 3 ∨ j = 4 := by omega
    rcases this with rfl | rfl | rfl | rfl | rfl
    · exact hT
    · exact hP
    · exact held_new e2
    · exact held_new e3
    · exact held_new e4
  have hr : ∀ j, j < 5 → ∀ k, (fun j => if j = 0 then (fun k => S k ∨ k = w1.heap.size) else if j = 1 then (fun k => S3 k ∨ D k) else if j = 2 then (fun k => k = X2) else if j = 3 then (fun k => k = X3) else (fun k => k = X4)) j k →
      (j = 0 ∧ wa.heap.size ≤ k ∧ k ≤ w1.heap.size) ∨ (j = 1 ∧ w1.heap.size < k) ∨ (j = 2 ∧ k = X2) ∨ (j = 3 ∧ k = X3) ∨ (j = 4 ∧ k = X4) := by
    intro j hj k hk
    have : j = 0 ∨ j = 1 ∨ j = 2 ∨ j = 3 ∨ j = 4 := by omega
    rcases this with rfl | rfl | rfl | rfl | rfl
    · have hk' : S k ∨ k = w1.heap.size := hk
      rcases hk' with hk' | hk'
      · have := hS k hk'; have := hSl k hk'; omega
      · omega
    · have hk' : S3 k ∨ D k := hk
      rcases hk' with hk' | hk'
      · have := hS3 k hk'; omega
      · have := hD k hk'; omega
    · have hk' : k = X2 := hk; omega
    · have hk' : k = X3 := hk; omega
    · have hk' : k = X4 := hk; omega
  refine ⟨hlt, fun j hj k hk => (hlt j hj).lt hk, fun i j hi hj hne k hk hk' => ?_, fun j hj k hk => ?_, hba.trans (b14.mono (by omega))⟩
  · have h1 := hr i hi k hk
    have h2 := hr j hj k hk'
    omega
  · have h1 := hr j hj k hk
    omega
end Go.Proofs.YtchhmojnoiephabGreatDoor

/- Own: P2, walked. -/
namespace Go.Proofs.YtchhmojnoiephabGreatDoor
open Go.ChangeShapes Go.WideShapes Go.ChangeAt Go.RowKit
set_option linter.unusedVariables false

theorem pow_ofO {W : World} (hL : laidMetH Tryz.prog Rows.ownRow.laid W) : powOK W := by
  rw [MakeChecks.laidMetH_plain _ _ _ (by kernel_rfl)] at hL
  have h := hL.tail.tail
  have h2 : laidMet Tryz.prog [("internal/strconv.uint64pow10", Lib.tabData .u64 Lib.pow10Tab)] W := by rw [← pow_dataA]; exact h
  exact Lib.tabIs_of_head (g := 0) (t := 204) (e := 197) (n := 20) (by kernel_rfl) (by kernel_rfl) (by kernel_rfl) (by kernel_rfl) (by kernel_rfl) (by kernel_rfl) h2
theorem rspread_len (R : RHub) (m : MsgL) (hl : R.subs.length ≤ 8) : (rspread R m).1.length ≤ 54 :=
  rspTo_len m _ _ rfl (fun c => by have := servF_num R m.1 R.subs.length c; omega) 6
theorem rpub_len (R : RHub) (t p : List UInt8) (hl : R.subs.length ≤ 8) : (rpub R t p false).1.1.length ≤ 54 := by
  unfold rpub
  split
  · simp
  split
  · simp
  rw [if_neg (by simp)]
  exact rspread_len R (t, p) hl
theorem routeR_len (L : List PairL) (t : List UInt8) : (routeR L t).1.length ≤ 16 := by
  unfold routeR
  split
  · simp
  · rw [routeL_to]; exact routeTo_len L t 16
theorem code_ne (L : List PairL) (h : goodL L) : codeB L ≠ [] := by
  intro e
  have := (codeB_ok L h).2.2
  rw [e] at this
  revert this
  decide
theorem three_held (w : World) (cs : Array Value) (ty : TypeId) : Below w.heap.size w (((w.alloc (.cells cs ty)).alloc (.cells cs ty)).alloc (.cells cs ty)) ∧ (((w.alloc (.cells cs ty)).alloc (.cells cs ty)).alloc (.cells cs ty)).heap.size = w.heap.size + 3 ∧ (((w.alloc (.cells cs ty)).alloc (.cells cs ty)).alloc (.cells cs ty)).heap[w.heap.size]? = some (.cells cs ty (0, 0)) ∧ (((w.alloc (.cells cs ty)).alloc (.cells cs ty)).alloc (.cells cs ty)).heap[w.heap.size + 1]? = some (.cells cs ty (0, 0)) ∧ (((w.alloc (.cells cs ty)).alloc (.cells cs ty)).alloc (.cells cs ty)).heap[w.heap.size + 2]? = some (.cells cs ty (0, 0)) := by
  have s1 : (w.alloc (.cells cs ty)).heap.size = w.heap.size + 1 := by simp
  have a1 := (MapKept.heap_alloc w (.cells cs ty)).1
  have b1 : Below w.heap.size w (w.alloc (.cells cs ty)) := (Below.refl _ w).alloc (Nat.le_refl _) _
  generalize w.alloc (.cells cs ty) = w1 at *
  have s2 : (w1.alloc (.cells cs ty)).heap.size = w.heap.size + 2 := by simp [s1]
  have a2 := (MapKept.heap_alloc w1 (.cells cs ty)).1
  have b2 : Below w1.heap.size w1 (w1.alloc (.cells cs ty)) := (Below.refl _ w1).alloc (Nat.le_refl _) _
  generalize w1.alloc (.cells cs ty) = w2 at *
  have s3 : (w2.alloc (.cells cs ty)).heap.size = w.heap.size + 3 := by simp [s2]
  have a3 := (MapKept.heap_alloc w2 (.cells cs ty)).1
  have b3 : Below w2.heap.size w2 (w2.alloc (.cells cs ty)) := (Below.refl _ w2).alloc (Nat.le_refl _) _
  generalize w2.alloc (.cells cs ty) = w3 at *
  rw [s1] at a2 b2
  rw [s2] at a3 b3
  refine ⟨b1.trans ((b2.mono (by omega)).trans (b3.mono (by omega))), s3, ?_, ?_, a3⟩
  · rw [b3.block _ (by omega), b2.block _ (by omega)]; exact a1
  · rw [b3.block _ (by omega)]; exact a2
def opT (k : Int) (t : ByteArray) : OpV := ⟨k, 0, 0, t, ⟨#[]⟩⟩
theorem opT_fits (k : Int) (hk : (Lit.int .i64 k).wf = true) (t : ByteArray) (ht : t.size ≤ maxLen) : (opT k t).fits := ⟨hk, by show (Lit.int .i64 0).wf = true; decide, by show (Lit.int .i64 0).wf = true; decide, ht, by show (⟨#[]⟩ : ByteArray).size ≤ maxLen; decide⟩
def OSt (B : Nat) (w0 wr : World) (p d h g X2 X3 X4 n : Nat) : Prop := ∃ TT, Fam 5 B w0 wr (ObO p d h g X2 X3 X4 n) TT

set_option maxHeartbeats 8000000 in
set_option maxRecDepth 1000000 in
theorem own_of (w : World) (hpw : powOK w) (v : Value) (ops : List OpV) (h : OpsAt w v ops) (hl : ops.length * 56 ≤ 140737488351232) (t : ByteArray) (ht : t.size ≤ maxLen) :
    Calls Tryz.prog 4 #[v, .string t] w fun e w' => e = .returned (.bool true) ∧ Below w.heap.size w w' := by
  have HPW : Hid (∀ x, Below w.heap.size w x → powOK x) := fun x hb => pow_keep hpw (fun g hg => hb.block g (pow_lt hpw hg))
  obtain ⟨ao, cap, rfl, hcap, hcap2, hfit, hcells⟩ := h
  unfold maxLen at hcap2
  have HFIT := hide hfit
  have HC := hide hcells
  have HTM := hide ht
  clear hfit hcells hpw ht
  go_enter Tryz.func4, Tryz.ntmps4
  go_wp2_with fail
  obtain ⟨wa, hwa⟩ : ∃ wa, wa = ((w.alloc (.cells #[.slice none 0 0, .slice none 0 0] 28)).alloc (.cells #[.slice none 0 0, .slice none 0 0] 28)).alloc (.cells #[.slice none 0 0, .slice none 0 0] 28) := ⟨_, rfl⟩
  rw [← hwa]
  obtain ⟨hba, hsa, x2, x3, x4⟩ := three_held w #[.slice none 0 0, .slice none 0 0] 28
  rw [← hwa] at hba hsa x2 x3 x4
  have HBA := hide hba
  have HX2 := hide x2
  have HX3 := hide x3
  have HX4 := hide x4
  clear hwa hba x2 x3 x4
  refine (hubTabI.new _).mono ?_
  rintro e w1 ⟨p, S, rfl, ht1, hb1, hS1⟩
  have HA := hide (And.intro ht1 (And.intro hb1 hS1))
  clear ht1 hb1 hS1
  go_wp2_with fail
  refine (refNew_any _).mono ?_
  rintro e w2 ⟨rfl, ht2, hb2, hz⟩
  have HB := hide (And.intro ht2 (And.intro hb2 hz))
  clear ht2 hb2 hz
  go_wp2_with fail
  refine (newHub_any _).mono ?_
  rintro e w3 ⟨rfl, ⟨S3, hH, hS3⟩, hb3⟩
  have HCC := hide (And.intro hH (And.intro hS3 hb3))
  clear hH hS3 hb3
  go_wp2_with fail
  refine (rnewHub_any _).mono ?_
  rintro e w4 ⟨g, D, rfl, hR, hb4, hD⟩
  have HOS : Hid (OSt w.heap.size w w4 p w1.heap.size w2.heap.size g w.heap.size (w.heap.size + 1) (w.heap.size + 2) 0) :=
    ⟨_, own_start (Nat.le_refl _) (unhide HBA) (unhide HX2) (unhide HX3) (unhide HX4) (Nat.le_refl _) (by omega) (by omega) (unhide HA).1 (unhide HA).2.1 (unhide HA).2.2 (unhide HB).1 (unhide HB).2.1 (unhide HB).2.2 (unhide HCC).1 (unhide HCC).2.1 (unhide HCC).2.2 hR hb4 hD⟩
  clear hR hb4 hD HA HB HCC HBA HX2 HX3 HX4 hsa
  rw [show w.heap.size + 1 + 1 = w.heap.size + 2 from rfl]
  generalize w1.heap.size = d at *
  generalize w2.heap.size = h at *
  generalize hX3 : w.heap.size + 1 = X3 at *
  generalize hX4 : w.heap.size + 2 = X4 at *
  clear hX3 hX4
  obtain ⟨X2, hX2⟩ : ∃ X2, X2 = w.heap.size := ⟨_, rfl⟩
  obtain ⟨B, hB⟩ : ∃ B, B = w.heap.size := ⟨_, rfl⟩
  have HOS2 : Hid (OSt B w w4 p d h g X2 X3 X4 0) := by rw [hB, hX2]; exact unhide HOS
  rw [← hB] at HPW
  rw [← hX2]
  have hBle : B ≤ w.heap.size := by omega
  have HBEL : Hid (∀ x, Below B w x → Below w.heap.size w x) := fun x hx => by rw [← hB]; exact hx
  clear HOS hX2 hB
  go_wp2_with fail
  go_loopg [12, 13, 14, 15, 16, 17, 18, 19, 20, 21, 22, 23, 24, 25, 26, 27, 28, 29, 30, 31] ops.length (fun gk ii _ _ _ _ _ _ _ _ _ _ _ _ _ _ _ _ _ _ _ wr => ∃ n : Nat, n ≤ ops.length ∧ gk = ops.length - n ∧ ii = .int .i64 n ∧ Hid (OSt B w wr p d h g X2 X3 X4 n))
  case atStart => exact ⟨0, by omega, by omega, rfl, HOS2⟩
  case round =>
    clear HOS2
    obtain ⟨n, hn, rfl, rfl, HST⟩ := hrel
    obtain ⟨TT, hF⟩ := unhide HST
    clear HST
    by_cases hlt : n < ops.length
    · obtain ⟨b, off, rfl, hbw, hcs⟩ := unhide HC (by intro h0; subst h0; simp at hlt)
      obtain ⟨e0, e1, e2, e3, e4⟩ := hcs n hlt
      have hob := unhide HFIT ops[n] (List.getElem_mem hlt)
      clear hcs
      generalize ops[n] = o at *
      have hbel := unhide HBEL _ hF.bel
      have x0 := (hbel.cell (p := ⟨b, off + n * 5, none⟩) hbw).trans e0
      have x1 := (hbel.cell (p := ⟨b, off + n * 5 + 1, none⟩) hbw).trans e1
      have x2 := (hbel.cell (p := ⟨b, off + n * 5 + 2, none⟩) hbw).trans e2
      have x3 := (hbel.cell (p := ⟨b, off + n * 5 + 3, none⟩) hbw).trans e3
      have x4 := (hbel.cell (p := ⟨b, off + n * 5 + 4, none⟩) hbw).trans e4
      clear e0 e1 e2 e3 e4 hbel
      have hn60 : (n : Int) < 1152921504606846976 := by omega
      have HLT := hide (hF.lt 1 (by omega))
      have HFa := hide (hF.on (stableO _ _ _ _ _ _ _ _) hBle ((Below.refl _ wr).alloc (Nat.le_refl _) (.cells #[.int .i64 o.kind, .int .i64 o.a, .int .i64 o.b, .string o.s, .string o.t] 38)))
      have HOB := hide hob
      clear hF hob
      go_upto_if 59 with fail
      go_cut [20] (fun _ wd => ∃ wz, wz = wd ∧ Hid (OSt B w wd p d h g X2 X3 X4 (n + 1)))
      case first =>
        by_cases h17 : o.kind = 17
        · have b17 : (o.kind == 17) = true := by simp [h17]
          refine wp_cond_true (show Value.bool (o.kind == 17) = .bool true by rw [b17]) ?_
          obtain ⟨S, D, H, R, hbo, hT⟩ : HP n (wr.alloc (.cells #[.int .i64 o.kind, .int .i64 o.a, .int .i64 o.b, .string o.s, .string o.t] 38)) h g (TT 1) := (unhide HFa).ob 1 (by omega)
          have hct : R.count ≤ 4611686018427387904 := by have := hbo.count; omega
          have hos : o.s.size ≤ maxLen := (unhide HOB).2.2.2.1
          have hot : o.t.size ≤ maxLen := (unhide HOB).2.2.2.2
          have hlk := link_pub hbo.link hbo.ref.good.subs.1 hbo.hub.good.kept.1 o.s.data.toList o.t.data.toList false
          have HLK := hide hlk
          have HLEN := hide (rpub_len R o.s.data.toList o.t.data.toList hbo.ref.good.subs.1)
          have hSx : ¬ S wr.heap.size := fun hk => by have := unhide HLT wr.heap.size (by rw [hT]; exact Or.inl hk); omega
          have HPU := hide (publish_any h S H o.s o.t false hos hot _ hbo.hub)
          have HRP := hide (fun x hx => rpublish_any g D R o.s o.t false hos hot hct x hx)
          have HBO := hide hbo
          have HT := hide hT
          clear hbo hT hct hlk h17 hos hot
          go_wp2_with fail
          refine (unhide HPU).mono ?_
          rintro e w2 ⟨v, S2, rfl, hown, hvS, ht2, hf2⟩
          have c3 := hf2.cell (b := wr.heap.size) (off := 3) (v := .string o.s) (by simp) hSx
          have c4 := hf2.cell (b := wr.heap.size) (off := 4) (v := .string o.t) (by simp) hSx
          have HR2 := hide ((unhide HBO).ref.kept hf2 (fun k hd hs => (unhide HBO).apart k hs hd))
          have HOW := hide (And.intro hown (And.intro hvS (And.intro ht2 hf2)))
          clear hown hvS ht2 hf2 HPU
          go_wp2_with fail
          refine (unhide HRP _ (unhide HR2)).mono ?_
          rintro e w3 ⟨v3, D3, rfl, hown3, hvS3, ht3, hf3⟩
          obtain ⟨l1, l2, l3⟩ := unhide HLK
          have hpub := own_pub (unhide HFa) hBle (unhide HT) (unhide HBO) (unhide HOW).1 (unhide HOW).2.1 (unhide HOW).2.2.1 (unhide HOW).2.2.2 ht3 hf3 l2 l3 (by rw [l1]; have := unhide HLEN; omega)
          rw [l1] at hpub
          obtain ⟨hF3, hL3⟩ := hpub
          have HI := hide (IntsAt.of_own hL3.row)
          have HI3 := hide (IntsAt.of_own hown3)
          have HF3 := hide hF3
          have HL3 := hide hL3
          rw [l1]
          clear hF3 hL3 hown3 hvS3 ht3 hf3 l1 l2 l3 HLK HLEN HOW HBO HT HR2 HRP HFa HLT c3 c4 hSx
          generalize (rpub R o.s.data.toList o.t.data.toList false).1 = r at *
          go_wp2_with fail
          refine (same_any v v3 r.1 r.1 _ (unhide HI) (unhide HI3)).mono ?_
          rw [show sameL r.1 r.1 = true from by simp [sameL]]
          rintro e w4 ⟨rfl, m, rfl⟩
          have HF4 := hide ((unhide HF3).frame (stableO _ _ _ _ _ _ _ _) hBle (Fr.drewN (Fr.of_below (Below.refl _ _)) m))
          have HL4 := hide ((unhide HL3).on (Fr.drewN (Fr.of_below (Below.refl _ _)) m))
          clear HF3 HL3 HI HI3
          go_wp2_with fail
          refine (next_any X2 _ v r.1 _ (obO2.1 ((unhide HF4).ob 2 (by omega))) (unhide HL4).row (unhide HL4).len (fun k hk hx => (unhide HL4).ap 2 (by omega) k hx hk)).mono ?_
          rintro e w5 ⟨rfl, T5, hh5, hf5⟩
          have HF5 : Hid (OSt B w w5 p d h g X2 X3 X4 (n + 1)) := ⟨_, own_next (unhide HF4) hBle (unhide HL4) (j := 2) (by omega) (obO2.2 hh5) hf5⟩
          clear HF4 HL4 hh5 hf5
          go_wp2_with fail
          go_meet
          exact ⟨_, rfl, HF5⟩
        have b17 : (o.kind == 17) = false := by simp [h17]
        refine wp_cond_false (show Value.bool (o.kind == 17) = .bool false by rw [b17]) ?_
        by_cases h11 : 11 < o.kind
        · have HBR := hide (broker_any n h g (TT 1) o _ ((unhide HFa).ob 1 (by omega)) (unhide HOB) (by omega))
          clear h17
          go_wp2_with fail
          refine (unhide HBR).mono ?_
          rintro e w2 ⟨rfl, T', h2, hf2⟩
          have HF5 : Hid (OSt B w w2 p d h g X2 X3 X4 (n + 1)) := ⟨_, own_hub (unhide HFa) hBle h2 hf2⟩
          clear h2 hf2 HFa HBR
          go_wp2_with fail
          go_meet
          exact ⟨_, rfl, HF5⟩
        by_cases h5 : o.kind = 5
        · have b5 : (o.kind == 5) = true := by simp [h5]
          have HTB := hide (tableA_any p d (TT 0) o _ ((unhide HFa).ob 0 (by omega)) (unhide HOB) (unhide HPW _ (unhide HFa).bel))
          clear h5 h17
          go_wp2_with fail
          refine (unhide HTB).mono ?_
          rintro e w2 ⟨rfl, T', h2, hf2⟩
          have HF5 : Hid (OSt B w w2 p d h g X2 X3 X4 (n + 1)) := ⟨_, (own_tab (unhide HFa) hBle h2 hf2).mono (ObO.mono (by omega))⟩
          clear h2 hf2 HFa HTB
          go_wp2_with fail
          go_meet
          exact ⟨_, rfl, HF5⟩
        have b5 : (o.kind == 5) = false := by simp [h5]
        by_cases h6 : o.kind = 6
        · have b6 : (o.kind == 6) = true := by simp [h6]
          have HTB := hide (tableA_any p d (TT 0) o _ ((unhide HFa).ob 0 (by omega)) (unhide HOB) (unhide HPW _ (unhide HFa).bel))
          clear h5 h6 h17
          go_wp2_with fail
          refine (unhide HTB).mono ?_
          rintro e w2 ⟨rfl, T', h2, hf2⟩
          have HF5 : Hid (OSt B w w2 p d h g X2 X3 X4 (n + 1)) := ⟨_, (own_tab (unhide HFa) hBle h2 hf2).mono (ObO.mono (by omega))⟩
          clear h2 hf2 HFa HTB
          go_wp2_with fail
          go_meet
          exact ⟨_, rfl, HF5⟩
        have b6 : (o.kind == 6) = false := by simp [h6]
        have HF5 : Hid (OSt B w (wr.alloc (.cells #[.int .i64 o.kind, .int .i64 o.a, .int .i64 o.b, .string o.s, .string o.t] 38)) p d h g X2 X3 X4 (n + 1)) := ⟨_, (unhide HFa).mono (ObO.mono (by omega))⟩
        clear h5 h6 h17 HFa
        go_wp2_with fail
        go_meet
        exact ⟨_, rfl, HF5⟩
      case rest =>
        obtain ⟨w5, hw5, HOS⟩ := hcut
        subst hw5
        clear HFa HLT HOB x0 x1 x2 x3 x4
        obtain ⟨TT5, hF5⟩ := unhide HOS
        obtain ⟨S, D, L, hbo, hT⟩ : TP hubTabI w5 p d (TT5 0) := hF5.ob 0 (by omega)
        have HRO := hide (hubRoute_any p S L t w5 hbo.hub (unhide HTM))
        have HRL := hide (routeR_len L t.data.toList)
        have HF5 := hide hF5
        clear HOS hbo hT hF5
        go_wp2_with fail
        refine (unhide HRO).mono ?_
        rintro e w6 ⟨v6, rfl, hown6, hb6⟩
        obtain ⟨hF6, hL6⟩ := own_list (unhide HF5) hBle hb6 hown6 (by have := unhide HRL; omega)
        have HF6 := hide hF6
        have HL6 := hide hL6
        clear hF6 hL6 hown6 hb6 HRO HRL HF5
        generalize routeR L t.data.toList = r6 at *
        go_wp2_with fail
        refine (next_any X3 _ v6 r6.1 _ (obO3.1 ((unhide HF6).ob 3 (by omega))) (unhide HL6).row (unhide HL6).len (fun k hk hx => (unhide HL6).ap 3 (by omega) k hx hk)).mono ?_
        rintro e w7 ⟨rfl, T7, hh7, hf7⟩
        have hF7 := own_next (unhide HF6) hBle (unhide HL6) (j := 3) (by omega) (obO3.2 hh7) hf7
        obtain ⟨S7, D7, L7, hbo7, hT7⟩ : TP hubTabI w7 p d _ := hF7.ob 0 (by omega)
        have hg7 : goodL L7 := HTab.good (show HTab w7 p S7 L7 from hbo7.hub)
        have HCO := hide (code_any p S7 L7 w7 hbo7.hub (unhide HPW w7 hF7.bel))
        have hcd : (⟨(codeB L7).toArray⟩ : ByteArray).data.toList = codeB L7 := by simp
        have hcz : (⟨(codeB L7).toArray⟩ : ByteArray).size ≤ 40000 := sz_arr _ _ (codeB_ok L7 hg7).2.1
        have HWK := hide (fun x => hubWalk_any (⟨(codeB L7).toArray⟩ : ByteArray) t x (by unfold maxLen; omega) (unhide HTM))
        rw [hcd, code_route L7 hg7 t.data.toList] at HWK
        have hne : ((⟨(codeB L7).toArray⟩ : ByteArray).toList == []) = false := by rw [strNil]; exact decide_eq_false (code_ne L7 hg7)
        have HRL := hide (routeR_len L7 t.data.toList)
        unfold strV at HCO
        have HF7 := hide hF7
        clear hbo7 hT7 hF7 hh7 hf7 HF6 HL6 hcd hcz hg7
        generalize (⟨(codeB L7).toArray⟩ : ByteArray) = c at *
        generalize routeR L7 t.data.toList = r7 at *
        go_wp2_with fail
        refine (unhide HCO).mono ?_
        rintro e w8 ⟨rfl, hb8⟩
        have HF8 := hide ((unhide HF7).on (stableO _ _ _ _ _ _ _ _) hBle hb8)
        clear hb8 HCO HF7
        go_wp2_with fail
        refine (unhide HWK _).mono ?_
        rintro e w9 ⟨v9, rfl, hown9, hb9⟩
        obtain ⟨hF9, hL9⟩ := own_list (unhide HF8) hBle hb9 hown9 (by have := unhide HRL; omega)
        have HF9 := hide hF9
        have HL9 := hide hL9
        clear hF9 hL9 hown9 hb9 HWK HRL HF8
        go_wp2_with fail
        refine (next_any X4 _ v9 r7.1 _ (obO4.1 ((unhide HF9).ob 4 (by omega))) (unhide HL9).row (unhide HL9).len (fun k hk hx => (unhide HL9).ap 4 (by omega) k hx hk)).mono ?_
        rintro e wA ⟨rfl, TA, hhA, hfA⟩
        have hFA := own_next (unhide HF9) hBle (unhide HL9) (j := 4) (by omega) (obO4.2 hhA) hfA
        have HTB := hide (tableA_any p d _ (opT 7 t) wA (hFA.ob 0 (by omega)) (opT_fits 7 (by decide) t (unhide HTM)) (unhide HPW wA hFA.bel))
        have HFA := hide hFA
        clear hhA hfA hFA HF9 HL9
        unfold opT at HTB
        simp only at HTB
        go_wp2_with fail
        refine (unhide HTB).mono ?_
        rintro e wB ⟨rfl, TB, hB', hfB⟩
        have HST : Hid (OSt B w wB p d h g X2 X3 X4 (n + 1)) := ⟨_, own_tab (unhide HFA) hBle hB' hfB⟩
        clear hB' hfB HFA HTB
        go_wp2_with fail
        go_roundg (ops.length - (n + 1))
        case measure => omega
        case rel => exact ⟨n + 1, by omega, rfl, by go_num, HST⟩
    · have hne0 : n = ops.length := by omega
      obtain ⟨S7, D7, L7, hbo7, hT7⟩ : TP hubTabI wr p d _ := hF.ob 0 (by omega)
      have hg7 : goodL L7 := HTab.good (show HTab wr p S7 L7 from hbo7.hub)
      have HCO := hide (code_any p S7 L7 wr hbo7.hub (unhide HPW wr hF.bel))
      have hne : ((⟨(codeB L7).toArray⟩ : ByteArray).toList == []) = false := by rw [strNil]; exact decide_eq_false (code_ne L7 hg7)
      unfold strV at HCO
      have HF := hide hF
      clear hbo7 hT7 hg7 hF
      generalize (⟨(codeB L7).toArray⟩ : ByteArray) = c at *
      go_wp2_with fail
      refine (unhide HCO).mono ?_
      rintro e w8 ⟨rfl, hb8⟩
      have hF8 := (unhide HF).on (stableO _ _ _ _ _ _ _ _) hBle hb8
      have HBR := hide (broker_any n h g (TT 1) (opT 17 t) w8 (hF8.ob 1 (by omega)) (opT_fits 17 (by decide) t (unhide HTM)) (by omega))
      unfold opT at HBR
      simp only at HBR
      have HF8 := hide hF8
      clear hb8 hF8 HF HCO
      go_wp2_with fail
      refine (unhide HBR).mono ?_
      rintro e w9 ⟨rfl, T9, h9, hf9⟩
      have HEND := hide (unhide HBEL _ (own_hub (unhide HF8) hBle h9 hf9).bel)
      clear h9 hf9 HF8 HBR
      go_wp2_with fail
      go_ret
      exact ⟨rfl, unhide HEND⟩

theorem own_walk (w : World) (hL : laidMetH Tryz.prog Rows.ownRow.laid w) (v0 : Value) (ops0 : List OpV) (h0 : OpsAt w v0 ops0) (l0 : ops0.length * 56 ≤ 140737488351232) (a1 : ByteArray) (w1 : a1.size ≤ 140737488351232) :
    Calls Tryz.prog 4 #[v0, .string a1] w fun e w' => e = .returned (.bool true) ∧ Below w.heap.size w w' := own_of w (pow_ofO hL) v0 ops0 h0 l0 a1 (by unfold maxLen; omega)
end Go.Proofs.YtchhmojnoiephabGreatDoor

/- The frame of the tied card of Own. -/
namespace Go.Proofs.YtchhmojnoiephabGreatDoor.own
open Go.ChangeShapes Go.WideShapes Go.ChangeAt Go.RowKit Go.Deep
open Go.ChangeMaps (open_string shut_string)
set_option linter.unusedVariables false

theorem own : ownKnob Tryz.prog.godebug = none := by kernel_rfl
theorem laidOut : laidOutB Tryz.prog = true := by kernel_rfl
theorem bytes_op : Tryz.prog.bytesOf 38 = 56 := by kernel_rfl

theorem door_met (os : Os) (args : Array Value) : laidMetH Tryz.prog Rows.ownRow.laid ((World.doorLaid Tryz.prog 2000 os).forCall (fun _ _ => 0) ⟨#[], args, []⟩).memory :=
  laidMetH_of_parts3 (fuel := 8) (laidMet_of_run' 8 (by kernel_rfl) (by kernel_rfl)) (by kernel_rfl) (by kernel_rfl)

set_option maxRecDepth 100000 in
theorem lifted (os : Os) (started : os.Started) (H : Type) (enc : TypeId × Value → H) :
    ReturnsInHanded {} Tryz.checked os 4 .any (fun w args => (Rows.ownSpec.pre enc Tryz.prog Tryz.f4 [] false w args ∧ laidMetH Tryz.prog Rows.ownRow.laid w) ∧ sizedMet enc Tryz.prog Tryz.f4 (OpenSpec.ofChange Rows.ownSpec) false w args)
      (Rows.ownSpec.post enc Tryz.prog Tryz.f4 false true false false) := by
  refine returnsInHanded_of_change_and (C := Tryz.checked) (X := fun w _ => laidMetH Tryz.prog Rows.ownRow.laid w) (fun _ _ _ hh h => h.of_heap hh) own started (by kernel_rfl) Tryz.func4
    (ChangeSpec.witness_shaped (enc := enc) (C := Tryz.checked) (os := os) (X := fun w _ => laidMetH Tryz.prog Rows.ownRow.laid w) false (World.doorLaid Tryz.prog 2000 os) #[.slice none 0 0, .string ByteArray.empty] 8 rfl (World.shaped_of_RefB (by kernel_rfl) (by kernel_rfl)) (by kernel_rfl) (by kernel_rfl) (by kernel_rfl) (door_met os _)) ?_
  intro W base args ds gs before hval0 hW hcnd hsz0 hL _
  have hval : ∀ (j : Nat) t v, Tryz.f4.params[j]? = some t → args[j]? = some v → Value.okWide Tryz.prog W .any base t v := hval0
  have hW' := hW
  obtain ⟨p, q, hA0, hV, rfl, hfz, hnd⟩ := hW
  have hA : DataW.TrodAll enc Tryz.prog W 0 (fun _ => true) true Tryz.f4.params.toList args.toList ds p := hA0
  have hsz : (DataW.weightsEach Tryz.prog (Tryz.f4.params.toList ++ Rows.ownSpec.plain.varTypes Tryz.prog) (ds ++ gs)).all (· ≤ reachBytes) = true := hsz0
  rw [Tryz.params4] at hA hval hsz
  obtain ⟨v0, vs0, d0, ds0, p0, q0, hargs, rfl, rfl, h0, r0⟩ := trodAll_cons hA
  obtain ⟨v1, vs1, d1, ds1, p1, q1, rfl, rfl, rfl, h1, r1⟩ := trodAll_cons r0
  obtain ⟨rfl, rfl, rfl⟩ := trodAll_nil r1
  obtain rfl : args = #[v0, v1] := by cases args; simp_all
  obtain ⟨rfl, rfl⟩ := trodVars_none hV
  obtain ⟨a0, len0, cap0, rfl⟩ := okWide_slice Tryz.underlying22 (hval 0 22 v0 rfl rfl)
  have k0 := h0
  have lt0 : ∀ x ∈ p0, x.block < W.heap.size := by obtain ⟨m, hm⟩ := k0; exact DataW.trod_lt m _ _ _ hm
  obtain ⟨ops0, hops0, l0⟩ : ∃ ops : List OpV, OpsAt W (.slice a0 len0 cap0) ops ∧ ops.length * 56 ≤ 140737488351232 := by
    obtain ⟨fuel, hf⟩ := h0
    obtain ⟨ops, hlen, ho, hd⟩ := open_script (by simpa [Value.cells] using hf)
    refine ⟨ops, ho, ?_⟩
    by_cases hz : ops = []
    · subst hz; simp
    · obtain ⟨D, E, hx, hDl⟩ := hd hz
      simp only at hx
      subst hx
      have hw := sized_slice hsz (j := 0) (t := 22) (e := 38) rfl rfl Tryz.underlying22
      rw [bytes_op, hDl] at hw
      simp only [reachBytes] at hw
      rw [hlen]
      omega
  obtain ⟨a1, rfl, rfl, rfl, w1⟩ := open_string Tryz.underlying9 (hval 1 9 v1 rfl rfl) h1
  have s1 : a1.size ≤ 140737488351232 := by have h := sized_string hsz (j := 1) (t := 9) rfl rfl; rw [Lib.size_eq]; exact h
  clear hA0 hval0
  refine (own_walk W hL _ ops0 hops0 l0 a1 s1).mono fun e W' ⟨he, bel⟩ => ?_
  subst he
  exact ⟨_, rfl, _, _, _, [], _, [], hW', trodAll_mk1 (shut_bool Tryz.underlying4 _), (trodAll_cons_mk (Below.trod laidOut (by kernel_rfl) (of_decide_eq_true (by kernel_rfl)) k0 bel lt0) (trodAll_cons_mk (shut_string Tryz.underlying9 w1) trodAll_mk0)), rfl, bel.frame _, fun h => by cases h⟩

theorem over : Rows.ownRow.holds Tryz.pinned (OpenSpec.ofChange Rows.ownSpec) :=
  OpenClaim.holds_of_wide 4 Tryz.f4 rfl rfl rfl rfl rfl rfl rfl ⟨rfl, rfl, rfl, rfl, rfl⟩ rfl rfl rfl rfl rfl (by kernel_rfl) Tryz.func4 (by kernel_rfl)
    (of_decide_eq_true (by kernel_rfl)) (by unfold Func.isWrapper; first | (rw [if_pos (by decide +kernel)]; kernel_rfl) | (rw [if_neg (by decide +kernel)]; exact ⟨rfl, rfl⟩))
    (fun os started H enc _ => lifted os started H enc)

theorem proved : Rows.OwnCardSaid :=
  Claim7.holds_tied_plain_at .later [] [.data, .data, .data] true (true, "8d327a2eb9e4fc7a5b45134cbebff2d974a4bd63a1edc022da3e08df59d8e84d") false
    over (fun _ h => by cases h) (by kernel_rfl) (fun _ h => by cases h) own_row_tie rfl ⟨rfl, rfl⟩ (by kernel_rfl) rfl
    (fun f fn hf hfn => by
      obtain rfl : f = 4 := Option.some.inj ((show Tryz.prog.funcNamed "hub/hublaw.Own" = some 4 by kernel_rfl).symm.trans hf) |>.symm
      obtain rfl : fn = Tryz.f4 := (Option.some.inj (Tryz.func4.symm.trans hfn)).symm
      exact ⟨by kernel_rfl, fun j t ht => by
        rw [Tryz.params4] at ht
        have hm : t ∈ [22, 9] := by simpa using Array.mem_of_getElem? ht
        have hall : ([22, 9].all fun u => !Tryz.prog.wantsStandIn u) = true := by kernel_rfl
        exact (show Tryz.prog.wantsStandIn t = false by simpa using List.all_eq_true.1 hall t hm)⟩)
    (by kernel_rfl)
#print axioms proved
end Go.Proofs.YtchhmojnoiephabGreatDoor.own
