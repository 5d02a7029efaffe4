import Derived.Test.YtchhmojnoiephaaLawE
namespace Go.Proofs.Ytchhmojnoiephaa
open Go.ChangeShapes Go.WideShapes Go.ChangeAt Go.RowKit
set_option linter.unusedVariables false

/-- numbers from 0 to 15 that rise -/
def RisesL (xs : List Int) : Prop := ∀ i (h : i < xs.length), 0 ≤ xs[i] ∧ xs[i] < 16 ∧ ∀ h0 : 0 < i, xs[i - 1] < xs[i]

theorem wrap_big (x : Int) (h0 : -9223372036854775808 ≤ x) (h1 : x ≤ 9223372036854775807) : IntKind.i64.wrap x = x := by
  rw [IntKind.wrap_i64]; omega

set_option maxHeartbeats 1000000 in
set_option maxRecDepth 100000 in
theorem rises_any (v : Value) (xs : List Int) (w : World) (h : IntsAt w v xs) (hr : RisesL xs) :
    Calls Try.prog 26 #[v] w fun e w' => e = .returned (.bool true) ∧ Below w.heap.size w w' := by
  obtain ⟨a1, c1, rfl, hl1⟩ := h.form
  unfold maxLen at hl1
  have HX := hide h
  have HR := hide hr
  clear h hr
  go_enter Try.func26, Try.ntmps26
  go_wp2_with fail
  go_loopg [3] xs.length (fun gk i wr => ∃ k m : Nat, k ≤ xs.length ∧ gk = xs.length - k ∧ i = .int .i64 k ∧ wr = w.drewN m)
  case atStart => exact ⟨0, 0, by omega, by omega, rfl, rfl⟩
  case round =>
    obtain ⟨k, m, hk, rfl, rfl, rfl⟩ := hrel
    by_cases hlt : k < xs.length
    · rcases unhide HX with ⟨_, hx0⟩ | ⟨b1, o1, p1, he1, hc1, hm1, hx⟩
      · subst hx0; simp at hlt
      simp only [Value.slice.injEq] at he1
      obtain ⟨rfl, _, rfl⟩ := he1
      unfold maxLen at hm1
      have hk60 : (k : Int) < 9223372036854775807 := by omega
      obtain ⟨hr0, hr1, hr2⟩ := unhide HR k hlt
      by_cases hz : k = 0
      · subst hz
        have hcx := hx 0 hlt
        simp only [Nat.add_zero] at hcx
        clear hx hr2
        generalize xs[0] = xk at *
        have d0 : decide (xk < 0) = false := by simp; omega
        have d1 : decide (16 ≤ xk) = false := by simp; omega
        clear hr0 hr1
        go_wp2_with fail
        go_quiet (fail)
        go_wp2_with fail
        go_roundg (xs.length - (0 + 1))
        case measure => omega
        case rel => exact ⟨0 + 1, _, by omega, rfl, by go_num, rfl⟩
      · obtain ⟨j, hj⟩ : ∃ j, k - 1 = j := ⟨_, rfl⟩
        have hcx := hx k hlt
        have hjl : j < xs.length := by omega
        have hcy := hx j hjl
        have hr3 := hr2 (by omega)
        simp only [hj] at hr3
        clear hx hr2
        generalize xs[k] = xk at *
        generalize xs[j] = xj at *
        have d0 : decide (xk < 0) = false := by simp; omega
        have d1 : decide (16 ≤ xk) = false := by simp; omega
        have d2 : decide (xk ≤ xj) = false := by simp; omega
        have d3 : decide (0 < k) = true := decide_eq_true (by omega)
        have hw : IntKind.i64.wrap ((k : Int) - 1) = (j : Int) := by rw [wrap_big _ (by omega) (by omega)]; omega
        clear hr0 hr1 hr3 hj hz
        go_wp2_with fail
        go_quiet (fail)
        go_wp2_with fail
        go_roundg (xs.length - (k + 1))
        case measure => omega
        case rel => exact ⟨k + 1, _, by omega, rfl, by go_num, rfl⟩
    · go_wp2_with fail
      go_ret
      exact ⟨rfl, below_drewN (Below.refl _ _) _⟩

theorem info_int8 : (Try.prog.info? 3).map (fun i => (i.zero, i.size, i.bytes)) = some (some (.int .i64 0), 1, 8) := by kernel_rfl

/-- the cells of a copy that has come to k -/
def copyTo (xs : List Int) (k : Nat) : List Value := (xs.take k).map (Value.int .i64) ++ List.replicate (xs.length - k) (Value.int .i64 0)
theorem copyTo_succ (xs : List Int) (k : Nat) (h : k < xs.length) : (copyTo xs k).set k (.int .i64 xs[k]) = copyTo xs (k + 1) := by
  unfold copyTo
  have h1 : ((xs.take k).map (Value.int .i64)).length = k := by simp; omega
  rw [List.set_append_right _ _ (by omega), h1, Nat.sub_self]
  obtain ⟨m, hm⟩ : ∃ m, xs.length - k = m + 1 := ⟨xs.length - k - 1, by omega⟩
  have hm' : xs.length - (k + 1) = m := by omega
  rw [hm, hm', List.replicate_succ, List.set_cons_zero, List.take_succ_eq_append_getElem h, List.map_append, List.append_assoc]
  rfl
theorem copyTo_all (xs : List Int) (k : Nat) (h : xs.length ≤ k) : copyTo xs k = xs.map (Value.int .i64) := by
  unfold copyTo
  rw [List.take_of_length_le h, Nat.sub_eq_zero_of_le h]; simp

theorem Own.fr {S S' : Nat → Prop} {w w' : World} {v : Value} {xs : List Int} (h : Own w S v xs) (hf : Fr S w w' S') : Own w' S' v xs := by
  obtain ⟨h, ho⟩ := h
  refine ⟨?_, fun b off n c he => ⟨fun hs => ?_, Nat.lt_of_lt_of_le (ho b off n c he).2 hf.size⟩⟩
  · rcases h with h | ⟨b, off, cap, rfl, h1, h2, h3⟩
    · exact Or.inl h
    · exact Or.inr ⟨b, off, cap, rfl, h1, h2, fun i hi => hf.cell (h3 i hi) (ho _ _ _ _ rfl).1⟩
  · rcases hf.new b hs with h' | h'
    · exact (ho b off n c he).1 h'
    · have := (ho b off n c he).2; omega

set_option maxHeartbeats 1000000 in
set_option maxRecDepth 100000 in
theorem copied_any (v : Value) (xs : List Int) (w : World) (h : IntsAt w v xs) (hn : xs.length ≤ 1000) :
    Calls Try.prog 24 #[v] w fun e w' => ∃ v', e = .returned v' ∧ Below w.heap.size w w' ∧ Own w' (fun k => k < w.heap.size) v' xs := by
  obtain ⟨a1, c1, rfl, hl1⟩ := h.form
  clear hl1
  obtain ⟨i0, hi, hz0, hz1, hz2⟩ := info_parts info_int8
  have HX := hide h
  clear h
  go_enter Try.func24, Try.ntmps24
  go_wp2_with (at_make; refine wpList_make_full _ rfl _ _ 41 rfl w.heap.size 3 i0 (.int .i64 0) 1 Try.underlying41 hi hz0 hz1 .i64 .i64 xs.length xs.length xs.length rfl rfl rfl rfl (by rw [hz2]; omega) (by unfold maxLen; omega) (Nat.le_refl _) ?_; intro w1 hown hgrow)
  have hb1 : Below w.heap.size w w1 := (Below.refl _ w).grown hgrow (Nat.le_refl _) (fun k hk => by cases hk)
  have HO : Hid (w1.ownsRow w.heap.size 3 1 (.slice (some ⟨w.heap.size, 0, none⟩) xs.length xs.length) xs.length (copyTo xs 0)) := by
    unfold Hid
    have he : (madeCells (Value.int .i64 0).cells (xs.length * 1)).toList = copyTo xs 0 := by
      unfold copyTo; rw [Nat.mul_one]; exact (toList_madeCells_one _ _).trans (by simp)
    rw [← he]; exact hown
  have HB := hide hb1
  clear hown hgrow hb1
  go_loopg [4] xs.length (fun gk i wr => ∃ k : Nat, k ≤ xs.length ∧ gk = xs.length - k ∧ i = .int .i64 k ∧ Hid (wr.ownsRow w.heap.size 3 1 (.slice (some ⟨w.heap.size, 0, none⟩) xs.length xs.length) xs.length (copyTo xs k)) ∧ Hid (Below w.heap.size w wr))
  case atStart => exact ⟨0, by omega, by omega, rfl, HO, HB⟩
  case round =>
    clear HO HB
    obtain ⟨k, hk, rfl, rfl, HO, HB⟩ := hrel
    by_cases hlt : k < xs.length
    · rcases unhide HX with ⟨_, hx0⟩ | ⟨b1, o1, p1, he1, hc1, hm1, hx⟩
      · subst hx0; simp at hlt
      simp only [Value.slice.injEq] at he1
      obtain ⟨rfl, _, rfl⟩ := he1
      have hbk := blk_lt (hx k hlt)
      have hcx := ((unhide HB).cell (p := ⟨b1, o1 + k, none⟩) hbk).trans (hx k hlt)
      have hfz := (unhide HO).frozenAt k
      have hce := (unhide HO).cellAt k (by omega)
      have HCS := hide (copyTo_succ xs k hlt)
      have hlc : k < (copyTo xs k).length := by unfold copyTo; simp; omega
      rw [List.getElem?_eq_getElem hlc] at hce
      generalize (copyTo xs k)[k] = old at hce
      clear hx hlc
      generalize xs[k] = xk at *
      go_wp2_with fail
      go_roundg (xs.length - (k + 1))
      case measure => omega
      case rel =>
        refine ⟨k + 1, by omega, rfl, by go_num, ?_, ?_⟩
        · unfold Hid; rw [← unhide HCS]; exact ((unhide HO).stored k _).1
        · exact (unhide HB).setCell (Nat.le_refl _) _
    · rw [copyTo_all xs k (by omega)] at HO
      go_wp2_with fail
      go_ret
      refine ⟨_, rfl, unhide HB, IntsAt.of_own (unhide HO), fun b o n c he => ?_⟩
      simp at he
      obtain ⟨⟨rfl, _⟩, _⟩ := he
      refine ⟨Nat.lt_irrefl _, ?_⟩
      obtain ⟨_, ⟨h', _⟩ | ⟨g, cap, cur, h', _, hg, _⟩⟩ := unhide HO
      · simp at h'
      · simp only [Value.slice.injEq, Option.some.injEq, Addr.mk.injEq, and_true, true_and] at h'
        obtain ⟨rfl, _⟩ := h'
        exact (Array.getElem?_eq_some_iff.1 hg).1

end Go.Proofs.Ytchhmojnoiephaa
