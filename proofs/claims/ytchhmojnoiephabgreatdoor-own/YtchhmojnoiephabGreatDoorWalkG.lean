import Derived.Test.YtchhmojnoiephabGreatDoorWalkF
import Derived.Deep.QuietTactic
import Derived.BigQuiet
namespace Go.Proofs.YtchhmojnoiephabGreatDoor
open Go.ChangeShapes Go.WideShapes Go.ChangeAt Go.RowKit
set_option linter.unusedVariables false

/-- a slice of strings that begins somewhere in a block -/
def StrRow (w : World) (v : Value) (xs : List (List UInt8)) : Prop :=
  ∃ b off cap, v = .slice (some ⟨b, off, none⟩) xs.length cap ∧ xs.length ≤ cap ∧ cap ≤ maxLen ∧ ∀ i x, xs[i]? = some x → w.cell? ⟨b, off + i, none⟩ = some (strV x)

theorem StrRow.drewN {w : World} {v : Value} {xs : List (List UInt8)} (h : StrRow w v xs) (n : Nat) : StrRow (w.drewN n) v xs := h

theorem str_head {w : World} {b off : Nat} {x : List UInt8} {xs : List (List UInt8)} (h : ∀ i y, (x :: xs)[i]? = some y → w.cell? ⟨b, off + i, none⟩ = some (strV y)) :
    ∃ s : ByteArray, w.cell? ⟨b, off, none⟩ = some (.string s) ∧ s.data.toList = x := ⟨⟨x.toArray⟩, h 0 x rfl, by simp⟩

theorem fitsL_hash (f : List UInt8) (fs T : List (List UInt8)) (h : f = [35]) : fitsL (f :: fs) T = true := by
  cases T <;> simp [fitsL, h]
theorem fitsL_none (f : List UInt8) (fs : List (List UInt8)) (h : ¬ f = [35]) : fitsL (f :: fs) [] = false := by
  simp [fitsL, h]
theorem fitsL_on (f x : List UInt8) (fs xs : List (List UInt8)) (h : ¬ f = [35]) (he : f = [43] ∨ f = x) : fitsL (f :: fs) (x :: xs) = fitsL fs xs := by
  simp only [fitsL]; rw [if_neg h, if_pos he]
theorem fitsL_off (f x : List UInt8) (fs xs : List (List UInt8)) (h : ¬ f = [35]) (h1 : ¬ f = [43]) (h2 : ¬ f = x) : fitsL (f :: fs) (x :: xs) = false := by
  simp only [fitsL]; rw [if_neg h, if_neg (by simp [h1, h2])]
theorem str_tail {w : World} {b off cap : Nat} {x : List UInt8} {xs : List (List UInt8)} (h : ∀ i y, (x :: xs)[i]? = some y → w.cell? ⟨b, off + i, none⟩ = some (strV y)) (hl : xs.length + 1 ≤ cap) (hm : cap ≤ maxLen) :
    StrRow w (.slice (some ⟨b, off + 1, none⟩) xs.length (cap - 1)) xs :=
  ⟨b, off + 1, cap - 1, rfl, by omega, by omega, fun i y hi => by have := h (i + 1) y (by simpa using hi); rwa [show off + 1 + i = off + (i + 1) from by omega]⟩

theorem elem_strs : Tryz.prog.underlying 107 = some (.slice (Tryz.prog.elem 107)) := by kernel_rfl
theorem size_strs (w : World) : (sizeOf (Tryz.prog.elem 107)).run Tryz.prog w = .ok 1 w := by kernel_rfl

/-- xs[1:] of a slice of strings -/
theorem cut_tail {w : World} {b off cap : Nat} {x : List UInt8} {xs : List (List UInt8)} (h : ∀ i y, (x :: xs)[i]? = some y → w.cell? ⟨b, off + i, none⟩ = some (strV y)) (hl : xs.length + 1 ≤ cap) (hm : cap ≤ maxLen) :
    ∃ o', StrRow w (.slice (some ⟨b, o', none⟩) xs.length (cap - 1)) xs ∧ ∀ w', (Instr.slice 107 (.slice (some ⟨b, off, none⟩) (xs.length + 1) cap) (some (.int .i64 1)) none none).run Tryz.prog w' = .ok (.slice (some ⟨b, o', none⟩) xs.length (cap - 1)) w' := by
  by_cases hc : cap = 1
  · have h0 : xs = [] := List.length_eq_zero_iff.1 (by omega)
    subst h0 hc
    refine ⟨off, ⟨b, off, 0, rfl, by simp, by omega, fun i y hi => by simp at hi⟩, fun w' => ?_⟩
    rw [run_slice_l (ht := elem_strs) (h0 := by omega) (h1 := by simp), size_strs]
    rfl
  · refine ⟨off + 1, str_tail h hl hm, fun w' => ?_⟩
    rw [run_slice_l (ht := elem_strs) (h0 := by omega) (h1 := by omega), size_strs]
    simp [Result.andThen, sliced, hc, Addr.add]

theorem quiet_more {P : Program} {f : FuncId} {args : Array Value} {w : World} {nq x : Nat} {v : Value}
    (h : Calls P f args (w.drewN (nq + x)) fun e w' => e = .returned v ∧ ∃ m, w' = (w.drewN (nq + x)).drewN m) : Calls P f args (w.drewN (nq + x)) fun e w'' => e = .returned v ∧ ∃ n, w'' = w.drewN (nq + n) :=
  h.mono fun _ _ ⟨he, m, hm⟩ => ⟨he, x + m, by rw [hm, World.drewN_drewN, Nat.add_assoc]⟩

set_option maxHeartbeats 1000000 in
theorem fits_any (F : List (List UInt8)) : ∀ (T : List (List UInt8)) (v1 v2 : Value) (w : World), StrRow w v1 F → StrRow w v2 T →
    Calls Tryz.prog 99 #[v1, v2] w fun e w' => e = .returned (.bool (fitsL F T)) ∧ ∃ n, w' = w.drewN n := by
  induction F with
  | nil =>
    intro T v1 v2 w h1 h2
    obtain ⟨b1, o1, c1, rfl, hl1, hm1, hc1⟩ := h1
    obtain ⟨b2, o2, c2, rfl, hl2, hm2, hc2⟩ := h2
    have HF : Hid (fitsL [] T = ((T.length : Int) == 0)) := by cases T <;> simp [fitsL, Hid]; omega
    go_enter Tryz.func99, Tryz.ntmps99
    go_wp2_with fail
    go_ret
    exact ⟨ret_bool (unhide HF).symm, 0, rfl⟩
  | cons f fs ih =>
    intro T v1 v2 w h1 h2
    obtain ⟨b1, o1, c1, rfl, hl1, hm1, hc1⟩ := h1
    obtain ⟨b2, o2, c2, rfl, hl2, hm2, hc2⟩ := h2
    obtain ⟨s, hs, rfl⟩ := str_head hc1
    simp only [List.length_cons] at hl1 ⊢
    have IH := hide ih
    have HC1 := hide hc1
    have HC2 := hide hc2
    clear ih hc1 hc2
    by_cases q35 : s.data.toList = [35]
    · have HF : Hid (fitsL (s.data.toList :: fs) T = true) := fitsL_hash _ _ _ q35
      have b35 : (s.toList == [35]) = true := by rw [Lib.toList_data, q35]; rfl
      clear q35
      go_enter Tryz.func99, Tryz.ntmps99
      go_wp2_with fail
      go_ret
      exact ⟨ret_bool (unhide HF).symm, 0, rfl⟩
    have b35 : (s.toList == [35]) = false := by rw [Lib.toList_data]; simpa using q35
    cases T with
    | nil =>
      have HF : Hid (fitsL (s.data.toList :: fs) [] = false) := fitsL_none _ _ q35
      clear q35
      simp only [List.length_nil] at *
      go_enter Tryz.func99, Tryz.ntmps99
      go_wp2_with fail
      go_quiet (fail)
      go_wp2_with fail
      go_ret
      exact ⟨ret_bool (unhide HF).symm, _, rfl⟩
    | cons x xs =>
      obtain ⟨t, ht, rfl⟩ := str_head (unhide HC2)
      simp only [List.length_cons] at hl2 ⊢
      obtain ⟨o1', hr1, hcut1⟩ := cut_tail (unhide HC1) hl1 hm1
      obtain ⟨o2', hr2, hcut2⟩ := cut_tail (unhide HC2) hl2 hm2
      have HR : Hid (∀ n, Calls Tryz.prog 99 #[.slice (some ⟨b1, o1', none⟩) fs.length (c1 - 1), .slice (some ⟨b2, o2', none⟩) xs.length (c2 - 1)] (w.drewN n) fun e w' => e = .returned (.bool (fitsL fs xs)) ∧ ∃ m, w' = (w.drewN n).drewN m) :=
        fun n => (unhide IH) xs _ _ _ (hr1.drewN n) (hr2.drewN n)
      clear HC1 HC2 IH hr1 hr2
      have z1 : (((xs.length : Int) + 1) == 0) = false := by simp; omega
      by_cases q43 : s.data.toList = [43]
      · have b43 : (s.toList == [43]) = true := by rw [Lib.toList_data, q43]; rfl
        have HF := hide (fitsL_on s.data.toList t.data.toList fs xs q35 (Or.inl q43))
        clear q35 q43
        go_enter Tryz.func99, Tryz.ntmps99
        go_wp2_with fail
        go_quiet (fail)
        go_wp2_with fail
        go_quiet ((go_at_call 99; exact quiet_more (unhide HR _)))
        go_wp2_with fail
        go_ret
        exact ⟨ret_bool (unhide HF).symm, _, World.drewN_drewN _ _ _⟩
      · have b43 : (s.toList == [43]) = false := by rw [Lib.toList_data]; simpa using q43
        by_cases qt : s.data.toList = t.data.toList
        · have bt : (s.toList == t.toList) = true := by rw [Lib.toList_data, Lib.toList_data, qt]; simp
          have HF := hide (fitsL_on s.data.toList t.data.toList fs xs q35 (Or.inr qt))
          clear q35 q43 qt
          go_enter Tryz.func99, Tryz.ntmps99
          go_wp2_with fail
          go_quiet (fail)
          go_wp2_with fail
          go_quiet ((go_at_call 99; exact quiet_more (unhide HR _)))
          go_wp2_with fail
          go_ret
          exact ⟨ret_bool (unhide HF).symm, _, World.drewN_drewN _ _ _⟩
        · have bt : (s.toList == t.toList) = false := by rw [Lib.toList_data, Lib.toList_data]; simpa using qt
          have HF := hide (fitsL_off s.data.toList t.data.toList fs xs q35 q43 qt)
          clear q35 q43 qt
          go_enter Tryz.func99, Tryz.ntmps99
          go_wp2_with fail
          go_quiet (fail)
          go_wp2_with fail
          go_ret
          exact ⟨ret_bool (unhide HF).symm, _, rfl⟩

end Go.Proofs.YtchhmojnoiephabGreatDoor
