import Derived.Test.YtchhmojnoiephabGreatDoorWalkG
import Derived.Test.YtchhmojnoiephabGreatDoorWalkD
namespace Go.Proofs.YtchhmojnoiephabGreatDoor
open Go.ChangeShapes Go.WideShapes Go.ChangeAt Go.RowKit
set_option linter.unusedVariables false

theorem block_lt {w : World} {a : Addr} {v : Value} (h : w.cell? a = some v) : a.block < w.heap.size := by
  refine Nat.lt_of_not_le fun hn => ?_
  unfold World.cell? at h
  rw [Array.getElem?_eq_none hn] at h
  simp at h

theorem StrRow.below {w w' : World} {v : Value} {xs : List (List UInt8)} (h : StrRow w v xs) (hb : Below w.heap.size w w') : StrRow w' v xs := by
  obtain ⟨b, off, cap, rfl, h1, h2, h3⟩ := h
  refine ⟨b, off, cap, rfl, h1, h2, fun i x hi => ?_⟩
  have hc := h3 i x hi
  rw [hb.cell (p := ⟨b, off + i, none⟩) (block_lt hc)]; exact hc

theorem strRow_own {w : World} {B e : Nat} {v : Value} {L : List (List UInt8)} (h : w.ownsRow B e 1 v L.length (L.map strV)) (hL : L ≠ []) : StrRow w v L := by
  have hc : ∀ g, v.ownBlock = some g → ∀ j u, (L.map strV)[j]? = some u → w.cell? ((⟨g, 0, none⟩ : Addr).add j) = some u := fun g hg => h.cells hg
  obtain ⟨_, ⟨rfl, h0⟩ | ⟨g, cap, cur, rfl, _, _, h1, h2, _, _⟩⟩ := h
  · exact absurd (List.length_eq_zero_iff.1 h0) hL
  · refine ⟨g, 0, cap, rfl, h1, h2, fun i x hi => ?_⟩
    have := hc g rfl i (strV x) (by simp [hi])
    cases i with
    | zero => simpa [Addr.add] using this
    | succ i => simpa [Addr.add] using this

set_option maxHeartbeats 1000000 in
theorem refMatches_any (f t : ByteArray) (w : World) (hf : f.size ≤ 24) (ht : t.size ≤ 24) (hf0 : 0 < f.size) (ht0 : 0 < t.size) :
    Calls Tryz.prog 64 #[.string f, .string t] w fun e w' => e = .returned (.bool (matchB f.data.toList t.data.toList)) ∧ Below w.heap.size w w' := by
  have HM : Hid (((t[0].toNat : Int) == 36 && ((f[0].toNat : Int) == 43 || (f[0].toNat : Int) == 35)) = false → fitsL (levs f.data.toList) (levs t.data.toList) = matchB f.data.toList t.data.toList) := by
    intro h
    unfold matchB
    rw [headI_pos t ht0, headI_pos f hf0, if_neg (by intro h'; simp [h'.1] at h; omega)]
  have HM2 : Hid (((t[0].toNat : Int) == 36 && ((f[0].toNat : Int) == 43 || (f[0].toNat : Int) == 35)) = true → false = matchB f.data.toList t.data.toList) := by
    intro h
    unfold matchB
    rw [headI_pos t ht0, headI_pos f hf0, if_pos (by simpa using h)]
  cases h36 : ((t[0].toNat : Int) == 36) <;> cases h43 : ((f[0].toNat : Int) == 43) <;> cases h35 : ((f[0].toNat : Int) == 35)
  case true.true.true => simp at h43 h35; omega
  case true.true.false | true.false.true =>
    go_enter Tryz.func64, Tryz.ntmps64
    go_wp2_with fail
    go_ret
    exact ⟨ret_bool (unhide HM2 (by rw [h43, h35, h36]; rfl)), Below.refl _ _⟩
  all_goals
    replace HM := hide (unhide HM (by rw [h43, h35, h36]; rfl))
    clear HM2
    go_enter Tryz.func64, Tryz.ntmps64
    go_wp2_with fail
    refine (levels_any f _ (by omega)).mono ?_
    rintro e w1 ⟨v1, rfl, hown1, hb1⟩
    have HS1 := hide (strRow_own hown1 (levs_ne _))
    clear hown1
    go_wp2_with fail
    refine (levels_any t _ (by omega)).mono ?_
    rintro e w2 ⟨v2, rfl, hown2, hb2⟩
    have HS2 := hide (strRow_own hown2 (levs_ne _))
    replace HS1 := hide ((unhide HS1).below hb2)
    have hb3 := hb1.trans (hb2.mono hb1.size)
    clear hown2 hb1 hb2
    go_wp2_with fail
    refine (fits_any _ _ _ _ _ (unhide HS1) (unhide HS2)).mono ?_
    rintro e w3 ⟨rfl, n, rfl⟩
    go_wp2_with fail
    go_ret
    exact ⟨ret_bool (unhide HM), hb3.trans ⟨rfl, rfl, rfl, Nat.le_refl _, fun _ _ => rfl⟩⟩

theorem filterR_pos (f : ByteArray) (h : (filterR f.data.toList).1 = 0) : 0 < f.size := by
  refine Nat.pos_of_ne_zero fun h0 => ?_
  rw [filterR_empty f h0] at h; simp at h
theorem topicR_pos (f : ByteArray) (h : (topicR f.data.toList).1 = 0) : 0 < f.size := by
  refine Nat.pos_of_ne_zero fun h0 => ?_
  rw [topicR_empty f h0] at h; simp at h

end Go.Proofs.YtchhmojnoiephabGreatDoor
