import Derived.Test.YtchhmojnoiephaaLawF
/- Plain mathematics: what an Add does to a route (P5, P6). -/
namespace Go.Proofs.Ytchhmojnoiephaa

theorem route_rises (L : List PairL) (t : List UInt8) : RisesL (routeL L t) := by
  have hp : (routeL L t).Pairwise (· < ·) := by
    unfold routeL; apply List.Pairwise.filter; rw [List.pairwise_map]; exact List.pairwise_lt_range.imp (fun h => by omega)
  have hm : ∀ x ∈ routeL L t, 0 ≤ x ∧ x < 16 := by
    intro x hx
    unfold routeL at hx
    obtain ⟨n, hn, rfl⟩ := List.mem_map.1 (List.mem_filter.1 hx).1
    rw [List.mem_range] at hn; omega
  intro i h
  have h' := hm _ (List.getElem_mem h)
  exact ⟨h'.1, h'.2, fun h0 => List.pairwise_iff_getElem.1 hp (i - 1) i (by omega) h (by omega)⟩
theorem route_len (L : List PairL) (t : List UInt8) : (routeL L t).length ≤ 16 := by
  unfold routeL; exact Nat.le_trans (List.length_filter_le _ _) (by simp)

theorem hasW_add (L : List PairL) (f t : List UInt8) (who w : Int) : hasW (L ++ [(f, who)]) t w = (hasW L t w || (w == who && matchB f t)) := by
  unfold hasW
  rw [List.any_append]; simp
  congr 1
  by_cases h : who = w
  · subst h; simp
  · rw [show (who == w) = false by simpa using h, show (w == who) = false by simpa using fun e => h e.symm]

theorem hasL_route (L : List PairL) (t : List UInt8) (n : Nat) (h : n < 16) : hasL (routeL L t) (n : Int) = hasW L t (n : Int) := by
  unfold hasL routeL
  rw [Bool.eq_iff_iff, List.contains_iff_mem, List.mem_filter]
  simp only [List.mem_map, List.mem_range]
  exact ⟨fun h => h.2, fun h' => ⟨⟨n, h, rfl⟩, h'⟩⟩

theorem add_ok {L : List PairL} {f : List UInt8} {who : Int} (h : (addR L f who).1.1 = 0) : (askR f who).1 = 0 ∧ (f, who) ∉ L ∧ (addR L f who).2 = L ++ [(f, who)] := by
  unfold addR at h ⊢
  by_cases h1 : (askR f who).1 ≠ 0
  · rw [if_pos h1] at h; exact absurd h h1
  · rw [if_neg h1] at h ⊢
    by_cases h2 : (f, who) ∈ L
    · rw [if_pos h2] at h; simp at h
    · rw [if_neg h2] at h ⊢
      by_cases h3 : 6 ≤ L.length
      · rw [if_pos h3] at h; simp at h
      · rw [if_neg h3]; exact ⟨by simpa using h1, h2, rfl⟩

theorem add_bad {L : List PairL} {f : List UInt8} {who : Int} (h : (addR L f who).1.1 ≠ 0) : (addR L f who).2 = L ∧ ((filterR f).1 ≠ 0 ∨ who < 0 ∨ 16 ≤ who ∨ (addR L f who).1.1 = 5 ∨ (addR L f who).1.1 = 7) := by
  unfold addR at h ⊢
  by_cases h1 : (askR f who).1 ≠ 0
  · rw [if_pos h1] at h ⊢
    refine ⟨rfl, ?_⟩
    unfold askR at h1
    by_cases h2 : (filterR f).1 ≠ 0
    · exact Or.inl h2
    · rw [if_neg h2] at h1
      by_cases h3 : who < 0 ∨ 16 ≤ who
      · omega
      · rw [if_neg h3] at h1; simp at h1
  · rw [if_neg h1] at h ⊢
    by_cases h2 : (f, who) ∈ L
    · rw [if_pos h2]; exact ⟨rfl, by simp⟩
    · rw [if_neg h2] at h ⊢
      by_cases h3 : 6 ≤ L.length
      · rw [if_pos h3]; exact ⟨rfl, by simp⟩
      · rw [if_neg h3] at h; simp at h

theorem add_twice {L : List PairL} {f : List UInt8} {who : Int} (h : (askR f who).1 = 0) : addR (L ++ [(f, who)]) f who = ((5, 0), L ++ [(f, who)]) := by
  unfold addR; rw [if_neg (by simp [h]), if_pos (by simp)]
theorem drop_last {L : List PairL} {f : List UInt8} {who : Int} (h : (askR f who).1 = 0) (hn : (f, who) ∉ L) : dropR (L ++ [(f, who)]) f who = ((0, 0), L) := by
  unfold dropR; rw [if_neg (by simp [h]), if_pos (by simp), List.erase_append_right _ hn]; simp
theorem drop_none {L : List PairL} {f : List UInt8} {who : Int} (h : (askR f who).1 = 0) (hn : (f, who) ∉ L) : dropR L f who = ((6, 0), L) := by
  unfold dropR; rw [if_neg (by simp [h]), if_neg hn]
theorem sameL_self (xs : List Int) : sameL xs xs = true := by simp [sameL]

end Go.Proofs.Ytchhmojnoiephaa
