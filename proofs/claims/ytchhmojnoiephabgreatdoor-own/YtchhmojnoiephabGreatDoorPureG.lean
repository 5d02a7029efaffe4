import Derived.Test.YtchhmojnoiephabGreatDoorPureB
/- Plain mathematics: the table (P5, P6). -/
namespace Go.Proofs.YtchhmojnoiephabGreatDoor

abbrev PairL := List UInt8 × Int

def askR (f : List UInt8) (who : Int) : Int × Int :=
  if (filterR f).1 ≠ 0 then filterR f else if who < 0 ∨ 16 ≤ who then (4, 0) else (0, 0)

/-- where a pair stands, from place i on; -1: nowhere -/
def atFrom (x : PairL) : Nat → List PairL → Int
  | _, [] => -1
  | i, y :: L => if y = x then (i : Int) else atFrom x (i + 1) L

def addR (L : List PairL) (f : List UInt8) (who : Int) : (Int × Int) × List PairL :=
  if (askR f who).1 ≠ 0 then (askR f who, L) else
  if (f, who) ∈ L then ((5, 0), L) else
  if 6 ≤ L.length then ((7, 0), L) else ((0, 0), L ++ [(f, who)])

def dropR (L : List PairL) (f : List UInt8) (who : Int) : (Int × Int) × List PairL :=
  if (askR f who).1 ≠ 0 then (askR f who, L) else
  if (f, who) ∈ L then ((0, 0), L.erase (f, who)) else ((6, 0), L)

/-- has who a pair whose filter matches? -/
def hasW (L : List PairL) (t : List UInt8) (who : Int) : Bool := L.any fun e => e.2 == who && matchB e.1 t

def routeL (L : List PairL) (t : List UInt8) : List Int := ((List.range 16).map (fun n : Nat => (n : Int))).filter (hasW L t)

def routeR (L : List PairL) (t : List UInt8) : List Int × Int × Int :=
  if (topicR t).1 ≠ 0 then ([], (topicR t).1, (topicR t).2) else (routeL L t, 0, 0)

/-- what a table may hold -/
def goodL (L : List PairL) : Prop := L.length ≤ 6 ∧ L.Nodup ∧ ∀ e ∈ L, (filterR e.1).1 = 0 ∧ 0 ≤ e.2 ∧ e.2 < 16

theorem atFrom_hit (x : PairL) (i k : Nat) (L : List PairL) (h : k < L.length) (he : L[k] = x) : atFrom x i (L.drop k) = (i : Int) := by
  rw [List.drop_eq_getElem_cons h]; simp only [atFrom]; rw [if_pos he]
theorem atFrom_miss (x : PairL) (i k : Nat) (L : List PairL) (h : k < L.length) (he : ¬ L[k] = x) : atFrom x i (L.drop k) = atFrom x (i + 1) (L.drop (k + 1)) := by
  rw [List.drop_eq_getElem_cons h]; simp only [atFrom]; rw [if_neg he]
theorem atFrom_end (x : PairL) (i k : Nat) (L : List PairL) (h : ¬ k < L.length) : atFrom x i (L.drop k) = -1 := by
  rw [List.drop_eq_nil_of_le (by omega)]; rfl
theorem atFrom_none (x : PairL) (L : List PairL) : ∀ i, x ∉ L → atFrom x i L = -1 := by
  induction L with
  | nil => intro i _; rfl
  | cons y L ih => intro i h; simp only [atFrom]; rw [if_neg (fun e => h (by simp [e]))]; exact ih _ (fun hm => h (by simp [hm]))
theorem atFrom_some (x : PairL) (L : List PairL) : ∀ i, x ∈ L → ∃ k, k < L.length ∧ atFrom x i L = ((i + k : Nat) : Int) ∧ L[k]? = some x ∧ L.eraseIdx k = L.erase x := by
  induction L with
  | nil => intro i h; simp at h
  | cons y L ih =>
    intro i h
    by_cases hy : y = x
    · subst hy; exact ⟨0, by simp, by simp [atFrom], by simp, by simp⟩
    · obtain ⟨k, h1, h2, h3, h4⟩ := ih (i + 1) (by rcases List.mem_cons.1 h with rfl | h
                                                   · exact absurd rfl hy
                                                   · exact h)
      refine ⟨k + 1, by simpa using h1, ?_, by simpa using h3, ?_⟩
      · simp only [atFrom]; rw [if_neg hy, h2]; congr 1; omega
      · rw [List.eraseIdx_cons_succ, h4, List.erase_cons_tail (by simpa using hy)]

theorem goodL_nil : goodL [] := ⟨by simp, by simp, by simp⟩
theorem askR_ok {f : List UInt8} {who : Int} (h : (askR f who).1 = 0) : (filterR f).1 = 0 ∧ 0 ≤ who ∧ who < 16 := by
  unfold askR at h
  split at h
  · rename_i h'; exact absurd h h'
  · rename_i h'
    split at h
    · simp at h
    · exact ⟨by simpa using h', by omega, by omega⟩
theorem addR_good (L : List PairL) (f : List UInt8) (who : Int) (h : goodL L) : goodL (addR L f who).2 := by
  unfold addR
  split
  · exact h
  · rename_i ha
    split
    · exact h
    · rename_i hm
      split
      · exact h
      · rename_i hl
        have hk := askR_ok (by simpa using ha)
        refine ⟨by simp; omega, ?_, fun e he => ?_⟩
        · rw [List.nodup_append]
          exact ⟨h.2.1, by simp, fun a ha b hb => by simp at hb; subst hb; exact fun e => hm (e ▸ ha)⟩
        · rcases List.mem_append.1 he with he | he
          · exact h.2.2 e he
          · simp at he; subst he; exact hk
theorem dropR_good (L : List PairL) (f : List UInt8) (who : Int) (h : goodL L) : goodL (dropR L f who).2 := by
  unfold dropR
  split
  · exact h
  · split
    · exact ⟨Nat.le_trans List.length_erase_le h.1, h.2.1.erase _, fun e he => h.2.2 e (List.mem_of_mem_erase he)⟩
    · exact h

end Go.Proofs.YtchhmojnoiephabGreatDoor
