import Derived.Test.YtchhmojnoiephaaDoorMacE
import Derived.Deep.RegionWith
/- The program's machine in memory: a state is put in. -/
namespace Go.Proofs.YtchhmojnoiephaaDoor
open Go.ChangeShapes Go.WideShapes Go.ChangeAt Go.RowKit
set_option linter.unusedVariables false

def powG (g : Nat) : Prop := Tryd.prog.globalNamed "internal/strconv.uint64pow10" = some g
theorem pow_lt {w : World} (h : powOK w) {g : Nat} (hg : powG g) : g < w.heap.size := by
  unfold powOK Lib.TabIs World.var? at h
  rw [hg] at h
  simp only [Option.bind_some] at h
  rcases Nat.lt_or_ge g w.heap.size with h' | h'
  · exact h'
  · rw [Array.getElem?_eq_none h'] at h; simp at h
theorem pow_keep {w w' : World} (h : powOK w) (hk : ∀ g, powG g → w'.heap[g]? = w.heap[g]?) : powOK w' := by
  unfold powOK Lib.TabIs World.var? at *
  cases hg : Tryd.prog.globalNamed "internal/strconv.uint64pow10" with
  | none => rw [hg] at h; cases h
  | some g =>
    rw [hg] at h
    simp only [Option.bind_some] at h ⊢
    rw [hk g hg]; exact h

/-- the table of powers, apart from the blocks Q -/
structure PowQ (w : World) (Q : Nat → Prop) : Prop where
  ok : powOK w
  no : ∀ g, powG g → ¬ Q g
theorem PowQ.fr {w w' : World} {Q Q' : Nat → Prop} (h : PowQ w Q) (hf : Fr Q w w' Q') : PowQ w' Q' :=
  ⟨pow_keep h.ok (fun g hg => hf.keep g (pow_lt h.ok hg) (h.no g hg)), fun g hg hq => by
    rcases hf.new g hq with h1 | h1
    · exact h.no g hg h1
    · have := pow_lt h.ok hg; omega⟩
theorem PowQ.below {w w' : World} {Q : Nat → Prop} (h : PowQ w Q) (hb : Below w.heap.size w w') : PowQ w' Q :=
  ⟨pow_keep h.ok (fun g hg => hb.block g (pow_lt h.ok hg)), h.no⟩

/-- the program's machine in memory, at block M, with its blocks Q -/
structure Mac (w : World) (M : Nat) (Q : Nat → Prop) (S : List St) : Prop where
  body : ∃ v, w.heap[M]? = some (.cells #[v] 97 (0, 0)) ∧ w.ownsRow 0 9 1 v S.length ((S.map render).map strV) ∧ ∀ k, v.ownBlock = some k → Q k
  self : Q M
  lt : ∀ k, Q k → k < w.heap.size

theorem Mac.kept {w w' : World} {M : Nat} {Q T T' : Nat → Prop} {S : List St} (h : Mac w M Q S) (hf : Fr T w w' T') (hd : ∀ k, Q k → ¬ T k) : Mac w' M Q S := by
  obtain ⟨v, h1, h2, h3⟩ := h.body
  refine ⟨⟨v, ?_, own_same h2 (fun k hk => hf.keep k (h.lt k (h3 k hk)) (hd k (h3 k hk))), h3⟩, h.self, fun k hk => Nat.lt_of_lt_of_le (h.lt k hk) hf.size⟩
  rw [hf.keep M (h.lt M h.self) (hd M h.self)]; exact h1
theorem Mac.below {w w' : World} {M : Nat} {Q : Nat → Prop} {S : List St} (h : Mac w M Q S) (hb : Below w.heap.size w w') : Mac w' M Q S :=
  h.kept (Fr.of_below (S := fun _ => False) hb) (fun _ _ h => h)

/-- the machine's list is another one now -/
theorem mac_store {w w2 : World} {M : Nat} {Q : Nat → Prop} {S S' : List St} {v' : Value} (h : Mac w M Q S) (hos : w2.os = w.os) (htp : w2.tape = w.tape) (hou : w2.output = w.output) (hsz : w.heap.size ≤ w2.heap.size)
    (hkeep : ∀ k, k < w.heap.size → (¬ Q k ∨ k = M) → w2.heap[k]? = w.heap[k]?) (hown : w2.ownsRow 0 9 1 v' S'.length ((S'.map render).map strV)) (hmv : ∀ k, v'.ownBlock = some k → Q k ∨ w.heap.size ≤ k) :
    Mac (w2.setCell ⟨M, 0, none⟩ v') M (fun k => Q k ∨ v'.ownBlock = some k) S' ∧ Fr Q w (w2.setCell ⟨M, 0, none⟩ v') (fun k => Q k ∨ v'.ownBlock = some k) := by
  obtain ⟨v, h1, h2, h3⟩ := h.body
  have hp := heap_lt h1
  have hp2 : w2.heap[M]? = some (.cells #[v] 97 (0, 0)) := by rw [hkeep M hp (Or.inr rfl)]; exact h1
  have hne := own_not hown hp2 (by decide)
  refine ⟨⟨⟨v', ?_, own_same hown (fun k hk => Below.heap_setCell _ _ _ _ (fun e => hne (by rw [hk, e]))), fun k hk => Or.inr hk⟩, Or.inl h.self, fun k hk => ?_⟩, ⟨?_, ?_, ?_, ?_, fun k hk hn => ?_, fun k hk => ?_⟩⟩
  · rw [heap_setCell_same w2 M 0 _ _ v' hp2]; rfl
  · rcases hk with hk | hk
    · have := h.lt k hk; simp; omega
    · simpa using (hown.lt k hk).2
  · exact hos
  · exact htp
  · exact hou
  · simpa using hsz
  · rw [Below.heap_setCell _ _ _ _ (fun e => hn (by rw [e]; exact h.self))]
    exact hkeep k hk (Or.inl hn)
  · rcases hk with hk | hk
    · exact Or.inl hk
    · exact hmv k hk

/-- a number is answered; the machine has these states -/
def NumPost (w : World) (M : Nat) (Q : Nat → Prop) (r : Int × List St) (e : Ending) (w' : World) : Prop :=
  e = .returned (.int .i64 r.1) ∧ ∃ Q', Mac w' M Q' r.2 ∧ Fr Q w w' Q'

theorem find_two (p : Nat → St → Bool) (S : List St) (h : 2 ≤ S.length) : findS p 0 S = findS p 2 (S.drop 2) := by
  match S, h with
  | a :: b :: S, _ => simp [findS]
theorem find_hit (p : Nat → St → Bool) (S : List St) (k : Nat) (h : k < S.length) (h2 : 2 ≤ k) (hp : p k S[k] = true) : findS p k (S.drop k) = some k := by
  rw [List.drop_eq_getElem_cons h]; simp only [findS]; rw [if_pos ⟨h2, hp⟩]
theorem find_miss (p : Nat → St → Bool) (S : List St) (k : Nat) (h : k < S.length) (hp : p k S[k] = false) : findS p k (S.drop k) = findS p (k + 1) (S.drop (k + 1)) := by
  rw [List.drop_eq_getElem_cons h]; simp only [findS]; rw [if_neg (by simp [hp])]
theorem find_end (p : Nat → St → Bool) (S : List St) (k : Nat) (h : ¬ k < S.length) : findS p k (S.drop k) = none := by
  rw [List.drop_eq_nil_of_le (by omega)]; rfl

theorem mac_cells {w : World} {M : Nat} {Q : Nat → Prop} {S : List St} (h : Mac w M Q S) (h2 : 2 ≤ S.length) : ∃ g cap, w.heap[M]? = some (.cells #[.slice (some ⟨g, 0, none⟩) S.length cap] 97 (0, 0)) ∧ w.ownsRow 0 9 1 (.slice (some ⟨g, 0, none⟩) S.length cap) S.length ((S.map render).map strV) ∧ Q g ∧ S.length ≤ cap ∧ cap ≤ 9223372036854775807 := by
  obtain ⟨v, h1, h2', h3⟩ := h.body
  obtain ⟨g, cap, rfl⟩ := own_form h2' (by omega)
  have hcc := own_cap h2'
  unfold maxLen at hcc
  exact ⟨g, cap, h1, h2', h3 g rfl, hcc.1, by omega⟩

set_option maxHeartbeats 4000000 in
set_option maxRecDepth 1000000 in
theorem put_any (M : Nat) (Q : Nat → Prop) (S : List St) (x : St) (w : World) (h : Mac w M Q S) (h2 : 2 ≤ S.length) (h9 : S.length ≤ 1000) :
    Calls Tryd.prog 76 #[.pointer (some ⟨M, 0, none⟩), strV (render x)] w (NumPost w M Q (putS x S)) := by
  obtain ⟨i0, hi, hz0, hz1, hz2⟩ := info_parts info_string
  obtain ⟨g, cap, hm, hrow, hqg, hcap, hcap2⟩ := mac_cells h h2
  have c0 := cell_block (i := 0) hm rfl
  have f0 := free_block (i := 0) hm
  have hM := heap_lt hm
  have HP : Hid (∀ r, findS (fun _ y => render y == render x) 0 S = r → putS x S = match r with | some i => ((i : Int), S) | none => ((S.length : Int), S ++ [x])) := by
    intro r hr; unfold putS; rw [hr]; cases r <;> rfl
  have HF0 := hide (find_two (fun _ y => render y == render x) S h2)
  have HMAC := hide h
  have HROW := hide hrow
  have HM := hide hm
  have HX : Hid (strV (render x) = .string ⟨(render x).toArray⟩) := rfl
  unfold strV
  clear h hrow hm
  go_enter Tryd.func76, Tryd.ntmps76
  go_wp2_with fail
  go_loop [5] (fun i => ∃ k : Nat, 2 ≤ k ∧ k ≤ S.length ∧ i = .int .i64 k ∧ Hid (findS (fun _ y => render y == render x) 0 S = findS (fun _ y => render y == render x) k (S.drop k))) (fun i => S.length - (intOf i).toNat)
  case atStart => exact ⟨2, by omega, h2, rfl, HF0⟩
  case round =>
    obtain ⟨k, hk2, hk, rfl, HF⟩ := hrel
    by_cases hlt : k < S.length
    · have e1 := own_str_at (i := k) (unhide HROW) (by simpa using hlt)
      simp only [List.getElem_map] at e1
      have hq := eq_strs (render S[k]) (render x)
      have HHIT := hide (find_hit (fun _ y => render y == render x) S k hlt hk2)
      have HMISS := hide (find_miss (fun _ y => render y == render x) S k hlt)
      generalize (⟨(render S[k]).toArray⟩ : ByteArray) = es at *
      cases hc : (render S[k] == render x)
      · rw [hc] at hq
        have HZ := hide ((unhide HF).trans (unhide HMISS hc))
        clear hc HHIT HMISS
        go_wp2_with fail
        go_round
        case rel => exact ⟨k + 1, by omega, by omega, by go_num, HZ⟩
        case measure => simp [intOf]; omega
      · rw [hc] at hq
        have HZ := hide (unhide HP _ ((unhide HF).trans (unhide HHIT hc)))
        clear hc HHIT HMISS
        go_wp2_with fail
        go_ret
        unfold NumPost
        rw [unhide HZ]
        exact ⟨rfl, Q, unhide HMAC, Fr.of_below (Below.refl _ _)⟩
    · have HZ := hide (unhide HP _ ((unhide HF).trans (find_end _ S k hlt)))
      have hg := (unhide HMAC).lt g hqg
      clear HF HP HF0
      go_wp2_with (at_builtin; refine wpList_append_moves _ rfl _ _ 68 rfl 9 i0 (.string ByteArray.empty) 1 16 Tryd.underlying68 hi hz0 hz1 hz2 rfl (by decide) _ _ _ rfl ((unhide HROW).alloc _) ⟨w.heap.size, 0, none⟩ 1 1 [.string ⟨(render x).toArray⟩] rfl rfl ?c1 ?c2 ?c3 ?c4 ?_)
      first
        | (case c1 =>
            intro j u hj
            match j, hj with
            | 0, hj => simp at hj; subst hj; simp [Addr.add])
        | skip
      case c2 => first | rfl | (intro u hu; simp at hu; subst hu; rfl)
      case c3 => unfold maxLen; omega
      case c4 => omega
      intro v' w3 hown' hgrow hmv
      have hnM : ∀ j : Nat, some j = (Value.slice (some ⟨g, 0, none⟩) S.length cap).ownBlock → j = g := fun j hj => by simpa [Value.ownBlock] using hj
      have hMg : M ≠ g := fun e => own_not (unhide HROW) (unhide HM) (by decide) (by rw [e]; rfl)
      have hst := mac_store (w2 := w3) (S' := S ++ [x]) (unhide HMAC) hgrow.os hgrow.tape hgrow.output (by have := hgrow.size; simp at this; omega)
        (fun j hj hjj => by
          rw [hgrow.block j (by simp; omega) (fun e => by
            have := hnM j e
            rcases hjj with hjj | rfl
            · exact hjj (this ▸ hqg)
            · exact hMg this), Below.heap_alloc _ _ _ hj])
        (by rw [List.length_append, show ((S ++ [x]).map render).map strV = S.map (strV ∘ render) ++ [Value.string ⟨(render x).toArray⟩] from by simp [strV]]; exact hown')
        (fun j hj => by rcases hmv j hj with h | h
                        · exact Or.inl (by rw [hnM j h.symm]; exact hqg)
                        · exact Or.inr (by first | omega | (simp at h; omega)))
      obtain ⟨g', cap', rfl⟩ := own_form hown' (by omega)
      have hpp : w3.heap[M]? = some (.cells #[.slice (some ⟨g, 0, none⟩) S.length cap] 97 (0, 0)) := by
        rw [hgrow.block M (by simp; omega) (fun e => hMg (hnM M e)), Below.heap_alloc _ _ _ hM]; exact unhide HM
      have c1 := cell_block (i := 0) hpp rfl
      have f1 := free_block (i := 0) hpp
      have HST := hide hst
      have hws := wrap_small ((S.length : Int) + 1 - 1) (by omega) (by omega)
      clear hst hown' hgrow hmv c0 f0 hpp hnM
      go_wp2_with fail
      go_ret
      unfold NumPost
      rw [unhide HZ]
      obtain ⟨t1, t2⟩ := unhide HST
      exact ⟨by first | rfl | (congr 2; omega), _, t1, t2⟩

end Go.Proofs.YtchhmojnoiephaaDoor
