import Derived.Test.YtchhmojnoiephabGreatDoorWalkK
import Derived.Test.YtchhmojnoiephabGreatDoorPureE
namespace Go.Proofs.YtchhmojnoiephabGreatDoor
open Go.ChangeShapes Go.WideShapes Go.ChangeAt Go.RowKit
set_option linter.unusedVariables false

theorem pcs_cut (L : List UInt8) (fr k : Nat) (hf : fr ≤ k) (hk : k < L.length) (hr : fr + runS (L.drop fr) = k + runS (L.drop k)) (hs : (L[k].toNat : Int) = 59) :
    pcs (L.drop fr) = (L.drop fr).take (k - fr) :: pcs (L.drop (k + 1)) := by
  have h0 := runS_slash L k hk hs
  have h1 := pcsFrom_step L fr (by omega)
  have h2 : runS (L.drop fr) = k - fr := by omega
  have h3 : fr + (k - fr) + 1 = k + 1 := by omega
  rw [h2, h3] at h1
  unfold pcsFrom at h1
  rw [if_pos (by omega), if_pos (by omega)] at h1
  exact h1
theorem pcs_last (L : List UInt8) (fr k : Nat) (hf : fr ≤ k) (hk : k = L.length) (hr : fr + runS (L.drop fr) = k + runS (L.drop k)) :
    pcs (L.drop fr) = [(L.drop fr).take (k - fr)] := by
  have h0 := runS_end L k (by omega)
  have h1 := pcsFrom_step L fr (by omega)
  have h2 : runS (L.drop fr) = k - fr := by omega
  have h3 : ¬ fr + (k - fr) + 1 ≤ L.length := by omega
  rw [h2] at h1
  unfold pcsFrom at h1
  rw [if_pos (by omega), if_neg h3] at h1
  exact h1

set_option maxHeartbeats 1000000 in
theorem pieces_any (s : ByteArray) (w : World) (hs : s.size ≤ 1000000) :
    Calls Tryz.prog 118 #[.string s] w fun e w' => ∃ v, e = .returned v ∧ w'.ownsRow w.heap.size 9 1 v (pcs s.data.toList).length ((pcs s.data.toList).map strV) ∧ Below w.heap.size w w' := by
  obtain ⟨i0, hi, hz0, hz1, hz2⟩ := info_parts info_string
  go_enter Tryz.func118, Tryz.ntmps118
  go_wp2
  go_loopw [3, 4, 5] (fun v fr i wr => ∃ (k a : Nat) (G : List (List UInt8)), k ≤ s.size ∧ a ≤ k ∧ i = .int .i64 k ∧ fr = .int .i64 a ∧ G.length ≤ k ∧ wr.ownsRow w.heap.size 9 1 v G.length (G.map strV) ∧ Hid (pcs s.data.toList = G ++ pcs (s.data.toList.drop a)) ∧ Hid (a + runS (s.data.toList.drop a) = k + runS (s.data.toList.drop k)) ∧ Below w.heap.size w wr)
    (fun _ _ i _ => s.size - (intOf i).toNat)
  case atStart => exact ⟨0, 0, [], Nat.zero_le _, Nat.le_refl _, rfl, rfl, Nat.le_refl _, World.ownsRow_nil _ _ _ _, hide (by simp), hide rfl, Below.refl _ _⟩
  case round =>
    obtain ⟨k, a, G, hk, ha, rfl, rfl, hG, hown, HL, HR, hb⟩ := hrel
    have hB := hb.size
    by_cases hlt : k < s.size
    · by_cases hsl : (s[k].toNat : Int) = 59
      · have hsb : ((s[k].toNat : Int) == 59) = true := by simp [hsl]
        have HC : Hid (pcs (s.data.toList.drop a) = (s.data.toList.drop a).take (k - a) :: pcs (s.data.toList.drop (k + 1))) :=
          pcs_cut s.data.toList a k ha (by rw [len_list]; exact hlt) (unhide HR) (by rw [get_list s k hlt]; exact hsl)
        clear hsl
        go_wp2_with (at_builtin; refine wpList_append_own _ rfl _ _ 107 rfl w.heap.size 9 i0 (.string ByteArray.empty) 1 16 Tryz.underlying107 hi hz0 hz1 hz2 rfl (by decide) _ _ _ rfl (hown.alloc _) ⟨wr.heap.size, 0, none⟩ 1 1 [.string (s.extract a k)] rfl rfl ?c1 ?c2 ?c3 ?c4 ?c5 ?_)
        case c1 =>
          intro j u hj
          match j, hj with
          | 0, hj => simp at hj; subst hj; simp [Addr.add]
        case c2 => intro u hu; simp at hu; subst hu; rfl
        case c3 => unfold maxLen; omega
        case c4 => omega
        case c5 => simp; omega
        intro v' w1 hown' hgrow _
        have hb1 := below_push hb hB hown hgrow
        have hown1 := own_push (strV_cut s a k) hown'
        have hB1 := hb1.size
        clear hown' hgrow hown hb
        go_wp2
        go_roundw
        case rel => exact ⟨k + 1, k + 1, G ++ [(s.data.toList.drop a).take (k - a)], by omega, by omega, by go_num, by go_num, by simp; omega, hown1, hide (by rw [unhide HL, unhide HC]; simp), hide rfl, hb1⟩
        case measure => simp [intOf]; omega
      · have hsb : ((s[k].toNat : Int) == 59) = false := by simp [hsl]
        have HC := hide (runS_other s.data.toList k (by rw [len_list]; exact hlt) (by rw [get_list s k hlt]; exact hsl))
        clear hsl
        go_wp2
        go_roundw
        case rel => exact ⟨k + 1, a, G, by omega, by omega, by go_num, rfl, by omega, hown, HL, hide (by rw [unhide HR, unhide HC]; omega), hb⟩
        case measure => simp [intOf]; omega
    · have HC : Hid (pcs s.data.toList = G ++ [(s.data.toList.drop a).take (s.size - a)]) := by
        have := pcs_last s.data.toList a k ha (by rw [len_list]; omega) (unhide HR)
        rw [unhide HL, this]
        have : k = s.size := by omega
        rw [this]; rfl
      go_wp2_with (at_builtin; refine wpList_append_own _ rfl _ _ 107 rfl w.heap.size 9 i0 (.string ByteArray.empty) 1 16 Tryz.underlying107 hi hz0 hz1 hz2 rfl (by decide) _ _ _ rfl (hown.alloc _) ⟨wr.heap.size, 0, none⟩ 1 1 [.string (s.extract a s.size)] rfl rfl ?d1 ?d2 ?d3 ?d4 ?d5 ?_)
      case d1 =>
        intro j u hj
        match j, hj with
        | 0, hj => simp at hj; subst hj; simp [Addr.add]
      case d2 => intro u hu; simp at hu; subst hu; rfl
      case d3 => unfold maxLen; omega
      case d4 => omega
      case d5 => simp; omega
      intro v' w1 hown' hgrow _
      have hb1 := below_push hb hB hown hgrow
      have hown1 := own_push (strV_cut s a s.size) hown'
      clear hown' hgrow hown hb
      go_wp2
      go_ret
      exact ⟨v', rfl, by rw [unhide HC]; exact hown1, hb1⟩


theorem own_below {w w' : World} {B e sz n : Nat} {v : Value} {xs : List Value} (h : w.ownsRow B e sz v n xs) (hb : Below w.heap.size w w') : w'.ownsRow B e sz v n xs := by
  obtain ⟨h1, h2 | ⟨g, cap, cur, rfl, h3, h4, h5⟩⟩ := h
  · exact ⟨h1, Or.inl h2⟩
  · refine ⟨h1, Or.inr ⟨g, cap, cur, rfl, h3, ?_, h5⟩⟩
    rw [hb.block g (by
      refine Nat.lt_of_not_le fun hn => ?_
      rw [Array.getElem?_eq_none hn] at h4; cases h4)]
    exact h4

/-- two owned rows of different elements lie in different blocks -/
theorem own_apart {w w' : World} {B B' e e' sz sz' n n' : Nat} {v v' : Value} {xs xs' : List Value} (h : w.ownsRow B e sz v n xs) (h' : w.ownsRow B' e' sz' v' n' xs') (hne : e ≠ e') (hg : w.grownBy w' v'.ownBlock) : w'.ownsRow B e sz v n xs := by
  refine h.kept hg ?_
  obtain ⟨_, ⟨rfl, _⟩ | ⟨g, cap, cur, rfl, _, h4, _⟩⟩ := h
  · exact Or.inl rfl
  · refine Or.inr fun he => ?_
    obtain ⟨_, ⟨rfl, _⟩ | ⟨g', cap', cur', rfl, _, h4', _⟩⟩ := h'
    · cases he
    · have hgg : g = g' := by simpa [Value.ownBlock] using he
      subst hgg
      rw [h4] at h4'
      simp only [Option.some.injEq, Obj.cells.injEq] at h4'
      exact hne h4'.2.1

def stCells : List St → List Value → List Value
  | x :: xs, ev :: evs => strV x.ans :: ev :: .int .i64 x.star :: stCells xs evs
  | _, _ => []
theorem stCells_snoc (xs : List St) (evs : List Value) (x : St) (ev : Value) (h : xs.length = evs.length) : stCells (xs ++ [x]) (evs ++ [ev]) = stCells xs evs ++ [strV x.ans, ev, .int .i64 x.star] := by
  induction xs generalizing evs with
  | nil => cases evs with
    | nil => rfl
    | cons e es => simp at h
  | cons y ys ih => cases evs with
    | nil => simp at h
    | cons e es => simp only [List.cons_append, stCells]; rw [ih es (by simpa using h)]

/-- a slice of states in memory, each with its edges -/
def StRow (w : World) (B : Nat) (v : Value) (xs : List St) : Prop :=
  ∃ evs : List Value, xs.length = evs.length ∧ w.ownsRow B 169 3 v xs.length (stCells xs evs) ∧
    ∀ (i : Nat) (x : St) (ev : Value), xs[i]? = some x → evs[i]? = some ev → w.ownsRow B 171 2 ev x.edges.length (edgeCells x.edges)

theorem StRow.below {w w' : World} {B : Nat} {v : Value} {xs : List St} (h : StRow w B v xs) (hb : Below w.heap.size w w') : StRow w' B v xs := by
  obtain ⟨evs, h1, h2, h3⟩ := h
  exact ⟨evs, h1, own_below h2 hb, fun i x ev hx he => own_below (h3 i x ev hx he) hb⟩
theorem StRow.nil (w : World) (B : Nat) : StRow w B (.slice none 0 0) [] := ⟨[], rfl, World.ownsRow_nil _ _ _ _, fun i x ev hx _ => by simp at hx⟩

theorem own_mono {w : World} {B B' e sz n : Nat} {v : Value} {xs : List Value} (h : w.ownsRow B e sz v n xs) (hB : B' ≤ B) : w.ownsRow B' e sz v n xs := by
  obtain ⟨h1, h2 | ⟨g, cap, cur, rfl, h3, h4⟩⟩ := h
  · exact ⟨h1, Or.inl h2⟩
  · exact ⟨h1, Or.inr ⟨g, cap, cur, rfl, by omega, h4⟩⟩

/-- a state is put behind the others -/
theorem StRow.push {w w1 : World} {B : Nat} {v v' ev : Value} {xs : List St} {x : St} {evs : List Value} {o : Obj} (h1 : xs.length = evs.length) (h2 : w.ownsRow B 169 3 v xs.length (stCells xs evs))
    (h3 : ∀ (i : Nat) (x : St) (ev : Value), xs[i]? = some x → evs[i]? = some ev → w.ownsRow B 171 2 ev x.edges.length (edgeCells x.edges))
    (he : w.ownsRow B 171 2 ev x.edges.length (edgeCells x.edges))
    (ho : w1.ownsRow B 169 3 v' (xs.length + 1) (stCells xs evs ++ [strV x.ans, ev, .int .i64 x.star])) (hg : (w.alloc o).grownBy w1 v.ownBlock) : StRow w1 B v' (xs ++ [x]) := by
  refine ⟨evs ++ [ev], by simp [h1], by rw [stCells_snoc _ _ _ _ h1, List.length_append]; exact ho, fun i y e hy hev => ?_⟩
  by_cases hi : i < xs.length
  · rw [List.getElem?_append_left hi] at hy
    rw [List.getElem?_append_left (by omega)] at hev
    exact own_apart ((h3 i y e hy hev).alloc o) (h2.alloc o) (by decide) hg
  · rw [List.getElem?_append_right (by omega)] at hy
    rw [List.getElem?_append_right (by omega)] at hev
    have hz : i - xs.length = 0 := by
      refine Nat.eq_zero_of_not_pos fun hp => ?_
      rw [List.getElem?_eq_none (by simp; omega)] at hy; cases hy
    rw [hz] at hy
    rw [← h1, hz] at hev
    simp at hy hev
    subst hy hev
    exact own_apart (he.alloc o) (h2.alloc o) (by decide) hg

theorem info_state : (Tryz.prog.info? 169).map (fun i => (i.zero, i.size, i.bytes)) = some (some (.agg #[.string ByteArray.empty, .slice none 0 0, .int .i64 0]), 3, 48) := by kernel_rfl

/-- a string of an owned row -/
theorem own_str_at {w : World} {B e g n cap i : Nat} {L : List (List UInt8)} (h : w.ownsRow B e 1 (.slice (some ⟨g, 0, none⟩) n cap) n (L.map strV)) (hi : i < L.length) : w.cell? ⟨g, i, none⟩ = some (.string ⟨L[i].toArray⟩) := by
  have := h.cells (g := g) rfl i (strV L[i]) (by simp [List.getElem?_eq_getElem hi])
  cases i with
  | zero => simpa [Addr.add, strV] using this
  | succ i => simpa [Addr.add, strV] using this
theorem own_cap {w : World} {B e sz g n cap : Nat} {xs : List Value} (h : w.ownsRow B e sz (.slice (some ⟨g, 0, none⟩) n cap) n xs) : n ≤ cap ∧ cap ≤ maxLen := by
  obtain ⟨_, ⟨h0, _⟩ | ⟨g', cap', cur, he, _, _, h1, h2, _⟩⟩ := h
  · cases h0
  · simp only [Value.slice.injEq] at he
    obtain ⟨_, _, rfl⟩ := he
    exact ⟨h1, h2⟩
theorem StRow.alloc {w : World} {B : Nat} {v : Value} {xs : List St} (h : StRow w B v xs) (o : Obj) : StRow (w.alloc o) B v xs := by
  obtain ⟨evs, h1, h2, h3⟩ := h
  exact ⟨evs, h1, h2.alloc o, fun i x ev hx he => (h3 i x ev hx he).alloc o⟩
theorem StRow.slice {w : World} {B : Nat} {v : Value} {xs : List St} (h : StRow w B v xs) : ∃ a l c, v = .slice a l c := by
  obtain ⟨evs, h1, h2, h3⟩ := h
  exact own_slice h2

/-- what 'States' answers -/
def CodePost (w : World) (L : List UInt8) (e : Ending) (w' : World) : Prop :=
  ∃ (v : Value) (k : Nat) (ok : Bool), e = .returned (.tuple #[v, .int .i64 (k : Int), .bool ok]) ∧ Below w.heap.size w w' ∧
    ((ok = false ∧ codeP L = .error k ∧ v = .slice none 0 0) ∨ (ok = true ∧ k = 0 ∧ ∃ xs, codeP L = .ok xs ∧ StRow w' w.heap.size v xs))

set_option maxHeartbeats 4000000 in
set_option maxRecDepth 1000000 in
theorem states_any (s : ByteArray) (w : World) (hs : s.size ≤ 40000) :
    Calls Tryz.prog 103 #[.string s] w (CodePost w s.data.toList) := by
  obtain ⟨i0, hi, hz0, hz1, hz2⟩ := info_parts info_state
  have hpl := pcs_len s.data.toList
  rw [len_list] at hpl
  have hne := pcs_ne s.data.toList
  go_enter Tryz.func103, Tryz.ntmps103
  go_wp2_with fail
  refine (pieces_any s _ (by omega)).mono ?_
  rintro e w1 ⟨lv, rfl, hown1, hb1⟩
  generalize hP : pcs s.data.toList = P at *
  have HP := hide hP
  clear hP
  have hPl : 0 < P.length := List.length_pos_iff.2 hne
  obtain ⟨g, cap, rfl⟩ := own_form hown1 hPl
  have hcc := own_cap hown1
  unfold maxLen at hcc
  obtain ⟨hcap, hcap2⟩ := hcc
  by_cases h2 : P.length < 2
  · go_wp2_with fail
    go_ret3
    exact ⟨_, 0, false, rfl, hb1, Or.inl ⟨rfl, codeP_few _ (by rw [unhide HP]; exact h2), rfl⟩⟩
  have HC := hide (codeP_else s.data.toList (by rw [unhide HP]; exact h2))
  rw [unhide HP] at HC
  have HO1 := hide hown1
  have HPL := hide hpl
  have hp2 : P.length ≤ 40001 := by have := hpl.2; omega
  clear hown1 hpl
  go_wp2_with fail
  go_loopg [6, 7, 8, 9] P.length (fun gk v i _ _ wr => ∃ (k : Nat) (done : List St), k ≤ P.length ∧ k ≤ 1000 ∧ gk = P.length - k ∧ done.length = k ∧ i = .int .i64 k ∧ StRow wr w.heap.size v done ∧ wr.ownsRow w.heap.size 9 1 (.slice (some ⟨g, 0, none⟩) P.length cap) P.length (P.map strV) ∧ Below w.heap.size w wr ∧ Hid (codeP s.data.toList = statesOn done (statesR (P.length : Int) k (P.drop k))))
  case atStart => exact ⟨0, [], by omega, by omega, by omega, rfl, rfl, StRow.nil _ _, unhide HO1, hb1, hide (by rw [statesOn_nil]; exact unhide HC)⟩
  case round =>
    obtain ⟨k, done, hk, hk1, rfl, hdl, rfl, hrow, hl, hb, HE⟩ := hrel
    obtain ⟨ao, lo, co, rfl⟩ := hrow.slice
    have HDL := hide hdl
    clear hdl
    by_cases hlt : k < P.length
    · by_cases hth : k = 1000
      · have HZ : Hid (codeP s.data.toList = .error k) := by
          have h := unhide HE
          subst hth
          rw [statesR_many _ _ hlt] at h; exact h
        have hbk : ((k : Int) == 1000) = true := by simp; omega
        have HB := hide hb
        clear hrow hl hb hth
        go_wp2_with fail
        go_ret3
        exact ⟨_, k, false, rfl, unhide HB, Or.inl ⟨rfl, unhide HZ, rfl⟩⟩
      · have hbk : ((k : Int) == 1000) = false := by simp; omega
        have hcell := own_str_at hl hlt
        have hsz : (⟨P[k].toArray⟩ : ByteArray).size ≤ 1000000 := by
          have := (unhide HPL).1 P[k] (List.getElem_mem hlt)
          rw [Lib.size_eq]; simp; omega
        have HROW := hide hrow
        have HL := hide hl
        have HB := hide hb
        clear hrow hl hb
        go_wp2_with fail
        refine (state_any _ _ _ hsz (by omega) (by omega)).mono ?_
        rintro e w2 ⟨a, av, lv, cv, st, ok, rfl, hb2, hcase⟩
        rw [show (⟨P[k].toArray⟩ : ByteArray).data.toList = P[k] from by simp] at hcase
        have HB2 := hide hb2
        have hbw : w.heap.size ≤ w2.heap.size := Nat.le_trans (unhide HB).size hb2.size
        clear hb2
        rcases hcase with ⟨rfl, hst⟩ | ⟨rfl, x, hst, ha, hsx, hoe⟩
        · have HZ : Hid (codeP s.data.toList = .error k) := by
            have h := unhide HE
            rw [statesR_bad _ _ _ hlt hth hst] at h; exact h
          clear hst
          go_wp2_with fail
          go_ret3
          exact ⟨_, k, false, rfl, (((unhide HB).trans ((unhide HB2).mono (unhide HB).size)).alloc hbw _), Or.inl ⟨rfl, unhide HZ, rfl⟩⟩
        · have HZ := hide ((unhide HE).trans (statesR_on _ _ _ done x hlt hth hst))
          have HX := hide ha
          have HS := hide hsx
          have HOE := hide hoe
          clear hst ha hsx hoe
          obtain ⟨evs, he1, he2, he3⟩ := (unhide HROW).below (unhide HB2)
          have HE1 := hide he1
          have HE2 := hide he2
          have HE3 := hide he3
          clear he1 he2 he3
          go_wp2_with (at_builtin; refine wpList_append_own _ rfl _ _ 161 rfl w.heap.size 169 i0 (.agg #[.string ByteArray.empty, .slice none 0 0, .int .i64 0]) 3 48 Tryz.underlying161 hi hz0 hz1 hz2 rfl (by decide) _ _ _ rfl (((unhide HE2).alloc _).alloc _) ⟨w2.heap.size + 1, 0, none⟩ 1 1 [.string a, .slice av lv cv, .int .i64 st] rfl rfl ?c1 ?c2 ?c3 ?c4 ?c5 ?_)
          case c1 =>
            intro j u hj
            match j, hj with
            | 0, hj => simp at hj; subst hj; simp [Addr.add]
            | 1, hj => simp at hj; subst hj; simp [Addr.add]
            | 2, hj => simp at hj; subst hj; simp [Addr.add]
          case c2 => intro u hu; simp at hu; rcases hu with rfl | rfl | rfl <;> rfl
          case c3 => have := unhide HDL; unfold maxLen; omega
          case c4 => have := unhide HDL; omega
          case c5 => simp; omega
          intro v' w4 hown' hgrow _
          have hxx : [Value.string a, .slice av lv cv, .int .i64 st] = [strV x.ans, .slice av lv cv, .int .i64 x.star] := by
            rw [← unhide HX, ← unhide HS]; unfold strV; simp
          rw [hxx] at hown'
          have hnew := StRow.push (unhide HE1) ((unhide HE2).alloc _) (fun i x ev hx he => (unhide HE3 i x ev hx he).alloc _) ((own_mono (unhide HOE) (unhide HB).size).alloc _) hown' hgrow
          have hb3 : Below w.heap.size w w4 := ((((unhide HB).trans ((unhide HB2).mono (unhide HB).size)).alloc hbw _).alloc (by simp; omega) _).grown hgrow (by simp; omega) (fun k hk => ((unhide HE2).lt k hk).1)
          have hl3 := own_apart (((own_below (unhide HL) (unhide HB2)).alloc _).alloc _) (((unhide HE2).alloc _).alloc _) (by decide) hgrow
          have HNEW := hide hnew
          have HB3 := hide hb3
          have HL3 := hide hl3
          clear hown' hgrow hnew hb3 hl3 hxx HE2 HE3 HE1 HOE HL HROW HB HB2
          go_wp2_with fail
          go_roundg (P.length - (k + 1))
          case measure => omega
          case rel => exact ⟨k + 1, done ++ [x], by omega, by omega, rfl, by have := unhide HDL; simp; omega, by go_num, unhide HNEW, unhide HL3, unhide HB3, HZ⟩
    · have HZ : Hid (codeP s.data.toList = .ok done) := by
        have h := unhide HE
        rw [statesR_end _ _ _ hlt] at h
        simp [statesOn] at h
        exact h
      have HROW := hide hrow
      have HB := hide hb
      clear hrow hl hb
      go_wp2_with fail
      go_ret3
      exact ⟨_, 0, true, rfl, unhide HB, Or.inr ⟨rfl, rfl, done, unhide HZ, unhide HROW⟩⟩

theorem codeR_long (s : ByteArray) (h : 40000 < (s.size : Int)) : codeR s.data.toList = (1, 0) := by
  unfold codeR; rw [if_pos (by rw [len_list]; omega)]
theorem codeR_bad (s : ByteArray) (k : Nat) (h : (s.size : Int) ≤ 40000) (hc : codeP s.data.toList = .error k) : codeR s.data.toList = (8, (k : Int)) := by
  unfold codeR; rw [if_neg (by rw [len_list]; omega), hc]
theorem codeR_good (s : ByteArray) (xs : List St) (h : (s.size : Int) ≤ 40000) (hc : codeP s.data.toList = .ok xs) : codeR s.data.toList = (0, 0) := by
  unfold codeR; rw [if_neg (by rw [len_list]; omega), hc]

set_option maxHeartbeats 1000000 in
theorem refCode_any (s : ByteArray) (w : World) (hs : s.size ≤ maxLen) :
    Calls Tryz.prog 85 #[.string s] w fun e w' => e = .returned (.tuple #[.int .i64 (codeR s.data.toList).1, .int .i64 (codeR s.data.toList).2]) ∧ Below w.heap.size w w' := by
  unfold maxLen at hs
  by_cases h40 : 40000 < (s.size : Int)
  · go_enter Tryz.func85, Tryz.ntmps85
    go_wp2_with fail
    go_ret2
    exact ⟨ret_ints (codeR_long s h40), Below.refl _ _⟩
  · go_enter Tryz.func85, Tryz.ntmps85
    go_wp2_with fail
    refine (states_any s _ (by omega)).mono ?_
    rintro e w1 ⟨v, k, ok, rfl, hb, hcase⟩
    rcases hcase with ⟨rfl, hc, rfl⟩ | ⟨rfl, rfl, xs, hc, hrow⟩
    · have HZ := hide (codeR_bad s k (by omega) hc)
      clear hc
      go_wp2_with fail
      go_ret2
      exact ⟨ret_ints (unhide HZ), hb⟩
    · have HZ := hide (codeR_good s xs (by omega) hc)
      clear hc hrow
      go_wp2_with fail
      go_ret2
      exact ⟨ret_ints (unhide HZ), hb⟩

end Go.Proofs.YtchhmojnoiephabGreatDoor
