import Derived.Test.YtchhmojnoiephaaDoorMacB
/- The program's threads that live on when a level is met; the levels that they name. -/
namespace Go.Proofs.YtchhmojnoiephaaDoor
open Go.ChangeShapes Go.WideShapes Go.ChangeAt Go.RowKit
set_option linter.unusedVariables false

def meetC (m : List UInt8) (c : ThrC) : Option ThrC :=
  if leftB (absT c).1 && (headR (absT c).1 == [43] || headR (absT c).1 == m) then some (c.1, c.2.1 + (headR (absT c).1).length + 1, c.2.2)
  else if leftB (absT c).1 && headR (absT c).1 == [35] then some c else none
def meetCs (m : List UInt8) (T : List ThrC) : List ThrC := T.filterMap (meetC m)

theorem levsFrom_cons (f : List UInt8) (st : Nat) (l : List UInt8) (r : List (List UInt8)) (h : levsFrom f st = l :: r) : st ≤ f.length ∧ st + l.length ≤ f.length ∧ levsFrom f (st + l.length + 1) = r := by
  by_cases hst : st ≤ f.length
  · rw [levsFrom_step f st hst] at h
    simp only [List.cons.injEq] at h
    have hr := runLen_le (f.drop st)
    rw [List.length_drop] at hr
    have hl : l.length = runLen (f.drop st) := by rw [← h.1, List.length_take, List.length_drop]; omega
    exact ⟨hst, by omega, by rw [hl]; exact h.2⟩
  · rw [levsFrom_behind f st hst] at h; cases h

theorem meetC_abs (m : List UInt8) (c : ThrC) : (meetC m c).map absT = meetT m (absT c) := by
  obtain ⟨f, st, who⟩ := c
  unfold meetC
  have e : absT (f, st, who) = (levsFrom f st, who) := rfl
  rw [e]
  cases hr : levsFrom f st with
  | nil => simp [leftB, meetT]
  | cons l r =>
    obtain ⟨_, _, h3⟩ := levsFrom_cons f st l r hr
    simp only [leftB, headR, Bool.true_and, meetT]
    by_cases h1 : l = [43] ∨ l = m
    · rw [if_pos (by rcases h1 with h | h <;> simp [h]), if_pos h1]
      simp only [Option.map_some, absT]; rw [h3]
    · rw [if_neg (by simpa using h1), if_neg h1]
      by_cases h2 : l = [35]
      · rw [if_pos (by simp [h2]), if_pos h2]; simp only [Option.map_some, e, hr]
      · rw [if_neg (by simpa using h2), if_neg h2]; rfl
theorem meetC_ok (m : List UInt8) (c u : ThrC) (hc : okC c) (h : meetC m c = some u) : okC u := by
  obtain ⟨f, st, who⟩ := c
  unfold meetC at h
  split at h
  · rename_i hh
    simp only [Option.some.injEq] at h; subst h
    have e : absT (f, st, who) = (levsFrom f st, who) := rfl
    rw [e] at hh ⊢
    cases hr : levsFrom f st with
    | nil => rw [hr] at hh; simp [leftB] at hh
    | cons l r =>
      obtain ⟨_, h2, _⟩ := levsFrom_cons f st l r hr
      have := hc.1
      simp only [headR] at *
      exact ⟨hc.1, by show st + l.length + 1 ≤ 25; omega⟩
  · split at h
    · simp only [Option.some.injEq] at h; subst h; exact hc
    · cases h
theorem meetCs_abs (m : List UInt8) (T : List ThrC) : (meetCs m T).map absT = meetL m (T.map absT) := by
  unfold meetCs meetL
  induction T with
  | nil => rfl
  | cons c T ih =>
    have h := meetC_abs m c
    rw [List.map_cons]
    cases hc : meetC m c with
    | none => rw [hc] at h; rw [List.filterMap_cons_none hc, List.filterMap_cons_none (by rw [← h]; rfl)]; exact ih
    | some u => rw [hc] at h; rw [List.filterMap_cons_some hc, List.filterMap_cons_some (b := absT u) (by rw [← h]; rfl), List.map_cons, ih]
theorem meetCs_ok (m : List UInt8) (T : List ThrC) (h : ∀ c ∈ T, okC c) : ∀ c ∈ meetCs m T, okC c := by
  intro u hu
  obtain ⟨c, hc, he⟩ := List.mem_filterMap.1 hu
  exact meetC_ok m c u (h c hc) he
theorem meetCs_len (m : List UInt8) (T : List ThrC) : (meetCs m T).length ≤ T.length := List.length_filterMap_le _ _
theorem meetCs_some (m : List UInt8) (T : List ThrC) (k : Nat) (h : k < T.length) (u : ThrC) (hu : meetC m T[k] = some u) : meetCs m (T.take (k + 1)) = meetCs m (T.take k) ++ [u] := by
  unfold meetCs
  rw [List.take_succ_eq_append_getElem h, List.filterMap_append]
  congr 1
  rw [List.filterMap_cons_some hu]; rfl
theorem meetCs_none (m : List UInt8) (T : List ThrC) (k : Nat) (h : k < T.length) (hu : meetC m T[k] = none) : meetCs m (T.take (k + 1)) = meetCs m (T.take k) := by
  unfold meetCs
  rw [List.take_succ_eq_append_getElem h, List.filterMap_append, List.filterMap_cons_none hu]; simp

theorem info_thr : (Tryd.prog.info? 66).map (fun i => (i.zero, i.size, i.bytes)) = some (some (.agg #[.string ByteArray.empty, .int .i64 0, .int .i64 0]), 3, 32) := by kernel_rfl

theorem own_setX {w : World} {B e sz n X i : Nat} {v u : Value} {xs : List Value} (h : w.ownsRow B e sz v n xs) (hX : ∀ k, v.ownBlock = some k → k ≠ X) : (w.setCell ⟨X, i, none⟩ u).ownsRow B e sz v n xs :=
  own_same h (fun k hk => Below.heap_setCell _ _ _ _ (hX k hk))

/-- what is known behind 'leftLevel' of a thread that lies in the block behind wr's heap -/
theorem thr_facts {B0 : Nat} {w wr w1 : World} {a b c : Value} {nx : Value} {n : Nat} {xs : List Value} (hb : Below w.heap.size w wr) (hrow : wr.ownsRow w.heap.size 66 3 nx n xs)
    (hb1 : Below ((wr.alloc (.cells #[a, b, c] 66)).heap.size) (wr.alloc (.cells #[a, b, c] 66)) w1) :
    Below w.heap.size w w1 ∧ w1.heap[wr.heap.size]? = some (.cells #[a, b, c] 66 (0, 0)) ∧ w1.ownsRow w.heap.size 66 3 nx n xs ∧ wr.heap.size < w1.heap.size ∧ ∀ k, nx.ownBlock = some k → k ≠ wr.heap.size := by
  have hs := hb1.size
  simp at hs
  refine ⟨(hb.alloc hb.size _).trans (hb1.mono (by have := hb.size; simp; omega)), ?_, own_below (hrow.alloc _) hb1, by omega, fun k hk => ?_⟩
  · rw [hb1.block _ (by simp)]; exact (MapKept.heap_alloc wr _).1
  · have := (hrow.lt k hk).2; omega

set_option maxHeartbeats 4000000 in
set_option maxRecDepth 1000000 in
theorem meet_any (T : List ThrC) (m : List UInt8) (v : Value) (B : Nat) (w : World) (hT : ∀ c ∈ T, okC c) (hl : T.length ≤ 1000) (hown : w.ownsRow B 66 3 v T.length (thrCells T)) :
    Calls Tryd.prog 62 #[v, strV m] w fun e w' => ∃ v', e = .returned v' ∧ w'.ownsRow w.heap.size 66 3 v' (meetCs m T).length (thrCells (meetCs m T)) ∧ Below w.heap.size w w' := by
  obtain ⟨i0, hi, hz0, hz1, hz2⟩ := info_parts info_thr
  obtain ⟨av, lv, cv, rfl⟩ := own_slice hown
  have hlv : lv = T.length := own_len hown
  subst hlv
  have HO := hide hown
  unfold strV
  clear hown
  go_enter Tryd.func62, Tryd.ntmps62
  go_wp2_with fail
  go_loopg [5, 7, 8, 9, 12] T.length (fun gk nx _ _ _ i wr => ∃ k : Nat, k ≤ T.length ∧ gk = T.length - k ∧ i = .int .i64 k ∧ wr.ownsRow w.heap.size 66 3 nx (meetCs m (T.take k)).length (thrCells (meetCs m (T.take k))) ∧ Below w.heap.size w wr)
  case atStart => exact ⟨0, by omega, by omega, rfl, World.ownsRow_nil _ _ _ _, Below.refl _ _⟩
  case round =>
    obtain ⟨k, hk, rfl, rfl, hrow, hb⟩ := hrel
    have hbs := hb.size
    by_cases hlt : k < T.length
    · obtain ⟨g, cap, hv⟩ := own_form (unhide HO) (by omega)
      simp only [Value.slice.injEq] at hv
      obtain ⟨rfl, _, rfl⟩ := hv
      have hcc := own_cap (unhide HO)
      unfold maxLen at hcc
      obtain ⟨hcap, hcap2⟩ := hcc
      obtain ⟨e1, e2, e3⟩ := own_thr (own_below (unhide HO) hb) hlt
      have hok := hT _ (List.getElem_mem hlt)
      have HS := hide (leftLevel_any T[k] hok)
      have hq43 := eq_str (headR (absT T[k]).1) 43
      have hq35 := eq_str (headR (absT T[k]).1) 35
      have hqm := eq_strs (headR (absT T[k]).1) m
      have hlen : (⟨(headR (absT T[k]).1).toArray⟩ : ByteArray).size = (headR (absT T[k]).1).length := arr_size _
      have hhl : (headR (absT T[k]).1).length ≤ 24 := by
        have e : absT T[k] = (levsFrom T[k].1 T[k].2.1, T[k].2.2) := rfl
        rw [e]
        cases hr : levsFrom T[k].1 T[k].2.1 with
        | nil => simp [headR]
        | cons l r => have := (levsFrom_cons _ _ _ _ hr).2.1; have := hok.1; simp only [headR]; omega
      have HSOME := hide (meetCs_some m T k hlt)
      have HNONE := hide (meetCs_none m T k hlt)
      unfold meetC at HSOME HNONE
      have hcl := meetCs_len m (T.take k)
      have hcl2 : (T.take k).length ≤ k := by simp; omega
      have hst25 := hok.2
      have HES : Hid (strV T[k].1 = .string ⟨T[k].1.toArray⟩) := rfl
      have HB := hide hb
      have HROW := hide hrow
      unfold strV at HS
      clear hb hrow
      generalize T[k] = c at *
      clear hok
      generalize hhn : (headR (absT c).1).length = hn at *
      have hlen2 : (((⟨(headR (absT c).1).toArray⟩ : ByteArray).size : Nat) : Int) = (hn : Int) := by rw [hlen]
      generalize (⟨(headR (absT c).1).toArray⟩ : ByteArray) = lev at *
      generalize (headR (absT c).1 == [43]) = b43 at *
      generalize (headR (absT c).1 == [35]) = b35 at *
      generalize (headR (absT c).1 == m) = bm at *
      generalize leftB (absT c).1 = lb at *
      clear hhn
      obtain ⟨f, st, who⟩ := c
      simp only at e1 e2 e3 HS HSOME HNONE HES hst25
      generalize (⟨f.toArray⟩ : ByteArray) = es at *
      cases lb
      · have HZ := hide (unhide HNONE rfl)
        clear HSOME HNONE
        go_wp2_with fail
        refine (unhide HS _).mono ?_
        rintro e w1 ⟨rfl, hb1⟩
        obtain ⟨hb2, hx, hrow1, hlt1, hne⟩ := thr_facts (B0 := 0) (unhide HB) (unhide HROW) hb1
        have HB2 := hide hb2
        have HROW1 := hide hrow1
        clear hb1 hb2 hx hrow1 hne HB HROW
        go_wp2_with fail
        go_roundg (T.length - (k + 1))
        case measure => omega
        case rel => exact ⟨k + 1, by omega, rfl, by go_num, by rw [unhide HZ]; exact unhide HROW1, unhide HB2⟩
      · cases b43
        · cases bm
          · cases b35
            · have HZ := hide (unhide HNONE rfl)
              clear HSOME HNONE
              go_wp2_with fail
              refine (unhide HS _).mono ?_
              rintro e w1 ⟨rfl, hb1⟩
              obtain ⟨hb2, hx, hrow1, hlt1, hne⟩ := thr_facts (B0 := 0) (unhide HB) (unhide HROW) hb1
              have HB2 := hide hb2
              have HROW1 := hide hrow1
              clear hb1 hb2 hx hrow1 hne HB HROW
              go_wp2_with fail
              go_roundg (T.length - (k + 1))
              case measure => omega
              case rel => exact ⟨k + 1, by omega, rfl, by go_num, by rw [unhide HZ]; exact unhide HROW1, unhide HB2⟩
            · have HZ := hide (unhide HSOME _ rfl)
              clear HSOME HNONE
              go_wp2_with fail
              refine (unhide HS _).mono ?_
              rintro e w1 ⟨rfl, hb1⟩
              obtain ⟨hb2, hx, hrow1, hlt1, hne⟩ := thr_facts (B0 := 0) (unhide HB) (unhide HROW) hb1
              have c0 := cell_block (i := 0) hx rfl
              have c1 := cell_block (i := 1) hx rfl
              have c2 := cell_block (i := 2) hx rfl
              have HB2 := hide hb2
              have HROW1 := hide hrow1
              clear hb1 hb2 hx hrow1 hne HB HROW
              go_wp2_with (at_builtin; refine wpList_append_own _ rfl _ _ 61 rfl w.heap.size 66 i0 (.agg #[.string ByteArray.empty, .int .i64 0, .int .i64 0]) 3 32 Tryd.underlying61 hi hz0 hz1 hz2 rfl (by decide) _ _ _ rfl ((unhide HROW1).alloc _) ⟨w1.heap.size, 0, none⟩ 1 1 [.string es, .int .i64 (st : Int), .int .i64 who] rfl rfl ?c1 ?c2 ?c3 ?c4 ?c5 ?_)
              case c1 =>
                intro j u hj
                match j, hj with
                | 0, hj => simp at hj; subst hj; first | (simp [Addr.add]; done) | (simp [Addr.add]; rw [World.cell?_alloc_at _ _ _ _ (by simp)]; rfl)
                | 1, hj => simp at hj; subst hj; first | (simp [Addr.add]; done) | (simp [Addr.add]; rw [World.cell?_alloc_at _ _ _ _ (by simp)]; rfl)
                | 2, hj => simp at hj; subst hj; first | (simp [Addr.add]; done) | (simp [Addr.add]; rw [World.cell?_alloc_at _ _ _ _ (by simp)]; rfl)
              case c2 => intro u hu; simp at hu; rcases hu with rfl | rfl | rfl <;> rfl
              case c3 => unfold maxLen; omega
              case c4 => omega
              case c5 => simp; omega
              intro v' w2 hown' hgrow _
              have HO2 : Hid (w2.ownsRow w.heap.size 66 3 v' (meetCs m (T.take (k + 1))).length (thrCells (meetCs m (T.take (k + 1))))) := by
                unfold Hid
                rw [unhide HZ, thrCells_snoc, List.length_append]
                simp only [unhide HES]
                exact hown'
              have HB3 : Hid (Below w.heap.size w w2) := ((unhide HB2).alloc (by omega) _).grown hgrow (by simp; omega) (fun k hk => ((unhide HROW1).lt k hk).1)
              clear hown' hgrow HB2 HROW1
              go_wp2_with fail
              go_roundg (T.length - (k + 1))
              case measure => omega
              case rel => exact ⟨k + 1, by omega, rfl, by go_num, unhide HO2, unhide HB3⟩
          · have HZ := hide (unhide HSOME _ rfl)
            clear HSOME HNONE
            go_wp2_with fail
            refine (unhide HS _).mono ?_
            rintro e w1 ⟨rfl, hb1⟩
            obtain ⟨hb2, hx, hrow1, hlt1, hne⟩ := thr_facts (B0 := 0) (unhide HB) (unhide HROW) hb1
            have f1 := free_block (i := 1) hx
            have c0 := cell_block (i := 0) hx rfl
            have c1 := cell_block (i := 1) hx rfl
            have c2 := cell_block (i := 2) hx rfl
            have HB2 := hide (hb2.setCell (B := w.heap.size) (p := ⟨wr.heap.size, 1, none⟩) hbs (.int .i64 ((st : Int) + (hn : Int) + 1)))
            have HROW1 := hide (own_setX (i := 1) (u := .int .i64 ((st : Int) + (hn : Int) + 1)) hrow1 hne)
            clear hb1 hb2 hx hrow1 hne HB HROW
            go_wp2_with (at_builtin; refine wpList_append_own _ rfl _ _ 61 rfl w.heap.size 66 i0 (.agg #[.string ByteArray.empty, .int .i64 0, .int .i64 0]) 3 32 Tryd.underlying61 hi hz0 hz1 hz2 rfl (by decide) _ _ _ rfl ((unhide HROW1).alloc _) ⟨w1.heap.size, 0, none⟩ 1 1 [.string es, .int .i64 ((st : Int) + (hn : Int) + 1), .int .i64 who] rfl rfl ?c1 ?c2 ?c3 ?c4 ?c5 ?_)
            case c1 =>
              intro j u hj
              match j, hj with
              | 0, hj => simp at hj; subst hj; first | (simp [Addr.add]; done) | (simp [Addr.add]; rw [World.cell?_alloc_at _ _ _ _ (by simp)]; rfl)
              | 1, hj => simp at hj; subst hj; first | (simp [Addr.add]; done) | (simp [Addr.add]; rw [World.cell?_alloc_at _ _ _ _ (by simp)]; rfl)
              | 2, hj => simp at hj; subst hj; first | (simp [Addr.add]; done) | (simp [Addr.add]; rw [World.cell?_alloc_at _ _ _ _ (by simp)]; rfl)
            case c2 => intro u hu; simp at hu; rcases hu with rfl | rfl | rfl <;> rfl
            case c3 => unfold maxLen; omega
            case c4 => omega
            case c5 => simp; omega
            intro v' w2 hown' hgrow _
            have HO2 : Hid (w2.ownsRow w.heap.size 66 3 v' (meetCs m (T.take (k + 1))).length (thrCells (meetCs m (T.take (k + 1))))) := by
              unfold Hid
              rw [unhide HZ, thrCells_snoc, List.length_append]
              simp only [unhide HES]
              have e : ((st + hn + 1 : Nat) : Int) = (st : Int) + (hn : Int) + 1 := by omega
              rw [e]; exact hown'
            have HB3 : Hid (Below w.heap.size w w2) := ((unhide HB2).alloc (by simp; omega) _).grown hgrow (by simp; omega) (fun k hk => ((unhide HROW1).lt k hk).1)
            clear hown' hgrow HB2 HROW1
            go_wp2_with fail
            go_roundg (T.length - (k + 1))
            case measure => omega
            case rel => exact ⟨k + 1, by omega, rfl, by go_num, unhide HO2, unhide HB3⟩
        · have HZ := hide (unhide HSOME _ rfl)
          clear HSOME HNONE
          go_wp2_with fail
          refine (unhide HS _).mono ?_
          rintro e w1 ⟨rfl, hb1⟩
          obtain ⟨hb2, hx, hrow1, hlt1, hne⟩ := thr_facts (B0 := 0) (unhide HB) (unhide HROW) hb1
          have f1 := free_block (i := 1) hx
          have c0 := cell_block (i := 0) hx rfl
          have c1 := cell_block (i := 1) hx rfl
          have c2 := cell_block (i := 2) hx rfl
          have HB2 := hide (hb2.setCell (B := w.heap.size) (p := ⟨wr.heap.size, 1, none⟩) hbs (.int .i64 ((st : Int) + (hn : Int) + 1)))
          have HROW1 := hide (own_setX (i := 1) (u := .int .i64 ((st : Int) + (hn : Int) + 1)) hrow1 hne)
          clear hb1 hb2 hx hrow1 hne HB HROW
          go_wp2_with (at_builtin; refine wpList_append_own _ rfl _ _ 61 rfl w.heap.size 66 i0 (.agg #[.string ByteArray.empty, .int .i64 0, .int .i64 0]) 3 32 Tryd.underlying61 hi hz0 hz1 hz2 rfl (by decide) _ _ _ rfl ((unhide HROW1).alloc _) ⟨w1.heap.size, 0, none⟩ 1 1 [.string es, .int .i64 ((st : Int) + (hn : Int) + 1), .int .i64 who] rfl rfl ?c1 ?c2 ?c3 ?c4 ?c5 ?_)
          case c1 =>
            intro j u hj
            match j, hj with
            | 0, hj => simp at hj; subst hj; first | (simp [Addr.add]; done) | (simp [Addr.add]; rw [World.cell?_alloc_at _ _ _ _ (by simp)]; rfl)
            | 1, hj => simp at hj; subst hj; first | (simp [Addr.add]; done) | (simp [Addr.add]; rw [World.cell?_alloc_at _ _ _ _ (by simp)]; rfl)
            | 2, hj => simp at hj; subst hj; first | (simp [Addr.add]; done) | (simp [Addr.add]; rw [World.cell?_alloc_at _ _ _ _ (by simp)]; rfl)
          case c2 => intro u hu; simp at hu; rcases hu with rfl | rfl | rfl <;> rfl
          case c3 => unfold maxLen; omega
          case c4 => omega
          case c5 => simp; omega
          intro v' w2 hown' hgrow _
          have HO2 : Hid (w2.ownsRow w.heap.size 66 3 v' (meetCs m (T.take (k + 1))).length (thrCells (meetCs m (T.take (k + 1))))) := by
            unfold Hid
            rw [unhide HZ, thrCells_snoc, List.length_append]
            simp only [unhide HES]
            have e : ((st + hn + 1 : Nat) : Int) = (st : Int) + (hn : Int) + 1 := by omega
            rw [e]; exact hown'
          have HB3 : Hid (Below w.heap.size w w2) := ((unhide HB2).alloc (by simp; omega) _).grown hgrow (by simp; omega) (fun k hk => ((unhide HROW1).lt k hk).1)
          clear hown' hgrow HB2 HROW1
          go_wp2_with fail
          go_roundg (T.length - (k + 1))
          case measure => omega
          case rel => exact ⟨k + 1, by omega, rfl, by go_num, unhide HO2, unhide HB3⟩
    · have hall : T.take k = T := List.take_of_length_le (by omega)
      rw [hall] at hrow
      have HB := hide hb
      have HROW := hide hrow
      clear hb hrow hall
      go_wp2_with fail
      go_ret
      exact ⟨_, rfl, unhide HROW, unhide HB⟩

end Go.Proofs.YtchhmojnoiephaaDoor
