import Derived.Test.YtchhmojnoiephaaDoorMacC
/- The levels that the threads name, rising. -/
namespace Go.Proofs.YtchhmojnoiephaaDoor
open Go.ChangeShapes Go.WideShapes Go.ChangeAt Go.RowKit
set_option linter.unusedVariables false

theorem gtr_less (a b : List UInt8) : (!(Go.Op.bytesLess a b || a == b)) = Go.Op.bytesLess b a := by
  rcases less_total a b with rfl | h | h
  · rw [less_irrefl]; simp
  · rw [h, less_asymm a b h]; rfl
  · rw [less_asymm b a h, h]
    have : a ≠ b := by rintro rfl; rw [less_irrefl] at h; cases h
    simp [this]

def below1 (m : List UInt8) (ls : List (List UInt8)) (k : Nat) : List (List UInt8) := (ls.take k).filter (fun t => Go.Op.bytesLess t m)
def above1 (m : List UInt8) (ls : List (List UInt8)) (k : Nat) : List (List UInt8) := (ls.take k).filter (fun t => Go.Op.bytesLess m t)
theorem below1_succ (m : List UInt8) (ls : List (List UInt8)) (k : Nat) (h : k < ls.length) : below1 m ls (k + 1) = if Go.Op.bytesLess ls[k] m then below1 m ls k ++ [ls[k]] else below1 m ls k := by
  unfold below1; rw [List.take_succ_eq_append_getElem h, List.filter_append]
  cases hw : Go.Op.bytesLess ls[k] m <;> simp [hw]
theorem above1_succ (m : List UInt8) (ls : List (List UInt8)) (k : Nat) (h : k < ls.length) : above1 m ls (k + 1) = if Go.Op.bytesLess m ls[k] then above1 m ls k ++ [ls[k]] else above1 m ls k := by
  unfold above1; rw [List.take_succ_eq_append_getElem h, List.filter_append]
  cases hw : Go.Op.bytesLess m ls[k] <;> simp [hw]
theorem below1_len (m : List UInt8) (ls : List (List UInt8)) (k : Nat) : (below1 m ls k).length ≤ k := by
  unfold below1; exact Nat.le_trans (List.length_filter_le _ _) (by simp; omega)
theorem above1_len (m : List UInt8) (ls : List (List UInt8)) (k : Nat) : (above1 m ls k).length ≤ k := by
  unfold above1; exact Nat.le_trans (List.length_filter_le _ _) (by simp; omega)
theorem ins_form (m : List UInt8) (ls : List (List UInt8)) : insL m ls = (below1 m ls ls.length ++ [m]) ++ above1 m ls ls.length := by
  unfold insL below1 above1; rw [List.take_length]; simp
theorem less_arr (a b : List UInt8) : Go.Op.bytesLess (⟨a.toArray⟩ : ByteArray).toList b = Go.Op.bytesLess a b := by rw [Lib.toList_data]

theorem rowstr_snoc (F : List (List UInt8)) (l : List UInt8) : (F ++ [l]).map strV = F.map strV ++ [strV l] := by simp

set_option maxHeartbeats 4000000 in
set_option maxRecDepth 1000000 in
theorem insert_any (ls : List (List UInt8)) (m : List UInt8) (v : Value) (B : Nat) (w : World) (hl : ls.length ≤ 1000) (hown : w.ownsRow B 9 1 v ls.length (ls.map strV)) :
    Calls Tryd.prog 77 #[v, strV m] w fun e w' => ∃ v', e = .returned v' ∧ w'.ownsRow w.heap.size 9 1 v' (insL m ls).length ((insL m ls).map strV) ∧ Below w.heap.size w w' := by
  obtain ⟨i0, hi, hz0, hz1, hz2⟩ := info_parts info_string
  obtain ⟨av, lv, cv, rfl⟩ := own_slice hown
  have hlv : lv = ls.length := own_len hown
  subst hlv
  have HO := hide hown
  unfold strV
  clear hown
  have hmk : strV m = .string ⟨m.toArray⟩ := rfl
  have HMK := hide hmk
  clear hmk
  go_enter Tryd.func77, Tryd.ntmps77
  go_upto_block 0 with fail
  go_cut [5] (fun a wc => wc.ownsRow w.heap.size 9 1 a (below1 m ls ls.length).length ((below1 m ls ls.length).map strV) ∧ Below w.heap.size w wc)
  case first =>
    go_wp2_with fail
    go_loopg [5, 7, 12] ls.length (fun gk a _ i wr => ∃ k : Nat, k ≤ ls.length ∧ gk = ls.length - k ∧ i = .int .i64 k ∧ wr.ownsRow w.heap.size 9 1 a (below1 m ls k).length ((below1 m ls k).map strV) ∧ Below w.heap.size w wr)
    case atStart => exact ⟨0, by omega, by omega, rfl, World.ownsRow_nil _ _ _ _, Below.refl _ _⟩
    case round =>
      obtain ⟨k, hk, rfl, rfl, hrow, hb⟩ := hrel
      have hbs := hb.size
      by_cases hlt : k < ls.length
      · obtain ⟨g, cap, hv⟩ := own_form (unhide HO) (by omega)
        simp only [Value.slice.injEq] at hv
        obtain ⟨rfl, _, rfl⟩ := hv
        have hcc := own_cap (unhide HO)
        unfold maxLen at hcc
        obtain ⟨hcap, hcap2⟩ := hcc
        have e1 := own_str_at (own_below (unhide HO) hb) hlt
        have HSU := hide (below1_succ m ls k hlt)
        have hq := less_arr ls[k] m
        have hbl := below1_len m ls k
        have HB := hide hb
        have HROW := hide hrow
        have HES : Hid (strV ls[k] = .string ⟨ls[k].toArray⟩) := rfl
        clear hb hrow
        generalize (⟨ls[k].toArray⟩ : ByteArray) = es at *
        cases hc : Go.Op.bytesLess ls[k] m
        · rw [hc] at HSU hq
          go_wp2_with fail
          go_roundg (ls.length - (k + 1))
          case measure => omega
          case rel => exact ⟨k + 1, by omega, rfl, by go_num, by rw [unhide HSU]; exact unhide HROW, unhide HB⟩
        · rw [hc] at HSU hq
          go_wp2_with (at_builtin; refine wpList_append_own _ rfl _ _ 68 rfl w.heap.size 9 i0 (.string ByteArray.empty) 1 16 Tryd.underlying68 hi hz0 hz1 hz2 rfl (by decide) _ _ _ rfl ((unhide HROW).alloc _) ⟨wr.heap.size, 0, none⟩ 1 1 [.string es] rfl rfl ?c1 ?c2 ?c3 ?c4 ?c5 ?_)
          first
            | (case c1 =>
                intro j u hj
                match j, hj with
                | 0, hj => simp at hj; subst hj; simp [Addr.add])
            | skip
          case c2 => first | rfl | (intro u hu; simp at hu; subst hu; rfl)
          case c3 => unfold maxLen; omega
          case c4 => omega
          case c5 => first | omega | (simp; omega)
          intro v' w1 hown' hgrow _
          have HB1 := hide (below_push' (unhide HB) hbs (unhide HROW) hgrow)
          have HO1 : Hid (w1.ownsRow w.heap.size 9 1 v' (below1 m ls (k + 1)).length ((below1 m ls (k + 1)).map strV)) := by
            unfold Hid; rw [unhide HSU]; simp only [if_true]; rw [List.length_append, rowstr_snoc, unhide HES]; exact hown'
          clear hown' hgrow
          go_wp2_with fail
          go_roundg (ls.length - (k + 1))
          case measure => omega
          case rel => exact ⟨k + 1, by omega, rfl, by go_num, unhide HO1, unhide HB1⟩
      · have hke : k = ls.length := by omega
        have HB := hide hb
        have HROW := hide hrow
        clear hb hrow
        go_wp2_with fail
        go_meet
        subst hke
        exact ⟨unhide HROW, unhide HB⟩
  case rest =>
    obtain ⟨hrow, hb⟩ := hcut
    have hbs := hb.size
    have hbl := below1_len m ls ls.length
    have HB := hide hb
    have HROW := hide hrow
    clear hb hrow
    go_wp2_with (at_builtin; refine wpList_append_own _ rfl _ _ 68 rfl w.heap.size 9 i0 (.string ByteArray.empty) 1 16 Tryd.underlying68 hi hz0 hz1 hz2 rfl (by decide) _ _ _ rfl ((unhide HROW).alloc _) ⟨wc.heap.size, 0, none⟩ 1 1 [.string ⟨m.toArray⟩] rfl rfl ?b1 ?b2 ?b3 ?b4 ?b5 ?_)
    first
      | (case b1 =>
          intro j u hj
          match j, hj with
          | 0, hj => simp at hj; subst hj; simp [Addr.add])
      | skip
    case b2 => first | rfl | (intro u hu; simp at hu; subst hu; rfl)
    case b3 => unfold maxLen; omega
    case b4 => omega
    case b5 => first | omega | (simp; omega)
    intro v' w1 hown' hgrow _
    have HB1 := hide (below_push' (unhide HB) hbs (unhide HROW) hgrow)
    have HO1 : Hid (w1.ownsRow w.heap.size 9 1 v' (below1 m ls ls.length ++ [m]).length ((below1 m ls ls.length ++ [m]).map strV)) := by
      unfold Hid; rw [List.length_append, rowstr_snoc, unhide HMK]; exact hown'
    clear hown' hgrow HB HROW
    go_wp2_with fail
    go_loopg [5, 9, 30] ls.length (fun gk a _ i wr => ∃ k : Nat, k ≤ ls.length ∧ gk = ls.length - k ∧ i = .int .i64 k ∧ wr.ownsRow w.heap.size 9 1 a ((below1 m ls ls.length ++ [m]) ++ above1 m ls k).length (((below1 m ls ls.length ++ [m]) ++ above1 m ls k).map strV) ∧ Below w.heap.size w wr)
    case atStart => exact ⟨0, by omega, by omega, rfl, by rw [show above1 m ls 0 = [] from rfl, List.append_nil]; exact unhide HO1, unhide HB1⟩
    case round =>
      obtain ⟨k, hk, rfl, rfl, hrow, hb⟩ := hrel
      have hbs2 := hb.size
      clear HO1 HB1
      by_cases hlt : k < ls.length
      · obtain ⟨g, cap, hv⟩ := own_form (unhide HO) (by omega)
        simp only [Value.slice.injEq] at hv
        obtain ⟨rfl, _, rfl⟩ := hv
        have hcc := own_cap (unhide HO)
        unfold maxLen at hcc
        obtain ⟨hcap, hcap2⟩ := hcc
        have e1 := own_str_at (own_below (unhide HO) hb) hlt
        have HSU := hide (above1_succ m ls k hlt)
        have hq := gtr_less ls[k] m
        rw [← less_arr ls[k] m] at hq
        have hq2 := eq_strs ls[k] m
        rw [← hq2] at hq
        have hal := above1_len m ls k
        have hln : ((below1 m ls ls.length ++ [m]) ++ above1 m ls k).length ≤ 2001 := by simp only [List.length_append, List.length_singleton]; omega
        have HB := hide hb
        have HROW := hide hrow
        have HES : Hid (strV ls[k] = .string ⟨ls[k].toArray⟩) := rfl
        clear hb hrow hq2
        generalize (⟨ls[k].toArray⟩ : ByteArray) = es at *
        generalize hFF : (below1 m ls ls.length ++ [m]) ++ above1 m ls k = FF at *
        have HFF := hide hFF
        clear hFF
        cases hc : Go.Op.bytesLess m ls[k]
        · rw [hc] at HSU hq
          go_wp2_with fail
          go_roundg (ls.length - (k + 1))
          case measure => omega
          case rel => exact ⟨k + 1, by omega, rfl, by go_num, by rw [unhide HSU]; simp only [Bool.false_eq_true, if_false]; rw [unhide HFF]; exact unhide HROW, unhide HB⟩
        · rw [hc] at HSU hq
          go_wp2_with (at_builtin; refine wpList_append_own _ rfl _ _ 68 rfl w.heap.size 9 i0 (.string ByteArray.empty) 1 16 Tryd.underlying68 hi hz0 hz1 hz2 rfl (by decide) _ _ _ rfl ((unhide HROW).alloc _) ⟨wr.heap.size, 0, none⟩ 1 1 [.string es] rfl rfl ?d1 ?d2 ?d3 ?d4 ?d5 ?_)
          first
            | (case d1 =>
                intro j u hj
                match j, hj with
                | 0, hj => simp at hj; subst hj; simp [Addr.add])
            | skip
          case d2 => first | rfl | (intro u hu; simp at hu; subst hu; rfl)
          case d3 => unfold maxLen; omega
          case d4 => omega
          case d5 => first | omega | (simp; omega)
          intro v' w1 hown' hgrow _
          have HB1 := hide (below_push' (unhide HB) hbs2 (unhide HROW) hgrow)
          have HO1 : Hid (w1.ownsRow w.heap.size 9 1 v' ((below1 m ls ls.length ++ [m]) ++ above1 m ls (k + 1)).length (((below1 m ls ls.length ++ [m]) ++ above1 m ls (k + 1)).map strV)) := by
            unfold Hid; rw [unhide HSU]; simp only [if_true]; rw [← List.append_assoc, unhide HFF, List.length_append, rowstr_snoc, unhide HES]; exact hown'
          clear hown' hgrow
          go_wp2_with fail
          go_roundg (ls.length - (k + 1))
          case measure => omega
          case rel => exact ⟨k + 1, by omega, rfl, by go_num, unhide HO1, unhide HB1⟩
      · have hke : k = ls.length := by omega
        have HI := hide (ins_form m ls)
        have HB := hide hb
        have HROW := hide hrow
        clear hb hrow
        go_wp2_with fail
        go_ret
        subst hke
        exact ⟨_, rfl, by rw [unhide HI]; exact unhide HROW, unhide HB⟩

end Go.Proofs.YtchhmojnoiephaaDoor
