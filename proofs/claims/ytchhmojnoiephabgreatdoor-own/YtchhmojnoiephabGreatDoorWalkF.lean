import Derived.Test.YtchhmojnoiephabGreatDoorWalkA
import Derived.Test.YtchhmojnoiephabGreatDoorPureB
import Derived.WalkSpells
namespace Go.Proofs.YtchhmojnoiephabGreatDoor
open Go.ChangeShapes Go.WideShapes Go.ChangeAt Go.RowKit
set_option linter.unusedVariables false

def strV (l : List UInt8) : Value := .string ⟨l.toArray⟩

theorem strV_cut (s : ByteArray) (a b : Nat) : Value.string (s.extract a b) = strV ((s.data.toList.drop a).take (b - a)) := by
  unfold strV; rw [Lib.extract_eq]

theorem info_string : (Tryz.prog.info? 9).map (fun i => (i.zero, i.size, i.bytes)) = some (some (.string ByteArray.empty), 1, 16) := by kernel_rfl

theorem levs_cut (L : List UInt8) (fr k : Nat) (hf : fr ≤ k) (hk : k < L.length) (hr : fr + runLen (L.drop fr) = k + runLen (L.drop k)) (hs : (L[k].toNat : Int) = 47) :
    levs (L.drop fr) = (L.drop fr).take (k - fr) :: levs (L.drop (k + 1)) := by
  have h0 := runLen_slash L k hk hs
  have h1 := levsFrom_step L fr (by omega)
  have h2 : runLen (L.drop fr) = k - fr := by omega
  have h3 : fr + (k - fr) + 1 = k + 1 := by omega
  rw [h2, h3] at h1
  unfold levsFrom at h1
  rw [if_pos (by omega), if_pos (by omega)] at h1
  exact h1
theorem levs_last (L : List UInt8) (fr k : Nat) (hf : fr ≤ k) (hk : k = L.length) (hr : fr + runLen (L.drop fr) = k + runLen (L.drop k)) :
    levs (L.drop fr) = [(L.drop fr).take (k - fr)] := by
  have h0 := runLen_end L k (by omega)
  have h1 := levsFrom_step L fr (by omega)
  have h2 : runLen (L.drop fr) = k - fr := by omega
  have h3 : ¬ fr + (k - fr) + 1 ≤ L.length := by omega
  rw [h2] at h1
  unfold levsFrom at h1
  rw [if_pos (by omega), if_neg h3] at h1
  exact h1

theorem own_push {w : World} {B e : Nat} {v : Value} {G : List (List UInt8)} {x : Value} {l : List UInt8} (hx : x = strV l)
    (h : w.ownsRow B e 1 v (G.length + 1) (G.map strV ++ [x])) : w.ownsRow B e 1 v (G ++ [l]).length ((G ++ [l]).map strV) := by
  rw [List.length_append, List.map_append]; subst hx; exact h

theorem below_push {B : Nat} {w wr w1 : World} {v : Value} {e n : Nat} {xs : List Value} {o : Obj} (hb : Below B w wr) (hB : B ≤ wr.heap.size) (hown : wr.ownsRow B e 1 v n xs) (hg : (wr.alloc o).grownBy w1 v.ownBlock) : Below B w w1 :=
  (hb.alloc hB o).grown hg (by simp; omega) (fun k hk => (hown.lt k hk).1)

set_option maxHeartbeats 1000000 in
theorem levels_any (s : ByteArray) (w : World) (hs : s.size ≤ 1000000) :
    Calls Tryz.prog 98 #[.string s] w fun e w' => ∃ v, e = .returned v ∧ w'.ownsRow w.heap.size 9 1 v (levs s.data.toList).length ((levs s.data.toList).map strV) ∧ Below w.heap.size w w' := by
  obtain ⟨i0, hi, hz0, hz1, hz2⟩ := info_parts info_string
  go_enter Tryz.func98, Tryz.ntmps98
  go_wp2
  go_loopw [3, 4, 5] (fun v fr i wr => ∃ (k a : Nat) (G : List (List UInt8)), k ≤ s.size ∧ a ≤ k ∧ i = .int .i64 k ∧ fr = .int .i64 a ∧ G.length ≤ k ∧ wr.ownsRow w.heap.size 9 1 v G.length (G.map strV) ∧ Hid (levs s.data.toList = G ++ levs (s.data.toList.drop a)) ∧ Hid (a + runLen (s.data.toList.drop a) = k + runLen (s.data.toList.drop k)) ∧ Below w.heap.size w wr)
    (fun _ _ i _ => s.size - (intOf i).toNat)
  case atStart => exact ⟨0, 0, [], Nat.zero_le _, Nat.le_refl _, rfl, rfl, Nat.le_refl _, World.ownsRow_nil _ _ _ _, hide (by simp), hide rfl, Below.refl _ _⟩
  case round =>
    obtain ⟨k, a, G, hk, ha, rfl, rfl, hG, hown, HL, HR, hb⟩ := hrel
    have hB := hb.size
    by_cases hlt : k < s.size
    · by_cases hsl : (s[k].toNat : Int) = 47
      · have hsb : ((s[k].toNat : Int) == 47) = true := by simp [hsl]
        have HC : Hid (levs (s.data.toList.drop a) = (s.data.toList.drop a).take (k - a) :: levs (s.data.toList.drop (k + 1))) :=
          levs_cut s.data.toList a k ha (by rw [len_list]; exact hlt) (unhide HR) (by rw [get_list s k hlt]; exact hsl)
        clear hsl
        go_wp2_with (at_builtin; refine wpList_append_own _ rfl _ _ 107 rfl w.heap.size 9 i0 (.string ByteArray.empty) 1 16 Tryz.underlying107 hi hz0 hz1 hz2 rfl (by decide) _ _ _ rfl (hown.alloc _) ⟨wr.heap.size, 0, none⟩ 1 1 [.string (s.extract a k)] rfl rfl ?c1 ?c2 ?c3 ?c4 ?c5 ?_)
        case c1 =>
          intro j u hj
          match j, hj with
          | 0, hj => simp at hj; subst hj; simp [Addr.add]
        case c2 => intro u hu; simp at hu; subst hu; rfl
        case c3 => unfold maxLen; omega
        case c4 => omega
        case c5 => simp; omega
        intro v' w1 hown' hgrow _
        have hb1 := below_push hb hB hown hgrow
        have hown1 := own_push (strV_cut s a k) hown'
        have hB1 := hb1.size
        clear hown' hgrow hown hb
        go_wp2
        go_roundw
        case rel => exact ⟨k + 1, k + 1, G ++ [(s.data.toList.drop a).take (k - a)], by omega, by omega, by go_num, by go_num, by simp; omega, hown1, hide (by rw [unhide HL, unhide HC]; simp), hide rfl, hb1⟩
        case measure => simp [intOf]; omega
      · have hsb : ((s[k].toNat : Int) == 47) = false := by simp [hsl]
        have HC := hide (runLen_other s.data.toList k (by rw [len_list]; exact hlt) (by rw [get_list s k hlt]; exact hsl))
        clear hsl
        go_wp2
        go_roundw
        case rel => exact ⟨k + 1, a, G, by omega, by omega, by go_num, rfl, by omega, hown, HL, hide (by rw [unhide HR, unhide HC]; omega), hb⟩
        case measure => simp [intOf]; omega
    · have HC : Hid (levs s.data.toList = G ++ [(s.data.toList.drop a).take (s.size - a)]) := by
        have := levs_last s.data.toList a k ha (by rw [len_list]; omega) (unhide HR)
        rw [unhide HL, this]
        have : k = s.size := by omega
        rw [this]; rfl
      go_wp2_with (at_builtin; refine wpList_append_own _ rfl _ _ 107 rfl w.heap.size 9 i0 (.string ByteArray.empty) 1 16 Tryz.underlying107 hi hz0 hz1 hz2 rfl (by decide) _ _ _ rfl (hown.alloc _) ⟨wr.heap.size, 0, none⟩ 1 1 [.string (s.extract a s.size)] rfl rfl ?d1 ?d2 ?d3 ?d4 ?d5 ?_)
      case d1 =>
        intro j u hj
        match j, hj with
        | 0, hj => simp at hj; subst hj; simp [Addr.add]
      case d2 => intro u hu; simp at hu; subst hu; rfl
      case d3 => unfold maxLen; omega
      case d4 => omega
      case d5 => simp; omega
      intro v' w1 hown' hgrow _
      have hb1 := below_push hb hB hown hgrow
      have hown1 := own_push (strV_cut s a s.size) hown'
      clear hown' hgrow hown hb
      go_wp2
      go_ret
      exact ⟨v', rfl, by rw [unhide HC]; exact hown1, hb1⟩

end Go.Proofs.YtchhmojnoiephabGreatDoor
