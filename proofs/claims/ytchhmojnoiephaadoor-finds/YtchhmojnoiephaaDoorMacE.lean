import Derived.Test.YtchhmojnoiephaaDoorMacD
import Derived.Test.YtchhmojnoiephaaDoorShelf
/- The levels of a row of threads; three digits. -/
namespace Go.Proofs.YtchhmojnoiephaaDoor
open Go.ChangeShapes Go.WideShapes Go.ChangeAt Go.RowKit
set_option linter.unusedVariables false

def levTo (T : List ThrC) (k : Nat) : List (List UInt8) := ((T.take k).map absT).foldl levT []
theorem levT_form (ls : List (List UInt8)) (t : Thr) : levT ls t = if leftB t.1 && (!(headR t.1 == [43])) && (!(headR t.1 == [35])) then insL (headR t.1) ls else ls := by
  obtain ⟨r, q⟩ := t
  cases r with
  | nil => rfl
  | cons l r =>
    simp only [levT, leftB, headR, Bool.true_and]
    by_cases h1 : l = [43]
    · simp [h1]
    · by_cases h2 : l = [35]
      · simp [h2]
      · simp [h1, h2]
theorem levTo_succ (T : List ThrC) (k : Nat) (h : k < T.length) : levTo T (k + 1) = levT (levTo T k) (absT T[k]) := by
  unfold levTo; rw [List.take_succ_eq_append_getElem h, List.map_append, List.foldl_append]; rfl
theorem levTo_len (T : List ThrC) (k : Nat) : (levTo T k).length ≤ k := by
  have h := levFold_len ((T.take k).map absT) []
  rw [List.length_map, List.length_take] at h
  unfold levTo
  simp only [List.length_nil] at h; omega
theorem levTo_all (T : List ThrC) : levTo T T.length = levsT (T.map absT) := by unfold levTo levsT; rw [List.take_length]

set_option maxHeartbeats 4000000 in
set_option maxRecDepth 1000000 in
theorem levelsOf_any (T : List ThrC) (v : Value) (B : Nat) (w : World) (hT : ∀ c ∈ T, okC c) (hl : T.length ≤ 1000) (hown : w.ownsRow B 66 3 v T.length (thrCells T)) :
    Calls Tryd.prog 64 #[v] w fun e w' => ∃ v', e = .returned v' ∧ w'.ownsRow w.heap.size 9 1 v' (levsT (T.map absT)).length ((levsT (T.map absT)).map strV) ∧ Below w.heap.size w w' := by
  obtain ⟨av, lv, cv, rfl⟩ := own_slice hown
  have hlv : lv = T.length := own_len hown
  subst hlv
  have HO := hide hown
  clear hown
  go_enter Tryd.func64, Tryd.ntmps64
  go_wp2_with fail
  go_loopg [3, 5, 6, 7, 10] T.length (fun gk nx _ _ _ i wr => ∃ k : Nat, k ≤ T.length ∧ gk = T.length - k ∧ i = .int .i64 k ∧ wr.ownsRow w.heap.size 9 1 nx (levTo T k).length ((levTo T k).map strV) ∧ Below w.heap.size w wr)
  case atStart => exact ⟨0, by omega, by omega, rfl, World.ownsRow_nil _ _ _ _, Below.refl _ _⟩
  case round =>
    obtain ⟨k, hk, rfl, rfl, hrow, hb⟩ := hrel
    have hbs := hb.size
    by_cases hlt : k < T.length
    · obtain ⟨g, cap, hv⟩ := own_form (unhide HO) (by omega)
      simp only [Value.slice.injEq] at hv
      obtain ⟨rfl, _, rfl⟩ := hv
      have hcc := own_cap (unhide HO)
      unfold maxLen at hcc
      obtain ⟨hcap, hcap2⟩ := hcc
      obtain ⟨e1, e2, e3⟩ := own_thr (own_below (unhide HO) hb) hlt
      have HS := hide (leftLevel_any T[k] (hT _ (List.getElem_mem hlt)))
      have hq43 := eq_str (headR (absT T[k]).1) 43
      have hq35 := eq_str (headR (absT T[k]).1) 35
      have HSU := hide ((levTo_succ T k hlt).trans (levT_form _ _))
      have hll := levTo_len T k
      have HINS := hide (insert_any (levTo T k) (headR (absT T[k]).1))
      have HB := hide hb
      have HROW := hide hrow
      unfold strV at HS HINS
      clear hb hrow
      generalize headR (absT T[k]).1 = hd at *
      generalize (⟨hd.toArray⟩ : ByteArray) = lev at *
      generalize (hd == [43]) = b43 at *
      generalize (hd == [35]) = b35 at *
      generalize leftB (absT T[k]).1 = lb at *
      generalize (⟨T[k].1.toArray⟩ : ByteArray) = es at *
      generalize (T[k].2.1 : Int) = est at *
      generalize T[k].2.2 = ewho at *
      have hba : ∀ w1, Below ((wr.alloc (.cells #[.string es, .int .i64 est, .int .i64 ewho] 66)).heap.size) (wr.alloc (.cells #[.string es, .int .i64 est, .int .i64 ewho] 66)) w1 → Below w.heap.size w w1 ∧ w1.ownsRow w.heap.size 9 1 u3 (levTo T k).length ((levTo T k).map strV) :=
        fun w1 hb1 => ⟨((unhide HB).alloc hbs _).trans (hb1.mono (by simp; omega)), own_below ((unhide HROW).alloc _) hb1⟩
      have HBA := hide hba
      clear hba
      cases lb
      · go_wp2_with fail
        refine (unhide HS _).mono ?_
        rintro e w1 ⟨rfl, hb1⟩
        obtain ⟨hb2, hrow2⟩ := unhide HBA w1 hb1
        have HB2 := hide hb2
        have HROW2 := hide hrow2
        have hbs2 := hb2.size
        clear hb1 hb2 hrow2 HB HROW HBA
        go_wp2_with fail
        go_roundg (T.length - (k + 1))
        case measure => omega
        case rel => exact ⟨k + 1, by omega, rfl, by go_num, by rw [unhide HSU]; exact unhide HROW2, unhide HB2⟩
      · cases b43
        · cases b35
          · go_wp2_with fail
            refine (unhide HS _).mono ?_
            rintro e w1 ⟨rfl, hb1⟩
            obtain ⟨hb2, hrow2⟩ := unhide HBA w1 hb1
            have HB2 := hide hb2
            have HROW2 := hide hrow2
            have hbs2 := hb2.size
            clear hb1 hb2 hrow2 HB HROW HBA
            go_wp2_with fail
            refine (unhide HINS _ w.heap.size _ (by omega) (unhide HROW2)).mono ?_
            rintro e w3 ⟨v3, rfl, hown3, hb3⟩
            have HO3 := hide (own_mono hown3 hbs2)
            have HB3 := hide ((unhide HB2).trans (hb3.mono hbs2))
            obtain ⟨a3, l3, k3, rfl⟩ := own_slice hown3
            clear hown3 hb3
            go_wp2_with fail
            go_roundg (T.length - (k + 1))
            case measure => omega
            case rel => exact ⟨k + 1, by omega, rfl, by go_num, by rw [unhide HSU]; exact unhide HO3, unhide HB3⟩
          · go_wp2_with fail
            refine (unhide HS _).mono ?_
            rintro e w1 ⟨rfl, hb1⟩
            obtain ⟨hb2, hrow2⟩ := unhide HBA w1 hb1
            have HB2 := hide hb2
            have HROW2 := hide hrow2
            have hbs2 := hb2.size
            clear hb1 hb2 hrow2 HB HROW HBA
            go_wp2_with fail
            go_roundg (T.length - (k + 1))
            case measure => omega
            case rel => exact ⟨k + 1, by omega, rfl, by go_num, by rw [unhide HSU]; exact unhide HROW2, unhide HB2⟩
        · go_wp2_with fail
          refine (unhide HS _).mono ?_
          rintro e w1 ⟨rfl, hb1⟩
          obtain ⟨hb2, hrow2⟩ := unhide HBA w1 hb1
          have HB2 := hide hb2
          have HROW2 := hide hrow2
          have hbs2 := hb2.size
          clear hb1 hb2 hrow2 HB HROW HBA
          go_wp2_with fail
          go_roundg (T.length - (k + 1))
          case measure => omega
          case rel => exact ⟨k + 1, by omega, rfl, by go_num, by rw [unhide HSU]; exact unhide HROW2, unhide HB2⟩
    · have hke : k = T.length := by omega
      have HA := hide (levTo_all T)
      have HB := hide hb
      have HROW := hide hrow
      clear hb hrow
      go_wp2_with fail
      go_ret
      subst hke
      exact ⟨_, rfl, by rw [← unhide HA]; exact unhide HROW, unhide HB⟩

/-- the library's table of powers lies as the program's text lays it -/
def powOK (w : World) : Prop := Lib.TabIs Tryd.prog w "internal/strconv.uint64pow10" .u64 Lib.pow10Tab

theorem digits3 (n : Nat) (h : n < 1000) : three (n : Int) = List.replicate (3 - (Lib.decDigits n).length) 48 ++ Lib.decDigits n ∧ (Lib.decDigits n).length ≤ 3 ∧ 1 ≤ (Lib.decDigits n).length := by
  unfold three dg
  rw [Int.toNat_natCast]
  by_cases h1 : n < 10
  · rw [Lib.decDigits, dif_pos h1]
    have e1 : n / 100 = 0 := by omega
    have e2 : n / 10 % 10 = 0 := by omega
    have e3 : n % 10 = n := by omega
    rw [e1, e2, e3]
    exact ⟨rfl, by simp, by simp⟩
  · rw [Lib.decDigits, dif_neg h1]
    by_cases h2 : n / 10 < 10
    · rw [Lib.decDigits, dif_pos h2]
      have e1 : n / 100 = 0 := by omega
      have e2 : n / 10 % 10 = n / 10 := by omega
      rw [e1, e2]
      exact ⟨rfl, by simp, by simp⟩
    · rw [Lib.decDigits, dif_neg h2, Lib.decDigits, dif_pos (by omega)]
      have e1 : n / 10 / 10 = n / 100 := by omega
      rw [e1]
      exact ⟨rfl, by simp, by simp⟩

theorem grow_below (w : World) (k : Nat) (os : Array Obj) : Below w.heap.size w (Go.Sort.grow (w.drewN k) os) := by
  refine ⟨rfl, rfl, rfl, ?_, fun j hj => ?_⟩
  · simp [Go.Sort.grow]
  · simp only [Go.Sort.grow]
    exact Array.getElem?_append_left hj

set_option maxHeartbeats 1000000 in
theorem threeDigits_any (n : Nat) (hn : n < 1000) (w : World) (hp : powOK w) :
    Calls Tryd.prog 65 #[.int .i64 (n : Int)] w fun e w' => e = .returned (strV (three (n : Int))) ∧ Below w.heap.size w w' := by
  obtain ⟨h3, hl3, hl1⟩ := digits3 n hn
  have hitoa : Lib.itoa (n : Int) = Lib.decDigits n := Lib.itoa_nonneg n
  have HI := hide (Tryd.strconv_Itoa (n : Int) (by omega) (by omega))
  rw [hitoa] at HI
  have H3 := hide h3
  clear h3 hitoa
  generalize Lib.decDigits n = D at *
  go_enter Tryd.func65, Tryd.ntmps65
  go_wp2_with fail
  refine (unhide HI _ hp).mono ?_
  rintro e w1 ⟨rfl, k, os, rfl⟩
  have HB := hide (grow_below w k os)
  generalize Go.Sort.grow (w.drewN k) os = w2 at *
  go_wp2_with fail
  go_loopg [3] (3 - D.length) (fun gk t wr => wr = w2 ∧ ∃ j : Nat, j + D.length ≤ 3 ∧ gk = 3 - (j + D.length) ∧ t = .string ⟨(List.replicate j 48 ++ D).toArray⟩)
  case atStart => exact ⟨rfl, 0, by omega, by omega, rfl⟩
  case round =>
    obtain ⟨rfl, j, hj, rfl, rfl⟩ := hrel
    have hsz : ((⟨(List.replicate j 48 ++ D).toArray⟩ : ByteArray).size : Int) = (j : Int) + (D.length : Int) := by rw [arr_size]; simp
    have HAP := hide (app_arr [48] (List.replicate j 48 ++ D))
    generalize hs : (⟨(List.replicate j 48 ++ D).toArray⟩ : ByteArray) = s at *
    have HS := hide hs
    clear hs
    by_cases hlt : j + D.length < 3
    · have hd : (s.size : Int) < 3 := by omega
      go_wp2_with fail
      go_roundg (3 - (j + 1 + D.length))
      case measure => omega
      case rel => exact ⟨rfl, j + 1, by omega, rfl, congrArg Value.string ((unhide HAP).trans (by rw [List.replicate_succ]; rfl))⟩
    · have hd : ¬ (s.size : Int) < 3 := by omega
      go_wp2_with fail
      go_ret
      refine ⟨?_, unhide HB⟩
      unfold strV
      rw [unhide H3, ← unhide HS, show 3 - D.length = j from by omega]
      rfl

end Go.Proofs.YtchhmojnoiephaaDoor
