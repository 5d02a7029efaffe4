import Derived.Test.YtchhmojnoiephabGreatDoorZmMacA
import Derived.Test.YtchhmojnoiephabGreatDoorShelf
import Derived.Deep.RegionWith
import Derived.Test.YtchhmojnoiephabGreatDoorZmHubT
/- The levels of a row of threads; three digits. -/
namespace Go.Proofs.YtchhmojnoiephabGreatDoor
open Go.ChangeShapes Go.WideShapes Go.ChangeAt Go.RowKit
set_option linter.unusedVariables false

def levTo (T : List ThrC) (k : Nat) : List (List UInt8) := ((T.take k).map absT).foldl levT []
theorem levT_form (ls : List (List UInt8)) (t : Thr) : levT ls t = if leftB t.1 && (!(headR t.1 == [43])) && (!(headR t.1 == [35])) then insL (headR t.1) ls else ls := by
  obtain ⟨r, q⟩ := t
  cases r with
  | nil => rfl
  | cons l r =>
    simp only [levT, leftB, headR, Bool.true_and]
    by_cases h1 : l = [43]
    · simp [h1]
    · by_cases h2 : l = [35]
      · simp [h2]
      · simp [h1, h2]
theorem levTo_succ (T : List ThrC) (k : Nat) (h : k < T.length) : levTo T (k + 1) = levT (levTo T k) (absT T[k]) := by
  unfold levTo; rw [List.take_succ_eq_append_getElem h, List.map_append, List.foldl_append]; rfl
theorem levTo_len (T : List ThrC) (k : Nat) : (levTo T k).length ≤ k := by
  have h := levFold_len ((T.take k).map absT) []
  rw [List.length_map, List.length_take] at h
  unfold levTo
  simp only [List.length_nil] at h; omega
theorem levTo_all (T : List ThrC) : levTo T T.length = levsT (T.map absT) := by unfold levTo levsT; rw [List.take_length]

set_option maxHeartbeats 4000000 in
set_option maxRecDepth 1000000 in
theorem levelsOf_any (T : List ThrC) (v : Value) (B : Nat) (w : World) (hT : ∀ c ∈ T, okC c) (hl : T.length ≤ 1000) (hown : w.ownsRow B 105 3 v T.length (thrCells T)) :
    Calls Tryz.prog 110 #[v] w fun e w' => ∃ v', e = .returned v' ∧ w'.ownsRow w.heap.size 9 1 v' (levsT (T.map absT)).length ((levsT (T.map absT)).map strV) ∧ Below w.heap.size w w' := by
  obtain ⟨av, lv, cv, rfl⟩ := own_slice hown
  have hlv : lv = T.length := own_len hown
  subst hlv
  have HO := hide hown
  clear hown
  go_enter Tryz.func110, Tryz.ntmps110
  go_wp2_with fail
  go_loopg [3, 5, 6, 7, 10] T.length (fun gk nx _ _ _ i wr => ∃ k : Nat, k ≤ T.length ∧ gk = T.length - k ∧ i = .int .i64 k ∧ wr.ownsRow w.heap.size 9 1 nx (levTo T k).length ((levTo T k).map strV) ∧ Below w.heap.size w wr)
  case atStart => exact ⟨0, by omega, by omega, rfl, World.ownsRow_nil _ _ _ _, Below.refl _ _⟩
  case round =>
    obtain ⟨k, hk, rfl, rfl, hrow, hb⟩ := hrel
    have hbs := hb.size
    by_cases hlt : k < T.length
    · obtain ⟨g, cap, hv⟩ := own_form (unhide HO) (by omega)
      simp only [Value.slice.injEq] at hv
      obtain ⟨rfl, _, rfl⟩ := hv
      have hcc := own_cap (unhide HO)
      unfold maxLen at hcc
      obtain ⟨hcap, hcap2⟩ := hcc
      obtain ⟨e1, e2, e3⟩ := own_thr (own_below (unhide HO) hb) hlt
      have HS := hide (leftLevel_any T[k] (hT _ (List.getElem_mem hlt)))
      have hq43 := eq_str (headR (absT T[k]).1) 43
      have hq35 := eq_str (headR (absT T[k]).1) 35
      have HSU := hide ((levTo_succ T k hlt).trans (levT_form _ _))
      have hll := levTo_len T k
      have HINS := hide (insert_any (levTo T k) (headR (absT T[k]).1))
      have HB := hide hb
      have HROW := hide hrow
      unfold strV at HS HINS
      clear hb hrow
      generalize headR (absT T[k]).1 = hd at *
      generalize (⟨hd.toArray⟩ : ByteArray) = lev at *
      generalize (hd == [43]) = b43 at *
      generalize (hd == [35]) = b35 at *
      generalize leftB (absT T[k]).1 = lb at *
      generalize (⟨T[k].1.toArray⟩ : ByteArray) = es at *
      generalize (T[k].2.1 : Int) = est at *
      generalize T[k].2.2 = ewho at *
      have hba : ∀ w1, Below ((wr.alloc (.cells #[.string es, .int .i64 est, .int .i64 ewho] 105)).heap.size) (wr.alloc (.cells #[.string es, .int .i64 est, .int .i64 ewho] 105)) w1 → Below w.heap.size w w1 ∧ w1.ownsRow w.heap.size 9 1 u3 (levTo T k).length ((levTo T k).map strV) :=
        fun w1 hb1 => ⟨((unhide HB).alloc hbs _).trans (hb1.mono (by simp; omega)), own_below ((unhide HROW).alloc _) hb1⟩
      have HBA := hide hba
      clear hba
      cases lb
      · go_wp2_with fail
        refine (unhide HS _).mono ?_
        rintro e w1 ⟨rfl, hb1⟩
        obtain ⟨hb2, hrow2⟩ := unhide HBA w1 hb1
        have HB2 := hide hb2
        have HROW2 := hide hrow2
        have hbs2 := hb2.size
        clear hb1 hb2 hrow2 HB HROW HBA
        go_wp2_with fail
        go_roundg (T.length - (k + 1))
        case measure => omega
        case rel => exact ⟨k + 1, by omega, rfl, by go_num, by rw [unhide HSU]; exact unhide HROW2, unhide HB2⟩
      · cases b43
        · cases b35
          · go_wp2_with fail
            refine (unhide HS _).mono ?_
            rintro e w1 ⟨rfl, hb1⟩
            obtain ⟨hb2, hrow2⟩ := unhide HBA w1 hb1
            have HB2 := hide hb2
            have HROW2 := hide hrow2
            have hbs2 := hb2.size
            clear hb1 hb2 hrow2 HB HROW HBA
            go_wp2_with fail
            refine (unhide HINS _ w.heap.size _ (by omega) (unhide HROW2)).mono ?_
            rintro e w3 ⟨v3, rfl, hown3, hb3⟩
            have HO3 := hide (own_mono hown3 hbs2)
            have HB3 := hide ((unhide HB2).trans (hb3.mono hbs2))
            obtain ⟨a3, l3, k3, rfl⟩ := own_slice hown3
            clear hown3 hb3
            go_wp2_with fail
            go_roundg (T.length - (k + 1))
            case measure => omega
            case rel => exact ⟨k + 1, by omega, rfl, by go_num, by rw [unhide HSU]; exact unhide HO3, unhide HB3⟩
          · go_wp2_with fail
            refine (unhide HS _).mono ?_
            rintro e w1 ⟨rfl, hb1⟩
            obtain ⟨hb2, hrow2⟩ := unhide HBA w1 hb1
            have HB2 := hide hb2
            have HROW2 := hide hrow2
            have hbs2 := hb2.size
            clear hb1 hb2 hrow2 HB HROW HBA
            go_wp2_with fail
            go_roundg (T.length - (k + 1))
            case measure => omega
            case rel => exact ⟨k + 1, by omega, rfl, by go_num, by rw [unhide HSU]; exact unhide HROW2, unhide HB2⟩
        · go_wp2_with fail
          refine (unhide HS _).mono ?_
          rintro e w1 ⟨rfl, hb1⟩
          obtain ⟨hb2, hrow2⟩ := unhide HBA w1 hb1
          have HB2 := hide hb2
          have HROW2 := hide hrow2
          have hbs2 := hb2.size
          clear hb1 hb2 hrow2 HB HROW HBA
          go_wp2_with fail
          go_roundg (T.length - (k + 1))
          case measure => omega
          case rel => exact ⟨k + 1, by omega, rfl, by go_num, by rw [unhide HSU]; exact unhide HROW2, unhide HB2⟩
    · have hke : k = T.length := by omega
      have HA := hide (levTo_all T)
      have HB := hide hb
      have HROW := hide hrow
      clear hb hrow
      go_wp2_with fail
      go_ret
      subst hke
      exact ⟨_, rfl, by rw [← unhide HA]; exact unhide HROW, unhide HB⟩

/-- the library's table of powers lies as the program's text lays it -/
def powOK (w : World) : Prop := Lib.TabIs Tryz.prog w "internal/strconv.uint64pow10" .u64 Lib.pow10Tab

theorem digits3 (n : Nat) (h : n < 1000) : three (n : Int) = List.replicate (3 - (Lib.decDigits n).length) 48 ++ Lib.decDigits n ∧ (Lib.decDigits n).length ≤ 3 ∧ 1 ≤ (Lib.decDigits n).length := by
  unfold three dg
  rw [Int.toNat_natCast]
  by_cases h1 : n < 10
  · rw [Lib.decDigits, dif_pos h1]
    have e1 : n / 100 = 0 := by omega
    have e2 : n / 10 % 10 = 0 := by omega
    have e3 : n % 10 = n := by omega
    rw [e1, e2, e3]
    exact ⟨rfl, by simp, by simp⟩
  · rw [Lib.decDigits, dif_neg h1]
    by_cases h2 : n / 10 < 10
    · rw [Lib.decDigits, dif_pos h2]
      have e1 : n / 100 = 0 := by omega
      have e2 : n / 10 % 10 = n / 10 := by omega
      rw [e1, e2]
      exact ⟨rfl, by simp, by simp⟩
    · rw [Lib.decDigits, dif_neg h2, Lib.decDigits, dif_pos (by omega)]
      have e1 : n / 10 / 10 = n / 100 := by omega
      rw [e1]
      exact ⟨rfl, by simp, by simp⟩

theorem grow_below (w : World) (k : Nat) (os : Array Obj) : Below w.heap.size w (Go.Sort.grow (w.drewN k) os) := by
  refine ⟨rfl, rfl, rfl, ?_, fun j hj => ?_⟩
  · simp [Go.Sort.grow]
  · simp only [Go.Sort.grow]
    exact Array.getElem?_append_left hj

set_option maxHeartbeats 1000000 in
theorem threeDigits_any (n : Nat) (hn : n < 1000) (w : World) (hp : powOK w) :
    Calls Tryz.prog 111 #[.int .i64 (n : Int)] w fun e w' => e = .returned (strV (three (n : Int))) ∧ Below w.heap.size w w' := by
  obtain ⟨h3, hl3, hl1⟩ := digits3 n hn
  have hitoa : Lib.itoa (n : Int) = Lib.decDigits n := Lib.itoa_nonneg n
  have HI := hide (Tryz.strconv_Itoa (n : Int) (by omega) (by omega))
  rw [hitoa] at HI
  have H3 := hide h3
  clear h3 hitoa
  generalize Lib.decDigits n = D at *
  go_enter Tryz.func111, Tryz.ntmps111
  go_wp2_with fail
  refine (unhide HI _ hp).mono ?_
  rintro e w1 ⟨rfl, k, os, rfl⟩
  have HB := hide (grow_below w k os)
  generalize Go.Sort.grow (w.drewN k) os = w2 at *
  go_wp2_with fail
  go_loopg [3] (3 - D.length) (fun gk t wr => wr = w2 ∧ ∃ j : Nat, j + D.length ≤ 3 ∧ gk = 3 - (j + D.length) ∧ t = .string ⟨(List.replicate j 48 ++ D).toArray⟩)
  case atStart => exact ⟨rfl, 0, by omega, by omega, rfl⟩
  case round =>
    obtain ⟨rfl, j, hj, rfl, rfl⟩ := hrel
    have hsz : ((⟨(List.replicate j 48 ++ D).toArray⟩ : ByteArray).size : Int) = (j : Int) + (D.length : Int) := by rw [arr_size]; simp
    have HAP := hide (app_arr [48] (List.replicate j 48 ++ D))
    generalize hs : (⟨(List.replicate j 48 ++ D).toArray⟩ : ByteArray) = s at *
    have HS := hide hs
    clear hs
    by_cases hlt : j + D.length < 3
    · have hd : (s.size : Int) < 3 := by omega
      go_wp2_with fail
      go_roundg (3 - (j + 1 + D.length))
      case measure => omega
      case rel => exact ⟨rfl, j + 1, by omega, rfl, congrArg Value.string ((unhide HAP).trans (by rw [List.replicate_succ]; rfl))⟩
    · have hd : ¬ (s.size : Int) < 3 := by omega
      go_wp2_with fail
      go_ret
      refine ⟨?_, unhide HB⟩
      unfold strV
      rw [unhide H3, ← unhide HS, show 3 - D.length = j from by omega]
      rfl

end Go.Proofs.YtchhmojnoiephabGreatDoor

/- The program's machine in memory: a state is put in. -/
namespace Go.Proofs.YtchhmojnoiephabGreatDoor
open Go.ChangeShapes Go.WideShapes Go.ChangeAt Go.RowKit
set_option linter.unusedVariables false

def powG (g : Nat) : Prop := Tryz.prog.globalNamed "internal/strconv.uint64pow10" = some g
theorem pow_lt {w : World} (h : powOK w) {g : Nat} (hg : powG g) : g < w.heap.size := by
  unfold powOK Lib.TabIs World.var? at h
  rw [hg] at h
  simp only [Option.bind_some] at h
  rcases Nat.lt_or_ge g w.heap.size with h' | h'
  · exact h'
  · rw [Array.getElem?_eq_none h'] at h; simp at h
theorem pow_keep {w w' : World} (h : powOK w) (hk : ∀ g, powG g → w'.heap[g]? = w.heap[g]?) : powOK w' := by
  unfold powOK Lib.TabIs World.var? at *
  cases hg : Tryz.prog.globalNamed "internal/strconv.uint64pow10" with
  | none => rw [hg] at h; cases h
  | some g =>
    rw [hg] at h
    simp only [Option.bind_some] at h ⊢
    rw [hk g hg]; exact h

/-- the table of powers, apart from the blocks Q -/
structure PowQ (w : World) (Q : Nat → Prop) : Prop where
  ok : powOK w
  no : ∀ g, powG g → ¬ Q g
theorem PowQ.fr {w w' : World} {Q Q' : Nat → Prop} (h : PowQ w Q) (hf : Fr Q w w' Q') : PowQ w' Q' :=
  ⟨pow_keep h.ok (fun g hg => hf.keep g (pow_lt h.ok hg) (h.no g hg)), fun g hg hq => by
    rcases hf.new g hq with h1 | h1
    · exact h.no g hg h1
    · have := pow_lt h.ok hg; omega⟩
theorem PowQ.below {w w' : World} {Q : Nat → Prop} (h : PowQ w Q) (hb : Below w.heap.size w w') : PowQ w' Q :=
  ⟨pow_keep h.ok (fun g hg => hb.block g (pow_lt h.ok hg)), h.no⟩

/-- the program's machine in memory, at block M, with its blocks Q -/
structure Mac (w : World) (M : Nat) (Q : Nat → Prop) (S : List St) : Prop where
  body : ∃ v, w.heap[M]? = some (.cells #[v] 146 (0, 0)) ∧ w.ownsRow 0 9 1 v S.length ((S.map render).map strV) ∧ ∀ k, v.ownBlock = some k → Q k
  self : Q M
  lt : ∀ k, Q k → k < w.heap.size

theorem Mac.kept {w w' : World} {M : Nat} {Q T T' : Nat → Prop} {S : List St} (h : Mac w M Q S) (hf : Fr T w w' T') (hd : ∀ k, Q k → ¬ T k) : Mac w' M Q S := by
  obtain ⟨v, h1, h2, h3⟩ := h.body
  refine ⟨⟨v, ?_, own_same h2 (fun k hk => hf.keep k (h.lt k (h3 k hk)) (hd k (h3 k hk))), h3⟩, h.self, fun k hk => Nat.lt_of_lt_of_le (h.lt k hk) hf.size⟩
  rw [hf.keep M (h.lt M h.self) (hd M h.self)]; exact h1
theorem Mac.below {w w' : World} {M : Nat} {Q : Nat → Prop} {S : List St} (h : Mac w M Q S) (hb : Below w.heap.size w w') : Mac w' M Q S :=
  h.kept (Fr.of_below (S := fun _ => False) hb) (fun _ _ h => h)

/-- the machine's list is another one now -/
theorem mac_store {w w2 : World} {M : Nat} {Q : Nat → Prop} {S S' : List St} {v' : Value} (h : Mac w M Q S) (hos : w2.os = w.os) (htp : w2.tape = w.tape) (hou : w2.output = w.output) (hsz : w.heap.size ≤ w2.heap.size)
    (hkeep : ∀ k, k < w.heap.size → (¬ Q k ∨ k = M) → w2.heap[k]? = w.heap[k]?) (hown : w2.ownsRow 0 9 1 v' S'.length ((S'.map render).map strV)) (hmv : ∀ k, v'.ownBlock = some k → Q k ∨ w.heap.size ≤ k) :
    Mac (w2.setCell ⟨M, 0, none⟩ v') M (fun k => Q k ∨ v'.ownBlock = some k) S' ∧ Fr Q w (w2.setCell ⟨M, 0, none⟩ v') (fun k => Q k ∨ v'.ownBlock = some k) := by
  obtain ⟨v, h1, h2, h3⟩ := h.body
  have hp := heap_lt h1
  have hp2 : w2.heap[M]? = some (.cells #[v] 146 (0, 0)) := by rw [hkeep M hp (Or.inr rfl)]; exact h1
  have hne := own_not hown hp2 (by decide)
  refine ⟨⟨⟨v', ?_, own_same hown (fun k hk => Below.heap_setCell _ _ _ _ (fun e => hne (by rw [hk, e]))), fun k hk => Or.inr hk⟩, Or.inl h.self, fun k hk => ?_⟩, ⟨?_, ?_, ?_, ?_, fun k hk hn => ?_, fun k hk => ?_⟩⟩
  · rw [heap_setCell_same w2 M 0 _ _ v' hp2]; rfl
  · rcases hk with hk | hk
    · have := h.lt k hk; simp; omega
    · simpa using (hown.lt k hk).2
  · exact hos
  · exact htp
  · exact hou
  · simpa using hsz
  · rw [Below.heap_setCell _ _ _ _ (fun e => hn (by rw [e]; exact h.self))]
    exact hkeep k hk (Or.inl hn)
  · rcases hk with hk | hk
    · exact Or.inl hk
    · exact hmv k hk

/-- a number is answered; the machine has these states -/
def NumPost (w : World) (M : Nat) (Q : Nat → Prop) (r : Int × List St) (e : Ending) (w' : World) : Prop :=
  e = .returned (.int .i64 r.1) ∧ ∃ Q', Mac w' M Q' r.2 ∧ Fr Q w w' Q'

theorem find_two (p : Nat → St → Bool) (S : List St) (h : 2 ≤ S.length) : findS p 0 S = findS p 2 (S.drop 2) := by
  match S, h with
  | a :: b :: S, _ => simp [findS]
theorem find_hit (p : Nat → St → Bool) (S : List St) (k : Nat) (h : k < S.length) (h2 : 2 ≤ k) (hp : p k S[k] = true) : findS p k (S.drop k) = some k := by
  rw [List.drop_eq_getElem_cons h]; simp only [findS]; rw [if_pos ⟨h2, hp⟩]
theorem find_miss (p : Nat → St → Bool) (S : List St) (k : Nat) (h : k < S.length) (hp : p k S[k] = false) : findS p k (S.drop k) = findS p (k + 1) (S.drop (k + 1)) := by
  rw [List.drop_eq_getElem_cons h]; simp only [findS]; rw [if_neg (by simp [hp])]
theorem find_end (p : Nat → St → Bool) (S : List St) (k : Nat) (h : ¬ k < S.length) : findS p k (S.drop k) = none := by
  rw [List.drop_eq_nil_of_le (by omega)]; rfl

theorem mac_cells {w : World} {M : Nat} {Q : Nat → Prop} {S : List St} (h : Mac w M Q S) (h2 : 2 ≤ S.length) : ∃ g cap, w.heap[M]? = some (.cells #[.slice (some ⟨g, 0, none⟩) S.length cap] 146 (0, 0)) ∧ w.ownsRow 0 9 1 (.slice (some ⟨g, 0, none⟩) S.length cap) S.length ((S.map render).map strV) ∧ Q g ∧ S.length ≤ cap ∧ cap ≤ 9223372036854775807 := by
  obtain ⟨v, h1, h2', h3⟩ := h.body
  obtain ⟨g, cap, rfl⟩ := own_form h2' (by omega)
  have hcc := own_cap h2'
  unfold maxLen at hcc
  exact ⟨g, cap, h1, h2', h3 g rfl, hcc.1, by omega⟩

set_option maxHeartbeats 4000000 in
set_option maxRecDepth 1000000 in
theorem put_any (M : Nat) (Q : Nat → Prop) (S : List St) (x : St) (w : World) (h : Mac w M Q S) (h2 : 2 ≤ S.length) (h9 : S.length ≤ 1000) :
    Calls Tryz.prog 126 #[.pointer (some ⟨M, 0, none⟩), strV (render x)] w (NumPost w M Q (putS x S)) := by
  obtain ⟨i0, hi, hz0, hz1, hz2⟩ := info_parts info_string
  obtain ⟨g, cap, hm, hrow, hqg, hcap, hcap2⟩ := mac_cells h h2
  have c0 := cell_block (i := 0) hm rfl
  have f0 := free_block (i := 0) hm
  have hM := heap_lt hm
  have HP : Hid (∀ r, findS (fun _ y => render y == render x) 0 S = r → putS x S = match r with | some i => ((i : Int), S) | none => ((S.length : Int), S ++ [x])) := by
    intro r hr; unfold putS; rw [hr]; cases r <;> rfl
  have HF0 := hide (find_two (fun _ y => render y == render x) S h2)
  have HMAC := hide h
  have HROW := hide hrow
  have HM := hide hm
  have HX : Hid (strV (render x) = .string ⟨(render x).toArray⟩) := rfl
  unfold strV
  clear h hrow hm
  go_enter Tryz.func126, Tryz.ntmps126
  go_wp2_with fail
  go_loop [5] (fun i => ∃ k : Nat, 2 ≤ k ∧ k ≤ S.length ∧ i = .int .i64 k ∧ Hid (findS (fun _ y => render y == render x) 0 S = findS (fun _ y => render y == render x) k (S.drop k))) (fun i => S.length - (intOf i).toNat)
  case atStart => exact ⟨2, by omega, h2, rfl, HF0⟩
  case round =>
    obtain ⟨k, hk2, hk, rfl, HF⟩ := hrel
    by_cases hlt : k < S.length
    · have e1 := own_str_at (i := k) (unhide HROW) (by simpa using hlt)
      simp only [List.getElem_map] at e1
      have hq := eq_strs (render S[k]) (render x)
      have HHIT := hide (find_hit (fun _ y => render y == render x) S k hlt hk2)
      have HMISS := hide (find_miss (fun _ y => render y == render x) S k hlt)
      generalize (⟨(render S[k]).toArray⟩ : ByteArray) = es at *
      cases hc : (render S[k] == render x)
      · rw [hc] at hq
        have HZ := hide ((unhide HF).trans (unhide HMISS hc))
        clear hc HHIT HMISS
        go_wp2_with fail
        go_round
        case rel => exact ⟨k + 1, by omega, by omega, by go_num, HZ⟩
        case measure => simp [intOf]; omega
      · rw [hc] at hq
        have HZ := hide (unhide HP _ ((unhide HF).trans (unhide HHIT hc)))
        clear hc HHIT HMISS
        go_wp2_with fail
        go_ret
        unfold NumPost
        rw [unhide HZ]
        exact ⟨rfl, Q, unhide HMAC, Fr.of_below (Below.refl _ _)⟩
    · have HZ := hide (unhide HP _ ((unhide HF).trans (find_end _ S k hlt)))
      have hg := (unhide HMAC).lt g hqg
      clear HF HP HF0
      go_wp2_with (at_builtin; refine wpList_append_moves _ rfl _ _ 107 rfl 9 i0 (.string ByteArray.empty) 1 16 Tryz.underlying107 hi hz0 hz1 hz2 rfl (by decide) _ _ _ rfl ((unhide HROW).alloc _) ⟨w.heap.size, 0, none⟩ 1 1 [.string ⟨(render x).toArray⟩] rfl rfl ?c1 ?c2 ?c3 ?c4 ?_)
      first
        | (case c1 =>
            intro j u hj
            match j, hj with
            | 0, hj => simp at hj; subst hj; simp [Addr.add])
        | skip
      case c2 => first | rfl | (intro u hu; simp at hu; subst hu; rfl)
      case c3 => unfold maxLen; omega
      case c4 => omega
      intro v' w3 hown' hgrow hmv
      have hnM : ∀ j : Nat, some j = (Value.slice (some ⟨g, 0, none⟩) S.length cap).ownBlock → j = g := fun j hj => by simpa [Value.ownBlock] using hj
      have hMg : M ≠ g := fun e => own_not (unhide HROW) (unhide HM) (by decide) (by rw [e]; rfl)
      have hst := mac_store (w2 := w3) (S' := S ++ [x]) (unhide HMAC) hgrow.os hgrow.tape hgrow.output (by have := hgrow.size; simp at this; omega)
        (fun j hj hjj => by
          rw [hgrow.block j (by simp; omega) (fun e => by
            have := hnM j e
            rcases hjj with hjj | rfl
            · exact hjj (this ▸ hqg)
            · exact hMg this), Below.heap_alloc _ _ _ hj])
        (by rw [List.length_append, show ((S ++ [x]).map render).map strV = S.map (strV ∘ render) ++ [Value.string ⟨(render x).toArray⟩] from by simp [strV]]; exact hown')
        (fun j hj => by rcases hmv j hj with h | h
                        · exact Or.inl (by rw [hnM j h.symm]; exact hqg)
                        · exact Or.inr (by first | omega | (simp at h; omega)))
      obtain ⟨g', cap', rfl⟩ := own_form hown' (by omega)
      have hpp : w3.heap[M]? = some (.cells #[.slice (some ⟨g, 0, none⟩) S.length cap] 146 (0, 0)) := by
        rw [hgrow.block M (by simp; omega) (fun e => hMg (hnM M e)), Below.heap_alloc _ _ _ hM]; exact unhide HM
      have c1 := cell_block (i := 0) hpp rfl
      have f1 := free_block (i := 0) hpp
      have HST := hide hst
      have hws := wrap_small ((S.length : Int) + 1 - 1) (by omega) (by omega)
      clear hst hown' hgrow hmv c0 f0 hpp hnM
      go_wp2_with fail
      go_ret
      unfold NumPost
      rw [unhide HZ]
      obtain ⟨t1, t2⟩ := unhide HST
      exact ⟨by first | rfl | (congr 2; omega), _, t1, t2⟩

end Go.Proofs.YtchhmojnoiephabGreatDoor

/- The program's machine is built: the edges of a state, and its number. -/
namespace Go.Proofs.YtchhmojnoiephabGreatDoor
open Go.ChangeShapes Go.WideShapes Go.ChangeAt Go.RowKit
set_option linter.unusedVariables false

/-- a row of threads of the call's own, apart from the machine's blocks -/
structure ThrRow (w : World) (Q : Nat → Prop) (v : Value) (T : List ThrC) : Prop where
  own : w.ownsRow 0 105 3 v T.length (thrCells T)
  no : ∀ k, v.ownBlock = some k → ¬ Q k
  ok : ∀ c ∈ T, okC c
  few : T.length ≤ 6
theorem ThrRow.below {w w' : World} {Q : Nat → Prop} {v : Value} {T : List ThrC} (h : ThrRow w Q v T) (hb : Below w.heap.size w w') : ThrRow w' Q v T := ⟨own_below h.own hb, h.no, h.ok, h.few⟩
theorem ThrRow.fr {w w' : World} {Q Q' : Nat → Prop} {v : Value} {T : List ThrC} (h : ThrRow w Q v T) (hf : Fr Q w w' Q') : ThrRow w' Q' v T :=
  ⟨own_same h.own (fun k hk => hf.keep k (h.own.lt k hk).2 (h.no k hk)), fun k hk hq => by
    rcases hf.new k hq with h1 | h1
    · exact h.no k hk h1
    · have := (h.own.lt k hk).2; omega, h.ok, h.few⟩

/-- a row of levels of the call's own, apart from the machine's blocks -/
structure LevRow (w : World) (Q : Nat → Prop) (v : Value) (ls : List (List UInt8)) : Prop where
  own : w.ownsRow 0 9 1 v ls.length (ls.map strV)
  no : ∀ k, v.ownBlock = some k → ¬ Q k
theorem LevRow.below {w w' : World} {Q : Nat → Prop} {v : Value} {ls : List (List UInt8)} (h : LevRow w Q v ls) (hb : Below w.heap.size w w') : LevRow w' Q v ls := ⟨own_below h.own hb, h.no⟩
theorem LevRow.fr {w w' : World} {Q Q' : Nat → Prop} {v : Value} {ls : List (List UInt8)} (h : LevRow w Q v ls) (hf : Fr Q w w' Q') : LevRow w' Q' v ls :=
  ⟨own_same h.own (fun k hk => hf.keep k (h.own.lt k hk).2 (h.no k hk)), fun k hk hq => by
    rcases hf.new k hq with h1 | h1
    · exact h.no k hk h1
    · have := (h.own.lt k hk).2; omega⟩

/-- what the program's number must do -/
def NumC (C : List Thr → Prop) (n : Nat) (num : NumF) : Prop := ∀ (T : List ThrC) (v : Value) (M : Nat) (Q : Nat → Prop) (S : List St) (w : World), C (T.map absT) → (∀ t ∈ T.map absT, gT t) → (∀ t ∈ T.map absT, depT t ≤ n) → Inv C S →
  Mac w M Q S → PowQ w Q → ThrRow w Q v T → Calls Tryz.prog 109 #[.pointer (some ⟨M, 0, none⟩), v] w (NumPost w M Q (num (T.map absT) S))

/-- a text is answered; the machine has these states -/
def EdgPost (w : World) (M : Nat) (Q : Nat → Prop) (r : List (List UInt8 × Int) × Int × List St) (e : Ending) (w' : World) : Prop :=
  e = .returned (strV (rEdges r.1 ++ rStar r.2.1)) ∧ ∃ Q', Mac w' M Q' r.2.2 ∧ Fr Q w w' Q'

/-- the first k levels have been met -/
structure EdgTo (C : List Thr → Prop) (T : List Thr) (st : Int) (k : Nat) (r : List (List UInt8 × Int) × List St) : Prop where
  inv : Inv C r.2
  len : (rEdges (cutTo st r.1)).length ≤ 29 * k
  tow : ∀ e ∈ r.1, 2 ≤ e.2 ∧ e.2 < 900

theorem edg_to {C : List Thr → Prop} (hcount : ∀ S, Inv C S → S.length ≤ 900) {n : Nat} {num : NumF} (hnum : NumOK C n num) (T : List Thr) (hT : ∀ t ∈ T, gT t) (hd : ∀ t ∈ T, depT t ≤ n + 1) (hC : ∀ m, metL m → C (meetL m T)) (S : List St) (hS : Inv C S) (st : Int) (k : Nat) :
    EdgTo C T st k (edgF num T ((levsT T).take k) S) := by
  obtain ⟨R, e, i, f, a, r⟩ := edgF_spec hnum T hT hd hC ((levsT T).take k) S (fun l hl => ⟨(lev_met T hT l (List.mem_of_mem_take hl)).1, (lev_met T hT l (List.mem_of_mem_take hl)).2.2⟩) hS
  have hi : Inv C (edgF num T ((levsT T).take k) S).2 := by rw [e]; exact i
  have h9 := hcount _ hi
  refine ⟨hi, ?_, fun x hx => ?_⟩
  · have hl : ∀ x ∈ cutTo st (edgF num T ((levsT T).take k) S).1, x.1.length ≤ 24 := by
      intro x hx
      have hm : x.1 ∈ (levsT T).take k := by rw [← f]; exact List.mem_map_of_mem (cut_mem.1 hx).1
      exact (lev_met T hT x.1 (List.mem_of_mem_take hm)).2.1
    have h1 := rEdges_len _ hl
    have h2 : (cutTo st (edgF num T ((levsT T).take k) S).1).length ≤ (edgF num T ((levsT T).take k) S).1.length := List.length_filter_le _ _
    have h3 : (edgF num T ((levsT T).take k) S).1.length ≤ k := by
      have hh := congrArg List.length f
      rw [List.length_map, List.length_take] at hh
      omega
    omega
  · have := a x hx
    rw [← e] at this
    omega

theorem edg_succ (num : NumF) (T : List Thr) (S : List St) (k : Nat) (h : k < (levsT T).length) :
    edgF num T ((levsT T).take (k + 1)) S = ((edgF num T ((levsT T).take k) S).1 ++ [((levsT T)[k], (num (meetL (levsT T)[k] T) (edgF num T ((levsT T).take k) S).2).1)], (num (meetL (levsT T)[k] T) (edgF num T ((levsT T).take k) S).2).2) := by
  rw [List.take_succ_eq_append_getElem h, edgF_snoc]
theorem cut_snoc (st : Int) (F : List (List UInt8 × Int)) (e : List UInt8 × Int) : cutTo st (F ++ [e]) = if e.2 = st then cutTo st F else cutTo st F ++ [e] := by
  unfold cutTo
  rw [List.filter_append]
  by_cases h : e.2 = st <;> simp [h]
theorem rEdges_snoc (F : List (List UInt8 × Int)) (e : List UInt8 × Int) : rEdges (F ++ [e]) = rEdges F ++ rEdge e := by
  unfold rEdges; simp

/-- the text of an edge put behind -/
theorem edge_text (t l : List UInt8) (k : Int) : (⟨t.toArray⟩ : ByteArray) ++ (⟨#[44]⟩ : ByteArray) ++ (⟨l.toArray⟩ : ByteArray) ++ (⟨#[62]⟩ : ByteArray) ++ (⟨(three k).toArray⟩ : ByteArray) = ⟨(t ++ rEdge (l, k)).toArray⟩ := by
  have e1 : (⟨#[44]⟩ : ByteArray) = ⟨[44].toArray⟩ := rfl
  have e2 : (⟨#[62]⟩ : ByteArray) = ⟨[62].toArray⟩ := rfl
  rw [e1, e2, app_arr, app_arr, app_arr, app_arr]
  simp [rEdge]
theorem star_text (t : List UInt8) (k : Int) (h : ¬ k = -1) : (⟨t.toArray⟩ : ByteArray) ++ (⟨#[42]⟩ : ByteArray) ++ (⟨(three k).toArray⟩ : ByteArray) = ⟨(t ++ rStar k).toArray⟩ := by
  have e1 : (⟨#[42]⟩ : ByteArray) = ⟨[42].toArray⟩ := rfl
  rw [e1, app_arr, app_arr]
  simp [rStar, h]

theorem thr_new {w w' : World} {M : Nat} {Q : Nat → Prop} {S : List St} {v : Value} {T : List ThrC} (hm : Mac w M Q S) (h : w'.ownsRow w.heap.size 105 3 v T.length (thrCells T)) (hok : ∀ c ∈ T, okC c) (hf : T.length ≤ 6) : ThrRow w' Q v T :=
  ⟨own_mono h (Nat.zero_le _), fun k hk hq => by have := (h.lt k hk).1; have := hm.lt k hq; omega, hok, hf⟩
theorem lev_new {w w' : World} {M : Nat} {Q : Nat → Prop} {S : List St} {v : Value} {ls : List (List UInt8)} (hm : Mac w M Q S) (h : w'.ownsRow w.heap.size 9 1 v ls.length (ls.map strV)) : LevRow w' Q v ls :=
  ⟨own_mono h (Nat.zero_le _), fun k hk hq => by have := (h.lt k hk).1; have := hm.lt k hq; omega⟩

theorem sz_arr (l : List UInt8) (n : Nat) (h : l.length ≤ n) : (⟨l.toArray⟩ : ByteArray).size ≤ n := by rw [arr_size]; exact h

end Go.Proofs.YtchhmojnoiephabGreatDoor

namespace Go.Proofs.YtchhmojnoiephabGreatDoor
open Go.ChangeShapes Go.WideShapes Go.ChangeAt Go.RowKit
set_option linter.unusedVariables false

set_option maxHeartbeats 8000000 in
set_option maxRecDepth 1000000 in
theorem writeEdges_any {C : List Thr → Prop} (hcount : ∀ S, Inv C S → S.length ≤ 900) {n : Nat} {num : NumF} (hnum : NumOK C n num) (hN : NumC C n num) (T : List ThrC) (v : Value) (M : Nat) (Q : Nat → Prop) (S : List St) (w : World)
    (hT : ∀ t ∈ T.map absT, gT t) (hd : ∀ t ∈ T.map absT, depT t ≤ n + 1) (hC : ∀ m, metL m → C (meetL m (T.map absT))) (hS : Inv C S) (hm : Mac w M Q S) (hp : PowQ w Q) (hr : ThrRow w Q v T) :
    Calls Tryz.prog 89 #[.pointer (some ⟨M, 0, none⟩), v] w (EdgPost w M Q (edgS num (T.map absT) S)) := by
  have hfew := hr.few
  have h42 : metL [42] := Or.inr rfl
  have hN1 := hN (meetCs [42] T)
  rw [meetCs_abs] at hN1
  have HTO := hide (fun S' hS' st k => edg_to hcount hnum (T.map absT) hT hd hC S' hS' st k)
  obtain ⟨k1, R1, e1, i1, in1, _, _, _⟩ := hnum (meetL [42] (T.map absT)) S (hC _ h42) (meetL_gT hT h42) (meetL_dep (fun t ht => (hT t ht).1) h42 hd) hS
  have h1a : (num (meetL [42] (T.map absT)) S).1 = k1 := by rw [e1]
  have h1b : Inv C (num (meetL [42] (T.map absT)) S).2 := by rw [e1]; exact i1
  have hk1 : k1 = -1 ∨ ∃ q : Nat, k1 = (q : Int) ∧ q < 900 := by
    rcases in1 with h | ⟨h, h'⟩
    · exact Or.inl h
    · have := hcount _ i1
      exact Or.inr ⟨k1.toNat, by omega, by omega⟩
  have HN1 := hide (hN1 · · · · · (hC _ h42) (meetL_gT hT h42) (meetL_dep (fun t ht => (hT t ht).1) h42 hd))
  have HLM := hide (lev_met (T.map absT) hT)
  have HNL : Hid (∀ l, metL l → ∀ (v : Value) (M : Nat) (Q : Nat → Prop) (S : List St) (w : World), Inv C S → Mac w M Q S → PowQ w Q → ThrRow w Q v (meetCs l T) → Calls Tryz.prog 109 #[.pointer (some ⟨M, 0, none⟩), v] w (NumPost w M Q (num (meetL l (T.map absT)) S))) := by
    intro l hl v M Q S w hS hm hp hr
    have := hN (meetCs l T) v M Q S w
    rw [meetCs_abs] at this
    exact this (hC l hl) (meetL_gT hT hl) (meetL_dep (fun t ht => (hT t ht).1) hl hd) hS hm hp hr
  have HES : Hid (edgS num (T.map absT) S = (cutTo (num (meetL [42] (T.map absT)) S).1 (edgF num (T.map absT) (levsT (T.map absT)) (num (meetL [42] (T.map absT)) S).2).1, (num (meetL [42] (T.map absT)) S).1, (edgF num (T.map absT) (levsT (T.map absT)) (num (meetL [42] (T.map absT)) S).2).2)) := rfl
  have HLO := hide (levelsOf_any T v 0)
  have hll := levsT_len (T.map absT)
  rw [List.length_map] at hll
  have HSU := hide (fun S' k h => edg_succ num (T.map absT) S' k h)
  have HS := hide hS
  have HM := hide hm
  have HP := hide hp
  have HR := hide hr
  obtain ⟨av, lv, cv, rfl⟩ := own_slice hr.own
  clear hN1 hnum hN hT hd hC e1 i1 in1 hS hm hp hr
  generalize hr1e : num (meetL [42] (T.map absT)) S = r1 at *
  obtain ⟨st, S1⟩ := r1
  simp only at h1a h1b HES
  subst h1a
  have HRE := hide hr1e
  clear hr1e
  have HS1 := hide h1b
  clear h1b
  generalize levsT (T.map absT) = ls at *
  go_enter Tryz.func89, Tryz.ntmps89
  go_wp2_with fail
  refine (meet_any T [42] _ 0 _ (unhide HR).ok (by omega) (unhide HR).own).mono ?_
  rintro e w1 ⟨v1, rfl, hown1, hb1⟩
  obtain ⟨a1, l1, c1, rfl⟩ := own_slice hown1
  have HR1 := hide (thr_new (unhide HM) hown1 (meetCs_ok [42] T (unhide HR).ok) (Nat.le_trans (meetCs_len [42] T) (unhide HR).few))
  have HF1 := hide (Fr.of_below (S := Q) hb1)
  replace HM := hide ((unhide HM).below hb1)
  replace HP := hide ((unhide HP).below hb1)
  replace HR := hide ((unhide HR).below hb1)
  clear hown1 hb1
  go_wp2_with fail
  refine (unhide HN1 _ M Q S _ (unhide HS) (unhide HM) (unhide HP) (unhide HR1)).mono ?_
  rw [unhide HRE]
  rintro e w2 ⟨rfl, Q2, hm2, hf2⟩
  replace HP := hide ((unhide HP).fr hf2)
  replace HR := hide ((unhide HR).fr hf2)
  replace HF1 := hide ((unhide HF1).trans hf2)
  have HM2 := hide hm2
  clear hm2 hf2 HM HR1 HN1
  simp only at HM2
  clear HRE
  go_wp2_with fail
  refine (unhide HLO _ (unhide HR).ok (by omega) (unhide HR).own).mono ?_
  rintro e w3 ⟨lw, rfl, hown3, hb3⟩
  have HL3 := hide (lev_new (unhide HM2) hown3)
  obtain ⟨a3, l3, c3, rfl⟩ := own_slice hown3
  have hl3 : l3 = ls.length := own_len hown3
  subst hl3
  replace HM2 := hide ((unhide HM2).below hb3)
  replace HP := hide ((unhide HP).below hb3)
  replace HR := hide ((unhide HR).below hb3)
  replace HF1 := hide ((unhide HF1).trans (Fr.of_below hb3))
  clear hown3 hb3 HLO
  go_upto_block 0 with fail
  go_cut [7] (fun t wc => ∃ Qc, t = .string ⟨(rEdges (cutTo st (edgF num (T.map absT) ls S1).1)).toArray⟩ ∧ Mac wc M Qc (edgF num (T.map absT) ls S1).2 ∧ PowQ wc Qc ∧ Fr Q w wc Qc)
  case first =>
    go_wp2_with fail
    go_loopg [5, 7, 9, 10, 19] ls.length (fun gk _ t _ _ i wr => ∃ (k : Nat) (Qk : Nat → Prop), k ≤ ls.length ∧ gk = ls.length - k ∧ i = .int .i64 k ∧ t = .string ⟨(rEdges (cutTo st (edgF num (T.map absT) (ls.take k) S1).1)).toArray⟩ ∧ Mac wr M Qk (edgF num (T.map absT) (ls.take k) S1).2 ∧ PowQ wr Qk ∧ ThrRow wr Qk (.slice av lv cv) T ∧ LevRow wr Qk (.slice a3 ls.length c3) ls ∧ Fr Q w wr Qk)
    case atStart => exact ⟨0, Q2, by omega, by omega, rfl, rfl, unhide HM2, unhide HP, unhide HR, unhide HL3, unhide HF1⟩
    case round =>
      obtain ⟨k, Qk, hk, rfl, rfl, rfl, hmk, hpk, hrk, hlk, hfk⟩ := hrel
      clear HM2 HP HR HL3 HF1
      by_cases hlt : k < ls.length
      · obtain ⟨g, cap, hv⟩ := own_form hlk.own (by omega)
        simp only [Value.slice.injEq] at hv
        obtain ⟨rfl, _, rfl⟩ := hv
        have hcc := own_cap hlk.own
        unfold maxLen at hcc
        obtain ⟨hcap, hcap2⟩ := hcc
        have e1 := own_str_at hlk.own hlt
        have hlm := unhide HLM ls[k] (List.getElem_mem hlt)
        have hin := unhide HTO S1 (unhide HS1) st k
        have hin2 := unhide HTO S1 (unhide HS1) st (k + 1)
        have hsu := unhide HSU S1 k hlt
        have HMC := hide (meet_any T ls[k] (.slice av lv cv) 0 wr hrk.ok (by omega) hrk.own)
        have HOK := hide (meetCs_ok ls[k] T hrk.ok)
        have HLEN := hide (Nat.le_trans (meetCs_len ls[k] T) hrk.few)
        have HNK := hide (unhide HNL ls[k] (Or.inl hlm.1))
        have hlevsz : (⟨ls[k].toArray⟩ : ByteArray).size ≤ 24 := sz_arr _ _ hlm.2.1
        have htsz : (⟨(rEdges (cutTo st (edgF num (T.map absT) (ls.take k) S1).1)).toArray⟩ : ByteArray).size ≤ 29 * k := sz_arr _ _ hin.len
        have HINV := hide hin.inv
        have HTW := hide hin2.tow
        have HET := hide (edge_text (rEdges (cutTo st (edgF num (T.map absT) (ls.take k) S1).1)) ls[k])
        rw [hsu] at HTW
        have HSU2 := hide hsu
        have HMK := hide hmk
        have HPK := hide hpk
        have HRK := hide hrk
        have HLK := hide hlk
        have HFK := hide hfk
        unfold strV at HMC
        clear hmk hpk hrk hlk hfk hin hin2 hsu hlm
        generalize hrk0 : edgF num (T.map absT) (ls.take k) S1 = rk at *
        have HRK0 := hide hrk0
        clear hrk0
        obtain ⟨F, Sk⟩ := rk
        simp only at HINV HTW HET HSU2 HMK htsz
        have HNK2 := hide (fun (v : Value) (Q : Nat → Prop) (w : World) => unhide HNK v M Q Sk w (unhide HINV))
        clear HNK
        generalize num (meetL ls[k] (T.map absT)) Sk = r2 at *
        obtain ⟨tt, S2⟩ := r2
        simp only at HTW HSU2
        have htw := unhide HTW (ls[k], tt) (by simp)
        simp only at htw
        obtain ⟨q, rfl⟩ := Int.eq_ofNat_of_zero_le (by omega : 0 ≤ tt)
        have hq9 : q < 1000 := by omega
        have HCS := hide (cut_snoc st F (ls[k], (q : Int)))
        have HRS := hide (rEdges_snoc (cutTo st F) (ls[k], (q : Int)))
        have HETQ := hide (unhide HET (q : Int))
        have h3sz : (⟨(three (q : Int)).toArray⟩ : ByteArray).size = 3 := by rw [arr_size]; rfl
        have HTD := hide (threeDigits_any q hq9)
        unfold strV at HTD
        clear HTW HET htw HINV
        generalize (⟨ls[k].toArray⟩ : ByteArray) = es at *
        generalize hte : (⟨(rEdges (cutTo st F)).toArray⟩ : ByteArray) = te at *
        have HTE := hide hte
        clear hte
        generalize (⟨(three (q : Int)).toArray⟩ : ByteArray) = td at *
        go_wp2_with fail
        refine (unhide HMC).mono ?_
        rintro e w4 ⟨v4, rfl, hown4, hb4⟩
        have HR4 := hide (thr_new (unhide HMK) hown4 (unhide HOK) (unhide HLEN))
        obtain ⟨a4, l4, c4, rfl⟩ := own_slice hown4
        replace HMK := hide ((unhide HMK).below hb4)
        replace HPK := hide ((unhide HPK).below hb4)
        replace HRK := hide ((unhide HRK).below hb4)
        replace HLK := hide ((unhide HLK).below hb4)
        replace HFK := hide ((unhide HFK).trans (Fr.of_below hb4))
        clear hown4 hb4 HMC e1
        go_wp2_with fail
        refine (unhide HNK2 _ Qk _ (unhide HMK) (unhide HPK) (unhide HR4)).mono ?_
        rintro e w5 ⟨rfl, Q5, hm5, hf5⟩
        simp only at hm5
        have HM5 := hide hm5
        have HP5 := hide ((unhide HPK).fr hf5)
        have HR5 := hide ((unhide HRK).fr hf5)
        have HL5 := hide ((unhide HLK).fr hf5)
        have HF5 := hide ((unhide HFK).trans hf5)
        clear hm5 hf5 HMK HPK HRK HLK HFK HNK2
        by_cases hts : (q : Int) = st
        · have bts : ((q : Int) != st) = false := by simp [hts]
          have HT : Hid (cutTo st (F ++ [(ls[k], (q : Int))]) = cutTo st F) := (unhide HCS).trans (by rw [if_pos hts])
          clear hts
          go_wp2_with fail
          go_roundg (ls.length - (k + 1))
          case measure => omega
          case rel => exact ⟨k + 1, Q5, by omega, rfl, by go_num, by rw [unhide HSU2]; simp only; rw [unhide HT, unhide HTE], by rw [unhide HSU2]; exact unhide HM5, unhide HP5, unhide HR5, unhide HL5, unhide HF5⟩
        · have bts : ((q : Int) != st) = true := by simpa using hts
          have HT : Hid (cutTo st (F ++ [(ls[k], (q : Int))]) = cutTo st F ++ [(ls[k], (q : Int))]) := (unhide HCS).trans (by rw [if_neg hts])
          clear hts
          go_wp2_with fail
          refine (unhide HTD _ (unhide HP5).ok).mono ?_
          rintro e w6 ⟨rfl, hb6⟩
          have HM6 := hide ((unhide HM5).below hb6)
          have HP6 := hide ((unhide HP5).below hb6)
          have HR6 := hide ((unhide HR5).below hb6)
          have HL6 := hide ((unhide HL5).below hb6)
          have HF6 := hide ((unhide HF5).trans (Fr.of_below hb6))
          clear hb6 HM5 HP5 HR5 HL5 HF5
          go_wp2_with fail
          go_roundg (ls.length - (k + 1))
          case measure => omega
          case rel => exact ⟨k + 1, Q5, by omega, rfl, by go_num, by rw [unhide HSU2]; simp only; rw [unhide HT, unhide HRS, ← unhide HETQ], by rw [unhide HSU2]; exact unhide HM6, unhide HP6, unhide HR6, unhide HL6, unhide HF6⟩
      · have hke : k = ls.length := by omega
        have hall : ls.take k = ls := List.take_of_length_le (by omega)
        rw [hall] at hmk
        rw [hall]
        have HMK := hide hmk
        have HPK := hide hpk
        have HFK := hide hfk
        clear hmk hpk hrk hlk hfk hall
        go_wp2_with fail
        go_meet
        exact ⟨Qk, rfl, unhide HMK, unhide HPK, unhide HFK⟩
  case rest =>
    obtain ⟨Qc, rfl, hmc, hpc, hfc⟩ := hcut
    have hin := unhide HTO S1 (unhide HS1) st ls.length
    rw [List.take_length] at hin
    have htsz : (⟨(rEdges (cutTo st (edgF num (T.map absT) ls S1).1)).toArray⟩ : ByteArray).size ≤ 29 * ls.length := sz_arr _ _ hin.len
    have HMC := hide hmc
    have HPC := hide hpc
    have HFC := hide hfc
    clear hmc hpc hfc hin HM2 HP HR HL3 HF1
    rcases hk1 with rfl | ⟨q, rfl, hq⟩
    · have HX : Hid ((⟨(rEdges (cutTo (-1) (edgF num (T.map absT) ls S1).1)).toArray⟩ : ByteArray) = ⟨(rEdges (cutTo (-1) (edgF num (T.map absT) ls S1).1) ++ rStar (-1)).toArray⟩) := by
        unfold Hid; simp [rStar]
      generalize (⟨(rEdges (cutTo (-1) (edgF num (T.map absT) ls S1).1)).toArray⟩ : ByteArray) = te at *
      go_wp2_with fail
      go_ret
      unfold EdgPost
      rw [unhide HES]
      exact ⟨by unfold strV; simp only; rw [← unhide HX]; rfl, Qc, unhide HMC, unhide HFC⟩
    · have bq : ((q : Int) != -1) = true := by rw [bne_iff_ne]; omega
      have HX := hide (star_text (rEdges (cutTo (q : Int) (edgF num (T.map absT) ls S1).1)) (q : Int) (by omega))
      have h3sz : (⟨(three (q : Int)).toArray⟩ : ByteArray).size = 3 := by rw [arr_size]; rfl
      have HTD := hide (threeDigits_any q (by omega))
      unfold strV at HTD
      generalize (⟨(rEdges (cutTo (q : Int) (edgF num (T.map absT) ls S1).1)).toArray⟩ : ByteArray) = te at *
      generalize (⟨(three (q : Int)).toArray⟩ : ByteArray) = td at *
      go_wp2_with fail
      refine (unhide HTD _ (unhide HPC).ok).mono ?_
      rintro e w6 ⟨rfl, hb6⟩
      have HM6 := hide ((unhide HMC).below hb6)
      have HF6 := hide ((unhide HFC).trans (Fr.of_below hb6))
      clear hb6 HMC HPC HFC
      go_wp2_with fail
      go_ret
      unfold EdgPost
      rw [unhide HES]
      exact ⟨by unfold strV; simp only; rw [← unhide HX]; rfl, Qc, unhide HM6, unhide HF6⟩

end Go.Proofs.YtchhmojnoiephabGreatDoor

/- A state that leads to itself is put in. -/
namespace Go.Proofs.YtchhmojnoiephabGreatDoor
open Go.ChangeShapes Go.WideShapes Go.ChangeAt Go.RowKit
set_option linter.unusedVariables false

theorem loop_text (a : List UInt8) (k : Nat) : (⟨a.toArray⟩ : ByteArray) ++ (⟨#[42]⟩ : ByteArray) ++ (⟨(three (k : Int)).toArray⟩ : ByteArray) = ⟨(render ⟨a, [], (k : Int)⟩).toArray⟩ := by
  have h1 := app_arr a [42]
  have h2 := app_arr (a ++ [42]) (three (k : Int))
  have e : (⟨#[42]⟩ : ByteArray) = ⟨[42].toArray⟩ := rfl
  rw [e, h1, h2]
  have hk : ¬ (k : Int) = -1 := by omega
  simp [render, rEdges, rStar, hk]

set_option maxHeartbeats 8000000 in
set_option maxRecDepth 1000000 in
theorem putLoop_any (M : Nat) (Q : Nat → Prop) (S : List St) (a : List UInt8) (w : World) (h : Mac w M Q S) (hpw : PowQ w Q) (h2 : 2 ≤ S.length) (h9 : S.length ≤ 900) (ha : a.length ≤ 100) :
    Calls Tryz.prog 125 #[.pointer (some ⟨M, 0, none⟩), strV a] w (NumPost w M Q (loopS a S)) := by
  obtain ⟨i0, hi, hz0, hz1, hz2⟩ := info_parts info_string
  have HP : Hid (∀ r, findS (fun i y => render y == render ⟨a, [], (i : Int)⟩) 0 S = r → loopS a S = match r with | some i => ((i : Int), S) | none => ((S.length : Int), S ++ [⟨a, [], (S.length : Int)⟩])) := by
    intro r hr; unfold loopS; rw [hr]; cases r <;> rfl
  have HF0 := hide (find_two (fun i y => render y == render ⟨a, [], (i : Int)⟩) S h2)
  have HMAC := hide h
  have HPW := hide hpw
  have hasz : (⟨a.toArray⟩ : ByteArray).size ≤ 100 := by rw [arr_size]; exact ha
  have HLT := hide (loop_text a)
  have h3sz : ∀ k : Nat, (⟨(three (k : Int)).toArray⟩ : ByteArray).size = 3 := fun k => by rw [arr_size]; rfl
  have H3 := hide h3sz
  unfold strV
  clear h hpw h3sz
  generalize (⟨a.toArray⟩ : ByteArray) = ab at *
  go_enter Tryz.func125, Tryz.ntmps125
  go_wp2_with fail
  go_loopg [5] (S.length - 2) (fun gk i wr => ∃ k : Nat, 2 ≤ k ∧ k ≤ S.length ∧ gk = S.length - k ∧ i = .int .i64 k ∧ Below w.heap.size w wr ∧ Hid (findS (fun i y => render y == render ⟨a, [], (i : Int)⟩) 0 S = findS (fun i y => render y == render ⟨a, [], (i : Int)⟩) k (S.drop k)))
  case atStart => exact ⟨2, by omega, h2, rfl, rfl, Below.refl _ _, HF0⟩
  case round =>
    obtain ⟨k, hk2, hk, rfl, rfl, hb, HF⟩ := hrel
    have hbs := hb.size
    obtain ⟨g, cap, hm, hrow, hqg, hcap, hcap2⟩ := mac_cells ((unhide HMAC).below hb) h2
    have c0 := cell_block (i := 0) hm rfl
    have f0 := free_block (i := 0) hm
    have hM := heap_lt hm
    by_cases hlt : k < S.length
    · have e1 := own_str_at (i := k) hrow (by simpa using hlt)
      simp only [List.getElem_map] at e1
      have hgl := blk_lt e1
      have hq := eq_strs (render S[k]) (render ⟨a, [], (k : Int)⟩)
      have HHIT := hide (find_hit (fun i y => render y == render ⟨a, [], (i : Int)⟩) S k hlt hk2)
      have HMISS := hide (find_miss (fun i y => render y == render ⟨a, [], (i : Int)⟩) S k hlt)
      have HTD := hide (threeDigits_any k (by omega))
      have hpk : powOK wr := ((unhide HPW).below hb).ok
      have HPK := hide hpk
      have HB := hide hb
      have hlk := unhide HLT k
      have h3k := unhide H3 k
      unfold strV at HTD
      clear hb hpk hrow hm
      generalize (⟨(render S[k]).toArray⟩ : ByteArray) = es at *
      generalize (⟨(three (k : Int)).toArray⟩ : ByteArray) = td at *
      cases hc : (render S[k] == render ⟨a, [], (k : Int)⟩)
      · rw [hc] at hq
        have HZ := hide ((unhide HF).trans (unhide HMISS hc))
        clear hc HHIT HMISS HF HP HF0
        go_wp2_with fail
        go_region_with (go_at_call 111; refine (unhide HTD _ ?_).mono ?_; (exact pow_keep (unhide HPK) (fun _ _ => rfl)); rintro e w2 ⟨rfl, hb2⟩; have c2 : w2.cell? ⟨M, 0, none⟩ = some (.slice (some ⟨g, 0, none⟩) S.length cap) := (hb2.cell (p := ⟨M, 0, none⟩) hM).trans c0; have e2 : w2.cell? ⟨g, k, none⟩ = some (.string es) := (hb2.cell (p := ⟨g, k, none⟩) hgl).trans e1)
        all_goals
          have HB2 : Hid (Below w.heap.size w w2) := (unhide HB).trans (Below.mono ⟨hb2.os, hb2.tape, hb2.output, hb2.size, hb2.block⟩ hbs)
          clear hb2
          go_wp2_with fail
          go_roundg (S.length - (k + 1))
          case measure => omega
          case rel => exact ⟨k + 1, by omega, by omega, rfl, by go_num, unhide HB2, HZ⟩
      · rw [hc] at hq
        have HZ := hide (unhide HP _ ((unhide HF).trans (unhide HHIT hc)))
        clear hc HHIT HMISS HF HP HF0
        go_wp2_with fail
        go_region_with (go_at_call 111; refine (unhide HTD _ ?_).mono ?_; (exact pow_keep (unhide HPK) (fun _ _ => rfl)); rintro e w2 ⟨rfl, hb2⟩; have c2 : w2.cell? ⟨M, 0, none⟩ = some (.slice (some ⟨g, 0, none⟩) S.length cap) := (hb2.cell (p := ⟨M, 0, none⟩) hM).trans c0; have e2 : w2.cell? ⟨g, k, none⟩ = some (.string es) := (hb2.cell (p := ⟨g, k, none⟩) hgl).trans e1)
        all_goals
          have HB2 : Hid (Below w.heap.size w w2) := (unhide HB).trans (Below.mono ⟨hb2.os, hb2.tape, hb2.output, hb2.size, hb2.block⟩ hbs)
          clear hb2
          go_wp2_with fail
          go_ret
          unfold NumPost
          rw [unhide HZ]
          exact ⟨rfl, Q, (unhide HMAC).below (unhide HB2), Fr.of_below (unhide HB2)⟩
    · have HZ := hide (unhide HP _ ((unhide HF).trans (find_end _ S k hlt)))
      have HTD := hide (threeDigits_any S.length (by omega))
      have hpk : powOK wr := ((unhide HPW).below hb).ok
      have HB := hide hb
      have hlk := unhide HLT S.length
      have h3k := unhide H3 S.length
      unfold strV at HTD
      clear HF HP HF0 hb hrow hm HLT H3
      generalize (⟨(three (S.length : Int)).toArray⟩ : ByteArray) = td at *
      go_wp2_with fail
      refine (unhide HTD _ hpk).mono ?_
      rintro e w2 ⟨rfl, hb2⟩
      have hbs2 := hb2.size
      have HB2 := hide ((unhide HB).trans (hb2.mono hbs))
      clear hb2 hpk c0 f0
      obtain ⟨g, cap, hm, hrow, hqg, hcap, hcap2⟩ := mac_cells ((unhide HMAC).below (unhide HB2)) h2
      have c0 := cell_block (i := 0) hm rfl
      have f0 := free_block (i := 0) hm
      have hM := heap_lt hm
      have HMAC2 := hide ((unhide HMAC).below (unhide HB2))
      have HROW := hide hrow
      have HM := hide hm
      have hg := (unhide HMAC2).lt g hqg
      clear hrow hm
      go_wp2_with (at_builtin; refine wpList_append_moves _ rfl _ _ 107 rfl 9 i0 (.string ByteArray.empty) 1 16 Tryz.underlying107 hi hz0 hz1 hz2 rfl (by decide) _ _ _ rfl ((unhide HROW).alloc _) ⟨w2.heap.size, 0, none⟩ 1 1 [.string ⟨(render ⟨a, [], (S.length : Int)⟩).toArray⟩] rfl rfl ?c1 ?c2 ?c3 ?c4 ?_)
      first
        | (case c1 =>
            intro j u hj
            match j, hj with
            | 0, hj => simp at hj; subst hj; simp [Addr.add])
        | skip
      case c2 => first | rfl | (intro u hu; simp at hu; subst hu; rfl)
      case c3 => unfold maxLen; omega
      case c4 => omega
      intro v' w3 hown' hgrow hmv
      have hnM : ∀ j : Nat, some j = (Value.slice (some ⟨g, 0, none⟩) S.length cap).ownBlock → j = g := fun j hj => by simpa [Value.ownBlock] using hj
      have hMg : M ≠ g := fun e => own_not (unhide HROW) (unhide HM) (by decide) (by rw [e]; rfl)
      have hst := mac_store (w2 := w3) (S' := S ++ [(⟨a, [], (S.length : Int)⟩ : St)]) (unhide HMAC2) hgrow.os hgrow.tape hgrow.output (by have := hgrow.size; simp at this; omega)
        (fun j hj hjj => by
          rw [hgrow.block j (by simp; omega) (fun e => by
            have := hnM j e
            rcases hjj with hjj | rfl
            · exact hjj (this ▸ hqg)
            · exact hMg this), Below.heap_alloc _ _ _ hj])
        (by rw [List.length_append, show ((S ++ [(⟨a, [], (S.length : Int)⟩ : St)]).map render).map strV = S.map (strV ∘ render) ++ [Value.string ⟨(render (⟨a, [], (S.length : Int)⟩ : St)).toArray⟩] from by simp [strV]]; exact hown')
        (fun j hj => by rcases hmv j hj with h | h
                        · exact Or.inl (by rw [hnM j h.symm]; exact hqg)
                        · exact Or.inr (by first | omega | (simp at h; omega)))
      obtain ⟨g', cap', rfl⟩ := own_form hown' (by omega)
      have hpp : w3.heap[M]? = some (.cells #[.slice (some ⟨g, 0, none⟩) S.length cap] 146 (0, 0)) := by
        rw [hgrow.block M (by simp; omega) (fun e => hMg (hnM M e)), Below.heap_alloc _ _ _ hM]; exact unhide HM
      have c1 := cell_block (i := 0) hpp rfl
      have f1 := free_block (i := 0) hpp
      have HST := hide hst
      have hws := wrap_small ((S.length : Int) + 1 - 1) (by omega) (by omega)
      clear hst hown' hgrow hmv c0 f0 hpp hnM
      go_wp2_with fail
      go_ret
      unfold NumPost
      rw [unhide HZ]
      obtain ⟨t1, t2⟩ := unhide HST
      exact ⟨by first | rfl | (congr 2; omega), _, t1, (Fr.of_below (unhide HB2)).trans t2⟩

end Go.Proofs.YtchhmojnoiephabGreatDoor

namespace Go.Proofs.YtchhmojnoiephabGreatDoor
open Go.ChangeShapes Go.WideShapes Go.ChangeAt Go.RowKit
set_option linter.unusedVariables false

theorem ansT_16 (T : List Thr) : (ansT T).length ≤ 16 := ansTo_len T 16

set_option maxHeartbeats 2000000 in
theorem number_empty (v : Value) (M : Nat) (Q : Nat → Prop) (S : List St) (w : World) (hm : Mac w M Q S) (hr : ThrRow w Q v []) :
    Calls Tryz.prog 109 #[.pointer (some ⟨M, 0, none⟩), v] w (NumPost w M Q (-1, S)) := by
  obtain ⟨av, lv, cv, rfl⟩ := own_slice hr.own
  have hlv : lv = 0 := own_len hr.own
  subst hlv
  have HM := hide hm
  clear hm hr
  go_enter Tryz.func109, Tryz.ntmps109
  go_wp2_with fail
  go_ret
  exact ⟨rfl, Q, unhide HM, Fr.of_below (Below.refl _ _)⟩

set_option maxHeartbeats 2000000 in
theorem number_stay (T : List ThrC) (v : Value) (M : Nat) (Q : Nat → Prop) (S : List St) (w : World) (h0 : T ≠ []) (hst : (T.map absT).all stayB = true) (h2 : 2 ≤ S.length) (h9 : S.length ≤ 900) (hm : Mac w M Q S) (hp : PowQ w Q) (hr : ThrRow w Q v T) :
    Calls Tryz.prog 109 #[.pointer (some ⟨M, 0, none⟩), v] w (NumPost w M Q (loopS (ansT (T.map absT)) S)) := by
  obtain ⟨av, lv, cv, rfl⟩ := own_slice hr.own
  have hlv : lv = T.length := own_len hr.own
  subst hlv
  have hb0 : ((T.length : Int) == 0) = false := by
    have := List.length_pos_iff.2 h0
    rw [beq_eq_false_iff_ne]; omega
  have hfew := hr.few
  have HAN := hide (answerOf_any T (.slice av T.length cv) 0)
  have HST := hide (allStay_any T (.slice av T.length cv) 0)
  rw [hst] at HST
  have HPL := hide (putLoop_any M Q S (ansT (T.map absT)))
  have ha := ansT_16 (T.map absT)
  have HM := hide hm
  have HP := hide hp
  have HR := hide hr
  unfold strV at HAN HPL
  clear hm hp hr hst
  generalize hs : (⟨(ansT (T.map absT)).toArray⟩ : ByteArray) = sa at *
  clear hs
  go_enter Tryz.func109, Tryz.ntmps109
  go_wp2_with fail
  refine (unhide HAN _ (unhide HR).ok (by omega) (unhide HR).own).mono ?_
  rintro e w1 ⟨rfl, hb1⟩
  replace HM := hide ((unhide HM).below hb1)
  replace HP := hide ((unhide HP).below hb1)
  replace HR := hide ((unhide HR).below hb1)
  have HF := hide (Fr.of_below (S := Q) hb1)
  clear hb1
  go_wp2_with fail
  refine (unhide HST _ (unhide HR).ok (by omega) (unhide HR).own).mono ?_
  rintro e w2 ⟨rfl, hb2⟩
  replace HM := hide ((unhide HM).below hb2)
  replace HP := hide ((unhide HP).below hb2)
  replace HF := hide ((unhide HF).trans (Fr.of_below hb2))
  clear hb2
  go_wp2_with fail
  refine (unhide HPL _ (unhide HM) (unhide HP) h2 h9 (by omega)).mono ?_
  rintro e w3 ⟨rfl, Q3, hm3, hf3⟩
  have HM3 := hide hm3
  replace HF := hide ((unhide HF).trans hf3)
  clear hm3 hf3
  go_wp2_with fail
  go_ret
  exact ⟨rfl, Q3, unhide HM3, unhide HF⟩

set_option maxHeartbeats 2000000 in
theorem number_put (T : List ThrC) (v : Value) (M : Nat) (Q : Nat → Prop) (S : List St) (r : List (List UInt8 × Int) × Int × List St) (w : World) (h0 : T ≠ []) (hst : (T.map absT).all stayB = false) (h2 : 2 ≤ r.2.2.length) (h9 : r.2.2.length ≤ 900) (hl : (rEdges r.1).length ≤ 1000)
    (hW : ∀ w, Mac w M Q S → PowQ w Q → ThrRow w Q v T → Calls Tryz.prog 89 #[.pointer (some ⟨M, 0, none⟩), v] w (EdgPost w M Q r)) (hm : Mac w M Q S) (hp : PowQ w Q) (hr : ThrRow w Q v T) :
    Calls Tryz.prog 109 #[.pointer (some ⟨M, 0, none⟩), v] w (NumPost w M Q (putS ⟨ansT (T.map absT), r.1, r.2.1⟩ r.2.2)) := by
  obtain ⟨av, lv, cv, rfl⟩ := own_slice hr.own
  have hlv : lv = T.length := own_len hr.own
  subst hlv
  obtain ⟨E, st, S2⟩ := r
  simp only at h2 h9 hl ⊢
  have hb0 : ((T.length : Int) == 0) = false := by
    have := List.length_pos_iff.2 h0
    rw [beq_eq_false_iff_ne]; omega
  have hfew := hr.few
  have HAN := hide (answerOf_any T (.slice av T.length cv) 0)
  have HST := hide (allStay_any T (.slice av T.length cv) 0)
  rw [hst] at HST
  have HPU := hide (fun Q => put_any M Q S2 ⟨ansT (T.map absT), E, st⟩)
  have ha := ansT_16 (T.map absT)
  have HAP := hide (app_arr (ansT (T.map absT)) (rEdges E ++ rStar st))
  have hsa : (⟨(ansT (T.map absT)).toArray⟩ : ByteArray).size ≤ 16 := sz_arr _ _ ha
  have hse : (⟨(rEdges E ++ rStar st).toArray⟩ : ByteArray).size ≤ 1004 := sz_arr _ _ (by rw [List.length_append]; have := rStar_len st; omega)
  have HW := hide hW
  have HM := hide hm
  have HP := hide hp
  have HR := hide hr
  unfold EdgPost at HW
  unfold strV at HAN HPU HW
  simp only [render] at HPU
  clear hm hp hr hst hW
  generalize hs : (⟨(ansT (T.map absT)).toArray⟩ : ByteArray) = sa at *
  generalize hs2 : (⟨(rEdges E ++ rStar st).toArray⟩ : ByteArray) = se at *
  clear hs hs2
  go_enter Tryz.func109, Tryz.ntmps109
  go_wp2_with fail
  refine (unhide HAN _ (unhide HR).ok (by omega) (unhide HR).own).mono ?_
  rintro e w1 ⟨rfl, hb1⟩
  replace HM := hide ((unhide HM).below hb1)
  replace HP := hide ((unhide HP).below hb1)
  replace HR := hide ((unhide HR).below hb1)
  have HF := hide (Fr.of_below (S := Q) hb1)
  clear hb1
  go_wp2_with fail
  refine (unhide HST _ (unhide HR).ok (by omega) (unhide HR).own).mono ?_
  rintro e w2 ⟨rfl, hb2⟩
  replace HM := hide ((unhide HM).below hb2)
  replace HP := hide ((unhide HP).below hb2)
  replace HR := hide ((unhide HR).below hb2)
  replace HF := hide ((unhide HF).trans (Fr.of_below hb2))
  clear hb2
  go_wp2_with fail
  refine (unhide HW _ (unhide HM) (unhide HP) (unhide HR)).mono ?_
  rintro e w3 ⟨rfl, Q3, hm3, hf3⟩
  have HM3 := hide hm3
  replace HF := hide ((unhide HF).trans hf3)
  clear hm3 hf3
  go_wp2_with fail
  rw [unhide HAP]
  refine (unhide HPU Q3 _ (unhide HM3) h2 (by omega)).mono ?_
  rintro e w4 ⟨rfl, Q4, hm4, hf4⟩
  have HM4 := hide hm4
  replace HF := hide ((unhide HF).trans hf4)
  clear hm4 hf4
  go_wp2_with fail
  go_ret
  exact ⟨rfl, Q4, unhide HM4, unhide HF⟩

theorem number_all {C : List Thr → Prop} (hcount : ∀ S, Inv C S → S.length ≤ 900) (hC : ∀ T m, C T → metL m → C (meetL m T)) (n : Nat) : NumC C n (numS (n + 1)) := by
  induction n with
  | zero =>
    intro T v M Q S w hc hT hd hS hm hp hr
    simp only [numS]
    by_cases h0 : T = []
    · subst h0
      rw [if_pos (by rfl)]
      exact number_empty v M Q S w hm hr
    · rw [if_neg (by simpa using h0)]
      have hst : (T.map absT).all stayB = true := by
        rw [List.all_eq_true]
        intro t ht
        have := hd t ht
        unfold depT at this
        split at this
        · rename_i h
          obtain ⟨r, q⟩ := t
          simp only at h; subst h; rfl
        · omega
      rw [if_pos hst]
      exact number_stay T v M Q S w h0 hst hS.good.two (hcount S hS) hm hp hr
  | succ n ih =>
    intro T v M Q S w hc hT hd hS hm hp hr
    rw [numS]
    by_cases h0 : T = []
    · subst h0
      rw [if_pos (by rfl)]
      exact number_empty v M Q S w hm hr
    · rw [if_neg (by simpa using h0)]
      cases hst : (T.map absT).all stayB
      · rw [if_neg (by simp)]
        have hnum := num_spec hcount hC n
        have hE := edgS_spec hnum (T.map absT) hT hd (fun m hm => hC _ m hc hm) S hS
        have h9 := hcount _ hE.inv
        refine number_put T v M Q S (edgS (numS (n + 1)) (T.map absT) S) w h0 hst hE.inv.good.two h9 ?_ (fun w hm hp hr => writeEdges_any hcount hnum ih T v M Q S w hT hd (fun m hm => hC _ m hc hm) hS hm hp hr) hm hp hr
        have h1 := rEdges_len _ (fun e he => (hE.each e he).2.1)
        have h2 := hE.few
        have h3 := hr.few
        rw [List.length_map] at h2
        omega
      · rw [if_pos rfl]
        exact number_stay T v M Q S w h0 hst hS.good.two (hcount S hS) hm hp hr

end Go.Proofs.YtchhmojnoiephabGreatDoor

namespace Go.Proofs.YtchhmojnoiephabGreatDoor
open Go.ChangeShapes Go.WideShapes Go.ChangeAt Go.RowKit
set_option linter.unusedVariables false

def tailB (S : List St) : List UInt8 := S.flatMap fun x => 59 :: render x
theorem join_tail : ∀ (a : List UInt8) (S : List St), joinP (a :: S.map render) = a ++ tailB S
  | a, [] => by simp [joinP, tailB]
  | a, x :: S => by
    have := join_tail (render x) S
    rw [List.map_cons, joinP, this]
    simp [tailB]
/-- the code so far -/
def codeTo (x0 x1 : List UInt8) (S : List St) (k : Nat) : List UInt8 := x0 ++ 59 :: x1 ++ tailB ((S.take k).drop 2)
theorem codeTo_two (x0 x1 : List UInt8) (S : List St) : codeTo x0 x1 S 2 = x0 ++ 59 :: x1 := by
  unfold codeTo
  rw [List.drop_eq_nil_of_le (by simp; omega)]; simp [tailB]
theorem codeTo_succ (x0 x1 : List UInt8) (S : List St) (k : Nat) (h2 : 2 ≤ k) (h : k < S.length) : codeTo x0 x1 S (k + 1) = codeTo x0 x1 S k ++ 59 :: render S[k] := by
  unfold codeTo
  rw [List.take_succ_eq_append_getElem h, List.drop_append_of_le_length (by simp; omega)]
  simp [tailB]
theorem codeTo_all (x0 x1 : List UInt8) (S : List St) (h2 : 2 ≤ S.length) : codeTo x0 x1 S S.length = joinP (x0 :: x1 :: (S.drop 2).map render) := by
  unfold codeTo
  rw [List.take_length, joinP, join_tail]; simp
theorem tail_len (S : List St) (k : Nat) : (tailB ((S.take k).drop 2)).length ≤ (tailB (S.drop 2)).length := by
  have e : S.drop 2 = (S.take k).drop 2 ++ ((S.drop 2).drop (k - 2)) := by
    rw [List.drop_take]; exact (List.take_append_drop _ _).symm
  rw [e]
  have : ∀ A B : List St, tailB (A ++ B) = tailB A ++ tailB B := fun A B => by simp [tailB]
  rw [this, List.length_append]
  have e2 : (S.take k).drop 2 = ((S.take k).drop 2 ++ ((S.drop 2).drop (k - 2))).take ((S.take k).drop 2).length := by simp
  omega
theorem codeTo_len (x0 x1 : List UInt8) (S : List St) (k : Nat) (h2 : 2 ≤ S.length) : (codeTo x0 x1 S k).length ≤ (joinP (x0 :: x1 :: (S.drop 2).map render)).length := by
  rw [← codeTo_all x0 x1 S h2]
  unfold codeTo
  rw [List.take_length]
  have := tail_len S k
  simp only [List.length_append] at this ⊢
  omega

theorem codeSt_join (L : List PairL) : codeB L = joinP ((rEdges (edg0 L).1 ++ rStar (edg0 L).2.1) :: (rEdges (edg1 L).1 ++ rStar (edg1 L).2.1) :: ((edg1 L).2.2.drop 2).map render) := by
  unfold codeB codeSt
  simp [render]

theorem semi_text (a b : List UInt8) : (⟨a.toArray⟩ : ByteArray) ++ (⟨#[59]⟩ : ByteArray) ++ (⟨b.toArray⟩ : ByteArray) = ⟨(a ++ 59 :: b).toArray⟩ := by
  have e1 : (⟨#[59]⟩ : ByteArray) = ⟨[59].toArray⟩ := rfl
  rw [e1, app_arr, app_arr]
  simp

theorem made_two : (madeCells (Value.string ByteArray.empty).cells (2 * 1)).toList = ((st0.map render).map strV) := by
  have e : (ByteArray.empty) = (⟨#[]⟩ : ByteArray) := rfl
  simp [madeCells, st0, deadS, render, rEdges, rStar, strV, Value.cells, e]
  try rfl

set_option maxHeartbeats 8000000 in
set_option maxRecDepth 1000000 in
theorem codeOf_any (L : List PairL) (hL : goodL L) (TP TD : List ThrC) (hTP : TP.map absT = plainT L) (hTD : TD.map absT = dollT L) (pv dv : Value) (w : World) (hpw : powOK w)
    (hp : w.ownsRow 0 105 3 pv TP.length (thrCells TP)) (hd : w.ownsRow 0 105 3 dv TD.length (thrCells TD)) (okP : ∀ c ∈ TP, okC c) (okD : ∀ c ∈ TD, okC c) (fP : TP.length ≤ 6) (fD : TD.length ≤ 6) :
    Calls Tryz.prog 46 #[pv, dv] w fun e w' => e = .returned (strV (codeB L)) ∧ Below w.heap.size w w' := by
  obtain ⟨i0, hi, hz0, hz1, hz2⟩ := info_parts info_string
  obtain ⟨gP, gD, hl6⟩ := thr_gT L hL
  have hcount := inv_count (plainT L) (dollT L) (fun t ht => (gP t ht).2) (fun t ht => (gD t ht).2) hl6
  have hCm := fun T m hc hm => cof_meet (plainT L) (dollT L) T m hc hm
  have hnum := num_spec hcount hCm 5
  have hN := number_all hcount hCm 5
  obtain ⟨k0, k1⟩ := edg_ok L hL
  have HW0 := hide (fun M Q w => writeEdges_any hcount hnum hN TP pv M Q st0 w (by rw [hTP]; exact fun t ht => (gP t ht).1) (by rw [hTP]; exact dep_le gP) (by rw [hTP]; exact fun m hm => (cof_first _ _ m hm).1) (inv0 _))
  have HW1 := hide (fun M Q w => writeEdges_any hcount hnum hN TD dv M Q (edg0 L).2.2 w (by rw [hTD]; exact fun t ht => (gD t ht).1) (by rw [hTD]; exact dep_le gD) (by rw [hTD]; exact fun m hm => (cof_first _ _ m hm).2) k0.inv)
  rw [hTP] at HW0
  rw [hTD] at HW1
  have e0 : edgS (numS (5 + 1)) (plainT L) st0 = edg0 L := rfl
  have e1 : edgS (numS (5 + 1)) (dollT L) (edg0 L).2.2 = edg1 L := rfl
  rw [e0] at HW0
  rw [e1] at HW1
  have hlen := (codeB_ok L hL).2.1
  have hjo := codeSt_join L
  have hs2 := k1.inv.good.two
  have hs9 := hcount _ k1.inv
  have f0 := first_len k0
  have f1 := first_len k1
  unfold EdgPost at HW0 HW1
  clear hcount hCm hnum hN k0 k1 e0 e1 gP gD
  generalize edg0 L = r0 at *
  generalize edg1 L = r1 at *
  obtain ⟨E0, s0, S1⟩ := r0
  obtain ⟨E1, s1, S2⟩ := r1
  simp only at HW0 HW1 hjo hs2 hs9 f0 f1
  simp only [render, List.nil_append] at f0 f1
  have HL : Hid (∀ k, (codeTo (rEdges E0 ++ rStar s0) (rEdges E1 ++ rStar s1) S2 k).length ≤ 40000) := fun k => Nat.le_trans (codeTo_len _ _ S2 k hs2) (by rw [← hjo]; exact hlen)
  have HALL : Hid (codeTo (rEdges E0 ++ rStar s0) (rEdges E1 ++ rStar s1) S2 S2.length = codeB L) := (codeTo_all _ _ S2 hs2).trans hjo.symm
  have HTWO := hide (codeTo_two (rEdges E0 ++ rStar s0) (rEdges E1 ++ rStar s1) S2)
  have HSUC := hide (codeTo_succ (rEdges E0 ++ rStar s0) (rEdges E1 ++ rStar s1) S2)
  have hsz0 : (⟨(rEdges E0 ++ rStar s0).toArray⟩ : ByteArray).size ≤ 1000 := sz_arr _ _ (by have := thr_gT L hL; omega)
  have hsz1 : (⟨(rEdges E1 ++ rStar s1).toArray⟩ : ByteArray).size ≤ 1000 := sz_arr _ _ (by have := thr_gT L hL; omega)
  have HSM := hide (semi_text (rEdges E0 ++ rStar s0) (rEdges E1 ++ rStar s1))
  have HPR := hide hp
  have HDR := hide hd
  have HPW := hide hpw
  obtain ⟨pa, pl, pc, rfl⟩ := own_slice hp
  obtain ⟨da, dl, dc, rfl⟩ := own_slice hd
  clear hjo hlen f0 f1 hp hd hpw
  go_enter Tryz.func46, Tryz.ntmps46
  go_wp2_with (at_make; refine wpList_make_full _ rfl _ _ 107 rfl w.heap.size 9 i0 (.string ByteArray.empty) 1 Tryz.underlying107 hi hz0 hz1 .i64 .i64 2 2 2 rfl rfl rfl rfl (by rw [hz2]; decide) (by unfold maxLen; decide) (Nat.le_refl _) ?_; intro w1 hown hgrow)
  have hb1 : Below w.heap.size w w1 := (Below.refl _ w).grown hgrow (Nat.le_refl _) (fun k hk => by cases hk)
  have hown1 : w1.ownsRow w.heap.size 9 1 (.slice (some ⟨w.heap.size, 0, none⟩) 2 2) st0.length ((st0.map render).map strV) := by rw [← made_two]; exact hown
  have hlt1 := (hown1.lt w.heap.size rfl).2
  have HM : Hid (Mac (w1.alloc (.cells #[.slice (some ⟨w.heap.size, 0, none⟩) 2 2] 146)) w1.heap.size (fun k => k = w1.heap.size ∨ k = w.heap.size) st0) := by
    refine ⟨⟨_, (MapKept.heap_alloc w1 _).1, own_mono (own_below hown1 ((Below.refl _ w1).alloc (Nat.le_refl _) _)) (Nat.zero_le _), fun k hk => Or.inr (by simpa [Value.ownBlock] using hk.symm)⟩, Or.inl rfl, fun k hk => ?_⟩
    rcases hk with rfl | rfl
    · simp
    · simp; omega
  have hbm : Below w.heap.size w (w1.alloc (.cells #[.slice (some ⟨w.heap.size, 0, none⟩) 2 2] 146)) := hb1.alloc hb1.size _
  have HBM := hide hbm
  have hnoQ : ∀ k, k < w.heap.size → ¬ (k = w1.heap.size ∨ k = w.heap.size) := fun k hk h => by rcases h with h | h <;> omega
  have HPQ : Hid (PowQ (w1.alloc (.cells #[.slice (some ⟨w.heap.size, 0, none⟩) 2 2] 146)) (fun k => k = w1.heap.size ∨ k = w.heap.size)) :=
    ⟨pow_keep (unhide HPW) (fun g hg => hbm.block g (pow_lt (unhide HPW) hg)), fun g hg => hnoQ g (pow_lt (unhide HPW) hg)⟩
  have HRP : Hid (ThrRow (w1.alloc (.cells #[.slice (some ⟨w.heap.size, 0, none⟩) 2 2] 146)) (fun k => k = w1.heap.size ∨ k = w.heap.size) (.slice pa pl pc) TP) := ⟨own_below (unhide HPR) hbm, fun k hk => hnoQ k ((unhide HPR).lt k hk).2, okP, fP⟩
  have HRD : Hid (ThrRow (w1.alloc (.cells #[.slice (some ⟨w.heap.size, 0, none⟩) 2 2] 146)) (fun k => k = w1.heap.size ∨ k = w.heap.size) (.slice da dl dc) TD) := ⟨own_below (unhide HDR) hbm, fun k hk => hnoQ k ((unhide HDR).lt k hk).2, okD, fD⟩
  obtain ⟨Q0, hQd⟩ : ∃ Q0 : Nat → Prop, Q0 = fun k => k = w1.heap.size ∨ k = w.heap.size := ⟨_, rfl⟩
  have hQ0 : ∀ k, Q0 k → w.heap.size ≤ k := fun k hk => by
    rw [hQd] at hk
    rcases hk with h | h
    · omega
    · omega
  rw [← hQd] at HM HPQ HRP HRD
  have HQ0 := hide hQ0
  clear hQd hQ0
  clear hown hgrow hb1 hown1 hbm hnoQ
  go_wp2_with fail
  generalize w1.alloc (.cells #[.slice (some ⟨w.heap.size, 0, none⟩) 2 2] 146) = wm at *
  generalize w1.heap.size = M at *
  refine (unhide HW0 M Q0 _ (unhide HM) (unhide HPQ) (unhide HRP)).mono ?_
  rintro e w2 ⟨rfl, Q2, hm2, hf2⟩
  have HM2 := hide hm2
  have HP2 := hide ((unhide HPQ).fr hf2)
  have HR2 := hide ((unhide HRD).fr hf2)
  have HF2 := hide hf2
  clear hm2 hf2 HM HPQ HRP HRD HW0
  go_wp2_with fail
  refine (unhide HW1 M Q2 _ (unhide HM2) (unhide HP2) (unhide HR2)).mono ?_
  rintro e w3 ⟨rfl, Q3, hm3, hf3⟩
  obtain ⟨g, cap, hmc, hrow, hqg, hcap, hcap2⟩ := mac_cells hm3 hs2
  have hf03 := (unhide HF2).trans hf3
  have HB3 : Hid (Below w.heap.size w w3) := (unhide HBM).trans ⟨hf03.os, hf03.tape, hf03.output, hf03.size, fun k hk => hf03.keep k (Nat.lt_of_lt_of_le hk (unhide HBM).size) (fun hq => by have := unhide HQ0 k hq; omega)⟩
  have c0 := cell_block (i := 0) hmc rfl
  have HROW := hide hrow
  clear hm3 hf3 hf03 hmc hrow HM2 HP2 HR2 HF2 HW1 HBM HQ0
  unfold strV
  generalize (⟨(rEdges E0 ++ rStar s0).toArray⟩ : ByteArray) = t0 at *
  generalize (⟨(rEdges E1 ++ rStar s1).toArray⟩ : ByteArray) = t1 at *
  go_wp2_with fail
  go_loop [8, 9] (fun c i => ∃ k : Nat, 2 ≤ k ∧ k ≤ S2.length ∧ i = .int .i64 k ∧ c = .string ⟨(codeTo (rEdges E0 ++ rStar s0) (rEdges E1 ++ rStar s1) S2 k).toArray⟩) (fun _ i => S2.length - (intOf i).toNat)
  case atStart => exact ⟨2, by omega, hs2, rfl, by rw [unhide HTWO, ← unhide HSM]⟩
  case round =>
    obtain ⟨k, hk2, hk, rfl, rfl⟩ := hrel
    have hcl := unhide HL k
    have hcsz : (⟨(codeTo (rEdges E0 ++ rStar s0) (rEdges E1 ++ rStar s1) S2 k).toArray⟩ : ByteArray).size ≤ 40000 := sz_arr _ _ hcl
    by_cases hlt : k < S2.length
    · have e1 := own_str_at (i := k) (unhide HROW) (by simpa using hlt)
      simp only [List.getElem_map] at e1
      have HS := hide (semi_text (codeTo (rEdges E0 ++ rStar s0) (rEdges E1 ++ rStar s1) S2 k) (render S2[k]))
      have HSK := hide (unhide HSUC k hk2 hlt)
      have hrl : (⟨(render S2[k]).toArray⟩ : ByteArray).size ≤ 40000 := sz_arr _ _ (by
        have h1 := unhide HL (k + 1)
        rw [unhide HSK, List.length_append, List.length_cons] at h1
        omega)
      clear hcl
      generalize (⟨(codeTo (rEdges E0 ++ rStar s0) (rEdges E1 ++ rStar s1) S2 k).toArray⟩ : ByteArray) = ct at *
      generalize (⟨(render S2[k]).toArray⟩ : ByteArray) = es at *
      go_wp2_with fail
      go_round
      case rel => exact ⟨k + 1, by omega, by omega, by go_num, by rw [unhide HSK, ← unhide HS]⟩
      case measure => simp [intOf]; omega
    · have hke : k = S2.length := by omega
      subst hke
      clear hcl
      rw [unhide HALL] at *
      generalize hct : (⟨(codeB L).toArray⟩ : ByteArray) = ct at *
      have HCT := hide hct
      clear hct
      go_wp2_with fail
      go_ret
      exact ⟨by unfold strV; rw [unhide HCT]; rfl, unhide HB3⟩

end Go.Proofs.YtchhmojnoiephabGreatDoor

namespace Go.Proofs.YtchhmojnoiephabGreatDoor
open Go.ChangeShapes Go.WideShapes Go.ChangeAt Go.RowKit
set_option linter.unusedVariables false

def plnC (L : List PairL) : List ThrC := (L.filter fun e => !(headI e.1 == 36)).map fun e => (e.1, 0, e.2)
def dolC (L : List PairL) : List ThrC := (L.filter fun e => headI e.1 == 36).map fun e => (e.1, 0, e.2)
theorem plnC_abs (L : List PairL) : (plnC L).map absT = plainT L := by
  unfold plnC plainT
  rw [List.map_map]
  apply List.map_congr_left
  intro e _
  simp [absT, levsFrom_zero]
theorem dolC_abs (L : List PairL) : (dolC L).map absT = dollT L := by
  unfold dolC dollT
  rw [List.map_map]
  apply List.map_congr_left
  intro e _
  simp [absT, levsFrom_zero]
theorem plnC_succ (L : List PairL) (k : Nat) (h : k < L.length) : plnC (L.take (k + 1)) = if headI L[k].1 == 36 then plnC (L.take k) else plnC (L.take k) ++ [(L[k].1, 0, L[k].2)] := by
  unfold plnC; rw [List.take_succ_eq_append_getElem h, List.filter_append, List.map_append]
  cases hw : headI L[k].1 == 36 <;> simp [hw]
theorem dolC_succ (L : List PairL) (k : Nat) (h : k < L.length) : dolC (L.take (k + 1)) = if headI L[k].1 == 36 then dolC (L.take k) ++ [(L[k].1, 0, L[k].2)] else dolC (L.take k) := by
  unfold dolC; rw [List.take_succ_eq_append_getElem h, List.filter_append, List.map_append]
  cases hw : headI L[k].1 == 36 <;> simp [hw]
theorem plnC_len (L : List PairL) (k : Nat) : (plnC (L.take k)).length ≤ k := by
  unfold plnC; rw [List.length_map]; exact Nat.le_trans (List.length_filter_le _ _) (by simp; omega)
theorem dolC_len (L : List PairL) (k : Nat) : (dolC (L.take k)).length ≤ k := by
  unfold dolC; rw [List.length_map]; exact Nat.le_trans (List.length_filter_le _ _) (by simp; omega)
theorem okC_of (L : List PairL) (h : goodL L) : (∀ c ∈ plnC L, okC c) ∧ (∀ c ∈ dolC L, okC c) := by
  have each : ∀ e ∈ L, okC (e.1, 0, e.2) := fun e he => ⟨(filterR_len e.1 (h.2.2 e he).1).1, by show 0 ≤ 25; omega⟩
  refine ⟨fun c hc => ?_, fun c hc => ?_⟩
  · obtain ⟨e, he, rfl⟩ := List.mem_map.1 hc
    exact each e (List.mem_filter.1 he).1
  · obtain ⟨e, he, rfl⟩ := List.mem_map.1 hc
    exact each e (List.mem_filter.1 he).1

/-- two rows of threads that grow side by side -/
structure Two (w wr : World) (pv dv : Value) (P D : List ThrC) : Prop where
  p : wr.ownsRow 0 105 3 pv P.length (thrCells P)
  d : wr.ownsRow 0 105 3 dv D.length (thrCells D)
  pn : ∀ k, pv.ownBlock = some k → w.heap.size ≤ k
  dn : ∀ k, dv.ownBlock = some k → w.heap.size ≤ k
  no : ∀ k, pv.ownBlock = some k → dv.ownBlock ≠ some k
  b : Below w.heap.size w wr

theorem Two.growP {w wr w1 : World} {pv dv v' : Value} {P D : List ThrC} {c : ThrC} {o : Obj} (h : Two w wr pv dv P D) (hown : w1.ownsRow 0 105 3 v' (P.length + 1) (thrCells P ++ [strV c.1, .int .i64 (c.2.1 : Int), .int .i64 c.2.2])) (hg : (wr.alloc o).grownBy w1 pv.ownBlock) (hmv : ∀ k, v'.ownBlock = some k → pv.ownBlock = some k ∨ (wr.alloc o).heap.size ≤ k) : Two w w1 v' dv (P ++ [c]) D := by
  have hs := h.b.size
  refine ⟨by rw [thrCells_snoc, List.length_append]; exact hown, ?_, fun k hk => ?_, h.dn, fun k hk hd => ?_, (h.b.alloc hs o).grown hg (by simp; omega) (fun k hk => h.pn k hk)⟩
  · exact own_same (h.d.alloc o) (fun k hk => hg.block k (by have := ((h.d.alloc o).lt k hk).2; exact this) (fun e => h.no k e.symm hk))
  · rcases hmv k hk with h1 | h1
    · exact h.pn k h1
    · simp at h1; omega
  · rcases hmv k hk with h1 | h1
    · exact h.no k h1 hd
    · have := (h.d.lt k hd).2; simp at h1; omega
theorem Two.growD {w wr w1 : World} {pv dv v' : Value} {P D : List ThrC} {c : ThrC} {o : Obj} (h : Two w wr pv dv P D) (hown : w1.ownsRow 0 105 3 v' (D.length + 1) (thrCells D ++ [strV c.1, .int .i64 (c.2.1 : Int), .int .i64 c.2.2])) (hg : (wr.alloc o).grownBy w1 dv.ownBlock) (hmv : ∀ k, v'.ownBlock = some k → dv.ownBlock = some k ∨ (wr.alloc o).heap.size ≤ k) : Two w w1 pv v' P (D ++ [c]) := by
  have hs := h.b.size
  refine ⟨?_, by rw [thrCells_snoc, List.length_append]; exact hown, h.pn, fun k hk => ?_, fun k hk hd => ?_, (h.b.alloc hs o).grown hg (by simp; omega) (fun k hk => h.dn k hk)⟩
  · exact own_same (h.p.alloc o) (fun k hk => hg.block k (by have := ((h.p.alloc o).lt k hk).2; exact this) (fun e => h.no k hk e.symm))
  · rcases hmv k hk with h1 | h1
    · exact h.dn k h1
    · simp at h1; omega
  · rcases hmv k hd with h1 | h1
    · exact h.no k hk h1
    · have := (h.p.lt k hk).2; simp at h1; omega
theorem Two.alloc {w wr : World} {pv dv : Value} {P D : List ThrC} (h : Two w wr pv dv P D) (o : Obj) : Two w (wr.alloc o) pv dv P D := ⟨h.p.alloc o, h.d.alloc o, h.pn, h.dn, h.no, h.b.alloc h.b.size o⟩

set_option maxHeartbeats 8000000 in
set_option maxRecDepth 1000000 in
theorem code_any (p : Nat) (Sb : Nat → Prop) (L : List PairL) (w : World) (h : HTab w p Sb L) (hpw : powOK w) :
    Calls Tryz.prog 18 #[.pointer (some ⟨p, 0, none⟩)] w fun e w' => e = .returned (strV (codeB L)) ∧ Below w.heap.size w w' := by
  obtain ⟨i0, hi, hz0, hz1, hz2⟩ := info_parts info_thr
  obtain ⟨v, h1, h2, h3⟩ := h.body
  have hl := h.good.1
  have hp := heap_lt h1
  obtain ⟨av, lv, cv, rfl⟩ := own_slice h2
  have hlv : lv = L.length := own_len h2
  subst hlv
  have c0 := cell_block (i := 0) h1 rfl
  have HGL := hide h.good.2.2
  obtain ⟨okP, okD⟩ := okC_of L h.good
  have HCO := hide (codeOf_any L h.good (plnC L) (dolC L) (plnC_abs L) (dolC_abs L))
  have H2 := hide h2
  have HPW := hide hpw
  clear h h1 h2 h3 hpw
  go_enter Tryz.func18, Tryz.ntmps18
  go_wp2_with fail
  go_loopg [3, 4, 6, 12] L.length (fun gk pv dv _ i wr => ∃ k : Nat, k ≤ L.length ∧ gk = L.length - k ∧ i = .int .i64 k ∧ Two w wr pv dv (plnC (L.take k)) (dolC (L.take k)))
  case atStart => exact ⟨0, by omega, by omega, rfl, ⟨World.ownsRow_nil _ _ _ _, World.ownsRow_nil _ _ _ _, (fun k hk => by cases hk), (fun k hk => by cases hk), (fun k hk => by cases hk), Below.refl _ _⟩⟩
  case round =>
    obtain ⟨k, hk, rfl, rfl, ht⟩ := hrel
    obtain ⟨pa, pl, pc, rfl⟩ := own_slice ht.p
    obtain ⟨da, dl, dc, rfl⟩ := own_slice ht.d
    have hbs := ht.b.size
    by_cases hlt : k < L.length
    · obtain ⟨g, cap, hv⟩ := own_form (unhide H2) (by omega)
      simp only [Value.slice.injEq] at hv
      obtain ⟨rfl, _, rfl⟩ := hv
      have hcc := own_cap (unhide H2)
      unfold maxLen at hcc
      obtain ⟨hcap, hcap2⟩ := hcc
      obtain ⟨he1, he2⟩ := own_edge (own_below (unhide H2) ht.b) hlt
      have hss : (⟨L[k].1.toArray⟩ : ByteArray).data.toList = L[k].1 := by simp
      have hfl := (filterR_len _ (unhide HGL L[k] (List.getElem_mem hlt)).1).1
      have hsz : (⟨L[k].1.toArray⟩ : ByteArray).size ≤ maxLen := by rw [arr_size]; unfold maxLen; omega
      have HBE := hide (fun w => begins_any (⟨L[k].1.toArray⟩ : ByteArray) 36 w hsz (by omega))
      rw [hss] at HBE
      have HPS := hide (plnC_succ L k hlt)
      have HDS := hide (dolC_succ L k hlt)
      have hpl := plnC_len L k
      have hdl := dolC_len L k
      have HES : Hid (strV L[k].1 = .string ⟨L[k].1.toArray⟩) := rfl
      have HT := hide (ht.alloc (.cells #[.string ⟨L[k].1.toArray⟩, .int .i64 L[k].2] 102))
      clear hss hsz hfl ht
      generalize (⟨L[k].1.toArray⟩ : ByteArray) = es at *
      generalize hwho : L[k].2 = eto at *
      have HWHO := hide hwho
      clear hwho
      cases hd : (headI L[k].1 == 36)
      · rw [hd] at HPS HDS HBE
        simp only [Bool.false_eq_true, if_false] at HPS HDS
        go_wp2_with fail
        refine (unhide HBE _).mono ?_
        rintro e w1 ⟨rfl, rfl⟩
        go_wp2_with (at_builtin; refine wpList_append_moves _ rfl _ _ 100 rfl 105 i0 (.agg #[.string ByteArray.empty, .int .i64 0, .int .i64 0]) 3 32 Tryz.underlying100 hi hz0 hz1 hz2 rfl (by decide) _ _ _ rfl ((unhide HT).p.alloc _) ⟨wr.heap.size + 1, 0, none⟩ 1 1 [.string es, .int .i64 0, .int .i64 eto] rfl rfl ?c1 ?c2 ?c3 ?c4 ?_)
        first
          | (case c1 =>
              intro j u hj
              match j, hj with
              | 0, hj => simp at hj; subst hj; simp [Addr.add]
              | 1, hj => simp at hj; subst hj; simp [Addr.add]
              | 2, hj => simp at hj; subst hj; simp [Addr.add])
          | skip
        case c2 => intro u hu; simp at hu; rcases hu with rfl | rfl | rfl <;> rfl
        case c3 => unfold maxLen; omega
        case c4 => omega
        intro v' w2 hown' hgrow hmv
        have HT2 := hide ((unhide HT).growP (c := (L[k].1, 0, eto)) (by rw [unhide HES]; exact hown') hgrow (fun k hk => by simpa using hmv k hk))
        clear hown' hgrow hmv
        go_wp2_with fail
        go_roundg (L.length - (k + 1))
        case measure => omega
        case rel => exact ⟨k + 1, by omega, rfl, by go_num, by rw [unhide HPS, unhide HDS]; exact unhide HT2⟩
      · rw [hd] at HPS HDS HBE
        simp only [if_true] at HPS HDS
        go_wp2_with fail
        refine (unhide HBE _).mono ?_
        rintro e w1 ⟨rfl, rfl⟩
        go_wp2_with (at_builtin; refine wpList_append_moves _ rfl _ _ 100 rfl 105 i0 (.agg #[.string ByteArray.empty, .int .i64 0, .int .i64 0]) 3 32 Tryz.underlying100 hi hz0 hz1 hz2 rfl (by decide) _ _ _ rfl ((unhide HT).d.alloc _) ⟨wr.heap.size + 1, 0, none⟩ 1 1 [.string es, .int .i64 0, .int .i64 eto] rfl rfl ?d1 ?d2 ?d3 ?d4 ?_)
        first
          | (case d1 =>
              intro j u hj
              match j, hj with
              | 0, hj => simp at hj; subst hj; simp [Addr.add]
              | 1, hj => simp at hj; subst hj; simp [Addr.add]
              | 2, hj => simp at hj; subst hj; simp [Addr.add])
          | skip
        case d2 => intro u hu; simp at hu; rcases hu with rfl | rfl | rfl <;> rfl
        case d3 => unfold maxLen; omega
        case d4 => omega
        intro v' w2 hown' hgrow hmv
        have HT2 := hide ((unhide HT).growD (c := (L[k].1, 0, eto)) (by rw [unhide HES]; exact hown') hgrow (fun k hk => by simpa using hmv k hk))
        clear hown' hgrow hmv
        go_wp2_with fail
        go_roundg (L.length - (k + 1))
        case measure => omega
        case rel => exact ⟨k + 1, by omega, rfl, by go_num, by rw [unhide HPS, unhide HDS]; exact unhide HT2⟩
    · have hall : L.take k = L := List.take_of_length_le (by omega)
      have hpl := plnC_len L k
      have hdl := dolC_len L k
      rw [hall] at ht hpl hdl
      have HT := hide ht
      have hpk : powOK wr := pow_keep (unhide HPW) (fun g hg => ht.b.block g (pow_lt (unhide HPW) hg))
      have HPK := hide hpk
      clear ht hpk hall
      go_wp2_with fail
      refine (unhide HCO _ _ _ (unhide HPK) (unhide HT).p (unhide HT).d okP okD (by omega) (by omega)).mono ?_
      rintro e w1 ⟨rfl, hb1⟩
      have HB1 := hide ((unhide HT).b.trans (hb1.mono hbs))
      clear hb1
      unfold strV
      generalize hcb : (⟨(codeB L).toArray⟩ : ByteArray) = cb at *
      have HCB := hide hcb
      clear hcb
      go_wp2_with fail
      go_ret
      exact ⟨by unfold strV; rw [unhide HCB]; rfl, unhide HB1⟩

end Go.Proofs.YtchhmojnoiephabGreatDoor
