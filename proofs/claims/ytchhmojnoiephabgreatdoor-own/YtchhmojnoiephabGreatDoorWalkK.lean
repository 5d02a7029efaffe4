import Derived.Test.YtchhmojnoiephabGreatDoorWalkJ
import Derived.Test.YtchhmojnoiephabGreatDoorWalkF
import Derived.Deep.QuietTactic
import Derived.BigQuiet
import Derived.Deep.DeepCutAuto
import Derived.Deep.CutBlock
import Derived.WalkLawsBesides
import Derived.Laws.Rows
namespace Go.Proofs.YtchhmojnoiephabGreatDoor
open Go.ChangeShapes Go.WideShapes Go.ChangeAt Go.RowKit
set_option linter.unusedVariables false

/-- the two variables of 'state' in memory: the result, not yet written, and x -/
structure StW (w wr : World) (a : ByteArray) (v : Value) (st : Int) : Prop where
  res : wr.heap[w.heap.size]? = some (.cells #[.string ⟨#[]⟩, .slice none 0 0, .int .i64 0] 169 (0, 0))
  x : wr.heap[w.heap.size + 1]? = some (.cells #[.string a, v, .int .i64 st] 169 (0, 0))
  size : w.heap.size + 2 ≤ wr.heap.size
  below : Below w.heap.size w wr

theorem cell_block {w : World} {g i : Nat} {cs : Array Value} {t : TypeId} {v : Value} (h : w.heap[g]? = some (.cells cs t (0, 0))) (hi : cs[i]? = some v) : w.cell? ⟨g, i, none⟩ = some v := by
  simp [World.cell?, h, hi]
theorem free_block {w : World} {g i : Nat} {cs : Array Value} {t : TypeId} (h : w.heap[g]? = some (.cells cs t (0, 0))) : w.frozen? ⟨g, i, none⟩ = false := by
  simp [World.frozen?, h]

theorem StW.start (w : World) : StW w ((w.alloc (.cells #[.string ⟨#[]⟩, .slice none 0 0, .int .i64 0] 169)).alloc (.cells #[.string ⟨#[]⟩, .slice none 0 0, .int .i64 (-1)] 169)) ⟨#[]⟩ (.slice none 0 0) (-1) := by
  refine ⟨?_, ?_, by simp, ((Below.refl _ w).alloc (Nat.le_refl _) _).alloc (by simp) _⟩
  · rw [Below.heap_alloc _ _ _ (by simp)]; exact (MapKept.heap_alloc w _).1
  · have := (MapKept.heap_alloc (w.alloc (.cells #[.string ⟨#[]⟩, .slice none 0 0, .int .i64 0] 169)) (.cells #[.string ⟨#[]⟩, .slice none 0 0, .int .i64 (-1)] 169)).1
    simpa using this

theorem StW.drewN {w wr : World} {a : ByteArray} {v : Value} {st : Int} (h : StW w wr a v st) (n : Nat) : StW w (wr.drewN n) a v st :=
  ⟨h.res, h.x, h.size, h.below.trans ⟨rfl, rfl, rfl, Nat.le_refl _, fun _ _ => rfl⟩⟩

theorem StW.set {w wr : World} {a a' : ByteArray} {v v' : Value} {st st' : Int} (h : StW w wr a v st) (i : Nat) (u : Value) (he : (#[.string a, v, .int .i64 st] : Array Value).setIfInBounds i u = #[.string a', v', .int .i64 st']) :
    StW w (wr.setCell ⟨w.heap.size + 1, i, none⟩ u) a' v' st' := by
  refine ⟨?_, ?_, by simpa using h.size, h.below.setCell (by simp) u⟩
  · rw [Below.heap_setCell _ _ _ _ (by simp)]; exact h.res
  · rw [heap_setCell_same wr _ i _ _ u h.x, he]

/-- the block of an owned row is none of the two variables -/
theorem own_ne {w wr : World} {e sz n : Nat} {v : Value} {xs : List Value} (h : wr.ownsRow (w.heap.size + 2) e sz v n xs) (k : Nat) (hk : k < w.heap.size + 2) : some k ≠ v.ownBlock := by
  intro he
  have := h.lt k he.symm
  omega

theorem StW.append {w wr w1 : World} {a : ByteArray} {v : Value} {st : Int} {e sz n : Nat} {xs : List Value} {o : Obj} (h : StW w wr a v st) (hown : wr.ownsRow (w.heap.size + 2) e sz v n xs) (hg : (wr.alloc o).grownBy w1 v.ownBlock) : StW w w1 a v st := by
  have hsz := h.size
  refine ⟨?_, ?_, ?_, (h.below.alloc (by omega) o).grown hg (by simp; omega) (fun k hk => by have := (hown.lt k hk).1; omega)⟩
  · rw [hg.block _ (by simp; omega) (own_ne hown _ (by omega)), Below.heap_alloc _ _ _ (by omega)]; exact h.res
  · rw [hg.block _ (by simp; omega) (own_ne hown _ (by omega)), Below.heap_alloc _ _ _ (by omega)]; exact h.x
  · have := hg.size; simp at this; omega

theorem own_set {w wr : World} {e sz n i : Nat} {v u : Value} {xs : List Value} (h : wr.ownsRow (w.heap.size + 2) e sz v n xs) : (wr.setCell ⟨w.heap.size + 1, i, none⟩ u).ownsRow (w.heap.size + 2) e sz v n xs :=
  h.kept (row := some (w.heap.size + 1)) ⟨rfl, rfl, rfl, by simp, fun k _ hne => Below.heap_setCell _ _ _ _ (fun he => hne (by rw [he]))⟩ (Or.inr (fun he => own_ne h _ (by omega) he.symm))

def edgeCells (G : List (List UInt8 × Int)) : List Value := G.flatMap fun e => [strV e.1, .int .i64 e.2]
theorem edgeCells_len (G : List (List UInt8 × Int)) : (edgeCells G).length = G.length * 2 := by
  induction G with
  | nil => rfl
  | cons e G ih => simp [edgeCells] at ih ⊢; omega
theorem edgeCells_snoc (G : List (List UInt8 × Int)) (e : List UInt8 × Int) : edgeCells (G ++ [e]) = edgeCells G ++ [strV e.1, .int .i64 e.2] := by simp [edgeCells]

/-- the last edge's level in memory -/
theorem last_level {w : World} {B t : Nat} {v : Value} {G : List (List UInt8 × Int)} {e : List UInt8 × Int} (h : w.ownsRow B t 2 v (G ++ [e]).length (edgeCells (G ++ [e]))) :
    ∃ g cap, v = .slice (some ⟨g, 0, none⟩) (G.length + 1) cap ∧ G.length + 1 ≤ cap ∧ cap ≤ maxLen ∧ ∃ le : ByteArray, w.cell? ⟨g, G.length * 2, none⟩ = some (.string le) ∧ le.data.toList = e.1 := by
  have hc : ∀ g, v.ownBlock = some g → ∀ j u, (edgeCells (G ++ [e]))[j]? = some u → w.cell? ((⟨g, 0, none⟩ : Addr).add j) = some u := fun g hg => h.cells hg
  obtain ⟨_, ⟨_, h0⟩ | ⟨g, cap, cur, rfl, _, _, h1, h2, _, _⟩⟩ := h
  · simp at h0
  · refine ⟨g, cap, by simp, by simpa using h1, h2, ?_⟩
    have := hc g rfl (G.length * 2) (strV e.1) (by rw [edgeCells_snoc, List.getElem?_append_right (by rw [edgeCells_len]; exact Nat.le_refl _), edgeCells_len]; simp)
    have he : (⟨g, 0, none⟩ : Addr).add (G.length * 2) = ⟨g, G.length * 2, none⟩ := by
      cases hg : G.length with
      | zero => simp [Addr.add]
      | succ m => simp [Addr.add]
    rw [he] at this
    exact ⟨⟨e.1.toArray⟩, this, by simp⟩

theorem own_form {w : World} {B e sz n : Nat} {v : Value} {xs : List Value} (h : w.ownsRow B e sz v n xs) (hn : 0 < n) : ∃ g cap, v = .slice (some ⟨g, 0, none⟩) n cap := by
  obtain ⟨_, ⟨_, h0⟩ | ⟨g, cap, _, rfl, _⟩⟩ := h
  · omega
  · exact ⟨g, cap, rfl⟩

theorem own_slice {w : World} {B e sz n : Nat} {v : Value} {xs : List Value} (h : w.ownsRow B e sz v n xs) : ∃ a l c, v = .slice a l c := by
  obtain ⟨_, ⟨rfl, h0⟩ | ⟨g, cap, _, rfl, _⟩⟩ := h
  · exact ⟨none, 0, 0, rfl⟩
  · exact ⟨some ⟨g, 0, none⟩, n, cap, rfl⟩

theorem wrap_small (x : Int) (h0 : -1000000000 ≤ x) (h1 : x ≤ 1000000000) : IntKind.i64.wrap x = x := by
  rw [IntKind.wrap_i64]; omega

theorem prevZ_succ (s : ByteArray) (k : Nat) (h : k < s.size) : prevZ s.data.toList (k + 1) = (s[k].toNat : Int) := by
  unfold prevZ; rw [dif_pos ⟨by omega, by rw [len_list]; omega⟩]; simp [get_list s k h]
theorem prevZ_zero (L : List UInt8) : prevZ L 0 = 0 := by simp [prevZ]

theorem ans_stop (s : ByteArray) (p : Int) (k : Nat) (h : ∀ hk : k < s.size, ¬ (65 ≤ (s[k].toNat : Int) ∧ (s[k].toNat : Int) ≤ 80)) : ansN p (s.data.toList.drop k) = some 0 :=
  ansN_stop p k _ (fun ⟨hk, h'⟩ => h (by rw [len_list] at hk; exact hk) (by rw [get_list] at h'; exact h'))
theorem ans_none (s : ByteArray) (p : Int) (k : Nat) (hk : k < s.size) (h : 65 ≤ (s[k].toNat : Int) ∧ (s[k].toNat : Int) ≤ 80) (hp : (s[k].toNat : Int) ≤ p) : ansN p (s.data.toList.drop k) = none :=
  ansN_none p k _ (by rw [len_list]; exact hk) (by rw [get_list s k hk]; exact h) (by rw [get_list s k hk]; exact hp)
theorem ans_on (s : ByteArray) (p : Int) (k : Nat) (hk : k < s.size) (h : 65 ≤ (s[k].toNat : Int) ∧ (s[k].toNat : Int) ≤ 80) (hp : ¬ (s[k].toNat : Int) ≤ p) :
    ansN p (s.data.toList.drop k) = (ansN (s[k].toNat : Int) (s.data.toList.drop (k + 1))).map (· + 1) := by
  have := ansN_on p k s.data.toList (by rw [len_list]; exact hk) (by rw [get_list s k hk]; exact h) (by rw [get_list s k hk]; exact hp)
  rw [get_list s k hk] at this; exact this

theorem ans_step {L : List UInt8} {p q c : Int} {k : Nat} (h : ansN 0 L = (ansN p (L.drop k)).map (· + k)) (ho : ansN p (L.drop k) = (ansN c (L.drop (k + 1))).map (· + 1)) (hq : q = c) :
    ansN 0 L = (ansN q (L.drop (k + 1))).map (· + (k + 1)) := by
  rw [h, ho, hq, Option.map_map]
  congr 1
  funext x; simp; omega
theorem number_at (s : ByteArray) (x : Int) (i : Nat) (w : World) (hs : s.size ≤ 1000000) (hi : i ≤ 2000000) (hx : x = (i : Int)) :
    Calls Tryz.prog 130 #[.string s, .int .i64 x] w fun e w' => e = .returned (.int .i64 (dig3 (s.data.toList.drop i))) ∧ w' = w := by
  subst hx; exact number_any s i w hs hi

theorem info_edge : (Tryz.prog.info? 171).map (fun i => (i.zero, i.size, i.bytes)) = some (some (.agg #[.string ByteArray.empty, .int .i64 0]), 2, 24) := by kernel_rfl

theorem sgn_no (s : ByteArray) (k : Nat) (h : k < s.size) (hs : signB (s[k].toNat : Int) = false) : signLen (s.data.toList.drop k) = 0 :=
  signLen_no _ k (by rw [len_list]; exact h) (by rw [get_list s k h]; exact hs)
theorem sgn_on (s : ByteArray) (k : Nat) (h : k < s.size) (hs : signB (s[k].toNat : Int) = true) : signLen (s.data.toList.drop k) = signLen (s.data.toList.drop (k + 1)) + 1 :=
  signLen_on _ k (by rw [len_list]; exact h) (by rw [get_list s k h]; exact hs)
theorem sgn_end (s : ByteArray) (k : Nat) (h : ¬ k < s.size) : signLen (s.data.toList.drop k) = 0 :=
  signLen_end _ k (by rw [len_list]; exact h)
theorem sgn_le (s : ByteArray) (k : Nat) (h : k ≤ s.size) : k + signLen (s.data.toList.drop k) ≤ s.size := by
  have := signLen_le (s.data.toList.drop k)
  rw [List.length_drop, len_list] at this; omega
theorem head_at (s : ByteArray) (k : Nat) (h : k < s.size) : headI (s.data.toList.drop k) = (s[k].toNat : Int) := by
  rw [headI_drop _ _ (by rw [len_list]; exact h), get_list s k h]
theorem head_end (s : ByteArray) (k : Nat) (h : ¬ k < s.size) : headI (s.data.toList.drop k) = -1 := headI_drop_end _ _ (by rw [len_list]; exact h)

/-- what 'state' answers: a state and true; or whatever, and false -/
def StPost (w : World) (n : Int) (L : List UInt8) (e : Ending) (w' : World) : Prop :=
  ∃ (a : ByteArray) (av : Option Addr) (lv cv : Nat) (st : Int) (ok : Bool), e = .returned (.tuple #[.agg #[.string a, .slice av lv cv, .int .i64 st], .bool ok]) ∧ Below w.heap.size w w' ∧
    ((ok = false ∧ stateP n L = none) ∨ (ok = true ∧ ∃ x, stateP n L = some x ∧ a.data.toList = x.ans ∧ st = x.star ∧ w'.ownsRow w.heap.size 171 2 (.slice av lv cv) x.edges.length (edgeCells x.edges)))

theorem StPost.no {w w' : World} {n : Int} {L : List UInt8} {a : ByteArray} {av : Option Addr} {lv cv : Nat} {st : Int} (hb : Below w.heap.size w w') (h : stateP n L = none) :
    StPost w n L (.returned (.tuple #[.agg #[.string a, .slice av lv cv, .int .i64 st], .bool false])) w' := ⟨a, av, lv, cv, st, false, rfl, hb, Or.inl ⟨rfl, h⟩⟩

/-- the world behind 'return x, ..' -/
def putSt (w wr : World) (a : ByteArray) (v : Value) (st : Int) : World :=
  ((wr.setCell ⟨w.heap.size, 0, none⟩ (.string a)).setCell ⟨w.heap.size, 1, none⟩ v).setCell ⟨w.heap.size, 2, none⟩ (.int .i64 st)

theorem StW.stored {w wr : World} {a : ByteArray} {v : Value} {st : Int} (h : StW w wr a v st) :
    (putSt w wr a v st).heap[w.heap.size]? = some (.cells #[.string a, v, .int .i64 st] 169 (0, 0)) ∧ Below w.heap.size w (putSt w wr a v st) ∧ ∀ k, k ≠ w.heap.size → (putSt w wr a v st).heap[k]? = wr.heap[k]? := by
  unfold putSt
  refine ⟨?_, ((h.below.setCell (Nat.le_refl _) _).setCell (Nat.le_refl _) _).setCell (Nat.le_refl _) _, fun k hk => ?_⟩
  · rw [heap_setCell_same _ _ 2 _ _ _ (heap_setCell_same _ _ 1 _ _ _ (heap_setCell_same _ _ 0 _ _ _ h.res))]; rfl
  · rw [Below.heap_setCell _ _ _ _ hk, Below.heap_setCell _ _ _ _ hk, Below.heap_setCell _ _ _ _ hk]

theorem own_put {w wr : World} {e sz n : Nat} {v v0 : Value} {xs : List Value} {a : ByteArray} {st : Int} (hw : StW w wr a v0 st) (h : wr.ownsRow (w.heap.size + 2) e sz v n xs) : (putSt w wr a v0 st).ownsRow w.heap.size e sz v n xs := by
  obtain ⟨h1, ⟨rfl, h2⟩ | ⟨g, cap, cur, rfl, h2, h3, h4⟩⟩ := h
  · exact ⟨h1, Or.inl ⟨rfl, h2⟩⟩
  · exact ⟨h1, Or.inr ⟨g, cap, cur, rfl, by omega, by rw [hw.stored.2.2 g (by omega)]; exact h3, h4⟩⟩

theorem StPost.yes {w wr : World} {n : Int} {L : List UInt8} {a : ByteArray} {av : Option Addr} {lv cv : Nat} {st : Int} {x : St} (hw : StW w wr a (.slice av lv cv) st) (h : stateP n L = some x) (ha : a.data.toList = x.ans) (hs : st = x.star)
    (ho : wr.ownsRow (w.heap.size + 2) 171 2 (.slice av lv cv) x.edges.length (edgeCells x.edges)) : StPost w n L (.returned (.tuple #[.agg #[.string a, .slice av lv cv, .int .i64 st], .bool true])) (putSt w wr a (.slice av lv cv) st) :=
  ⟨a, av, lv, cv, st, true, rfl, hw.stored.2.1, Or.inr ⟨rfl, x, h, ha, hs, own_put hw ho⟩⟩

theorem lev_eq' (s : ByteArray) (p m : Nat) : (s.extract (p + 1) (p + 1 + m)).data.toList = (s.data.toList.drop (p + 1)).take m := by
  rw [Lib.extract_data]; congr 1; omega
theorem lev_strV (s : ByteArray) (p m : Nat) : Value.string (s.extract (p + 1) (p + 1 + m)) = strV ((s.data.toList.drop (p + 1)).take m) := by
  rw [strV_cut]; congr 2; omega

theorem cut_zero (s : ByteArray) (k : Nat) : (s.extract 0 k).data.toList = s.data.toList.take k := by
  rw [Lib.extract_data]; simp

set_option maxHeartbeats 8000000 in
set_option maxRecDepth 1000000 in
theorem state_any (s : ByteArray) (n : Int) (w : World) (hs : s.size ≤ 1000000) (hn0 : 0 ≤ n) (hn : n ≤ 1000000) :
    Calls Tryz.prog 119 #[.string s, .int .i64 n] w (StPost w n s.data.toList) := by
  obtain ⟨i0, hi, hz0, hz1, hz2⟩ := info_parts info_edge
  go_enter Tryz.func119, Tryz.ntmps119
  go_upto_block 0 with fail
  go_cut [7] (fun i wc => ∃ k : Nat, k ≤ s.size ∧ i = .int .i64 k ∧ StW w wc ⟨#[]⟩ (.slice none 0 0) (-1) ∧ Hid (ansN 0 s.data.toList = some k))
  case first =>
    go_wp2_with fail
    go_loopg [7] s.size (fun g i wr => ∃ k : Nat, k ≤ s.size ∧ g = s.size - k ∧ i = .int .i64 k ∧ StW w wr ⟨#[]⟩ (.slice none 0 0) (-1) ∧ Hid (ansN 0 s.data.toList = (ansN (prevZ s.data.toList k) (s.data.toList.drop k)).map (· + k)))
    case atStart => exact ⟨0, by omega, rfl, rfl, StW.start w, hide (by rw [prevZ_zero]; simp)⟩
    case round =>
      obtain ⟨k, hk, rfl, rfl, hw, HA⟩ := hrel
      by_cases hlt : k < s.size
      · by_cases hc : 65 ≤ (s[k].toNat : Int) ∧ (s[k].toNat : Int) ≤ 80
        · cases k with
          | zero =>
            have HO := hide (ans_on s 0 0 hlt hc (by omega))
            rw [prevZ_zero] at HA
            obtain ⟨d1, d2⟩ := hc
            have HW := hide hw
            clear hw
            go_wp2_with fail
            go_quiet (fail)
            go_wp2_with fail
            go_roundg (s.size - 1)
            case measure => omega
            case rel => exact ⟨1, by omega, rfl, by go_num, (unhide HW).drewN _, hide (ans_step (unhide HA) (unhide HO) (prevZ_succ s 0 hlt))⟩
          | succ k =>
            have HP := hide (prevZ_succ s k (by omega))
            have hwk := wrap_small (k : Int) (by omega) (by omega)
            have hk' : k < s.size := by omega
            by_cases hp : (s[k + 1].toNat : Int) ≤ (s[k].toNat : Int)
            · have HO := hide (stP_ans n _ ((unhide HA).trans (by rw [unhide HP, ans_none s _ (k + 1) hlt hc hp]; rfl)))
              obtain ⟨d1, d2⟩ := hc
              have f0 := free_block (i := 0) hw.x
              have f1 := free_block (i := 1) hw.x
              have f2 := free_block (i := 2) hw.x
              have c0 := cell_block (i := 0) hw.x rfl
              have c1 := cell_block (i := 1) hw.x rfl
              have c2 := cell_block (i := 2) hw.x rfl
              have r0 := free_block (i := 0) hw.res
              have r1 := free_block (i := 1) hw.res
              have r2 := free_block (i := 2) hw.res
              have q0 := cell_block (i := 0) hw.res rfl
              have q1 := cell_block (i := 1) hw.res rfl
              have q2 := cell_block (i := 2) hw.res rfl
              have HW := hide hw
              clear hw
              go_wp2_with fail
              go_quiet (fail)
              go_wp2_with fail
              replace HW := hide ((unhide HW).drewN nq)
              have hst := (unhide HW).stored
              refine bodyPost_ret (v := .tuple #[.agg #[.string ⟨#[]⟩, .slice none 0 0, .int .i64 (-1)], .bool false]) ?_ rfl (StPost.no hst.2.1 (unhide HO))
              have g0 := cell_block (i := 0) hst.1 rfl
              have g1 := cell_block (i := 1) hst.1 rfl
              have g2 := cell_block (i := 2) hst.1 rfl
              unfold putSt at g0 g1 g2
              simp [results, Tryz.results119, go_sem, g0, g1, g2]
            · have HO := hide (ans_on s _ (k + 1) hlt hc hp)
              obtain ⟨d1, d2⟩ := hc
              have HW := hide hw
              clear hw
              go_wp2_with fail
              go_quiet (fail)
              go_wp2_with fail
              go_roundg (s.size - (k + 2))
              case measure => omega
              case rel => exact ⟨k + 2, by omega, rfl, by go_num, (unhide HW).drewN _, hide (ans_step ((unhide HA).trans (by rw [unhide HP])) (unhide HO) (prevZ_succ s (k + 1) hlt))⟩
        · have HO : Hid (ansN 0 s.data.toList = some k) := (unhide HA).trans (by rw [ans_stop s _ k (fun _ => hc)]; simp)
          have HW := hide hw
          clear hw
          have hc' : (s[k].toNat : Int) < 65 ∨ (80 < (s[k].toNat : Int) ∧ 65 ≤ (s[k].toNat : Int)) := by omega
          clear hc
          rcases hc' with d1 | ⟨d1, d2⟩
          all_goals
            go_wp2_with fail
            go_meet
            exact ⟨k, hk, rfl, unhide HW, HO⟩
      · have HO : Hid (ansN 0 s.data.toList = some k) := (unhide HA).trans (by rw [ans_stop s _ k (fun h => absurd h hlt)]; simp)
        have HW := hide hw
        clear hw
        go_wp2_with fail
        go_meet
        exact ⟨k, hk, rfl, unhide HW, HO⟩
  case rest =>
    obtain ⟨k, hk, rfl, hw, HA⟩ := hcut
    have f0 := free_block (i := 0) hw.x
    have f1 := free_block (i := 1) hw.x
    have f2 := free_block (i := 2) hw.x
    have c0 := cell_block (i := 0) hw.x rfl
    have c1 := cell_block (i := 1) hw.x rfl
    have c2 := cell_block (i := 2) hw.x rfl
    have r0 := free_block (i := 0) hw.res
    have r1 := free_block (i := 1) hw.res
    have r2 := free_block (i := 2) hw.res
    have q0 := cell_block (i := 0) hw.res rfl
    have q1 := cell_block (i := 1) hw.res rfl
    have q2 := cell_block (i := 2) hw.res rfl
    have HW := hide hw
    clear hw
    go_wp2_with fail
    go_loopg [7, 8, 9, 10, 11] (s.size - k) (fun g i _ _ _ _ wr => ∃ (p f : Nat) (G : List (List UInt8 × Int)) (v : Value), p ≤ s.size ∧ g = s.size - p ∧ i = .int .i64 p ∧ StW w wr (s.extract 0 k) v (-1) ∧ wr.ownsRow (w.heap.size + 2) 171 2 v G.length (edgeCells G) ∧ (G = [] → v = .slice none 0 0) ∧ s.size ≤ p + f ∧ G.length ≤ p ∧ Hid (edgesP n s.size [] (s.data.toList.drop k) = edgesP n f G (s.data.toList.drop p)))
    case atStart => exact ⟨k, s.size, [], .slice none 0 0, hk, rfl, rfl, (unhide HW).set 0 _ rfl, own_set (World.ownsRow_nil _ _ _ _), fun _ => rfl, by omega, by simp, hide rfl⟩
    case round =>
      obtain ⟨p, f, G, v, hp, rfl, rfl, hw, hown, hnil, hf, hG, HE⟩ := hrel
      clear f0 f1 f2 c0 c1 c2 r0 r1 r2 q0 q1 q2 HW
      have f0 := free_block (i := 0) hw.x
      have f1 := free_block (i := 1) hw.x
      have f2 := free_block (i := 2) hw.x
      have c0 := cell_block (i := 0) hw.x rfl
      have c1 := cell_block (i := 1) hw.x rfl
      have c2 := cell_block (i := 2) hw.x rfl
      have r0 := free_block (i := 0) hw.res
      have r1 := free_block (i := 1) hw.res
      have r2 := free_block (i := 2) hw.res
      have q0 := cell_block (i := 0) hw.res rfl
      have q1 := cell_block (i := 1) hw.res rfl
      have q2 := cell_block (i := 2) hw.res rfl
      have HW := hide hw
      have HO := hide hown
      have HN := hide hnil
      clear hw hown hnil
      by_cases hlt : p < s.size
      · by_cases h44 : (s[p].toNat : Int) = 44
        · have b44 : ((s[p].toNat : Int) == 44) = true := by simp [h44]
          obtain ⟨f', hf', hstep⟩ := edgesP_step n f G s.data.toList p _ (by rw [head_at s p hlt]; exact h44) (by rw [len_list]; exact hf) rfl
          have HF' : Hid (s.size ≤ p + 1 + f') := by unfold Hid; omega
          have hml := sgn_le s (p + 1) (by omega)
          generalize hm : signLen (s.data.toList.drop (p + 1)) = m at *
          have HS := hide hstep
          have HM := hide hm
          clear hstep hm h44 hf' hf
          go_upto_block 4 with fail
          go_cut [8] (fun j wc => wc = wr ∧ j = .int .i64 ((p + 1 + m : Nat) : Int))
          case first =>
            go_wp2_with fail
            go_loopg [8] (s.size - (p + 1)) (fun g j wl => wl = wr ∧ ∃ q : Nat, q ≤ s.size ∧ g = s.size - q ∧ j = .int .i64 q ∧ Hid (p + 1 + m = q + signLen (s.data.toList.drop q)))
            case atStart => exact ⟨rfl, p + 1, by omega, rfl, by go_num, hide (by rw [unhide HM])⟩
            case round =>
              obtain ⟨rfl, q, hq, rfl, rfl, HQ⟩ := hrel
              by_cases hql : q < s.size
              · cases hsg : signB (s[q].toNat : Int)
                · have HZ := hide (sgn_no s q hql hsg)
                  go_wp2_with (go_at_call 61; refine (refSign_any _ _).mono ?_; rintro e w' ⟨rfl, rfl⟩)
                  go_meet
                  exact ⟨rfl, by have h1 := unhide HQ; have h2 := unhide HZ; congr 1; omega⟩
                · have HZ := hide (sgn_on s q hql hsg)
                  go_wp2_with (go_at_call 61; refine (refSign_any _ _).mono ?_; rintro e w' ⟨rfl, rfl⟩)
                  go_roundg (s.size - (q + 1))
                  case measure => omega
                  case rel => exact ⟨rfl, q + 1, by omega, rfl, by go_num, hide (by have h1 := unhide HQ; have h2 := unhide HZ; omega)⟩
              · have HZ := hide (sgn_end s q hql)
                go_wp2_with fail
                go_meet
                exact ⟨rfl, by have h1 := unhide HQ; have h2 := unhide HZ; congr 1; omega⟩
          case rest =>
            obtain ⟨rfl, rfl⟩ := hcut
            go_wp2_with fail
            refine (number_at s _ (p + 1 + m + 1) _ hs (by omega) (by omega)).mono ?_
            rintro e w' ⟨rfl, rfl⟩
            have hdl := dig3_len (s.data.toList.drop (p + 1 + m + 1))
            generalize hd : dig3 (s.data.toList.drop (p + 1 + m + 1)) = d at *
            clear hd
            rcases List.eq_nil_or_concat G with rfl | ⟨G', e, rfl⟩
            · obtain rfl := unhide HN rfl
              by_cases hj : p + 1 + m < s.size
              · by_cases h62 : (s[p + 1 + m].toNat : Int) = 62
                · have b62 : ((s[p + 1 + m].toNat : Int) != 62) = false := by simp [h62]
                  replace HS := hide ((unhide HS).trans (by rw [if_pos (by rw [head_at s _ hj]; exact h62)]))
                  clear h62
                  by_cases hd0 : 0 ≤ d
                  · obtain ⟨hd3, hd9⟩ := hdl hd0
                    rw [List.length_drop, len_list] at hd3
                    clear hdl
                    by_cases hdn : d < n
                    · have hrs := risesB_nil ((s.data.toList.drop (p + 1)).take m)
                      replace HS := hide ((unhide HS).trans (by rw [if_pos ⟨hd0, hdn, hrs⟩]))
                      go_wp2_with (at_builtin; refine wpList_append_own _ rfl _ _ 167 rfl (w.heap.size + 2) 171 i0 (.agg #[.string ByteArray.empty, .int .i64 0]) 2 24 Tryz.underlying167 hi hz0 hz1 hz2 rfl (by decide) _ _ _ rfl ((unhide HO).alloc _) ⟨w'.heap.size, 0, none⟩ 1 1 [.string (s.extract (p + 1) (p + 1 + m)), .int .i64 d] rfl rfl ?c1 ?c2 ?c3 ?c4 ?c5 ?_)
                      case c1 =>
                        intro j u hj
                        match j, hj with
                        | 0, hj => simp at hj; subst hj; simp [Addr.add]
                        | 1, hj => simp at hj; subst hj; simp [Addr.add]
                      case c2 => intro u hu; simp at hu; rcases hu with rfl | rfl <;> rfl
                      case c3 => unfold maxLen; omega
                      case c4 => omega
                      case c5 => have := (unhide HW).size; simp; omega
                      intro v' w1 hown' hgrow _
                      have hw1 := (unhide HW).append (unhide HO) hgrow
                      have hown1 : w1.ownsRow (w.heap.size + 2) 171 2 v' ([] ++ [((s.data.toList.drop (p + 1)).take m, d)]).length (edgeCells ([] ++ [((s.data.toList.drop (p + 1)).take m, d)])) := by
                        rw [edgeCells_snoc, ← lev_strV]; simpa using hown'
                      clear hown' hgrow HO HN c0 c1 c2 f0 f1 f2 r0 r1 r2 q0 q1 q2
                      have f1 := free_block (i := 1) hw1.x
                      have c1 := cell_block (i := 1) hw1.x rfl
                      generalize hN1 : ([] ++ [((s.data.toList.drop (p + 1)).take m, d)]).length = N1 at hown1
                      have HN1 := hide hN1
                      clear hN1
                      obtain ⟨g1, cap1, rfl⟩ := own_form hown1 (by have := unhide HN1; rw [List.length_append, List.length_singleton] at this; omega)
                      have HW1 := hide hw1
                      have HO1 := hide hown1
                      clear hw1 hown1 HW
                      go_wp2_with fail
                      go_roundg (s.size - (p + m + 5))
                      case measure => omega
                      case rel => exact ⟨p + m + 5, f', [] ++ [((s.data.toList.drop (p + 1)).take m, d)], _, by omega, rfl, by go_num, (unhide HW1).set 1 _ rfl, own_set (by rw [unhide HN1]; exact unhide HO1), fun h => by simp at h, by have := unhide HF'; omega, by rw [List.length_append, List.length_singleton]; omega, hide ((unhide HE).trans (unhide HS))⟩
                    · have hdn' : n ≤ d := by omega
                      have HF : Hid (edgesP n s.size [] (s.data.toList.drop k) = none) := (unhide HE).trans ((unhide HS).trans (by rw [if_neg (by omega)]))
                      go_wp2_with fail
                      have hst := (unhide HW).stored
                      refine bodyPost_ret (v := .tuple #[.agg #[.string (s.extract 0 k), .slice none 0 0, .int .i64 (-1)], .bool false]) ?_ rfl (StPost.no hst.2.1 (stP_edge n _ s.size k (by rw [len_list]) (unhide HA) (unhide HF)))
                      have g0 := cell_block (i := 0) hst.1 rfl
                      have g1 := cell_block (i := 1) hst.1 rfl
                      have g2 := cell_block (i := 2) hst.1 rfl
                      unfold putSt at g0 g1 g2
                      simp [results, Tryz.results119, go_sem, g0, g1, g2]
                  · have hd' : d < 0 := by omega
                    have HF : Hid (edgesP n s.size [] (s.data.toList.drop k) = none) := (unhide HE).trans ((unhide HS).trans (by rw [if_neg (by omega)]))
                    go_wp2_with fail
                    have hst := (unhide HW).stored
                    refine bodyPost_ret (v := .tuple #[.agg #[.string (s.extract 0 k), .slice none 0 0, .int .i64 (-1)], .bool false]) ?_ rfl (StPost.no hst.2.1 (stP_edge n _ s.size k (by rw [len_list]) (unhide HA) (unhide HF)))
                    have g0 := cell_block (i := 0) hst.1 rfl
                    have g1 := cell_block (i := 1) hst.1 rfl
                    have g2 := cell_block (i := 2) hst.1 rfl
                    unfold putSt at g0 g1 g2
                    simp [results, Tryz.results119, go_sem, g0, g1, g2]
                · have b62 : ((s[p + 1 + m].toNat : Int) != 62) = true := by simp [h62]
                  have HF : Hid (edgesP n s.size [] (s.data.toList.drop k) = none) := (unhide HE).trans ((unhide HS).trans (by rw [if_neg (by rw [head_at s _ hj]; exact h62)]))
                  clear h62
                  go_wp2_with fail
                  have hst := (unhide HW).stored
                  refine bodyPost_ret (v := .tuple #[.agg #[.string (s.extract 0 k), .slice none 0 0, .int .i64 (-1)], .bool false]) ?_ rfl (StPost.no hst.2.1 (stP_edge n _ s.size k (by rw [len_list]) (unhide HA) (unhide HF)))
                  have g0 := cell_block (i := 0) hst.1 rfl
                  have g1 := cell_block (i := 1) hst.1 rfl
                  have g2 := cell_block (i := 2) hst.1 rfl
                  unfold putSt at g0 g1 g2
                  simp [results, Tryz.results119, go_sem, g0, g1, g2]
              · have HF : Hid (edgesP n s.size [] (s.data.toList.drop k) = none) := (unhide HE).trans ((unhide HS).trans (by rw [if_neg (by rw [head_end s _ hj]; decide)]))
                go_wp2_with fail
                have hst := (unhide HW).stored
                refine bodyPost_ret (v := .tuple #[.agg #[.string (s.extract 0 k), .slice none 0 0, .int .i64 (-1)], .bool false]) ?_ rfl (StPost.no hst.2.1 (stP_edge n _ s.size k (by rw [len_list]) (unhide HA) (unhide HF)))
                have g0 := cell_block (i := 0) hst.1 rfl
                have g1 := cell_block (i := 1) hst.1 rfl
                have g2 := cell_block (i := 2) hst.1 rfl
                unfold putSt at g0 g1 g2
                simp [results, Tryz.results119, go_sem, g0, g1, g2]
            · rw [List.concat_eq_append] at *
              obtain ⟨g, cap, rfl, hcap, hcap2, le, hlast, hle⟩ := last_level (unhide HO)
              have HLE := hide hle
              clear hle
              unfold maxLen at hcap2
              have hwl := wrap_small (G'.length : Int) (by omega) (by simp at hG; omega)
              by_cases hj : p + 1 + m < s.size
              · by_cases h62 : (s[p + 1 + m].toNat : Int) = 62
                · have b62 : ((s[p + 1 + m].toNat : Int) != 62) = false := by simp [h62]
                  replace HS := hide ((unhide HS).trans (by rw [if_pos (by rw [head_at s _ hj]; exact h62)]))
                  clear h62
                  by_cases hd0 : 0 ≤ d
                  · obtain ⟨hd3, hd9⟩ := hdl hd0
                    rw [List.length_drop, len_list] at hd3
                    clear hdl
                    by_cases hdn : d < n
                    · have hrs := risesB_snoc G' e ((s.data.toList.drop (p + 1)).take m)
                      have hbl : Go.Op.bytesLess le.toList (s.extract (p + 1) (p + 1 + m)).toList = Go.Op.bytesLess e.1 ((s.data.toList.drop (p + 1)).take m) := by rw [Lib.toList_data, Lib.toList_data, lev_eq', unhide HLE]
                      cases hb : Go.Op.bytesLess e.1 ((s.data.toList.drop (p + 1)).take m)
                      · rw [hb] at hrs hbl
                        have HF : Hid (edgesP n s.size [] (s.data.toList.drop k) = none) := (unhide HE).trans ((unhide HS).trans (by rw [if_neg (by rw [hrs]; simp)]))
                        go_wp2_with fail
                        have hst := (unhide HW).stored
                        refine bodyPost_ret (v := .tuple #[.agg #[.string (s.extract 0 k), .slice (some ⟨g, 0, none⟩) (G'.length + 1) cap, .int .i64 (-1)], .bool false]) ?_ rfl (StPost.no hst.2.1 (stP_edge n _ s.size k (by rw [len_list]) (unhide HA) (unhide HF)))
                        have g0 := cell_block (i := 0) hst.1 rfl
                        have g1 := cell_block (i := 1) hst.1 rfl
                        have g2 := cell_block (i := 2) hst.1 rfl
                        unfold putSt at g0 g1 g2
                        simp [results, Tryz.results119, go_sem, g0, g1, g2]
                      · rw [hb] at hrs hbl
                        replace HS := hide ((unhide HS).trans (by rw [if_pos ⟨hd0, hdn, hrs⟩]))
                        go_wp2_with (at_builtin; refine wpList_append_own _ rfl _ _ 167 rfl (w.heap.size + 2) 171 i0 (.agg #[.string ByteArray.empty, .int .i64 0]) 2 24 Tryz.underlying167 hi hz0 hz1 hz2 rfl (by decide) _ _ _ rfl ((unhide HO).alloc _) ⟨w'.heap.size, 0, none⟩ 1 1 [.string (s.extract (p + 1) (p + 1 + m)), .int .i64 d] rfl rfl ?c1 ?c2 ?c3 ?c4 ?c5 ?_)
                        case c1 =>
                          intro j u hj
                          match j, hj with
                          | 0, hj => simp at hj; subst hj; simp [Addr.add]
                          | 1, hj => simp at hj; subst hj; simp [Addr.add]
                        case c2 => intro u hu; simp at hu; rcases hu with rfl | rfl <;> rfl
                        case c3 => unfold maxLen; omega
                        case c4 => omega
                        case c5 => have := (unhide HW).size; simp; omega
                        intro v' w1 hown' hgrow _
                        have hw1 := (unhide HW).append (unhide HO) hgrow
                        have hown1 : w1.ownsRow (w.heap.size + 2) 171 2 v' ((G' ++ [e]) ++ [((s.data.toList.drop (p + 1)).take m, d)]).length (edgeCells ((G' ++ [e]) ++ [((s.data.toList.drop (p + 1)).take m, d)])) := by
                          rw [edgeCells_snoc, ← lev_strV]; simpa using hown'
                        clear hown' hgrow HO HN c0 c1 c2 f0 f1 f2 r0 r1 r2 q0 q1 q2
                        have f1 := free_block (i := 1) hw1.x
                        have c1 := cell_block (i := 1) hw1.x rfl
                        generalize hN1 : ((G' ++ [e]) ++ [((s.data.toList.drop (p + 1)).take m, d)]).length = N1 at hown1
                        have HN1 := hide hN1
                        clear hN1
                        obtain ⟨g1, cap1, rfl⟩ := own_form hown1 (by have := unhide HN1; rw [List.length_append, List.length_singleton] at this; omega)
                        have HW1 := hide hw1
                        have HO1 := hide hown1
                        clear hw1 hown1 HW
                        go_wp2_with fail
                        go_roundg (s.size - (p + m + 5))
                        case measure => omega
                        case rel => exact ⟨p + m + 5, f', (G' ++ [e]) ++ [((s.data.toList.drop (p + 1)).take m, d)], _, by omega, rfl, by go_num, (unhide HW1).set 1 _ rfl, own_set (by rw [unhide HN1]; exact unhide HO1), fun h => by simp at h, by have := unhide HF'; omega, by rw [List.length_append, List.length_singleton]; omega, hide ((unhide HE).trans (unhide HS))⟩
                    · have hdn' : n ≤ d := by omega
                      have HF : Hid (edgesP n s.size [] (s.data.toList.drop k) = none) := (unhide HE).trans ((unhide HS).trans (by rw [if_neg (by omega)]))
                      go_wp2_with fail
                      have hst := (unhide HW).stored
                      refine bodyPost_ret (v := .tuple #[.agg #[.string (s.extract 0 k), .slice (some ⟨g, 0, none⟩) (G'.length + 1) cap, .int .i64 (-1)], .bool false]) ?_ rfl (StPost.no hst.2.1 (stP_edge n _ s.size k (by rw [len_list]) (unhide HA) (unhide HF)))
                      have g0 := cell_block (i := 0) hst.1 rfl
                      have g1 := cell_block (i := 1) hst.1 rfl
                      have g2 := cell_block (i := 2) hst.1 rfl
                      unfold putSt at g0 g1 g2
                      simp [results, Tryz.results119, go_sem, g0, g1, g2]
                  · have hd' : d < 0 := by omega
                    have HF : Hid (edgesP n s.size [] (s.data.toList.drop k) = none) := (unhide HE).trans ((unhide HS).trans (by rw [if_neg (by omega)]))
                    go_wp2_with fail
                    have hst := (unhide HW).stored
                    refine bodyPost_ret (v := .tuple #[.agg #[.string (s.extract 0 k), .slice (some ⟨g, 0, none⟩) (G'.length + 1) cap, .int .i64 (-1)], .bool false]) ?_ rfl (StPost.no hst.2.1 (stP_edge n _ s.size k (by rw [len_list]) (unhide HA) (unhide HF)))
                    have g0 := cell_block (i := 0) hst.1 rfl
                    have g1 := cell_block (i := 1) hst.1 rfl
                    have g2 := cell_block (i := 2) hst.1 rfl
                    unfold putSt at g0 g1 g2
                    simp [results, Tryz.results119, go_sem, g0, g1, g2]
                · have b62 : ((s[p + 1 + m].toNat : Int) != 62) = true := by simp [h62]
                  have HF : Hid (edgesP n s.size [] (s.data.toList.drop k) = none) := (unhide HE).trans ((unhide HS).trans (by rw [if_neg (by rw [head_at s _ hj]; exact h62)]))
                  clear h62
                  go_wp2_with fail
                  have hst := (unhide HW).stored
                  refine bodyPost_ret (v := .tuple #[.agg #[.string (s.extract 0 k), .slice (some ⟨g, 0, none⟩) (G'.length + 1) cap, .int .i64 (-1)], .bool false]) ?_ rfl (StPost.no hst.2.1 (stP_edge n _ s.size k (by rw [len_list]) (unhide HA) (unhide HF)))
                  have g0 := cell_block (i := 0) hst.1 rfl
                  have g1 := cell_block (i := 1) hst.1 rfl
                  have g2 := cell_block (i := 2) hst.1 rfl
                  unfold putSt at g0 g1 g2
                  simp [results, Tryz.results119, go_sem, g0, g1, g2]
              · have HF : Hid (edgesP n s.size [] (s.data.toList.drop k) = none) := (unhide HE).trans ((unhide HS).trans (by rw [if_neg (by rw [head_end s _ hj]; decide)]))
                go_wp2_with fail
                have hst := (unhide HW).stored
                refine bodyPost_ret (v := .tuple #[.agg #[.string (s.extract 0 k), .slice (some ⟨g, 0, none⟩) (G'.length + 1) cap, .int .i64 (-1)], .bool false]) ?_ rfl (StPost.no hst.2.1 (stP_edge n _ s.size k (by rw [len_list]) (unhide HA) (unhide HF)))
                have g0 := cell_block (i := 0) hst.1 rfl
                have g1 := cell_block (i := 1) hst.1 rfl
                have g2 := cell_block (i := 2) hst.1 rfl
                unfold putSt at g0 g1 g2
                simp [results, Tryz.results119, go_sem, g0, g1, g2]
        · obtain ⟨av, lv, cv, rfl⟩ := own_slice (unhide HO)
          have b44 : ((s[p].toNat : Int) == 44) = false := by simp [h44]
          have HG := hide ((unhide HE).trans (edgesP_stop n f G s.data.toList p (by rw [head_at s p hlt]; exact h44) (by rw [len_list]; exact hf)))
          have hpe : ((p : Int) == (s.size : Int)) = false := by simp; omega
          clear h44
          by_cases h42 : (s[p].toNat : Int) = 42
          · have b42 : ((s[p].toNat : Int) == 42) = true := by simp [h42]
            have HH : Hid (headI (s.data.toList.drop p) = 42) := by unfold Hid; rw [head_at s p hlt]; exact h42
            clear h42
            go_wp2_with fail
            refine (number_at s _ (p + 1) _ hs (by omega) (by omega)).mono ?_
            rintro e w' ⟨rfl, rfl⟩
            have hdl := dig3_len (s.data.toList.drop (p + 1))
            have HB1 := hide (star_bad n s.data.toList p (unhide HH))
            have HB2 := hide (star_good n s.data.toList p (unhide HH))
            generalize dig3 (s.data.toList.drop (p + 1)) = d at *
            rw [len_list] at HB1 HB2
            have hw2 := (unhide HW).set 2 (.int .i64 d) rfl
            have HW2 := hide hw2
            clear hw2
            have HO2 := hide (own_set (i := 2) (u := .int .i64 d) (unhide HO))
            by_cases hd : 0 ≤ d ∧ d < n
            · obtain ⟨hd0, hdn⟩ := hd
              obtain ⟨hd3, hd9⟩ := hdl hd0
              rw [List.length_drop, len_list] at hd3
              clear hdl
              by_cases hp4 : s.size = p + 4
              · have HZ := hide (stP_yes n s.data.toList s.size k G _ d (by rw [len_list]) (unhide HA) (unhide HG) (unhide HB2 ⟨hd0, hdn⟩ hp4))
                have hpz : ((p : Int) + 4 == (s.size : Int)) = true := by simp; omega
                clear hp4
                go_wp2_with fail
                have hst := (unhide HW2).stored
                refine bodyPost_ret (v := .tuple #[.agg #[.string (s.extract 0 k), .slice av lv cv, .int .i64 d], .bool true]) ?_ rfl (StPost.yes (unhide HW2) (unhide HZ) (cut_zero s k) rfl (unhide HO2))
                have g0 := cell_block (i := 0) hst.1 rfl
                have g1 := cell_block (i := 1) hst.1 rfl
                have g2 := cell_block (i := 2) hst.1 rfl
                unfold putSt at g0 g1 g2
                simp [results, Tryz.results119, go_sem, g0, g1, g2]
              · have HZ := hide (stP_star n s.data.toList s.size k G _ (by rw [len_list]) (unhide HA) (unhide HG) (unhide HB1 (fun h => hp4 h.2.2)))
                have hpz : ((p : Int) + 4 == (s.size : Int)) = false := by simp; omega
                go_wp2_with fail
                have hst := (unhide HW2).stored
                refine bodyPost_ret (v := .tuple #[.agg #[.string (s.extract 0 k), .slice av lv cv, .int .i64 d], .bool false]) ?_ rfl (StPost.no hst.2.1 (unhide HZ))
                have g0 := cell_block (i := 0) hst.1 rfl
                have g1 := cell_block (i := 1) hst.1 rfl
                have g2 := cell_block (i := 2) hst.1 rfl
                unfold putSt at g0 g1 g2
                simp [results, Tryz.results119, go_sem, g0, g1, g2]
            · have HZ := hide (stP_star n s.data.toList s.size k G _ (by rw [len_list]) (unhide HA) (unhide HG) (unhide HB1 (fun h => hd ⟨h.1, h.2.1⟩)))
              have hd' : d < 0 ∨ (0 ≤ d ∧ n ≤ d) := by omega
              clear hd hdl
              rcases hd' with hd0 | ⟨hd0, hdn⟩
              · go_wp2_with fail
                have hst := (unhide HW2).stored
                refine bodyPost_ret (v := .tuple #[.agg #[.string (s.extract 0 k), .slice av lv cv, .int .i64 d], .bool false]) ?_ rfl (StPost.no hst.2.1 (unhide HZ))
                have g0 := cell_block (i := 0) hst.1 rfl
                have g1 := cell_block (i := 1) hst.1 rfl
                have g2 := cell_block (i := 2) hst.1 rfl
                unfold putSt at g0 g1 g2
                simp [results, Tryz.results119, go_sem, g0, g1, g2]
              · go_wp2_with fail
                have hst := (unhide HW2).stored
                refine bodyPost_ret (v := .tuple #[.agg #[.string (s.extract 0 k), .slice av lv cv, .int .i64 d], .bool false]) ?_ rfl (StPost.no hst.2.1 (unhide HZ))
                have g0 := cell_block (i := 0) hst.1 rfl
                have g1 := cell_block (i := 1) hst.1 rfl
                have g2 := cell_block (i := 2) hst.1 rfl
                unfold putSt at g0 g1 g2
                simp [results, Tryz.results119, go_sem, g0, g1, g2]
          · have b42 : ((s[p].toNat : Int) == 42) = false := by simp [h42]
            have HZ := hide (stP_star n s.data.toList s.size k G _ (by rw [len_list]) (unhide HA) (unhide HG) (star_other n _ p (by rw [len_list]; exact hlt) (by rw [head_at s p hlt]; exact h42)))
            clear h42
            go_wp2_with fail
            have hst := (unhide HW).stored
            refine bodyPost_ret (v := .tuple #[.agg #[.string (s.extract 0 k), .slice av lv cv, .int .i64 (-1)], .bool false]) ?_ rfl (StPost.no hst.2.1 (unhide HZ))
            have g0 := cell_block (i := 0) hst.1 rfl
            have g1 := cell_block (i := 1) hst.1 rfl
            have g2 := cell_block (i := 2) hst.1 rfl
            unfold putSt at g0 g1 g2
            simp [results, Tryz.results119, go_sem, g0, g1, g2]
      · obtain ⟨av, lv, cv, rfl⟩ := own_slice (unhide HO)
        have HG := hide ((unhide HE).trans (edgesP_stop n f G s.data.toList p (by rw [head_end s p hlt]; decide) (by rw [len_list]; exact hf)))
        have HZ := hide (stP_yes n s.data.toList s.size k G _ (-1) (by rw [len_list]) (unhide HA) (unhide HG) (star_end n _ p (by rw [len_list]; omega)))
        have hpz : ((p : Int) == (s.size : Int)) = true := by simp; omega
        go_wp2_with fail
        have hst := (unhide HW).stored
        refine bodyPost_ret (v := .tuple #[.agg #[.string (s.extract 0 k), .slice av lv cv, .int .i64 (-1)], .bool true]) ?_ rfl (StPost.yes (unhide HW) (unhide HZ) (cut_zero s k) rfl (unhide HO))
        have g0 := cell_block (i := 0) hst.1 rfl
        have g1 := cell_block (i := 1) hst.1 rfl
        have g2 := cell_block (i := 2) hst.1 rfl
        unfold putSt at g0 g1 g2
        simp [results, Tryz.results119, go_sem, g0, g1, g2]

end Go.Proofs.YtchhmojnoiephabGreatDoor
