import Derived.Test.YtchhmojnoiephabGreatDoorZmHubE
import GoSem.Op.String
/- The program's hub: spreading a message. -/
namespace Go.Proofs.YtchhmojnoiephabGreatDoor
open Go.ChangeShapes Go.WideShapes Go.ChangeAt Go.RowKit
set_option linter.unusedVariables false

/-- one more delivery to client n -/
def spAdd (m : MsgL) (n : Nat) (x : List Int × HubL) : List Int × HubL := (x.1 ++ [(n : Int)], delH x.2 n m)
/-- the turns that are client n's, from the j-th on -/
def spTurn (m : MsgL) (n : Nat) (x : List Int × HubL) : List Int → List Int × HubL
  | [] => x
  | o :: T => spTurn m n (if o = (n : Int) then spAdd m n x else x) T
def spOne (m : MsgL) (T : List Int) (n : Nat) (x : List Int × HubL) : List Int × HubL := spTurn m n (if reachB x.2.subs n m.1 = true then spAdd m n x else x) T
def spTo (m : MsgL) (T : List Int) (x : List Int × HubL) : Nat → List Int × HubL
  | 0 => x
  | n + 1 => spOne m T n (spTo m T x n)
def spreadH (H : HubL) (m : MsgL) : List Int × HubL := spTo m (takeH H m.1).1 ([], (takeH H m.1).2) 6

theorem spTurn_hit (m : MsgL) (n : Nat) (x : List Int × HubL) (T : List Int) (j : Nat) (h : j < T.length) (he : T[j] = (n : Int)) : spTurn m n x (T.drop j) = spTurn m n (spAdd m n x) (T.drop (j + 1)) := by
  rw [List.drop_eq_getElem_cons h]; simp only [spTurn]; rw [if_pos he]
theorem spTurn_miss (m : MsgL) (n : Nat) (x : List Int × HubL) (T : List Int) (j : Nat) (h : j < T.length) (he : ¬ T[j] = (n : Int)) : spTurn m n x (T.drop j) = spTurn m n x (T.drop (j + 1)) := by
  rw [List.drop_eq_getElem_cons h]; simp only [spTurn]; rw [if_neg he]
theorem spTurn_end (m : MsgL) (n : Nat) (x : List Int × HubL) (T : List Int) (j : Nat) (h : ¬ j < T.length) : spTurn m n x (T.drop j) = x := by
  rw [List.drop_eq_nil_of_le (by omega)]; rfl

/-- the hub, the list of turns and the list that is answered, side by side; the message at block X -/
structure Spr (w wr : World) (p : Nat) (S : Nat → Prop) (tv ov : Value) (T : List Int) (x : List Int × HubL) (X : Nat) (O : Obj) : Prop where
  hub : ∃ S', HubAt wr p S' x.2 ∧ Fr S w wr S' ∧ (∀ k, tv.ownBlock = some k → ¬ S' k) ∧ (∀ k, ov.ownBlock = some k → ¬ S' k) ∧ ¬ S' X
  t : wr.ownsRow 0 3 1 tv T.length (T.map (Value.int .i64))
  o : wr.ownsRow 0 3 1 ov x.1.length (x.1.map (Value.int .i64))
  ap : ∀ k, tv.ownBlock = some k → ov.ownBlock ≠ some k
  ge : ∀ k, tv.ownBlock = some k ∨ ov.ownBlock = some k → w.heap.size ≤ k
  mx : wr.heap[X]? = some O
  nx : tv.ownBlock ≠ some X ∧ ov.ownBlock ≠ some X
theorem Spr.on {w wr w2 : World} {p X : Nat} {O : Obj} {S : Nat → Prop} {tv ov : Value} {T : List Int} {x : List Int × HubL} (h : Spr w wr p S tv ov T x X O) (hb : Below wr.heap.size wr w2) : Spr w w2 p S tv ov T x X O := by
  obtain ⟨S', h1, h2, h3, h4, h5⟩ := h.hub
  exact ⟨⟨S', h1.below hb, h2.trans (Fr.of_below hb), h3, h4, h5⟩, own_below h.t hb, own_below h.o hb, h.ap, h.ge, (hb.block X (heap_lt h.mx)).trans h.mx, h.nx⟩
theorem Spr.del {w wr w2 : World} {p X : Nat} {O : Obj} {S : Nat → Prop} {tv ov : Value} {T : List Int} {x : List Int × HubL} (h : Spr w wr p S tv ov T x X O) {S1 : Nat → Prop} (f0 : Fr S w wr S1) (nt : ∀ k, tv.ownBlock = some k → ¬ S1 k) (no : ∀ k, ov.ownBlock = some k → ¬ S1 k) (nX : ¬ S1 X) {H' : HubL} {S2 : Nat → Prop} (h2 : HubAt w2 p S2 H') (hf : Fr S1 wr w2 S2) : Spr w w2 p S tv ov T (x.1, H') X O := by
  have hn : ∀ {v n xs}, wr.ownsRow 0 3 1 v n xs → (∀ k, v.ownBlock = some k → ¬ S1 k) → ∀ k, v.ownBlock = some k → ¬ S2 k := by
    intro v n xs ho hv k hk hs
    rcases hf.new k hs with h3 | h3
    · exact hv k hk h3
    · have := (ho.lt k hk).2; omega
  refine ⟨⟨S2, h2, f0.trans hf, hn h.t nt, hn h.o no, fun hs => ?_⟩, own_same h.t (fun k hk => hf.keep k (h.t.lt k hk).2 (nt k hk)), own_same h.o (fun k hk => hf.keep k (h.o.lt k hk).2 (no k hk)), h.ap, h.ge, (hf.keep X (heap_lt h.mx) nX).trans h.mx, h.nx⟩
  rcases hf.new X hs with h3 | h3
  · exact nX h3
  · have := heap_lt h.mx; omega
theorem Spr.push {w wr w3 : World} {p X : Nat} {O : Obj} {S : Nat → Prop} {tv ov v' : Value} {T : List Int} {x : List Int × HubL} {n : Int} (h : Spr w wr p S tv ov T x X O) (hown : w3.ownsRow 0 3 1 v' (x.1.length + 1) (x.1.map (Value.int .i64) ++ [.int .i64 n])) (hgrow : wr.grownBy w3 ov.ownBlock)
    (hmv : ∀ k, v'.ownBlock = some k → ov.ownBlock = some k ∨ wr.heap.size ≤ k) : Spr w w3 p S tv v' T (x.1 ++ [n], x.2) X O := by
  obtain ⟨S1, h1, h2, h3, h4, h6⟩ := h.hub
  have hws := h2.size
  have hf : Fr (fun k => ov.ownBlock = some k) wr w3 (fun _ => False) := ⟨hgrow.os, hgrow.tape, hgrow.output, hgrow.size, fun k hk hne => hgrow.block k hk (fun e => hne e.symm), fun _ h => h.elim⟩
  refine ⟨⟨S1, h1.kept hf (fun k hs he => h4 k he hs), ⟨hf.os.trans h2.os, hf.tape.trans h2.tape, hf.output.trans h2.output, Nat.le_trans h2.size hf.size, fun k hk hn => (hf.keep k (by omega) (fun e => by have := h.ge k (Or.inr e); omega)).trans (h2.keep k hk hn), h2.new⟩, h3, fun k hk hs => ?_, h6⟩, keep_row h.t hgrow h.ap, by rw [List.length_append, List.map_append]; exact hown, fun k hk hk2 => ?_, fun k hk => ?_, (hf.keep X (heap_lt h.mx) h.nx.2).trans h.mx, h.nx.1, fun hk => ?_⟩
  · rcases hmv k hk with h5 | h5
    · exact h4 k h5 hs
    · have := h1.lt hs; omega
  · rcases hmv k hk2 with h5 | h5
    · exact h.ap k hk h5
    · have := (h.t.lt k hk).2; omega
  · rcases hk with hk | hk
    · exact h.ge k (Or.inl hk)
    · rcases hmv k hk with h5 | h5
      · exact h.ge k (Or.inr h5)
      · omega
  · rcases hmv X hk with h5 | h5
    · exact h.nx.2 h5
    · have := heap_lt h.mx; omega

theorem spAdd_len (m : MsgL) (n : Nat) (x : List Int × HubL) : (spAdd m n x).1.length = x.1.length + 1 := by unfold spAdd; simp
theorem spTurn_len (m : MsgL) (n : Nat) (T : List Int) : ∀ x : List Int × HubL, (spTurn m n x T).1.length ≤ x.1.length + T.length := by
  induction T with
  | nil => intro x; simp [spTurn]
  | cons o T ih =>
    intro x
    simp only [spTurn, List.length_cons]
    split
    · have := ih (spAdd m n x); rw [spAdd_len] at this; omega
    · have := ih x; omega
theorem spTurn_ge (m : MsgL) (n : Nat) (T : List Int) : ∀ x : List Int × HubL, x.1.length ≤ (spTurn m n x T).1.length := by
  induction T with
  | nil => intro x; simp [spTurn]
  | cons o T ih =>
    intro x
    simp only [spTurn]
    split
    · have := ih (spAdd m n x); rw [spAdd_len] at this; omega
    · exact ih x
theorem spTo_len (m : MsgL) (T : List Int) (x : List Int × HubL) (hx : x.1 = []) : ∀ n, (spTo m T x n).1.length ≤ n * (T.length + 1) := by
  intro n
  induction n with
  | zero => simp [spTo, hx]
  | succ n ih =>
    simp only [spTo, spOne]
    have h1 := spTurn_len m n T (if reachB (spTo m T x n).2.subs n m.1 = true then spAdd m n (spTo m T x n) else spTo m T x n)
    have h2 : (if reachB (spTo m T x n).2.subs n m.1 = true then spAdd m n (spTo m T x n) else spTo m T x n).1.length ≤ (spTo m T x n).1.length + 1 := by
      split
      · rw [spAdd_len]; omega
      · omega
    rw [Nat.succ_mul]
    omega

/-- what spread answers -/
def SprPost (w : World) (p : Nat) (S : Nat → Prop) (H : HubL) (m : MsgL) (e : Ending) (w' : World) : Prop :=
  ∃ ov S', e = .returned ov ∧ w'.ownsRow w.heap.size 3 1 ov (spreadH H m).1.length ((spreadH H m).1.map (Value.int .i64)) ∧ (∀ k, ov.ownBlock = some k → ¬ S' k) ∧ HubAt w' p S' (spreadH H m).2 ∧ Fr S w w' S'

set_option maxHeartbeats 8000000 in
set_option maxRecDepth 1000000 in
theorem spread_any (p : Nat) (S : Nat → Prop) (H : HubL) (m : MsgL) (hm : smallM m) (w : World) (h : HubAt w p S H) :
    Calls Tryz.prog 26 #[.pointer (some ⟨p, 0, none⟩), msgV m] w (SprPost w p S H m) := by
  obtain ⟨j0, hj, hy0, hy1, hy2⟩ := info_parts info_int
  have hmt : (⟨m.1.toArray⟩ : ByteArray).size ≤ 24 := by rw [Lib.size_eq]; simpa using hm.1
  have hdd : (⟨m.1.toArray⟩ : ByteArray).data.toList = m.1 := by simp
  have HTT := hide (fun (x : World) (hx : HubAt x p S H) => takeTurns_any p S H (⟨m.1.toArray⟩ : ByteArray) hmt x hx)
  have HRE := hide (fun (S' : Nat → Prop) (H' : HubL) (n : Nat) (x : World) (hx : HubAt x p S' H') => hreaches_any p S' H' n (⟨m.1.toArray⟩ : ByteArray) hmt x hx)
  rw [hdd] at HTT HRE
  have HDE := hide (fun (S' : Nat → Prop) (H' : HubL) (n : Nat) (hn : n < 6) (x : World) (hx : HubAt x p S' H') => deliver_any p S' H' n hn m hm x hx)
  have HH := hide (h.below ((Below.refl _ w).alloc (Nat.le_refl _) (.cells #[strV m.1, strV m.2] 82)))
  have HFA := hide (Fr.alloc (S := S) w (.cells #[strV m.1, strV m.2] 82))
  have HPG := hide (pickT_good H m.1 h.good H.subs.length)
  have hs8 := h.good.subs.1
  have HSM := hide (MapKept.heap_alloc w (.cells #[strV m.1, strV m.2] 82)).1
  have hSw : ¬ S w.heap.size := fun hs => by have := h.lt hs; omega
  clear h hdd hmt
  unfold msgV strV at *
  go_enter Tryz.func26, Tryz.ntmps26
  go_wp2_with fail
  refine (unhide HTT _ (unhide HH)).mono ?_
  rintro e w1 ⟨tv, S1, rfl, htv, htn, hH1, hf1⟩
  have hTl : (takeH H m.1).1.length ≤ 8 := by have h2 := (unhide HPG).2.1; show (pickT H m.1 H.subs.length).1.length ≤ 8; omega
  have HT6 : Hid (∀ x ∈ (takeH H m.1).1, ∃ n : Nat, x = n ∧ n < 6) := (unhide HPG).2.2.2.2
  have hws := hf1.size
  have hX1 : ¬ S1 w.heap.size := fun hs => by
    rcases hf1.new _ hs with h2 | h2
    · exact hSw h2
    · simp at h2; omega
  have HSP : Hid (Spr w w1 p S tv (.slice none 0 0) (takeH H m.1).1 ([], (takeH H m.1).2) w.heap.size (.cells #[.string ⟨m.1.toArray⟩, .string ⟨m.2.toArray⟩] 82 (0, 0))) :=
    ⟨⟨S1, hH1, (unhide HFA).trans hf1, htn, (fun k hk => by cases hk), hX1⟩, own_mono htv (Nat.zero_le _), World.ownsRow_nil _ _ _ _, (fun k _ hk => by cases hk), (fun k hk => by
      rcases hk with hk | hk
      · have := (htv.lt k hk).1; simp at this; omega
      · cases hk), (hf1.keep _ (by simp) hSw).trans (unhide HSM), (fun hk => by have := (htv.lt _ hk).1; simp at this; omega), (fun hk => by cases hk)⟩
  obtain ⟨at1, lt1, ct1, rfl⟩ := own_slice htv
  have hlt1 : lt1 = (takeH H m.1).1.length := own_len htv
  subst hlt1
  have HDEF : Hid (spreadH H m = spTo m (takeH H m.1).1 ([], (takeH H m.1).2) 6) := rfl
  have HLN := hide (spTo_len m (takeH H m.1).1 ([], (takeH H m.1).2) rfl)
  clear htv htn hH1 hf1 HTT HH HFA HSM HPG hX1
  generalize (takeH H m.1).1 = T at *
  generalize (([], (takeH H m.1).2) : List Int × HubL) = x0 at *
  go_wp2_with fail
  obtain ⟨O, hO⟩ : ∃ O, O = Obj.cells #[.string ⟨m.1.toArray⟩, .string ⟨m.2.toArray⟩] 82 (0, 0) := ⟨_, rfl⟩
  rw [← hO] at HSP
  have HO := hide hO
  clear hO
  go_loopg [6, 7, 9, 33] 6 (fun gk ov cc _ _ wr => ∃ n : Nat, n ≤ 6 ∧ gk = 6 - n ∧ cc = .int .i64 n ∧ Hid (Spr w wr p S (.slice at1 T.length ct1) ov T (spTo m T x0 n) w.heap.size O))
  case atStart => exact ⟨0, by omega, rfl, rfl, HSP⟩
  case round =>
    clear HSP
    obtain ⟨n, hn, rfl, rfl, HS⟩ := hrel
    obtain ⟨ao, lo, co, rfl⟩ := own_slice (unhide HS).o
    by_cases hn6 : n < 6
    · have hd6 : decide ((n : Int) < 6) = true := by simp; omega
      have hmx := (unhide HS).mx
      rw [unhide HO] at hmx
      have m0 := cell_block (i := 0) hmx rfl
      have hXr := heap_lt hmx
      clear hmx
      have HDEFN : Hid (spTo m T x0 (n + 1) = spTurn m n (if reachB (spTo m T x0 n).2.subs n m.1 = true then spAdd m n (spTo m T x0 n) else spTo m T x0 n) (T.drop 0)) := by unfold Hid; rw [List.drop_zero]; rfl
      have hll := unhide HLN (n + 1)
      have hl54 : (spTo m T x0 (n + 1)).1.length ≤ 54 := by
        have : (n + 1) * (T.length + 1) ≤ 6 * 9 := Nat.mul_le_mul (by omega) (by omega)
        omega
      obtain ⟨S1, hH1, hF1, hN1, hN2, hN3⟩ := (unhide HS).hub
      have HRC := hide (unhide HRE S1 _ n wr hH1)
      clear hll hH1 hF1 hN1 hN2 hN3
      generalize hxe : spTo m T x0 (n + 1) = xe at *
      have HXE := hide hxe
      clear hxe
      generalize spTo m T x0 n = x at *
      cases hrb : reachB x.2.subs n m.1
      · rw [hrb] at HRC HDEFN
        clear hrb
        rw [if_neg (by simp)] at HDEFN
        go_wp2_with fail
        refine (unhide HRC).mono ?_
        rintro e w2 ⟨rfl, hb2⟩
        have HS2 := hide ((unhide HS).on hb2)
        clear hb2 HS HRC m0
        go_wp2_with fail
        go_loopg [6, 9, 33] T.length (fun gk ov _ i wr => ∃ (j : Nat) (y : List Int × HubL), j ≤ T.length ∧ gk = T.length - j ∧ i = .int .i64 j ∧ Hid (xe = spTurn m n y (T.drop j)) ∧ Hid (Spr w wr p S (.slice at1 T.length ct1) ov T y w.heap.size O))
        case atStart => exact ⟨0, x, by omega, by omega, rfl, HDEFN, HS2⟩
        case round =>
          clear HS2 HDEFN
          obtain ⟨j, y, hjl, rfl, rfl, HY, HS⟩ := hrel
          obtain ⟨aoy, loy, coy, rfl⟩ := own_slice (unhide HS).o
          by_cases hlj : j < T.length
          · obtain ⟨g, cap, hv⟩ := own_form (unhide HS).t (by omega)
            simp only [Value.slice.injEq] at hv
            obtain ⟨rfl, _, rfl⟩ := hv
            have hcc := own_cap (unhide HS).t
            unfold maxLen at hcc
            obtain ⟨hcc1, hcc2⟩ := hcc
            have tj : wr.cell? ⟨g, j, none⟩ = some (.int .i64 T[j]) := by
              have := (unhide HS).t.cells (g := g) rfl j (.int .i64 T[j]) (by simp [List.getElem?_eq_getElem hlj])
              rw [add_at] at this; exact this
            have HHIT := hide (spTurn_hit m n y T j hlj)
            have HMISS := hide (spTurn_miss m n y T j hlj)
            generalize T[j] = o at *
            by_cases hon : o = (n : Int)
            · have hbo : (o == (n : Int)) = true := by simp [hon]
              have HZ := hide ((unhide HY).trans (unhide HHIT hon))
              clear hon HHIT HMISS HY
              have hmx := (unhide HS).mx
              rw [unhide HO] at hmx
              have m0 := cell_block (i := 0) hmx rfl
              have m1 := cell_block (i := 1) hmx rfl
              have hlen : y.1.length + 1 ≤ 54 := by
                have h1 := spTurn_ge m n (T.drop (j + 1)) (spAdd m n y)
                rw [← unhide HZ, spAdd_len] at h1
                omega
              obtain ⟨S1, hH1, hF1, hN1, hN2, hN3⟩ := (unhide HS).hub
              have HDL := hide (unhide HDE S1 _ n hn6 wr hH1)
              have HDN := hide (fun (w3 : World) (S2 : Nat → Prop) (H' : HubL) (h2 : HubAt w3 p S2 H') (hf : Fr S1 wr w3 S2) => (unhide HS).del hF1 hN1 hN2 hN3 h2 hf)
              clear hmx hH1 hF1 hN1 hN2 hN3 HS
              go_wp2_with fail
              refine (unhide HDL).mono ?_
              rintro e w5 ⟨⟨v5, rfl⟩, S5, hH5, hF5⟩
              have HSD := hide (unhide HDN w5 S5 _ hH5 hF5)
              clear hH5 hF5 HDL HDN m0 m1 tj
              have HRT := hide ((unhide HSD).on ((Below.refl _ w5).alloc (Nat.le_refl _) (.cells #[.int .i64 (n : Int)] 3)))
              go_wp2_with (at_builtin; refine wpList_append_moves _ rfl _ _ 26 rfl 3 j0 (.int .i64 0) 1 8 Tryz.underlying26 hj hy0 hy1 hy2 rfl (by decide) _ _ _ rfl (unhide HRT).o ⟨w5.heap.size, 0, none⟩ 1 1 [.int .i64 (n : Int)] rfl rfl ?c1 ?c2 ?c3 ?c4 ?_)
              first
                | (case c1 =>
                    intro j u hj
                    match j, hj with
                    | 0, hj => simp at hj; subst hj; simp [Addr.add])
                | skip
              case c2 => first | rfl | (intro u hu; simp at hu; first | (rcases hu with rfl | rfl | rfl | rfl <;> rfl) | (subst hu; rfl))
              case c3 => unfold maxLen; omega
              case c4 => omega
              intro v' w6 hown' hgrow hmv
              have HS6 : Hid (Spr w w6 p S (.slice (some ⟨g, 0, none⟩) T.length ct1) v' T (spAdd m n y) w.heap.size O) := (unhide HRT).push hown' hgrow (by simpa using hmv)
              clear hown' hgrow hmv HRT HSD
              go_wp2_with fail
              go_roundg (T.length - (j + 1))
              case measure => omega
              case rel => exact ⟨j + 1, spAdd m n y, by omega, rfl, by go_num, HZ, HS6⟩
            · have hbo : (o == (n : Int)) = false := by simp [hon]
              have HZ := hide ((unhide HY).trans (unhide HMISS hon))
              clear hon HHIT HMISS HY
              go_wp2_with fail
              go_roundg (T.length - (j + 1))
              case measure => omega
              case rel => exact ⟨j + 1, y, by omega, rfl, by go_num, HZ, HS⟩
          · have HZ : Hid (xe = y) := (unhide HY).trans (spTurn_end m n y T j hlj)
            go_wp2_with fail
            go_roundg (6 - (n + 1))
            case measure => omega
            case rel => exact ⟨n + 1, by omega, rfl, by go_num, by rw [← unhide HZ] at HS; rw [unhide HXE]; exact HS⟩
      · rw [hrb] at HRC HDEFN
        clear hrb
        rw [if_pos rfl] at HDEFN
        go_wp2_with fail
        refine (unhide HRC).mono ?_
        rintro e w2 ⟨rfl, hb2⟩
        have HS2 := hide ((unhide HS).on hb2)
        clear hb2 HS HRC m0
        have hmx := (unhide HS2).mx
        rw [unhide HO] at hmx
        have m0 := cell_block (i := 0) hmx rfl
        have m1 := cell_block (i := 1) hmx rfl
        have hlen : x.1.length + 1 ≤ 54 := by
          have h1 := spTurn_ge m n (T.drop 0) (spAdd m n x)
          rw [← unhide HDEFN, spAdd_len] at h1
          omega
        obtain ⟨S1, hH1, hF1, hN1, hN2, hN3⟩ := (unhide HS2).hub
        have HDL := hide (unhide HDE S1 _ n hn6 w2 hH1)
        have HDN := hide (fun (w3 : World) (S2 : Nat → Prop) (H' : HubL) (h2 : HubAt w3 p S2 H') (hf : Fr S1 w2 w3 S2) => (unhide HS2).del hF1 hN1 hN2 hN3 h2 hf)
        clear hmx hH1 hF1 hN1 hN2 hN3 HS2
        go_wp2_with fail
        refine (unhide HDL).mono ?_
        rintro e w5 ⟨⟨v5, rfl⟩, S5, hH5, hF5⟩
        have HSD := hide (unhide HDN w5 S5 _ hH5 hF5)
        clear hH5 hF5 HDL HDN m0 m1
        have HRT := hide ((unhide HSD).on ((Below.refl _ w5).alloc (Nat.le_refl _) (.cells #[.int .i64 (n : Int)] 3)))
        go_wp2_with (at_builtin; refine wpList_append_moves _ rfl _ _ 26 rfl 3 j0 (.int .i64 0) 1 8 Tryz.underlying26 hj hy0 hy1 hy2 rfl (by decide) _ _ _ rfl (unhide HRT).o ⟨w5.heap.size, 0, none⟩ 1 1 [.int .i64 (n : Int)] rfl rfl ?c1 ?c2 ?c3 ?c4 ?_)
        first
          | (case c1 =>
              intro j u hj
              match j, hj with
              | 0, hj => simp at hj; subst hj; simp [Addr.add])
          | skip
        case c2 => first | rfl | (intro u hu; simp at hu; first | (rcases hu with rfl | rfl | rfl | rfl <;> rfl) | (subst hu; rfl))
        case c3 => unfold maxLen; omega
        case c4 => omega
        intro v' w6 hown' hgrow hmv
        have HS2 : Hid (Spr w w6 p S (.slice at1 T.length ct1) v' T (spAdd m n x) w.heap.size O) := (unhide HRT).push hown' hgrow (by simpa using hmv)
        obtain ⟨ao, lo, co, rfl⟩ := own_slice (unhide HS2).o
        clear hown' hgrow hmv HRT HSD hlen
        generalize spAdd m n x = x at *
        clear hXr
        go_wp2_with fail
        go_loopg [6, 9, 33] T.length (fun gk ov _ i wr => ∃ (j : Nat) (y : List Int × HubL), j ≤ T.length ∧ gk = T.length - j ∧ i = .int .i64 j ∧ Hid (xe = spTurn m n y (T.drop j)) ∧ Hid (Spr w wr p S (.slice at1 T.length ct1) ov T y w.heap.size O))
        case atStart => exact ⟨0, x, by omega, by omega, rfl, HDEFN, HS2⟩
        case round =>
          clear HS2 HDEFN
          obtain ⟨j, y, hjl, rfl, rfl, HY, HS⟩ := hrel
          obtain ⟨aoy, loy, coy, rfl⟩ := own_slice (unhide HS).o
          by_cases hlj : j < T.length
          · obtain ⟨g, cap, hv⟩ := own_form (unhide HS).t (by omega)
            simp only [Value.slice.injEq] at hv
            obtain ⟨rfl, _, rfl⟩ := hv
            have hcc := own_cap (unhide HS).t
            unfold maxLen at hcc
            obtain ⟨hcc1, hcc2⟩ := hcc
            have tj : wr.cell? ⟨g, j, none⟩ = some (.int .i64 T[j]) := by
              have := (unhide HS).t.cells (g := g) rfl j (.int .i64 T[j]) (by simp [List.getElem?_eq_getElem hlj])
              rw [add_at] at this; exact this
            have HHIT := hide (spTurn_hit m n y T j hlj)
            have HMISS := hide (spTurn_miss m n y T j hlj)
            generalize T[j] = o at *
            by_cases hon : o = (n : Int)
            · have hbo : (o == (n : Int)) = true := by simp [hon]
              have HZ := hide ((unhide HY).trans (unhide HHIT hon))
              clear hon HHIT HMISS HY
              have hmx := (unhide HS).mx
              rw [unhide HO] at hmx
              have m0 := cell_block (i := 0) hmx rfl
              have m1 := cell_block (i := 1) hmx rfl
              have hlen : y.1.length + 1 ≤ 54 := by
                have h1 := spTurn_ge m n (T.drop (j + 1)) (spAdd m n y)
                rw [← unhide HZ, spAdd_len] at h1
                omega
              obtain ⟨S1, hH1, hF1, hN1, hN2, hN3⟩ := (unhide HS).hub
              have HDL := hide (unhide HDE S1 _ n hn6 wr hH1)
              have HDN := hide (fun (w3 : World) (S2 : Nat → Prop) (H' : HubL) (h2 : HubAt w3 p S2 H') (hf : Fr S1 wr w3 S2) => (unhide HS).del hF1 hN1 hN2 hN3 h2 hf)
              clear hmx hH1 hF1 hN1 hN2 hN3 HS
              go_wp2_with fail
              refine (unhide HDL).mono ?_
              rintro e w5 ⟨⟨v5, rfl⟩, S5, hH5, hF5⟩
              have HSD := hide (unhide HDN w5 S5 _ hH5 hF5)
              clear hH5 hF5 HDL HDN m0 m1 tj
              have HRT := hide ((unhide HSD).on ((Below.refl _ w5).alloc (Nat.le_refl _) (.cells #[.int .i64 (n : Int)] 3)))
              go_wp2_with (at_builtin; refine wpList_append_moves _ rfl _ _ 26 rfl 3 j0 (.int .i64 0) 1 8 Tryz.underlying26 hj hy0 hy1 hy2 rfl (by decide) _ _ _ rfl (unhide HRT).o ⟨w5.heap.size, 0, none⟩ 1 1 [.int .i64 (n : Int)] rfl rfl ?c1 ?c2 ?c3 ?c4 ?_)
              first
                | (case c1 =>
                    intro j u hj
                    match j, hj with
                    | 0, hj => simp at hj; subst hj; simp [Addr.add])
                | skip
              case c2 => first | rfl | (intro u hu; simp at hu; first | (rcases hu with rfl | rfl | rfl | rfl <;> rfl) | (subst hu; rfl))
              case c3 => unfold maxLen; omega
              case c4 => omega
              intro v' w6 hown' hgrow hmv
              have HS6 : Hid (Spr w w6 p S (.slice (some ⟨g, 0, none⟩) T.length ct1) v' T (spAdd m n y) w.heap.size O) := (unhide HRT).push hown' hgrow (by simpa using hmv)
              clear hown' hgrow hmv HRT HSD
              go_wp2_with fail
              go_roundg (T.length - (j + 1))
              case measure => omega
              case rel => exact ⟨j + 1, spAdd m n y, by omega, rfl, by go_num, HZ, HS6⟩
            · have hbo : (o == (n : Int)) = false := by simp [hon]
              have HZ := hide ((unhide HY).trans (unhide HMISS hon))
              clear hon HHIT HMISS HY
              go_wp2_with fail
              go_roundg (T.length - (j + 1))
              case measure => omega
              case rel => exact ⟨j + 1, y, by omega, rfl, by go_num, HZ, HS⟩
          · have HZ : Hid (xe = y) := (unhide HY).trans (spTurn_end m n y T j hlj)
            go_wp2_with fail
            go_roundg (6 - (n + 1))
            case measure => omega
            case rel => exact ⟨n + 1, by omega, rfl, by go_num, by rw [← unhide HZ] at HS; rw [unhide HXE]; exact HS⟩
    · obtain rfl : n = 6 := by omega
      rw [← unhide HDEF] at HS
      obtain ⟨S1, hH1, hF1, hN1, hN2, hN3⟩ := (unhide HS).hub
      have HFIN : Hid (SprPost w p S H m (.returned (.slice ao lo co)) wr) := by
        refine ⟨_, S1, rfl, ?_, hN2, hH1, hF1⟩
        obtain ⟨x1, x2 | ⟨g, cap, cur, hv, x3, x4⟩⟩ := (unhide HS).o
        · exact ⟨x1, Or.inl x2⟩
        · refine ⟨x1, Or.inr ⟨g, cap, cur, hv, (unhide HS).ge g (Or.inr (by rw [hv]; rfl)), x4⟩⟩
      clear hH1 hF1 hN1 hN2 hN3
      go_wp2_with fail
      go_ret
      exact unhide HFIN

end Go.Proofs.YtchhmojnoiephabGreatDoor

/- The program's hub: what is kept. -/
namespace Go.Proofs.YtchhmojnoiephabGreatDoor
open Go.ChangeShapes Go.WideShapes Go.ChangeAt Go.RowKit
set_option linter.unusedVariables false

def ltL (m k : List UInt8) : Bool := Go.Op.bytesLess k m
def gtL (m k : List UInt8) : Bool := !(Go.Op.bytesLess k m || k == m)
def putK (K : List MsgL) (m : MsgL) : List MsgL := (K.filter (fun k => ltL m.1 k.1) ++ (if decide (m.2 = []) = true then [] else [m])) ++ K.filter (fun k => gtL m.1 k.1)
def roomB (K : List MsgL) (m : MsgL) : Bool := decide (m.2 = []) || (decide (K.length < 4) || K.any (fun k => decide (k.1 = m.1)))
theorem less_irr (a : List UInt8) : Go.Op.bytesLess a a = false := by
  induction a with
  | nil => rfl
  | cons x a ih => simp [Go.Op.bytesLess, ih]
theorem filt_succ (q : MsgL → Bool) (K : List MsgL) (k : Nat) (h : k < K.length) : (K.take (k + 1)).filter q = if q K[k] = true then (K.take k).filter q ++ [K[k]] else (K.take k).filter q := by
  rw [List.take_succ_eq_append_getElem h, List.filter_append]
  cases hq : q K[k] <;> simp [hq]

/-- the hub's kept messages in memory -/
theorem HubAt.keptAt {w : World} {p : Nat} {S : Nat → Prop} {H : HubL} (h : HubAt w p S H) : ∃ a c, w.cell? ⟨p, 19, none⟩ = some (.slice a H.kept.length c) ∧ p < w.heap.size ∧ H.kept.length ≤ 4 ∧
    ∀ k (hk : k < H.kept.length), ∃ g, a = some ⟨g, 0, none⟩ ∧ H.kept.length ≤ c ∧ c ≤ 9223372036854775807 ∧ ∀ w', Below w.heap.size w w' →
      w'.cell? ⟨g, k * 2, none⟩ = some (.string ⟨H.kept[k].1.toArray⟩) ∧ w'.cell? ⟨g, k * 2 + 1, none⟩ = some (.string ⟨H.kept[k].2.toArray⟩) := by
  obtain ⟨A, qv, sv, kv, hw, rfl⟩ := h.body
  obtain ⟨a, l, c, rfl⟩ := own_slice hw.kown
  have hl : l = H.kept.length := own_len hw.kown
  subst hl
  refine ⟨a, c, cell_block hw.blk hw.keptc, hw.lt, h.good.kept.1, fun k hk => ?_⟩
  obtain ⟨g, cap, hv⟩ := own_form hw.kown (by omega)
  simp only [Value.slice.injEq] at hv
  obtain ⟨rfl, _, rfl⟩ := hv
  have hcc := own_cap hw.kown
  unfold maxLen at hcc
  exact ⟨g, rfl, hcc.1, by omega, fun w' hb => own_msg (own_below hw.kown hb) hk⟩

set_option maxHeartbeats 2000000 in
theorem hasRoom_any (p : Nat) (S : Nat → Prop) (H : HubL) (m : MsgL) (w : World) (h : HubAt w p S H) :
    Calls Tryz.prog 24 #[.pointer (some ⟨p, 0, none⟩), msgV m] w fun e w' => e = .returned (.bool (roomB H.kept m)) ∧ Below w.heap.size w w' := by
  obtain ⟨a, c, c0, hp, hl4, hat⟩ := h.keptAt
  have HAT := hide hat
  clear h hat
  have hAB : Below w.heap.size w (w.alloc (.cells #[strV m.1, strV m.2] 82)) := (Below.refl _ w).alloc (Nat.le_refl _) _
  have HMB := hide (MapKept.heap_alloc w (.cells #[strV m.1, strV m.2] 82)).1
  have HAB := hide hAB
  clear hAB
  have q2 := strNil m.2
  have HQ := hide (fun l => strEq l (⟨m.1.toArray⟩ : ByteArray))
  have hmd : (⟨m.1.toArray⟩ : ByteArray).data.toList = m.1 := by simp
  rw [hmd] at HQ
  have HR : Hid (roomB H.kept m = (decide (m.2 = []) || (decide (H.kept.length < 4) || (H.kept.drop 0).any (fun k => decide (k.1 = m.1))))) := rfl
  clear hmd
  unfold msgV strV at *
  generalize (⟨m.1.toArray⟩ : ByteArray) = mt at *
  generalize (⟨m.2.toArray⟩ : ByteArray) = mp at *
  generalize roomB H.kept m = rr at *
  generalize H.kept = K at *
  cases hpe : decide (m.2 = [])
  · rw [hpe] at q2 HR
    clear hpe
    by_cases h4 : K.length < 4
    · have h4I : decide ((K.length : Int) < 4) = true := by simp; omega
      rw [decide_eq_true h4] at HR
      go_enter Tryz.func24, Tryz.ntmps24
      go_wp2_with fail
      go_ret
      exact ⟨ret_bool (unhide HR).symm, unhide HAB⟩
    · have h4I : decide ((K.length : Int) < 4) = false := by simp; omega
      rw [decide_eq_false h4, Bool.false_or, Bool.false_or] at HR
      go_enter Tryz.func24, Tryz.ntmps24
      go_wp2_with fail
      go_loopg [6, 23] K.length (fun gk _ i wr => ∃ k : Nat, k ≤ K.length ∧ gk = K.length - k ∧ i = .int .i64 k ∧ Hid (Below w.heap.size w wr) ∧ Hid (rr = (K.drop k).any (fun k => decide (k.1 = m.1))) ∧ Hid (wr.heap[w.heap.size]? = some (.cells #[.string mt, .string mp] 82 (0, 0))))
      case atStart => exact ⟨0, by omega, by omega, rfl, HAB, HR, HMB⟩
      case round =>
        clear HR HMB HAB
        obtain ⟨k, hk, rfl, rfl, HB, HA, HM⟩ := hrel
        have hbs := (unhide HB).size
        have m0 := cell_block (i := 0) (unhide HM) rfl
        have hXr := heap_lt (unhide HM)
        clear c0
        by_cases hlt : k < K.length
        · obtain ⟨b, rfl, hc1, hc2, hcs⟩ := unhide HAT k hlt
          obtain ⟨e1, e2⟩ := hcs wr (unhide HB)
          clear hcs
          have q1 := unhide HQ K[k].1
          rw [List.drop_eq_getElem_cons hlt, List.any_cons] at HA
          generalize (⟨K[k].1.toArray⟩ : ByteArray) = ks at *
          generalize (⟨K[k].2.toArray⟩ : ByteArray) = kp at *
          generalize decide (K[k].1 = m.1) = d at *
          cases d
          · rw [Bool.false_or] at HA
            go_wp2_with fail
            go_roundg (K.length - (k + 1))
            case measure => omega
            case rel => exact ⟨k + 1, by omega, rfl, by go_num, (unhide HB).alloc hbs _, HA, by unfold Hid; rw [Below.heap_alloc _ _ _ hXr]; exact unhide HM⟩
          · rw [Bool.true_or] at HA
            go_wp2_with fail
            go_ret
            exact ⟨ret_bool (unhide HA).symm, (unhide HB).alloc hbs _⟩
        · rw [List.drop_eq_nil_of_le (by omega)] at HA
          go_wp2_with fail
          go_ret
          exact ⟨ret_bool (unhide HA).symm, unhide HB⟩
  · rw [hpe] at q2 HR
    clear hpe
    go_enter Tryz.func24, Tryz.ntmps24
    go_wp2_with fail
    go_ret
    exact ⟨ret_bool (unhide HR).symm, unhide HAB⟩

/-- the row of kept messages that is being built; the message at the first new block -/
structure Kpt (w wr : World) (av : Value) (mt mp : ByteArray) (L : List MsgL) : Prop where
  row : wr.ownsRow (w.heap.size + 1) 82 2 av L.length (msgCells L)
  bel : Below w.heap.size w wr
  m : wr.heap[w.heap.size]? = some (.cells #[.string mt, .string mp] 82 (0, 0))
theorem Kpt.on {w wr w2 : World} {av : Value} {mt mp : ByteArray} {L : List MsgL} (h : Kpt w wr av mt mp L) (hb : Below wr.heap.size wr w2) : Kpt w w2 av mt mp L :=
  ⟨own_below h.row hb, h.bel.trans (hb.mono h.bel.size), (hb.block _ (heap_lt h.m)).trans h.m⟩
theorem Kpt.push {w wr w3 : World} {av v' : Value} {mt mp : ByteArray} {L : List MsgL} {x : MsgL} (h : Kpt w wr av mt mp L) (hown : w3.ownsRow (w.heap.size + 1) 82 2 v' (L.length + 1) (msgCells L ++ [strV x.1, strV x.2])) (hgrow : wr.grownBy w3 av.ownBlock) : Kpt w w3 v' mt mp (L ++ [x]) :=
  ⟨by rw [msgCells_snoc, List.length_append]; exact hown, grown_below h.bel hgrow (fun k hk => by have := (h.row.lt k hk).1; omega), by
    rw [hgrow.block _ (heap_lt h.m) (fun e => by have := (h.row.lt _ e.symm).1; omega)]; exact h.m⟩
theorem kept_end {w wr : World} {p : Nat} {A : Array Value} {qv : Nat → Value} {sv kv av : Value} {H : HubL} {mt mp : ByteArray} {L : List MsgL} (hw : HubW w p A qv sv kv H) (hg : goodH { H with kept := L }) (h : Kpt w wr av mt mp L) :
    (wr.cell? ⟨p, 19, none⟩ = some kv ∧ wr.frozen? ⟨p, 19, none⟩ = false) ∧ ∃ S', HubAt (wr.setCell ⟨p, 19, none⟩ av) p S' { H with kept := L } ∧ Fr (blkS p qv sv kv) w (wr.setCell ⟨p, 19, none⟩ av) S' := by
  have hp3 : wr.heap[p]? = some (.cells A 73 (0, 0)) := by rw [h.bel.block p hw.lt]; exact hw.blk
  exact ⟨⟨cell_block hp3 hw.keptc, free_block hp3⟩, hub_setK hw h.bel (own_mono h.row (by omega)) hg⟩

set_option maxHeartbeats 8000000 in
set_option maxRecDepth 1000000 in
theorem putKept_any (p : Nat) (S : Nat → Prop) (H : HubL) (m : MsgL) (hgd : goodH { H with kept := putK H.kept m }) (w : World) (h : HubAt w p S H) :
    Calls Tryz.prog 25 #[.pointer (some ⟨p, 0, none⟩), msgV m] w (HubDone w p S { H with kept := putK H.kept m }) := by
  obtain ⟨i0, hi, hz0, hz1, hz2⟩ := info_parts info_msg
  obtain ⟨a, c, c0, hp, hl4, hat⟩ := h.keptAt
  obtain ⟨A, qv, sv0, kv, hw, rfl⟩ := h.body
  obtain ⟨a0, l0, cc0, hkv⟩ := own_slice hw.kown
  subst hkv
  have HAT := hide hat
  have HC0 := hide c0
  have HSM : Hid (strV m.1 = .string ⟨m.1.toArray⟩ ∧ strV m.2 = .string ⟨m.2.toArray⟩) := ⟨rfl, rfl⟩
  have HEND := hide (fun wr av => kept_end (wr := wr) (av := av) (mt := (⟨m.1.toArray⟩ : ByteArray)) (mp := (⟨m.2.toArray⟩ : ByteArray)) hw hgd)
  have HK0 : Hid (Kpt w (w.alloc (.cells #[.string ⟨m.1.toArray⟩, .string ⟨m.2.toArray⟩] 82)) (.slice none 0 0) ⟨m.1.toArray⟩ ⟨m.2.toArray⟩ []) :=
    ⟨World.ownsRow_nil _ _ _ _, (Below.refl _ w).alloc (Nat.le_refl _) _, (MapKept.heap_alloc w _).1⟩
  have HQ1 : Hid (∀ l : List UInt8, Go.Op.bytesLess (⟨l.toArray⟩ : ByteArray).toList (⟨m.1.toArray⟩ : ByteArray).toList = ltL m.1 l) := fun l => by rw [Lib.toList_data, Lib.toList_data]; unfold ltL; simp
  have HQ2 : Hid (∀ l : List UInt8, (!(Go.Op.bytesLess (⟨l.toArray⟩ : ByteArray).toList (⟨m.1.toArray⟩ : ByteArray).toList || (⟨l.toArray⟩ : ByteArray).toList == (⟨m.1.toArray⟩ : ByteArray).toList)) = gtL m.1 l) := fun l => by rw [Lib.toList_data, Lib.toList_data]; unfold gtL; simp
  have HMP := hide (strNnil m.2)
  clear h hat hw hgd
  generalize H.kept = K at *
  obtain ⟨FA, hFA⟩ : ∃ F : Nat → List MsgL, F = fun k => (K.take k).filter (fun k => ltL m.1 k.1) := ⟨_, rfl⟩
  obtain ⟨FB, hFB⟩ : ∃ F : Nat → List MsgL, F = fun k => (FA K.length ++ (if decide (m.2 = []) = true then [] else [m])) ++ (K.take k).filter (fun k => gtL m.1 k.1) := ⟨_, rfl⟩
  have HF10 : Hid (FA 0 = []) := by subst hFA; rfl
  have HF1S : Hid (∀ k (hk : k < K.length), FA (k + 1) = if ltL m.1 K[k].1 = true then FA k ++ [K[k]] else FA k) := fun k hk => by subst hFA; exact filt_succ _ K k hk
  have HF1L : Hid (∀ k, (FA k).length ≤ 4) := fun k => by subst hFA; exact Nat.le_trans (List.length_filter_le _ _) (by rw [List.length_take]; omega)
  have HFB0 : Hid (FB 0 = FA K.length ++ (if decide (m.2 = []) = true then [] else [m])) := by subst hFB; unfold Hid; simp
  have HFBS : Hid (∀ k (hk : k < K.length), FB (k + 1) = if gtL m.1 K[k].1 = true then FB k ++ [K[k]] else FB k) := fun k hk => by
    subst hFB
    show _ ++ (K.take (k + 1)).filter _ = _
    rw [filt_succ _ K k hk]
    cases hq : gtL m.1 K[k].1 <;> simp
  have HFBL : Hid (∀ k, (FB k).length ≤ 9) := fun k => by
    subst hFB
    have h1 := unhide HF1L K.length
    have h2 := List.length_filter_le (fun k : MsgL => gtL m.1 k.1) (K.take k)
    rw [List.length_take] at h2
    rw [List.length_append, List.length_append]
    split <;> simp <;> omega
  have HFBE : Hid (FB K.length = putK K m) := by subst hFB; subst hFA; unfold Hid putK; simp
  clear hFA hFB
  unfold msgV strV
  generalize (⟨m.1.toArray⟩ : ByteArray) = mt at *
  generalize (⟨m.2.toArray⟩ : ByteArray) = mp at *
  go_enter Tryz.func25, Tryz.ntmps25
  go_wp2_with fail
  go_loopg [4, 6, 14] K.length (fun gk av _ i wr => ∃ k : Nat, k ≤ K.length ∧ gk = K.length - k ∧ i = .int .i64 k ∧ Hid (Kpt w wr av mt mp (FA k)))
  case atStart => exact ⟨0, by omega, by omega, rfl, by rw [unhide HF10]; exact HK0⟩
  case round =>
    clear HK0
    obtain ⟨k, hk, rfl, rfl, HK⟩ := hrel
    have hbs := (unhide HK).bel.size
    have m0 := cell_block (i := 0) (unhide HK).m rfl
    have m1 := cell_block (i := 1) (unhide HK).m rfl
    have hXr := heap_lt (unhide HK).m
    have c1 : wr.cell? ⟨p, 19, none⟩ = some (.slice a K.length c) := ((unhide HK).bel.cell (p := ⟨p, 19, none⟩) hp).trans (unhide HC0)
    obtain ⟨av, lv, cv, rfl⟩ := own_slice (unhide HK).row
    by_cases hlt : k < K.length
    · obtain ⟨b, rfl, hc1, hc2, hcs⟩ := unhide HAT k hlt
      obtain ⟨e1, e2⟩ := hcs wr (unhide HK).bel
      clear hcs
      have q1 := unhide HQ1 K[k].1
      have HFS := hide (unhide HF1S k hlt)
      have hfl := unhide HF1L k
      have HS1 : Hid (strV K[k].1 = .string ⟨K[k].1.toArray⟩ ∧ strV K[k].2 = .string ⟨K[k].2.toArray⟩) := ⟨rfl, rfl⟩
      generalize (⟨K[k].1.toArray⟩ : ByteArray) = ks at *
      generalize (⟨K[k].2.toArray⟩ : ByteArray) = kp at *
      generalize K[k] = x at *
      cases hbl : ltL m.1 x.1
      · rw [hbl] at q1 HFS
        rw [if_neg (by simp)] at HFS
        clear hbl
        go_wp2_with fail
        go_roundg (K.length - (k + 1))
        case measure => omega
        case rel => exact ⟨k + 1, by omega, rfl, by go_num, by rw [unhide HFS]; exact (unhide HK).on ((Below.refl _ _).alloc (Nat.le_refl _) _)⟩
      · rw [hbl] at q1 HFS
        rw [if_pos rfl] at HFS
        clear hbl
        have HKA := hide (((unhide HK).on ((Below.refl _ wr).alloc (Nat.le_refl _) (.cells #[.string ks, .string kp] 82))).on ((Below.refl _ _).alloc (Nat.le_refl _) (.cells #[.string ks, .string kp] 82)))
        go_wp2_with (at_builtin; refine wpList_append_own _ rfl _ _ 67 rfl (w.heap.size + 1) 82 i0 (.agg #[.string ByteArray.empty, .string ByteArray.empty]) 2 32 Tryz.underlying67 hi hz0 hz1 hz2 rfl (by decide) _ _ _ rfl (unhide HKA).row ⟨wr.heap.size + 1, 0, none⟩ 1 1 [.string ks, .string kp] rfl rfl ?c1 ?c2 ?c3 ?c4 ?c5 ?_)
        first
          | (case c1 =>
              intro j u hj
              match j, hj with
              | 0, hj => simp at hj; subst hj; simp [Addr.add]
              | 1, hj => simp at hj; subst hj; simp [Addr.add])
          | skip
        case c2 => intro u hu; simp at hu; rcases hu with rfl | rfl <;> rfl
        case c3 => unfold maxLen; omega
        case c4 => omega
        case c5 => first | omega | (simp; omega)
        intro v' w3 hown' hgrow _
        have HK3 := hide ((unhide HKA).push (x := x) (by rw [(unhide HS1).1, (unhide HS1).2]; exact hown') hgrow)
        clear hown' hgrow HKA
        go_wp2_with fail
        go_roundg (K.length - (k + 1))
        case measure => omega
        case rel => exact ⟨k + 1, by omega, rfl, by go_num, by rw [unhide HFS]; exact HK3⟩
    · have hke : k = K.length := by omega
      subst hke
      clear hlt
      have hpl := unhide HF1L K.length
      cases hpe : decide (m.2 = [])
      · have q2 : (mp.toList != []) = true := by rw [unhide HMP, hpe]; rfl
        have q3 : (mp.toList == []) = false := by
          have h := q2
          cases hh : (mp.toList == []) with
          | true => rw [bne, hh] at h; cases h
          | false => rfl
        rw [hpe, if_neg (by simp)] at HFB0
        clear hpe
        have HKA := hide ((unhide HK).on ((Below.refl _ wr).alloc (Nat.le_refl _) (.cells #[.string mt, .string mp] 82)))
        go_wp2_with (at_builtin; refine wpList_append_own _ rfl _ _ 67 rfl (w.heap.size + 1) 82 i0 (.agg #[.string ByteArray.empty, .string ByteArray.empty]) 2 32 Tryz.underlying67 hi hz0 hz1 hz2 rfl (by decide) _ _ _ rfl (unhide HKA).row ⟨wr.heap.size, 0, none⟩ 1 1 [.string mt, .string mp] rfl rfl ?c1 ?c2 ?c3 ?c4 ?c5 ?_)
        first
          | (case c1 =>
              intro j u hj
              match j, hj with
              | 0, hj => simp at hj; subst hj; simp [Addr.add]
              | 1, hj => simp at hj; subst hj; simp [Addr.add])
          | skip
        case c2 => intro u hu; simp at hu; rcases hu with rfl | rfl <;> rfl
        case c3 => unfold maxLen; omega
        case c4 => omega
        case c5 => first | omega | (simp; omega)
        intro v' w3 hown' hgrow _
        have HK0 := hide ((unhide HKA).push (x := m) (by rw [(unhide HSM).1, (unhide HSM).2]; exact hown') hgrow)
        clear hown' hgrow HKA HK m0 m1 c1
        rw [← unhide HFB0] at HK0
        have c1 : w3.cell? ⟨p, 19, none⟩ = some (.slice a K.length c) := ((unhide HK0).bel.cell (p := ⟨p, 19, none⟩) hp).trans (unhide HC0)
        obtain ⟨av2, lv2, cv2, rfl⟩ := own_slice (unhide HK0).row
        go_wp2_with fail
        clear c1
        go_loopg [4, 8, 40] K.length (fun gk av _ i wr => ∃ k : Nat, k ≤ K.length ∧ gk = K.length - k ∧ i = .int .i64 k ∧ Hid (Kpt w wr av mt mp (FB k)))
        case atStart => exact ⟨0, by omega, by omega, rfl, HK0⟩
        case round =>
          clear HK0
          obtain ⟨k, hk, rfl, rfl, HK⟩ := hrel
          have hbs := (unhide HK).bel.size
          have m0 := cell_block (i := 0) (unhide HK).m rfl
          have m1 := cell_block (i := 1) (unhide HK).m rfl
          have hXr := heap_lt (unhide HK).m
          have c1 : wr.cell? ⟨p, 19, none⟩ = some (.slice a K.length c) := ((unhide HK).bel.cell (p := ⟨p, 19, none⟩) hp).trans (unhide HC0)
          obtain ⟨av, lv, cv, rfl⟩ := own_slice (unhide HK).row
          by_cases hlt : k < K.length
          · obtain ⟨b, rfl, hc1, hc2, hcs⟩ := unhide HAT k hlt
            obtain ⟨e1, e2⟩ := hcs wr (unhide HK).bel
            clear hcs
            have q1 := unhide HQ2 K[k].1
            have HFS := hide (unhide HFBS k hlt)
            have hfl := unhide HFBL k
            have HS1 : Hid (strV K[k].1 = .string ⟨K[k].1.toArray⟩ ∧ strV K[k].2 = .string ⟨K[k].2.toArray⟩) := ⟨rfl, rfl⟩
            generalize (⟨K[k].1.toArray⟩ : ByteArray) = ks at *
            generalize (⟨K[k].2.toArray⟩ : ByteArray) = kp at *
            generalize K[k] = x at *
            cases hbl : gtL m.1 x.1
            · rw [hbl] at q1 HFS
              rw [if_neg (by simp)] at HFS
              clear hbl
              go_wp2_with fail
              go_roundg (K.length - (k + 1))
              case measure => omega
              case rel => exact ⟨k + 1, by omega, rfl, by go_num, by rw [unhide HFS]; exact (unhide HK).on ((Below.refl _ _).alloc (Nat.le_refl _) _)⟩
            · rw [hbl] at q1 HFS
              rw [if_pos rfl] at HFS
              clear hbl
              have HKA := hide (((unhide HK).on ((Below.refl _ wr).alloc (Nat.le_refl _) (.cells #[.string ks, .string kp] 82))).on ((Below.refl _ _).alloc (Nat.le_refl _) (.cells #[.string ks, .string kp] 82)))
              go_wp2_with (at_builtin; refine wpList_append_own _ rfl _ _ 67 rfl (w.heap.size + 1) 82 i0 (.agg #[.string ByteArray.empty, .string ByteArray.empty]) 2 32 Tryz.underlying67 hi hz0 hz1 hz2 rfl (by decide) _ _ _ rfl (unhide HKA).row ⟨wr.heap.size + 1, 0, none⟩ 1 1 [.string ks, .string kp] rfl rfl ?c1 ?c2 ?c3 ?c4 ?c5 ?_)
              first
                | (case c1 =>
                    intro j u hj
                    match j, hj with
                    | 0, hj => simp at hj; subst hj; simp [Addr.add]
                    | 1, hj => simp at hj; subst hj; simp [Addr.add])
                | skip
              case c2 => intro u hu; simp at hu; rcases hu with rfl | rfl <;> rfl
              case c3 => unfold maxLen; omega
              case c4 => omega
              case c5 => first | omega | (simp; omega)
              intro v' w3 hown' hgrow _
              have HK3 := hide ((unhide HKA).push (x := x) (by rw [(unhide HS1).1, (unhide HS1).2]; exact hown') hgrow)
              clear hown' hgrow HKA
              go_wp2_with fail
              go_roundg (K.length - (k + 1))
              case measure => omega
              case rel => exact ⟨k + 1, by omega, rfl, by go_num, by rw [unhide HFS]; exact HK3⟩
          · have hke : k = K.length := by omega
            subst hke
            rw [unhide HFBE] at HK
            clear m0 m1
            obtain ⟨⟨z1, f1⟩, hst⟩ := unhide HEND _ _ (unhide HK)
            have HST := hide hst
            clear hst
            go_wp2_with fail
            go_end0
            obtain ⟨S', t1, t2⟩ := unhide HST
            exact ⟨⟨_, rfl⟩, S', t1, t2⟩

      · have q2 : (mp.toList != []) = false := by rw [unhide HMP, hpe]; rfl
        have q3 : (mp.toList == []) = true := by
          have h := q2
          cases hh : (mp.toList == []) with
          | false => rw [bne, hh] at h; cases h
          | true => rfl
        rw [hpe, if_pos rfl, List.append_nil] at HFB0
        clear hpe
        go_wp2_with fail
        have HK0 := HK
        clear HK m0 m1 c1
        rw [← unhide HFB0] at HK0
        go_loopg [4, 8, 40] K.length (fun gk av _ i wr => ∃ k : Nat, k ≤ K.length ∧ gk = K.length - k ∧ i = .int .i64 k ∧ Hid (Kpt w wr av mt mp (FB k)))
        case atStart => exact ⟨0, by omega, by omega, rfl, HK0⟩
        case round =>
          clear HK0
          obtain ⟨k, hk, rfl, rfl, HK⟩ := hrel
          have hbs := (unhide HK).bel.size
          have m0 := cell_block (i := 0) (unhide HK).m rfl
          have m1 := cell_block (i := 1) (unhide HK).m rfl
          have hXr := heap_lt (unhide HK).m
          have c1 : wr.cell? ⟨p, 19, none⟩ = some (.slice a K.length c) := ((unhide HK).bel.cell (p := ⟨p, 19, none⟩) hp).trans (unhide HC0)
          obtain ⟨av, lv, cv, rfl⟩ := own_slice (unhide HK).row
          by_cases hlt : k < K.length
          · obtain ⟨b, rfl, hc1, hc2, hcs⟩ := unhide HAT k hlt
            obtain ⟨e1, e2⟩ := hcs wr (unhide HK).bel
            clear hcs
            have q1 := unhide HQ2 K[k].1
            have HFS := hide (unhide HFBS k hlt)
            have hfl := unhide HFBL k
            have HS1 : Hid (strV K[k].1 = .string ⟨K[k].1.toArray⟩ ∧ strV K[k].2 = .string ⟨K[k].2.toArray⟩) := ⟨rfl, rfl⟩
            generalize (⟨K[k].1.toArray⟩ : ByteArray) = ks at *
            generalize (⟨K[k].2.toArray⟩ : ByteArray) = kp at *
            generalize K[k] = x at *
            cases hbl : gtL m.1 x.1
            · rw [hbl] at q1 HFS
              rw [if_neg (by simp)] at HFS
              clear hbl
              go_wp2_with fail
              go_roundg (K.length - (k + 1))
              case measure => omega
              case rel => exact ⟨k + 1, by omega, rfl, by go_num, by rw [unhide HFS]; exact (unhide HK).on ((Below.refl _ _).alloc (Nat.le_refl _) _)⟩
            · rw [hbl] at q1 HFS
              rw [if_pos rfl] at HFS
              clear hbl
              have HKA := hide (((unhide HK).on ((Below.refl _ wr).alloc (Nat.le_refl _) (.cells #[.string ks, .string kp] 82))).on ((Below.refl _ _).alloc (Nat.le_refl _) (.cells #[.string ks, .string kp] 82)))
              go_wp2_with (at_builtin; refine wpList_append_own _ rfl _ _ 67 rfl (w.heap.size + 1) 82 i0 (.agg #[.string ByteArray.empty, .string ByteArray.empty]) 2 32 Tryz.underlying67 hi hz0 hz1 hz2 rfl (by decide) _ _ _ rfl (unhide HKA).row ⟨wr.heap.size + 1, 0, none⟩ 1 1 [.string ks, .string kp] rfl rfl ?c1 ?c2 ?c3 ?c4 ?c5 ?_)
              first
                | (case c1 =>
                    intro j u hj
                    match j, hj with
                    | 0, hj => simp at hj; subst hj; simp [Addr.add]
                    | 1, hj => simp at hj; subst hj; simp [Addr.add])
                | skip
              case c2 => intro u hu; simp at hu; rcases hu with rfl | rfl <;> rfl
              case c3 => unfold maxLen; omega
              case c4 => omega
              case c5 => first | omega | (simp; omega)
              intro v' w3 hown' hgrow _
              have HK3 := hide ((unhide HKA).push (x := x) (by rw [(unhide HS1).1, (unhide HS1).2]; exact hown') hgrow)
              clear hown' hgrow HKA
              go_wp2_with fail
              go_roundg (K.length - (k + 1))
              case measure => omega
              case rel => exact ⟨k + 1, by omega, rfl, by go_num, by rw [unhide HFS]; exact HK3⟩
          · have hke : k = K.length := by omega
            subst hke
            rw [unhide HFBE] at HK
            clear m0 m1
            obtain ⟨⟨z1, f1⟩, hst⟩ := unhide HEND _ _ (unhide HK)
            have HST := hide hst
            clear hst
            go_wp2_with fail
            go_end0
            obtain ⟨S', t1, t2⟩ := unhide HST
            exact ⟨⟨_, rfl⟩, S', t1, t2⟩



end Go.Proofs.YtchhmojnoiephabGreatDoor
