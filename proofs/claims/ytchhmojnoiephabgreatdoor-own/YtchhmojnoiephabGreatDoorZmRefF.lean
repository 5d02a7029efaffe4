import Derived.Test.YtchhmojnoiephabGreatDoorZmRefD
import Derived.Test.YtchhmojnoiephabGreatDoorZmRefC
import Derived.Test.YtchhmojnoiephabGreatDoorZmHubQ
/- The document's hub: a client is forgotten; what a subscription means. -/
namespace Go.Proofs.YtchhmojnoiephabGreatDoor
open Go.ChangeShapes Go.WideShapes Go.ChangeAt Go.RowKit
set_option linter.unusedVariables false

theorem info_rsub : (Tryz.prog.info? 121).map (fun i => (i.zero, i.size, i.bytes)) = some (some (.agg #[.int .i64 0, .string ByteArray.empty, .string ByteArray.empty, .int .i64 0]), 4, 48) := by kernel_rfl

def rclear (R : RHub) (n : Nat) : RHub := { R with on := updF R.on n false, known := updF R.known n false, q := updF R.q n [] }
def rless (L : List RSub) (n : Nat) : List RSub := L.filter (fun s => !decide (s.who = n))
def rforget (R : RHub) (c : Int) : Int × RHub := if cliB c = true then (if R.known c.toNat = true then (0, { rclear R c.toNat with subs := rless R.subs c.toNat }) else (6, R)) else (4, R)
theorem rclear_good {R : RHub} (hg : goodR R) (n : Nat) : goodR (rclear R n) := by
  refine ⟨fun k => ?_, hg.subs, hg.kept⟩
  by_cases hk : k = n
  · subst hk
    rw [show (rclear R k).q k = [] from updF_same _ _ _]; simp
  · rw [show (rclear R n).q k = R.q k from updF_other _ _ hk]; exact hg.queue k
theorem rsubs_good {R : RHub} (hg : goodR R) (L : List RSub) (hl : L.length ≤ 8) (hL : ∀ s ∈ L, s ∈ R.subs) : goodR { R with subs := L } := ⟨hg.queue, ⟨hl, fun s hs => hg.subs.2 s (hL s hs)⟩, hg.kept⟩

set_option maxHeartbeats 4000000 in
set_option maxRecDepth 1000000 in
theorem rforget_any (d : Nat) (S : Nat → Prop) (R : RHub) (c : Int) (w : World) (h : RefAt w d S R) : Calls Tryz.prog 77 #[.pointer (some ⟨d, 0, none⟩), .int .i64 c] w (RefPost w d S (.int .i64 (rforget R c).1) (rforget R c).2) := by
  obtain ⟨i0, hi, hz0, hz1, hz2⟩ := info_parts info_rsub
  have HH := hide h
  cases hc : cliB c with
  | false =>
    have HR : Hid (rforget R c = (4, R)) := by unfold Hid rforget; rw [if_neg (by simp [hc])]
    rw [unhide HR]
    clear h
    go_enter Tryz.func77, Tryz.ntmps77
    go_wp2_with fail
    refine (rclient_any _ _).mono ?_
    rw [hc]
    rintro e w' ⟨rfl, rfl⟩
    go_wp2_with fail
    go_ret
    exact RefPost.stay (unhide HH)
  | true =>
    obtain ⟨n, rfl, hn⟩ := cliB_nat hc
    obtain ⟨cb, A, qv, sv, kv, hw, rfl⟩ := h.body
    have hn6 : (n : Int) < 6 := by omega
    have z0 := cell_block (i := 0) hw.blk rfl
    have z1 := cell_block hw.cs (hw.cli n hn).2.1
    cases hkn : R.known n with
    | false =>
      have HR : Hid (rforget R n = (6, R)) := by unfold Hid rforget; rw [if_pos hc, if_neg (by simp [hkn])]
      rw [unhide HR]
      rw [hkn] at z1
      clear h hw
      go_enter Tryz.func77, Tryz.ntmps77
      go_wp2_with fail
      refine (rclient_any _ _).mono ?_
      rw [hc]
      rintro e w' ⟨rfl, rfl⟩
      go_wp2_with fail
      go_ret
      exact RefPost.stay (unhide HH)
    | true =>
      have HR : Hid (rforget R n = (0, { rclear R n with subs := rless R.subs n })) := by unfold Hid rforget; rw [if_pos hc, if_pos (by simpa using hkn)]; simp
      rw [unhide HR]
      rw [hkn] at z1
      obtain ⟨asv, ls, cs, hsv⟩ := own_slice hw.sown
      subst hsv
      have hls : ls = R.subs.length := own_len hw.sown
      subst hls
      have y00 := cell_block hw.cs (hw.cli n hn).1
      have f0 := free_block (i := n * 3) hw.cs
      have hw1 := hw.setOn hn false
      have y1 := cell_block hw1.cs (hw1.cli n hn).2.1
      have f1 := free_block (i := n * 3 + 1) hw1.cs
      have hw2 := hw1.setKnown hn false
      have y2 := cell_block hw2.cs (hw2.cli n hn).2.2
      have f2 := free_block (i := n * 3 + 2) hw2.cs
      obtain ⟨hw3, hf3⟩ := hw2.setQ (Q := []) (w2 := (w.setCell ⟨cb, n * 3, none⟩ (.bool false)).setCell ⟨cb, n * 3 + 1, none⟩ (.bool false)) hn (v' := .slice none 0 0) rfl rfl rfl (Nat.le_refl _) (fun _ _ _ => rfl) (Or.inl ⟨rfl, rfl⟩) (fun k hk => by cases hk)
      have HFR := hide (((fr_cellR (w := w) (d := d) (cb := cb) (X := cb) (i := n * 3) (qv := qv) (sv := .slice asv R.subs.length cs) (kv := kv) (.bool false) (Or.inr (Or.inl rfl))).trans (fr_cellR (X := cb) (i := n * 3 + 1) (.bool false) (Or.inr (Or.inl rfl)))).trans hf3)
      obtain ⟨w3, hw3e⟩ : ∃ w3, w3 = (((w.setCell ⟨cb, n * 3, none⟩ (.bool false)).setCell ⟨cb, n * 3 + 1, none⟩ (.bool false)).setCell ⟨cb, n * 3 + 2, none⟩ (.slice none 0 0)) := ⟨_, rfl⟩
      rw [← hw3e] at hw3 HFR
      have hH3 : RefAt w3 d _ (rclear R n) := ⟨⟨_, _, _, _, _, hw3, rfl⟩, rclear_good h.good n⟩
      obtain ⟨a, cc, c0, hp, hl8, hat⟩ := hH3.subsAt
      have hse : (rclear R n).subs = R.subs := rfl
      rw [hse] at c0 hl8
      have HAT : Hid (RSubsRow w3 a cc R.subs) := hat
      have HEND : Hid (∀ (wr : World) (v' : Value), wr.ownsRow w3.heap.size 121 4 v' (rless R.subs n).length (rsubCells (rless R.subs n)) → Below w3.heap.size w3 wr → (wr.cell? ⟨d, 1, none⟩ = some (.slice asv R.subs.length cs) ∧ wr.frozen? ⟨d, 1, none⟩ = false) ∧
          ∃ S', RefAt (wr.setCell ⟨d, 1, none⟩ v') d S' { rclear R n with subs := rless R.subs n } ∧ Fr (blkR d cb qv (.slice asv R.subs.length cs) kv) w (wr.setCell ⟨d, 1, none⟩ v') S') := by
        intro wr v' ho hb
        have hp3 : wr.heap[d]? = _ := (hb.block d (heap_lt hw3.blk)).trans hw3.blk
        have hgd := rsubs_good (rclear_good h.good n) (rless R.subs n) (Nat.le_trans (List.length_filter_le _ _) h.good.subs.1) (fun s hs => (List.mem_filter.1 hs).1)
        obtain ⟨t1, t2⟩ := hw3.setS hb.os hb.tape hb.output hb.size (fun k hk _ => hb.block k hk) (own_mono ho (Nat.zero_le _)) (fun k hk => Or.inr (ho.lt k hk).1)
        exact ⟨⟨cell_block (i := 1) hp3 rfl, free_block hp3⟩, _, ⟨⟨_, _, _, _, _, t1, rfl⟩, hgd⟩, (unhide HFR).trans t2⟩
      obtain ⟨F, hF⟩ : ∃ F : Nat → List RSub, F = fun k => rless (R.subs.take k) n := ⟨_, rfl⟩
      have HF0 : Hid (F 0 = []) := by subst hF; rfl
      have HFL : Hid (∀ k, (F k).length ≤ 8) := fun k => by subst hF; exact Nat.le_trans (List.length_filter_le _ _) (by rw [List.length_take]; omega)
      have HFE : Hid (F R.subs.length = rless R.subs n) := by subst hF; unfold Hid; simp
      have HFS0 : Hid (∀ k (hk : k < R.subs.length), F (k + 1) = if R.subs[k].who = n then F k else F k ++ [R.subs[k]]) := fun k hk => by
        subst hF
        simp only [rless]
        rw [List.take_succ_eq_append_getElem hk, List.filter_append]
        by_cases hx : R.subs[k].who = n <;> simp [hx]
      have y1' : (w.setCell ⟨cb, n * 3, none⟩ (.bool false)).cell? ⟨cb, n * 3 + 1, none⟩ = some (.bool (R.known n)) := y1
      clear hF h hw hw1 hw2 hw3 hf3 hH3 hat HH hse HR y1
      obtain ⟨L, hL⟩ : ∃ L, L = R.subs := ⟨_, rfl⟩
      rw [← hL] at HFR c0 hl8 HAT HEND HFE HFS0 ⊢
      clear hL
      have hdw : d < w.heap.size := blk_lt z0
      go_enter Tryz.func77, Tryz.ntmps77
      go_upto_region 7 with (go_at_call 101; refine (rclient_any _ _).mono ?_; rw [hc]; rintro e w' ⟨rfl, rfl⟩)
      rw [← hw3e]
      clear hw3e y00 y1' y2 f0 f1 f2 z0 z1
      have HR0 : Hid (w3.ownsRow w3.heap.size 121 4 (.slice none 0 0) (F 0).length (rsubCells (F 0))) := by unfold Hid; rw [unhide HF0]; exact World.ownsRow_nil _ _ _ _
      go_wp2_with fail
      go_loopg [6, 7] L.length (fun gk av i wr => ∃ k : Nat, k ≤ L.length ∧ gk = L.length - k ∧ i = .int .i64 k ∧ Hid (wr.ownsRow w3.heap.size 121 4 av (F k).length (rsubCells (F k))) ∧ Hid (Below w3.heap.size w3 wr))
      case atStart => exact ⟨0, by omega, by omega, rfl, HR0, Below.refl _ _⟩
      case round =>
        clear HR0
        obtain ⟨k, hk, rfl, rfl, HROW, HB⟩ := hrel
        have hbs := (unhide HB).size
        have c1 : wr.cell? ⟨d, 1, none⟩ = some (.slice a L.length cc) := ((unhide HB).cell (p := ⟨d, 1, none⟩) hp).trans c0
        obtain ⟨av, lv, cv, rfl⟩ := own_slice (unhide HROW)
        by_cases hlt : k < L.length
        · obtain ⟨b, rfl, hc1, hc2, hok, hcs⟩ := unhide HAT k hlt
          obtain ⟨e1, e2, e3, e4⟩ := hcs wr (unhide HB)
          clear hcs hok c0
          have hfl := unhide HFL k
          have HFS := hide (unhide HFS0 k hlt)
          have HS1 : Hid (strV L[k].grp = .string ⟨L[k].grp.toArray⟩ ∧ strV L[k].fil = .string ⟨L[k].fil.toArray⟩) := ⟨rfl, rfl⟩
          generalize L[k] = x at *
          generalize (⟨x.grp.toArray⟩ : ByteArray) = gs at *
          generalize (⟨x.fil.toArray⟩ : ByteArray) = fs at *
          by_cases hq : x.who = n
          · rw [if_pos hq] at HFS
            have q1 : ((x.who : Int) != (n : Int)) = false := by rw [hq]; simp
            clear hq
            go_wp2_with fail
            go_roundg (L.length - (k + 1))
            case measure => omega
            case rel => exact ⟨k + 1, by omega, rfl, by go_num, by rw [unhide HFS]; exact HROW, HB⟩
          · rw [if_neg hq] at HFS
            have q1 : ((x.who : Int) != (n : Int)) = true := by simp; omega
            clear hq
            go_wp2_with (at_builtin; refine wpList_append_own _ rfl _ _ 75 rfl w3.heap.size 121 i0 (.agg #[.int .i64 0, .string ByteArray.empty, .string ByteArray.empty, .int .i64 0]) 4 48 Tryz.underlying75 hi hz0 hz1 hz2 rfl (by decide) _ _ _ rfl ((unhide HROW).alloc _) ⟨wr.heap.size, 0, none⟩ 1 1 [.int .i64 (x.who : Int), .string gs, .string fs, .int .i64 (x.last : Int)] rfl rfl ?c1 ?c2 ?c3 ?c4 ?c5 ?_)
            first
              | (case c1 =>
                  intro j u hj
                  match j, hj with
                  | 0, hj => simp at hj; subst hj; simp [Addr.add]
                  | 1, hj => simp at hj; subst hj; simp [Addr.add]
                  | 2, hj => simp at hj; subst hj; simp [Addr.add]
                  | 3, hj => simp at hj; subst hj; simp [Addr.add])
              | skip
            case c2 => intro u hu; simp at hu; rcases hu with rfl | rfl | rfl | rfl <;> rfl
            case c3 => unfold maxLen; omega
            case c4 => omega
            case c5 => first | omega | (simp; omega)
            intro v' w9 hown' hgrow _
            have HO3 : Hid (w9.ownsRow w3.heap.size 121 4 v' (F (k + 1)).length (rsubCells (F (k + 1)))) := by
              unfold Hid
              rw [unhide HFS, List.length_append, rsubCells_snoc, (unhide HS1).1, (unhide HS1).2]
              exact hown'
            have HB3 : Hid (Below w3.heap.size w3 w9) := ((unhide HB).alloc hbs _).grown hgrow (by simp; omega) (fun k hk => ((unhide HROW).lt k hk).1)
            clear hown' hgrow
            go_wp2_with fail
            go_roundg (L.length - (k + 1))
            case measure => omega
            case rel => exact ⟨k + 1, by omega, rfl, by go_num, HO3, HB3⟩
        · have hke : k = L.length := by omega
          subst hke
          rw [unhide HFE] at HROW
          obtain ⟨⟨z1, f1⟩, hst⟩ := unhide HEND wr _ (unhide HROW) (unhide HB)
          have HST := hide hst
          clear hst c1 c0
          go_wp2_with fail
          go_ret
          obtain ⟨S', t1, t2⟩ := unhide HST
          exact ⟨rfl, S', t1, t2⟩

end Go.Proofs.YtchhmojnoiephabGreatDoor

/- The document's hub: what a subscription means. -/
namespace Go.Proofs.YtchhmojnoiephabGreatDoor
open Go.ChangeShapes Go.WideShapes Go.ChangeAt Go.RowKit
set_option linter.unusedVariables false

def rcheck (R : RHub) (c : Int) (s : List UInt8) : Int × Int := checkS { hub0 with on := R.on } c s
/-- what meant answers -/
def MeantPost (w : World) (r : Int × Int) (c : Int) (s : List UInt8) (e : Ending) (w' : World) : Prop :=
  ∃ (k : Int) (g f : ByteArray), e = .returned (.tuple #[.agg #[.int .i64 k, .string g, .string f, .int .i64 0], .int .i64 r.1, .int .i64 r.2]) ∧ Below w.heap.size w w' ∧ (r.1 = 0 → k = c ∧ g.data.toList = (partS s).1 ∧ f.data.toList = (partS s).2)
theorem MeantPost.bad {w w' : World} {r : Int × Int} {c : Int} {s : List UInt8} {a b : Int} (h : r = (a, b)) (ha : a ≠ 0) (hb : Below w.heap.size w w') : MeantPost w r c s (.returned (.tuple #[.agg #[.int .i64 0, .string ⟨#[]⟩, .string ⟨#[]⟩, .int .i64 0], .int .i64 a, .int .i64 b])) w' :=
  ⟨0, ⟨#[]⟩, ⟨#[]⟩, by rw [h], hb, fun h0 => by rw [h] at h0; exact absurd h0 ha⟩
/-- the world behind meant: its own Sub, written -/
def subW (w : World) (nn : Nat) (a b c e : Value) : World := (((((w.alloc (.cells #[.int .i64 0, .string ⟨#[]⟩, .string ⟨#[]⟩, .int .i64 0] 121)).drewN nn).setCell ⟨w.heap.size, 0, none⟩ a).setCell ⟨w.heap.size, 1, none⟩ b).setCell ⟨w.heap.size, 2, none⟩ c).setCell ⟨w.heap.size, 3, none⟩ e
theorem subW_spec (w : World) (nn : Nat) (a b c e : Value) : ((subW w nn a b c e).cell? ⟨w.heap.size, 0, none⟩ = some a ∧ (subW w nn a b c e).cell? ⟨w.heap.size, 1, none⟩ = some b ∧ (subW w nn a b c e).cell? ⟨w.heap.size, 2, none⟩ = some c ∧ (subW w nn a b c e).cell? ⟨w.heap.size, 3, none⟩ = some e) ∧ Below w.heap.size w (subW w nn a b c e) := by
  have h0 : ((w.alloc (.cells #[.int .i64 0, .string ⟨#[]⟩, .string ⟨#[]⟩, .int .i64 0] 121)).drewN nn).heap[w.heap.size]? = some (.cells #[.int .i64 0, .string ⟨#[]⟩, .string ⟨#[]⟩, .int .i64 0] 121 (0, 0)) := (MapKept.heap_alloc w _).1
  have h4 := blk_set (i := 3) (blk_set (i := 2) (blk_set (i := 1) (blk_set (i := 0) h0 a) b) c) e
  have hb : Below w.heap.size w ((w.alloc (.cells #[.int .i64 0, .string ⟨#[]⟩, .string ⟨#[]⟩, .int .i64 0] 121)).drewN nn) := ((Below.refl _ w).alloc (Nat.le_refl _) _).trans ⟨rfl, rfl, rfl, Nat.le_refl _, fun _ _ => rfl⟩
  exact ⟨⟨cell_block (i := 0) h4 rfl, cell_block (i := 1) h4 rfl, cell_block (i := 2) h4 rfl, cell_block (i := 3) h4 rfl⟩, (((hb.setCell (Nat.le_refl _) _).setCell (Nat.le_refl _) _).setCell (Nat.le_refl _) _).setCell (Nat.le_refl _) _⟩

set_option maxHeartbeats 400000 in
theorem meant_1 (d : Nat) (R : RHub) (c : Int) (s : ByteArray) (w : World) (hc : cliB c = false) :
    Calls Tryz.prog 70 #[.pointer (some ⟨d, 0, none⟩), .int .i64 c, .string s] w (MeantPost w (rcheck R c s.data.toList) c s.data.toList) := by
  have HR : Hid (rcheck R c s.data.toList = (4, 0)) := by unfold Hid rcheck checkS; rw [if_neg (by simp [hc])]
  go_enter Tryz.func70, Tryz.ntmps70
  go_wp2_with (go_at_call 101; refine (rclient_any _ _).mono ?_; rw [hc]; rintro e w' ⟨rfl, rfl⟩)
  exact bodyPost_ret (v := .tuple #[.agg #[.int .i64 0, .string ⟨#[]⟩, .string ⟨#[]⟩, .int .i64 0], .int .i64 4, .int .i64 0]) (by simp [results, Tryz.results70, go_sem]) rfl (MeantPost.bad (unhide HR) (by decide) ((Below.refl _ w).alloc (Nat.le_refl _) _))

set_option maxHeartbeats 400000 in
theorem meant_2 (d : Nat) (R : RHub) (c : Int) (s : ByteArray) (hs : s.size ≤ maxLen) (w : World) (hc : cliB c = true) (h24 : 24 < s.size) :
    Calls Tryz.prog 70 #[.pointer (some ⟨d, 0, none⟩), .int .i64 c, .string s] w (MeantPost w (rcheck R c s.data.toList) c s.data.toList) := by
  unfold maxLen at hs
  have HR : Hid (rcheck R c s.data.toList = (1, 0)) := by unfold Hid rcheck checkS; rw [if_pos hc, if_pos (by rw [len_list]; exact h24)]
  have hI : (24 : Int) < (s.size : Int) := by omega
  go_enter Tryz.func70, Tryz.ntmps70
  go_wp2_with (go_at_call 101; refine (rclient_any _ _).mono ?_; rw [hc]; rintro e w' ⟨rfl, rfl⟩)
  exact bodyPost_ret (v := .tuple #[.agg #[.int .i64 0, .string ⟨#[]⟩, .string ⟨#[]⟩, .int .i64 0], .int .i64 1, .int .i64 0]) (by simp [results, Tryz.results70, go_sem]) rfl (MeantPost.bad (unhide HR) (by decide) ((Below.refl _ w).alloc (Nat.le_refl _) _))

set_option maxHeartbeats 400000 in
theorem meant_3 (d cb : Nat) (A : Array Value) (qv : Nat → Value) (sv kv : Value) (R : RHub) (n : Nat) (hn : n < 6) (s : ByteArray) (h24 : ¬ 24 < s.size) (w : World) (hw : RefW w d cb A qv sv kv R) (hf0 : ¬ (filterR (partS s.data.toList).2).1 = 0) :
    Calls Tryz.prog 70 #[.pointer (some ⟨d, 0, none⟩), .int .i64 n, .string s] w (MeantPost w (rcheck R n s.data.toList) n s.data.toList) := by
  have hc := cliB_of n hn
  have hI : decide ((24 : Int) < (s.size : Int)) = false := by simp; omega
  have hpl := (partS_len s.data.toList).2
  rw [len_list] at hpl
  have hn6 : (n : Int) < 6 := by omega
  have z0 := cell_block (i := 0) hw.blk rfl
  have z1 := cell_block hw.cs (hw.cli n hn).1
  have hd := heap_lt hw.blk
  have hcb := heap_lt hw.cs
  clear hw
  have hfb : ((filterR (partS s.data.toList).2).1 != 0) = true := by simp [hf0]
  have HR : Hid (rcheck R n s.data.toList = ((filterR (partS s.data.toList).2).1, (s.size : Int) - ((partS s.data.toList).2.length : Int) + (filterR (partS s.data.toList).2).2)) := by
    unfold Hid rcheck checkS; rw [if_pos hc, if_neg (by rw [len_list]; exact h24), if_pos hf0, len_list]
  have hfp := filterR_place (partS s.data.toList).2
  have hw2 : IntKind.i64.wrap ((s.size : Int) - ((partS s.data.toList).2.length : Int) + (filterR (partS s.data.toList).2).2) = (s.size : Int) - ((partS s.data.toList).2.length : Int) + (filterR (partS s.data.toList).2).2 := by rw [IntKind.wrap_i64]; omega
  go_enter Tryz.func70, Tryz.ntmps70
  go_wp2_with (go_at_call 101; refine (rclient_any _ _).mono ?_; rw [hc]; rintro e w' ⟨rfl, rfl⟩)
  refine (parted_any s _ (by omega)).mono ?_
  rintro e w2 ⟨g, f, rfl, hg, hf, nn, rfl⟩
  rw [len_list]
  have hfl : f.size = (partS s.data.toList).2.length := by rw [← hf, len_list]
  have hfm : f.size ≤ maxLen := by rw [hfl]; unfold maxLen; omega
  go_wp2_with fail
  refine (refFilter_any f _ hfm).mono ?_
  rw [hf]
  rintro e w3 ⟨rfl, h3⟩
  replace h3 := h3.symm
  subst h3
  go_wp2_with fail
  change bodyPost _ _ _ _ _ (subW w nn (.int .i64 0) (.string ⟨#[]⟩) (.string ⟨#[]⟩) (.int .i64 0))
  obtain ⟨⟨g0, g1, g2, g3⟩, hB⟩ := subW_spec w nn (.int .i64 0) (.string ⟨#[]⟩) (.string ⟨#[]⟩) (.int .i64 0)
  generalize subW w nn (.int .i64 0) (.string ⟨#[]⟩) (.string ⟨#[]⟩) (.int .i64 0) = W at *
  exact bodyPost_ret (v := .tuple #[.agg #[.int .i64 0, .string ⟨#[]⟩, .string ⟨#[]⟩, .int .i64 0], .int .i64 (filterR (partS s.data.toList).2).1, .int .i64 ((s.size : Int) - ((partS s.data.toList).2.length : Int) + (filterR (partS s.data.toList).2).2)]) (by simp [results, Tryz.results70, go_sem, g0, g1, g2, g3]) rfl (MeantPost.bad (unhide HR) hf0 hB)

set_option maxHeartbeats 400000 in
theorem meant_4 (d cb : Nat) (A : Array Value) (qv : Nat → Value) (sv kv : Value) (R : RHub) (n : Nat) (hn : n < 6) (s : ByteArray) (h24 : ¬ 24 < s.size) (w : World) (hw : RefW w d cb A qv sv kv R) (hf0 : (filterR (partS s.data.toList).2).1 = 0) (hon : R.on n = true) :
    Calls Tryz.prog 70 #[.pointer (some ⟨d, 0, none⟩), .int .i64 n, .string s] w (MeantPost w (rcheck R n s.data.toList) n s.data.toList) := by
  have hc := cliB_of n hn
  have hI : decide ((24 : Int) < (s.size : Int)) = false := by simp; omega
  have hpl := (partS_len s.data.toList).2
  rw [len_list] at hpl
  have hn6 : (n : Int) < 6 := by omega
  have z0 := cell_block (i := 0) hw.blk rfl
  have z1 := cell_block hw.cs (hw.cli n hn).1
  have hd := heap_lt hw.blk
  have hcb := heap_lt hw.cs
  clear hw
  have hfb : ((filterR (partS s.data.toList).2).1 != 0) = false := by simp [hf0]
  have HR : Hid (rcheck R n s.data.toList = (0, 0)) := by unfold Hid rcheck checkS; rw [if_pos hc, if_neg (by rw [len_list]; exact h24), if_neg (by simp [hf0]), Int.toNat_natCast, if_pos hon]
  rw [hon] at z1
  go_enter Tryz.func70, Tryz.ntmps70
  go_wp2_with (go_at_call 101; refine (rclient_any _ _).mono ?_; rw [hc]; rintro e w' ⟨rfl, rfl⟩)
  refine (parted_any s _ (by omega)).mono ?_
  rintro e w2 ⟨g, f, rfl, hg, hf, nn, rfl⟩
  rw [len_list]
  have hfl : f.size = (partS s.data.toList).2.length := by rw [← hf, len_list]
  have hfm : f.size ≤ maxLen := by rw [hfl]; unfold maxLen; omega
  go_wp2_with fail
  refine (refFilter_any f _ hfm).mono ?_
  rw [hf]
  rintro e w3 ⟨rfl, h3⟩
  replace h3 := h3.symm
  subst h3
  go_wp2_with fail
  change bodyPost _ _ _ _ _ (subW w nn (.int .i64 (n : Int)) (.string g) (.string f) (.int .i64 0))
  obtain ⟨⟨g0, g1, g2, g3⟩, hB⟩ := subW_spec w nn (.int .i64 (n : Int)) (.string g) (.string f) (.int .i64 0)
  generalize subW w nn (.int .i64 (n : Int)) (.string g) (.string f) (.int .i64 0) = W at *
  exact bodyPost_ret (v := .tuple #[.agg #[.int .i64 (n : Int), .string g, .string f, .int .i64 0], .int .i64 0, .int .i64 0]) (by simp [results, Tryz.results70, go_sem, g0, g1, g2, g3]) rfl ⟨(n : Int), g, f, by rw [unhide HR], hB, fun _ => ⟨rfl, hg, hf⟩⟩

set_option maxHeartbeats 400000 in
theorem meant_5 (d cb : Nat) (A : Array Value) (qv : Nat → Value) (sv kv : Value) (R : RHub) (n : Nat) (hn : n < 6) (s : ByteArray) (h24 : ¬ 24 < s.size) (w : World) (hw : RefW w d cb A qv sv kv R) (hf0 : (filterR (partS s.data.toList).2).1 = 0) (hon : R.on n = false) :
    Calls Tryz.prog 70 #[.pointer (some ⟨d, 0, none⟩), .int .i64 n, .string s] w (MeantPost w (rcheck R n s.data.toList) n s.data.toList) := by
  have hc := cliB_of n hn
  have hI : decide ((24 : Int) < (s.size : Int)) = false := by simp; omega
  have hpl := (partS_len s.data.toList).2
  rw [len_list] at hpl
  have hn6 : (n : Int) < 6 := by omega
  have z0 := cell_block (i := 0) hw.blk rfl
  have z1 := cell_block hw.cs (hw.cli n hn).1
  have hd := heap_lt hw.blk
  have hcb := heap_lt hw.cs
  clear hw
  have hfb : ((filterR (partS s.data.toList).2).1 != 0) = false := by simp [hf0]
  have HR : Hid (rcheck R n s.data.toList = (9, 0)) := by unfold Hid rcheck checkS; rw [if_pos hc, if_neg (by rw [len_list]; exact h24), if_neg (by simp [hf0]), Int.toNat_natCast, if_neg (by simp [hon])]
  rw [hon] at z1
  go_enter Tryz.func70, Tryz.ntmps70
  go_wp2_with (go_at_call 101; refine (rclient_any _ _).mono ?_; rw [hc]; rintro e w' ⟨rfl, rfl⟩)
  refine (parted_any s _ (by omega)).mono ?_
  rintro e w2 ⟨g, f, rfl, hg, hf, nn, rfl⟩
  rw [len_list]
  have hfl : f.size = (partS s.data.toList).2.length := by rw [← hf, len_list]
  have hfm : f.size ≤ maxLen := by rw [hfl]; unfold maxLen; omega
  go_wp2_with fail
  refine (refFilter_any f _ hfm).mono ?_
  rw [hf]
  rintro e w3 ⟨rfl, h3⟩
  replace h3 := h3.symm
  subst h3
  go_wp2_with fail
  change bodyPost _ _ _ _ _ (subW w nn (.int .i64 0) (.string ⟨#[]⟩) (.string ⟨#[]⟩) (.int .i64 0))
  obtain ⟨⟨g0, g1, g2, g3⟩, hB⟩ := subW_spec w nn (.int .i64 0) (.string ⟨#[]⟩) (.string ⟨#[]⟩) (.int .i64 0)
  generalize subW w nn (.int .i64 0) (.string ⟨#[]⟩) (.string ⟨#[]⟩) (.int .i64 0) = W at *
  exact bodyPost_ret (v := .tuple #[.agg #[.int .i64 0, .string ⟨#[]⟩, .string ⟨#[]⟩, .int .i64 0], .int .i64 9, .int .i64 0]) (by simp [results, Tryz.results70, go_sem, g0, g1, g2, g3]) rfl (MeantPost.bad (unhide HR) (by decide) hB)

theorem meant_any (d : Nat) (S : Nat → Prop) (R : RHub) (c : Int) (s : ByteArray) (hs : s.size ≤ maxLen) (w : World) (h : RefAt w d S R) :
    Calls Tryz.prog 70 #[.pointer (some ⟨d, 0, none⟩), .int .i64 c, .string s] w (MeantPost w (rcheck R c s.data.toList) c s.data.toList) := by
  cases hc : cliB c with
  | false => exact meant_1 d R c s w hc
  | true =>
    by_cases h24 : 24 < s.size
    · exact meant_2 d R c s hs w hc h24
    · obtain ⟨n, rfl, hn⟩ := cliB_nat hc
      obtain ⟨cb, A, qv, sv, kv, hw, hSS⟩ := h.body
      by_cases hf0 : (filterR (partS s.data.toList).2).1 = 0
      · cases hon : R.on n with
        | true => exact meant_4 d cb A qv sv kv R n hn s h24 w hw hf0 hon
        | false => exact meant_5 d cb A qv sv kv R n hn s h24 w hw hf0 hon
      · exact meant_3 d cb A qv sv kv R n hn s h24 w hw hf0

end Go.Proofs.YtchhmojnoiephabGreatDoor

/- The document's hub: NewHub. -/
namespace Go.Proofs.YtchhmojnoiephabGreatDoor
open Go.ChangeShapes Go.WideShapes Go.ChangeAt Go.RowKit
set_option linter.unusedVariables false

theorem info_rcli : (Tryz.prog.info? 124).map (fun i => (i.zero, i.size, i.bytes)) = some (some (.agg #[.bool false, .bool false, .slice none 0 0]), 3, 32) := by kernel_rfl
theorem made_cli (c : Nat) (h : c < 6) : (madeCells (Value.agg #[.bool false, .bool false, .slice none 0 0]).cells (6 * 3))[c * 3]? = some (.bool false) ∧ (madeCells (Value.agg #[.bool false, .bool false, .slice none 0 0]).cells (6 * 3))[c * 3 + 1]? = some (.bool false) ∧ (madeCells (Value.agg #[.bool false, .bool false, .slice none 0 0]).cells (6 * 3))[c * 3 + 2]? = some (.slice none 0 0) := by
  match c, h with
  | 0, _ => exact ⟨by kernel_rfl, by kernel_rfl, by kernel_rfl⟩
  | 1, _ => exact ⟨by kernel_rfl, by kernel_rfl, by kernel_rfl⟩
  | 2, _ => exact ⟨by kernel_rfl, by kernel_rfl, by kernel_rfl⟩
  | 3, _ => exact ⟨by kernel_rfl, by kernel_rfl, by kernel_rfl⟩
  | 4, _ => exact ⟨by kernel_rfl, by kernel_rfl, by kernel_rfl⟩
  | 5, _ => exact ⟨by kernel_rfl, by kernel_rfl, by kernel_rfl⟩
theorem made_size : (madeCells (Value.agg #[.bool false, .bool false, .slice none 0 0]).cells (6 * 3)).size = 18 := by kernel_rfl
theorem new_ref {w w1 : World} (hown : w1.ownsRow w.heap.size 124 3 (.slice (some ⟨w.heap.size, 0, none⟩) 6 6) 6 (madeCells (Value.agg #[.bool false, .bool false, .slice none 0 0]).cells (6 * 3)).toList) (hgrow : w.grownBy w1 none) :
    ∃ S, RefAt (w1.alloc (.cells #[.slice (some ⟨w.heap.size, 0, none⟩) 6 6, .slice none 0 0, .slice none 0 0, .int .i64 0] 78)) w1.heap.size S ref0 ∧ Below w.heap.size w (w1.alloc (.cells #[.slice (some ⟨w.heap.size, 0, none⟩) 6 6, .slice none 0 0, .slice none 0 0, .int .i64 0] 78)) ∧ ∀ k, S k → w.heap.size ≤ k := by
  have hb1 : Below w.heap.size w w1 := grown_below (v := .slice none 0 0) (Below.refl _ w) hgrow (fun k hk => by cases hk)
  obtain ⟨_, ⟨hx, _⟩ | ⟨g, cap, cur, hv, hge, hg, h1, h2, h3, h4⟩⟩ := hown
  · cases hx
  · simp only [Value.slice.injEq, Option.some.injEq, Addr.mk.injEq, true_and, and_true] at hv
    obtain ⟨rfl, rfl⟩ := hv
    have hsz : cur.size = 18 := by omega
    have hcur : cur = madeCells (Value.agg #[.bool false, .bool false, .slice none 0 0]).cells (6 * 3) := by
      refine Array.ext' ?_
      rw [← h4, List.take_of_length_le (by simp [hsz])]
    subst hcur
    have hlt := heap_lt hg
    refine ⟨_, ⟨⟨w.heap.size, _, fun _ => .slice none 0 0, .slice none 0 0, .slice none 0 0, ⟨(MapKept.heap_alloc w1 _).1, by rw [Below.heap_alloc _ _ _ hlt]; exact hg, made_size, made_cli, fun c hc => Or.inl ⟨rfl, rfl⟩, World.ownsRow_nil _ _ _ _, World.ownsRow_nil _ _ _ _, fun c e hc he hce k hk => by cases hk⟩, rfl⟩, goodR0⟩, hb1.alloc hb1.size _, fun k hk => ?_⟩
    rcases hk with rfl | rfl | ⟨c, hc, hk⟩ | hk | hk
    · exact hb1.size
    · exact Nat.le_refl _
    · cases hk
    · cases hk
    · cases hk

set_option maxHeartbeats 1000000 in
theorem rnewHub_any (w : World) : Calls Tryz.prog 10 #[] w fun e w' => ∃ d S, e = .returned (.pointer (some ⟨d, 0, none⟩)) ∧ RefAt w' d S ref0 ∧ Below w.heap.size w w' ∧ ∀ k, S k → w.heap.size ≤ k := by
  obtain ⟨i0, hi, hz0, hz1, hz2⟩ := info_parts info_rcli
  go_enter Tryz.func10, Tryz.ntmps10
  go_wp2_with (at_make; refine wpList_make_full _ rfl _ _ 74 rfl w.heap.size 124 i0 (.agg #[.bool false, .bool false, .slice none 0 0]) 3 Tryz.underlying74 hi hz0 hz1 .i64 .i64 6 6 6 rfl rfl rfl rfl (by rw [hz2]; omega) (by unfold maxLen; omega) (Nat.le_refl _) ?_)
  intro w1 hown hgrow
  have HN := hide (new_ref hown hgrow)
  clear hown hgrow
  go_wp2_with fail
  go_ret
  obtain ⟨S, h1, h2, h3⟩ := unhide HN
  exact ⟨_, S, rfl, h1, h2, h3⟩

end Go.Proofs.YtchhmojnoiephabGreatDoor

/- The document's hub: Unsubscribe. -/
namespace Go.Proofs.YtchhmojnoiephabGreatDoor
open Go.ChangeShapes Go.WideShapes Go.ChangeAt Go.RowKit
set_option linter.unusedVariables false

def rseek (R : RHub) (n : Nat) (s : List UInt8) : Nat := seekR (sameR n (partS s).1 (partS s).2) 0 R.subs
def runsub (R : RHub) (c : Int) (s : List UInt8) : (Int × Int) × RHub :=
  if (rcheck R c s).1 ≠ 0 then (rcheck R c s, R) else if rseek R c.toNat s = R.subs.length then ((6, 0), R) else ((0, 0), { R with subs := R.subs.eraseIdx (rseek R c.toNat s) })
theorem keepR_step (L : List RSub) (i k : Nat) (h : k < L.length) : (L.take (k + 1)).eraseIdx i = if k = i then (L.take k).eraseIdx i else (L.take k).eraseIdx i ++ [L[k]] := by
  rw [List.take_succ_eq_append_getElem h]
  by_cases hk : k = i
  · subst hk
    rw [if_pos rfl, List.eraseIdx_append_of_length_le (by simp; omega), List.eraseIdx_of_length_le (l := L.take k) (by simp; omega)]
    simp
    omega
  · rw [if_neg hk]
    by_cases hlt : i < k
    · rw [List.eraseIdx_append_of_lt_length (by simp; omega)]
    · rw [List.eraseIdx_of_length_le (by simp; omega), List.eraseIdx_of_length_le (by simp; omega)]
theorem seekR_le (p : RSub → Bool) (L : List RSub) : ∀ i, seekR p i L ≤ i + L.length := by
  induction L with
  | nil => intro i; simp [seekR]
  | cons s L ih =>
    intro i
    simp only [seekR]
    split
    · simp
    · have := ih (i + 1); simp; omega
theorem rcheck_zero {R : RHub} {c : Int} {s : List UInt8} (h : (rcheck R c s).1 = 0) : ∃ n : Nat, c = n ∧ n < 6 ∧ s.length ≤ 24 ∧ (filterR (partS s).2).1 = 0 ∧ R.on n = true := checkS_zero h

set_option maxHeartbeats 4000000 in
set_option maxRecDepth 1000000 in
theorem runsub_any (d : Nat) (S : Nat → Prop) (R : RHub) (c : Int) (s : ByteArray) (hs : s.size ≤ maxLen) (w : World) (h : RefAt w d S R) :
    Calls Tryz.prog 36 #[.pointer (some ⟨d, 0, none⟩), .int .i64 c, .string s] w (RefPost w d S (pairV (runsub R c s.data.toList).1) (runsub R c s.data.toList).2) := by
  obtain ⟨i0, hi, hz0, hz1, hz2⟩ := info_parts info_rsub
  have HH := hide h
  have HME := hide (meant_any d S R c s hs w h)
  by_cases hk0 : (rcheck R c s.data.toList).1 = 0
  · obtain ⟨n, rfl, hn, hs24, hf0, hon⟩ := rcheck_zero hk0
    have hb0 : ((rcheck R n s.data.toList).1 != 0) = false := by simp [hk0]
    have HR0 : Hid (runsub R n s.data.toList = if rseek R n s.data.toList = R.subs.length then ((6, 0), R) else ((0, 0), { R with subs := R.subs.eraseIdx (rseek R n s.data.toList) })) := by
      unfold Hid runsub; rw [if_neg (by simp [hk0]), Int.toNat_natCast]
    have HFD : Hid (∀ g f : ByteArray, g.data.toList = (partS s.data.toList).1 → f.data.toList = (partS s.data.toList).2 → ∀ x, Below w.heap.size w x → Calls Tryz.prog 71 #[.pointer (some ⟨d, 0, none⟩), .agg #[.int .i64 n, .string g, .string f, .int .i64 0]] x fun e w' => e = .returned (.int .i64 (idxR (rseek R n s.data.toList) R.subs.length)) ∧ Below x.heap.size x w') := fun g f hg hf x hb => by
      have := rfind_any d S R n g f x (h.below hb)
      rw [hg, hf] at this
      exact this
    have hsl : rseek R n s.data.toList ≤ R.subs.length := by have := seekR_le (sameR n (partS s.data.toList).1 (partS s.data.toList).2) R.subs 0; unfold rseek; omega
    obtain ⟨a, cc, c0, hp, hl8, hat⟩ := h.subsAt
    have HAT0 : Hid (RSubsRow w a cc R.subs) := hat
    have HZ := hide hk0
    clear hat hk0
    generalize hck : rcheck R n s.data.toList = ck at *
    clear hck
    by_cases hse : rseek R n s.data.toList = R.subs.length
    · have HR : Hid (runsub R n s.data.toList = ((6, 0), R)) := (unhide HR0).trans (if_pos hse)
      rw [unhide HR]
      rw [hse, show idxR R.subs.length R.subs.length = -1 from by unfold idxR; rw [if_neg (by omega)]] at HFD
      clear h HR HR0 hse hsl
      go_enter Tryz.func36, Tryz.ntmps36
      go_wp2_with fail
      refine (unhide HME).mono ?_
      rintro e w1 ⟨k0, g, f, rfl, hb1, hx⟩
      obtain ⟨rfl, hg, hf⟩ := hx (unhide HZ)
      have HF2 := hide (unhide HFD g f hg hf (w1.alloc (.cells #[.int .i64 (n : Int), .string g, .string f, .int .i64 0] 121)) (hb1.alloc hb1.size _))
      have HB1 := hide hb1
      clear hb1 hx
      go_wp2_with fail
      refine (unhide HF2).mono ?_
      rintro e w3 ⟨rfl, hb3⟩
      have HB3 := hide (((unhide HB1).alloc (unhide HB1).size _).trans (hb3.mono (by have := (unhide HB1).size; simp; omega)))
      clear hb3
      go_wp2_with fail
      go_ret2
      exact RefPost.same (unhide HH) (unhide HB3)
    · have HR : Hid (runsub R n s.data.toList = ((0, 0), { R with subs := R.subs.eraseIdx (rseek R n s.data.toList) })) := (unhide HR0).trans (if_neg hse)
      rw [unhide HR]
      rw [show idxR (rseek R n s.data.toList) R.subs.length = ((rseek R n s.data.toList : Nat) : Int) from by unfold idxR; rw [if_pos (by omega)]] at HFD
      have HGD := hide (rsubs_good h.good (R.subs.eraseIdx (rseek R n s.data.toList)) (Nat.le_trans (List.length_eraseIdx_le _ _) hl8) (fun x hx => List.mem_of_mem_eraseIdx hx))
      obtain ⟨F, hF⟩ : ∃ F : Nat → List RSub, F = fun k => (R.subs.take k).eraseIdx (rseek R n s.data.toList) := ⟨_, rfl⟩
      have HF0 : Hid (F 0 = []) := by subst hF; rfl
      have HFL : Hid (∀ k, (F k).length ≤ 8) := fun k => by subst hF; exact Nat.le_trans (List.length_eraseIdx_le _ _) (by rw [List.length_take]; omega)
      have HFE : Hid (F R.subs.length = R.subs.eraseIdx (rseek R n s.data.toList)) := by subst hF; unfold Hid; simp
      have HFS0 : Hid (∀ k (hk : k < R.subs.length), F (k + 1) = if k = rseek R n s.data.toList then F k else F k ++ [R.subs[k]]) := fun k hk => by subst hF; exact keepR_step R.subs _ k hk
      clear hF h HR HR0 hse
      generalize rseek R n s.data.toList = sk at *
      go_enter Tryz.func36, Tryz.ntmps36
      go_wp2_with fail
      refine (unhide HME).mono ?_
      rintro e w1 ⟨k0, g, f, rfl, hb1, hx⟩
      obtain ⟨rfl, hg, hf⟩ := hx (unhide HZ)
      have HF2 := hide (unhide HFD g f hg hf (w1.alloc (.cells #[.int .i64 (n : Int), .string g, .string f, .int .i64 0] 121)) (hb1.alloc hb1.size _))
      have HB1 := hide hb1
      clear hb1 hx
      go_wp2_with fail
      refine (unhide HF2).mono ?_
      rintro e w3 ⟨rfl, hb3⟩
      have hb : Below w.heap.size w w3 := ((unhide HB1).alloc (unhide HB1).size _).trans (hb3.mono (by have := (unhide HB1).size; simp; omega))
      have c2 : w3.cell? ⟨d, 1, none⟩ = some (.slice a R.subs.length cc) := (hb.cell (p := ⟨d, 1, none⟩) hp).trans c0
      have hp3 : d < w3.heap.size := Nat.lt_of_lt_of_le hp hb.size
      have HAT : Hid (RSubsRow w3 a cc R.subs) := fun k hk => by
        obtain ⟨b, x1, x2, x3, x4, x6⟩ := unhide HAT0 k hk
        exact ⟨b, x1, x2, x3, x4, fun w' hb' => x6 w' (hb.trans (hb'.mono hb.size))⟩
      have HEND : Hid (∀ (wr : World) (v' : Value), wr.ownsRow w3.heap.size 121 4 v' (R.subs.eraseIdx sk).length (rsubCells (R.subs.eraseIdx sk)) → Below w3.heap.size w3 wr → (∃ u, wr.cell? ⟨d, 1, none⟩ = some u ∧ wr.frozen? ⟨d, 1, none⟩ = false) ∧
          ∃ S', RefAt (wr.setCell ⟨d, 1, none⟩ v') d S' { R with subs := R.subs.eraseIdx sk } ∧ Fr S w (wr.setCell ⟨d, 1, none⟩ v') S') := by
        intro wr v' ho hbr
        have hH3 := (unhide HH).below hb
        obtain ⟨cb, A, qv, sv, kv, hw, hSS⟩ := hH3.body
        have hp4 : wr.heap[d]? = _ := (hbr.block d (heap_lt hw.blk)).trans hw.blk
        obtain ⟨t1, t2⟩ := hw.setS hbr.os hbr.tape hbr.output hbr.size (fun k hk _ => hbr.block k hk) (own_mono ho (Nat.zero_le _)) (fun k hk => Or.inr (ho.lt k hk).1)
        refine ⟨⟨_, cell_block (i := 1) hp4 rfl, free_block hp4⟩, _, ⟨⟨_, _, _, _, _, t1, rfl⟩, unhide HGD⟩, ?_⟩
        have hx := Fr.of_below (S := S) hb
        rw [hSS] at hx ⊢
        exact hx.trans t2
      have HR0 : Hid (w3.ownsRow w3.heap.size 121 4 (.slice none 0 0) (F 0).length (rsubCells (F 0))) := by unfold Hid; rw [unhide HF0]; exact World.ownsRow_nil _ _ _ _
      clear hb3 hb c0 HH HFD HF2 HAT0 HME HGD HB1
      obtain ⟨L, hL⟩ : ∃ L, L = R.subs := ⟨_, rfl⟩
      rw [← hL] at c2 hl8 hsl HAT HEND HFE HFS0 ⊢
      have HLL := hide hL
      clear hL
      go_wp2_with fail
      go_loopg [12, 13] L.length (fun gk av i wr => ∃ k : Nat, k ≤ L.length ∧ gk = L.length - k ∧ i = .int .i64 k ∧ Hid (wr.ownsRow w3.heap.size 121 4 av (F k).length (rsubCells (F k))) ∧ Hid (Below w3.heap.size w3 wr))
      case atStart => exact ⟨0, by omega, by omega, rfl, HR0, Below.refl _ _⟩
      case round =>
        clear HR0
        obtain ⟨k, hk, rfl, rfl, HROW, HB⟩ := hrel
        have hbs := (unhide HB).size
        have c1 : wr.cell? ⟨d, 1, none⟩ = some (.slice a L.length cc) := ((unhide HB).cell (p := ⟨d, 1, none⟩) hp3).trans c2
        obtain ⟨av, lv, cv, rfl⟩ := own_slice (unhide HROW)
        by_cases hlt : k < L.length
        · obtain ⟨b, rfl, hc1, hc2, hok, hcs⟩ := unhide HAT k hlt
          obtain ⟨e1, e2, e3, e4⟩ := hcs wr (unhide HB)
          clear hcs hok c2
          have hfl := unhide HFL k
          have HFS := hide (unhide HFS0 k hlt)
          have HS1 : Hid (strV L[k].grp = .string ⟨L[k].grp.toArray⟩ ∧ strV L[k].fil = .string ⟨L[k].fil.toArray⟩) := ⟨rfl, rfl⟩
          generalize L[k] = x at *
          generalize (⟨x.grp.toArray⟩ : ByteArray) = gs at *
          generalize (⟨x.fil.toArray⟩ : ByteArray) = fs at *
          by_cases hq : k = sk
          · rw [if_pos hq] at HFS
            have q1 : ((k : Int) != (sk : Int)) = false := by rw [hq]; simp
            clear hq
            go_wp2_with fail
            go_roundg (L.length - (k + 1))
            case measure => omega
            case rel => exact ⟨k + 1, by omega, rfl, by go_num, by rw [unhide HFS]; exact HROW, HB⟩
          · rw [if_neg hq] at HFS
            have q1 : ((k : Int) != (sk : Int)) = true := by simp; omega
            clear hq
            go_wp2_with (at_builtin; refine wpList_append_own _ rfl _ _ 75 rfl w3.heap.size 121 i0 (.agg #[.int .i64 0, .string ByteArray.empty, .string ByteArray.empty, .int .i64 0]) 4 48 Tryz.underlying75 hi hz0 hz1 hz2 rfl (by decide) _ _ _ rfl ((unhide HROW).alloc _) ⟨wr.heap.size, 0, none⟩ 1 1 [.int .i64 (x.who : Int), .string gs, .string fs, .int .i64 (x.last : Int)] rfl rfl ?c1 ?c2 ?c3 ?c4 ?c5 ?_)
            first
              | (case c1 =>
                  intro j u hj
                  match j, hj with
                  | 0, hj => simp at hj; subst hj; simp [Addr.add]
                  | 1, hj => simp at hj; subst hj; simp [Addr.add]
                  | 2, hj => simp at hj; subst hj; simp [Addr.add]
                  | 3, hj => simp at hj; subst hj; simp [Addr.add])
              | skip
            case c2 => intro u hu; simp at hu; rcases hu with rfl | rfl | rfl | rfl <;> rfl
            case c3 => unfold maxLen; omega
            case c4 => omega
            case c5 => first | omega | (simp; omega)
            intro v' w9 hown' hgrow _
            have HO3 : Hid (w9.ownsRow w3.heap.size 121 4 v' (F (k + 1)).length (rsubCells (F (k + 1)))) := by
              unfold Hid
              rw [unhide HFS, List.length_append, rsubCells_snoc, (unhide HS1).1, (unhide HS1).2]
              exact hown'
            have HB3 : Hid (Below w3.heap.size w3 w9) := ((unhide HB).alloc hbs _).grown hgrow (by simp; omega) (fun k hk => ((unhide HROW).lt k hk).1)
            clear hown' hgrow
            go_wp2_with fail
            go_roundg (L.length - (k + 1))
            case measure => omega
            case rel => exact ⟨k + 1, by omega, rfl, by go_num, HO3, HB3⟩
        · have hke : k = L.length := by omega
          subst hke
          rw [unhide HFE] at HROW
          obtain ⟨⟨u, z1, f1⟩, hst⟩ := unhide HEND wr _ (unhide HROW) (unhide HB)
          have HST := hide hst
          clear hst
          go_wp2_with fail
          go_ret2
          obtain ⟨S', t1, t2⟩ := unhide HST
          rw [unhide HLL] at t1
          exact ⟨rfl, S', t1, t2⟩
  · have hb0 : ((rcheck R c s.data.toList).1 != 0) = true := by simp [hk0]
    have HR : Hid (runsub R c s.data.toList = (rcheck R c s.data.toList, R)) := by unfold Hid runsub; rw [if_pos hk0]
    rw [unhide HR]
    clear h HR hk0
    generalize rcheck R c s.data.toList = ck at *
    go_enter Tryz.func36, Tryz.ntmps36
    go_wp2_with fail
    refine (unhide HME).mono ?_
    rintro e w1 ⟨k0, g, f, rfl, hb1, hx⟩
    have HB1 := hide (hb1.alloc hb1.size (.cells #[.int .i64 k0, .string g, .string f, .int .i64 0] 121))
    clear hb1 hx
    go_wp2_with fail
    go_ret2
    exact RefPost.same (unhide HH) (unhide HB1)

end Go.Proofs.YtchhmojnoiephabGreatDoor
