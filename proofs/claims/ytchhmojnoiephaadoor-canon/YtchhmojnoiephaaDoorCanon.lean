import Derived.Test.YtchhmojnoiephaaDoorRows
import Derived.Test.YtchhmojnoiephaaDoorMacF
import Derived.LaidMore
import Derived.Stop.LaidErr
import Derived.Test.YtchhmojnoiephaaDoorMacL
import Derived.Test.YtchhmojnoiephaaDoorFedA
import Derived.Test.YtchhmojnoiephaaDoorHubU
import Derived.Test.YtchhmojnoiephaaDoorWalkP
import Derived.Test.YtchhmojnoiephaaDoorPureRS
import Derived.Test.YtchhmojnoiephaaDoorPureC
import Derived.Deep.RegionWith
import Derived.Lib.SlicesS
namespace Go.Proofs.YtchhmojnoiephaaDoor
open Go.ChangeShapes Go.WideShapes Go.ChangeAt Go.RowKit

theorem pow_dataC : (Rows.laid_internal_strconv_uint64pow10 : DataW Unit) = Lib.tabData .u64 Lib.pow10Tab := by kernel_rfl

/-- the row's condition gives the library's table -/
theorem pow_ofC {W : World} (hL : laidMetH Tryd.prog Rows.codesRow.laid W) : powOK W := by
  rw [MakeChecks.laidMetH_plain _ _ _ (by kernel_rfl)] at hL
  have h := hL.tail.tail
  have h2 : laidMet Tryd.prog [("internal/strconv.uint64pow10", Lib.tabData .u64 Lib.pow10Tab)] W := by rw [← pow_dataC]; exact h
  exact Lib.tabIs_of_head (g := 0) (t := 134) (e := 126) (n := 20) (by kernel_rfl) (by kernel_rfl) (by kernel_rfl) (by kernel_rfl) (by kernel_rfl) (by kernel_rfl) h2

end Go.Proofs.YtchhmojnoiephaaDoor

namespace Go.Proofs.YtchhmojnoiephaaDoor
open Go.ChangeShapes Go.WideShapes Go.ChangeAt Go.RowKit
set_option linter.unusedVariables false

theorem fed_goodC (ops : List OpV) : goodL (fedL ops) := by
  have : ∀ (ops : List OpV) (L : List PairL), goodL L → goodL (ops.foldl feed L) := by
    intro ops
    induction ops with
    | nil => intro L h; exact h
    | cons o ops ih =>
      intro L h
      refine ih _ ?_
      unfold feed
      split
      · exact addR_good L _ _ h
      · split
        · exact dropR_good L _ _ h
        · exact h
  exact this ops [] goodL_nil


/-- the program's table and the document's, side by side, younger than w0 -/
structure Duo (w0 wr : World) (p : Nat) (S : Nat → Prop) (L : List PairL) (d : Nat) (D : Nat → Prop) (M : List PairL) : Prop where
  b : HTab wr p S L
  r : TabAt wr d D M
  ap : ∀ k, S k → ¬ D k
  bs : ∀ k, S k → w0.heap.size ≤ k
  ds : ∀ k, D k → w0.heap.size ≤ k
  bel : Below w0.heap.size w0 wr
theorem Duo.on {w0 wr w1 : World} {p d : Nat} {S D : Nat → Prop} {L M : List PairL} (h : Duo w0 wr p S L d D M) (hb : Below wr.heap.size wr w1) : Duo w0 w1 p S L d D M :=
  ⟨h.b.below hb, h.r.below hb, h.ap, h.bs, h.ds, h.bel.trans (hb.mono h.bel.size)⟩
theorem Duo.step {w0 wr w1 : World} {p d : Nat} {S D D' : Nat → Prop} {L M M' : List PairL} (h : Duo w0 wr p S L d D M) (ht : TabAt w1 d D' M') (hf : Fr D wr w1 D') : Duo w0 w1 p S L d D' M' :=
  ⟨h.b.kept hf (fun k hk => h.ap k hk), ht, fun k hk hd => by
    rcases hf.new k hd with h1 | h1
    · exact h.ap k hk h1
    · have := h.b.lt k hk; omega, h.bs, fun k hd => by
    rcases hf.new k hd with h1 | h1
    · exact h.ds k h1
    · exact Nat.le_trans h.bel.size h1, hf.below h.bel (Nat.le_refl _) h.ds⟩

/-- a third table beside them -/
structure Trio (w0 wr : World) (p : Nat) (S : Nat → Prop) (L : List PairL) (d : Nat) (D : Nat → Prop) (M : List PairL) (q : Nat) (A : Nat → Prop) (K : List PairL) : Prop where
  duo : Duo w0 wr p S L d D M
  a : HTab wr q A K
  asd : ∀ k, A k → ¬ S k
  ad : ∀ k, A k → ¬ D k
  an : ∀ k, A k → w0.heap.size ≤ k
theorem Trio.on {w0 wr w1 : World} {p d q : Nat} {S D A : Nat → Prop} {L M K : List PairL} (h : Trio w0 wr p S L d D M q A K) (hb : Below wr.heap.size wr w1) : Trio w0 w1 p S L d D M q A K :=
  ⟨h.duo.on hb, h.a.below hb, h.asd, h.ad, h.an⟩
theorem Trio.step {w0 wr w1 : World} {p d q : Nat} {S D A A' : Nat → Prop} {L M K K' : List PairL} (h : Trio w0 wr p S L d D M q A K) (ht : HTab w1 q A' K') (hf : Fr A wr w1 A') : Trio w0 w1 p S L d D M q A' K' := by
  have hn : ∀ k, A' k → A k ∨ wr.heap.size ≤ k := hf.new
  refine ⟨⟨h.duo.b.kept hf (fun k hk ha => h.asd k ha hk), h.duo.r.kept hf (fun k hk ha => h.ad k ha hk), h.duo.ap, h.duo.bs, h.duo.ds, hf.below h.duo.bel (Nat.le_refl _) h.an⟩, ht, fun k ha hs => ?_, fun k ha hd => ?_, fun k ha => ?_⟩
  · rcases hn k ha with h1 | h1
    · exact h.asd k h1 hs
    · have := h.duo.b.lt k hs; omega
  · rcases hn k ha with h1 | h1
    · exact h.ad k h1 hd
    · have := h.duo.r.lt k hd; omega
  · rcases hn k ha with h1 | h1
    · exact h.an k h1
    · exact Nat.le_trans h.duo.bel.size h1

theorem wrap_all (x : Int) (h0 : -9223372036854775808 ≤ x) (h1 : x ≤ 9223372036854775807) : IntKind.i64.wrap x = x := by
  rw [IntKind.wrap_i64]; omega

/-- the document's list in memory -/
theorem tab_cells {w : World} {d : Nat} {D : Nat → Prop} {M : List PairL} (h : TabAt w d D M) : ∃ a c, w.cell? ⟨d, 0, none⟩ = some (.slice a M.length c) ∧ ∀ k (hk : k < M.length), ∃ g, a = some ⟨g, 0, none⟩ ∧ M.length ≤ c ∧ c ≤ 9223372036854775807 ∧ w.cell? ⟨g, k * 2, none⟩ = some (.string ⟨M[k].1.toArray⟩) ∧ w.cell? ⟨g, k * 2 + 1, none⟩ = some (.int .i64 M[k].2) := by
  obtain ⟨v, h1, h2, h3⟩ := h.body
  obtain ⟨av, lv, cv, rfl⟩ := own_slice h2
  have hlv : lv = M.length := own_len h2
  subst hlv
  refine ⟨av, cv, cell_block (i := 0) h1 rfl, fun k hk => ?_⟩
  obtain ⟨g, cap, hv⟩ := own_form h2 (by omega)
  simp only [Value.slice.injEq] at hv
  obtain ⟨rfl, _, rfl⟩ := hv
  have hcc := own_cap h2
  unfold maxLen at hcc
  obtain ⟨e1, e2⟩ := own_edge h2 hk
  exact ⟨g, rfl, hcc.1, by omega, e1, e2⟩

set_option maxHeartbeats 8000000 in
set_option maxRecDepth 1000000 in
theorem canon_of (w : World) (hpw : powOK w) (v : Value) (ops : List OpV) (h : OpsAt w v ops) (hl : ops.length * 56 ≤ 140737488351232) (f : ByteArray) (hf : f.size ≤ maxLen) (who : Int) :
    Calls Tryd.prog 5 #[v, .string f, .int .i64 who] w fun e w' => e = .returned (.bool true) ∧ Below w.heap.size w w' := by
  have HFE := hide (fed_any hubTabI w v ops h hl)
  have HG := hide (fed_goodC ops)
  have HPW := hide hpw
  obtain ⟨ao, cap, rfl, hcap, hcap2, hfit, hcells⟩ := h
  unfold maxLen at hcap2
  have HFIT := hide hfit
  have HC := hide hcells
  clear hfit hcells hpw
  go_enter Tryd.func5, Tryd.ntmps5
  go_wp2_with fail
  refine (unhide HFE).mono ?_
  rintro e w1 ⟨p, S, rfl, htab, hb1, hS⟩
  have HT := hide (show HTab w1 p S (fedL ops) from htab)
  have HB1 := hide hb1
  have HSB := hide hS
  clear htab hb1 hS HFE
  go_wp2_with fail
  refine (refNew_any _).mono ?_
  rintro e w2 ⟨rfl, ht2, hb2, hsz2⟩
  have HDU : Hid (Duo w w2 p S (fedL ops) w1.heap.size (fun k => k = w1.heap.size) []) :=
    ⟨(unhide HT).below hb2, ht2, fun k hk hd => by have := (unhide HT).lt k hk; omega, unhide HSB, fun k hd => by rw [hd]; exact (unhide HB1).size, (unhide HB1).trans (hb2.mono (unhide HB1).size)⟩
  obtain ⟨D0, hD0⟩ : ∃ D0 : Nat → Prop, D0 = fun k => k = w1.heap.size := ⟨_, rfl⟩
  rw [← hD0] at HDU
  clear hD0 ht2 hb2 hsz2 HT HB1 HSB
  generalize w1.heap.size = d at *
  go_upto_block 0 with fail
  go_cut [9] (fun _ wc => ∃ D, Duo w wc p S (fedL ops) d D (fedL ops))
  case first =>
    go_wp2_with fail
    go_loopg [9, 10] ops.length (fun gk ii _ wr => ∃ (n : Nat) (D : Nat → Prop), n ≤ ops.length ∧ gk = ops.length - n ∧ ii = .int .i64 n ∧ Duo w wr p S (fedL ops) d D (fedL (ops.take n)))
    case atStart => exact ⟨0, D0, by omega, by omega, rfl, unhide HDU⟩
    case round =>
      obtain ⟨n, D, hn, rfl, rfl, hdu⟩ := hrel
      have hbel := hdu.bel
      have hbs := hbel.size
      clear HDU
      by_cases hlt : n < ops.length
      · obtain ⟨b, off, rfl, hbw, hcs⟩ := unhide HC (by intro h0; subst h0; simp at hlt)
        obtain ⟨e0, e1, e2, e3, e4⟩ := hcs n hlt
        have HKS := hide (fedL_succ ops n hlt)
        have hob := unhide HFIT ops[n] (List.getElem_mem hlt)
        clear hcs
        generalize ops[n] = o at *
        have hos : o.s.size ≤ maxLen := hob.2.2.2.1
        have x0 := (hbel.cell (p := ⟨b, off + n * 5, none⟩) hbw).trans e0
        have x1 := (hbel.cell (p := ⟨b, off + n * 5 + 1, none⟩) hbw).trans e1
        have x2 := (hbel.cell (p := ⟨b, off + n * 5 + 2, none⟩) hbw).trans e2
        have x3 := (hbel.cell (p := ⟨b, off + n * 5 + 3, none⟩) hbw).trans e3
        have x4 := (hbel.cell (p := ⟨b, off + n * 5 + 4, none⟩) hbw).trans e4
        clear e0 e1 e2 e3 e4 hob
        have hn60 : (n : Int) < 1152921504606846976 := by omega
        have HDA := hide (hdu.on ((Below.refl _ wr).alloc (Nat.le_refl _) (.cells #[.int .i64 o.kind, .int .i64 o.a, .int .i64 o.b, .string o.s, .string o.t] 28)))
        clear hdu hbel
        by_cases h5 : o.kind = 5
        · have b5 : (o.kind == 5) = true := by simp [h5]
          have HF : Hid (fedL (ops.take (n + 1)) = (addR (fedL (ops.take n)) o.s.data.toList o.a).2) := by unfold Hid; rw [unhide HKS]; unfold feed; rw [if_pos h5]
          clear h5 HKS
          go_wp2_with fail
          refine (refAdd_any d D _ o.s o.a _ (unhide HDA).r hos).mono ?_
          rintro e w3 ⟨rfl, D3, ht3, hf3⟩
          have HD3 := hide ((unhide HDA).step ht3 hf3)
          clear ht3 hf3
          go_wp2_with fail
          go_roundg (ops.length - (n + 1))
          case measure => omega
          case rel => exact ⟨n + 1, D3, by omega, rfl, by go_num, by rw [unhide HF]; exact unhide HD3⟩
        · have b5 : (o.kind == 5) = false := by simp [h5]
          by_cases h6 : o.kind = 6
          · have b6 : (o.kind == 6) = true := by simp [h6]
            have HF : Hid (fedL (ops.take (n + 1)) = (dropR (fedL (ops.take n)) o.s.data.toList o.a).2) := by unfold Hid; rw [unhide HKS]; unfold feed; rw [if_neg h5, if_pos h6]
            clear h5 h6 HKS
            go_wp2_with fail
            refine (refDrop_any d D _ o.s o.a _ (unhide HDA).r hos).mono ?_
            rintro e w3 ⟨rfl, D3, ht3, hf3⟩
            have HD3 := hide ((unhide HDA).step ht3 hf3)
            clear ht3 hf3
            go_wp2_with fail
            go_roundg (ops.length - (n + 1))
            case measure => omega
            case rel => exact ⟨n + 1, D3, by omega, rfl, by go_num, by rw [unhide HF]; exact unhide HD3⟩
          · have b6 : (o.kind == 6) = false := by simp [h6]
            have HF : Hid (fedL (ops.take (n + 1)) = fedL (ops.take n)) := by unfold Hid; rw [unhide HKS]; unfold feed; rw [if_neg h5, if_neg h6]
            clear h5 h6 HKS
            go_wp2_with fail
            go_roundg (ops.length - (n + 1))
            case measure => omega
            case rel => exact ⟨n + 1, D, by omega, rfl, by go_num, by rw [unhide HF]; exact unhide HDA⟩
      · have hne : ops.take n = ops := List.take_of_length_le (by omega)
        rw [hne] at hdu
        have HD := hide hdu
        clear hdu hbel hne
        go_wp2_with fail
        go_meet
        exact ⟨D, unhide HD⟩
  case rest =>
    obtain ⟨D, hdu⟩ := hcut
    have HD := hide hdu
    clear hdu HDU HC HFIT
    generalize fedL ops = L at *
    go_wp2_with fail
    refine (hubNew_any _).mono ?_
    rintro e w3 ⟨rfl, ht3, hb3, hsz3⟩
    have HTR : Hid (Trio w w3 p S L d D L wc.heap.size (fun k => k = wc.heap.size) []) :=
      ⟨(unhide HD).on hb3, ht3, fun k ha hs => by have := (unhide HD).b.lt k hs; omega, fun k ha hs => by have := (unhide HD).r.lt k hs; omega, fun k ha => by rw [ha]; exact (unhide HD).bel.size⟩
    obtain ⟨A0, hA0⟩ : ∃ A0 : Nat → Prop, A0 = fun k => k = wc.heap.size := ⟨_, rfl⟩
    rw [← hA0] at HTR
    clear hA0 ht3 hb3 hsz3 HD
    generalize wc.heap.size = q at *
    have hl6 := (unhide HG).1
    obtain ⟨a, c, c0, hxx⟩ := tab_cells (unhide HTR).duo.r
    clear hxx
    have hw1 : IntKind.i64.wrap ((L.length : Int) - 1) = (L.length : Int) - 1 := wrap_all _ (by omega) (by omega)
    go_upto_block 2 with fail
    clear c0
    go_cut [12] (fun _ wd => ∃ A, Trio w wd p S L d D L q A (canD (f.data.toList, who) L L.length []))
    case first =>
      go_wp2_with fail
      go_loopg [12, 13, 14, 15] L.length (fun gk ii _ _ _ wr => ∃ (n : Nat) (A : Nat → Prop) (K : List PairL), n ≤ L.length ∧ n = gk ∧ ii = .int .i64 ((n : Int) - 1) ∧ Hid (canD (f.data.toList, who) L n K = canD (f.data.toList, who) L L.length []) ∧ Hid (Trio w wr p S L d D L q A K))
      case atStart => exact ⟨L.length, A0, [], by omega, rfl, rfl, rfl, HTR⟩
      case round =>
        obtain ⟨n, A, K, hn, hgn, hii, hcd, HR⟩ := hrel
        subst hgn
        clear HTR hw1
        by_cases h0 : n = 0
        · subst h0
          replace hii : _ = Value.int .i64 (-1) := hii
          subst hii
          go_wp2_with fail
          go_meet
          exact ⟨A, by rw [← unhide hcd]; exact unhide HR⟩
        · obtain ⟨j, rfl⟩ : ∃ j, n = j + 1 := ⟨n - 1, by omega⟩
          replace hii : _ = Value.int .i64 (j : Int) := hii.trans (by congr 1; omega)
          subst hii
          have hj : j < L.length := by omega
          have HCS : Hid (canD (f.data.toList, who) L j (canS (f.data.toList, who) L[j] K) = canD (f.data.toList, who) L L.length []) := by
            have := unhide hcd
            simp only [canD, List.getElem?_eq_getElem hj] at this
            exact this
          have hjj : IntKind.i64.wrap ((j : Int) - 1) = (j : Int) - 1 := wrap_all _ (by omega) (by omega)
          have hjd : decide ((0 : Int) ≤ (j : Int)) = true := by simp
          clear hcd h0 hn
          go_wp2_with fail
          refine (hubAdd_any q A K f who _ (unhide HR).a hf).mono ?_
          rintro e w4 ⟨rfl, A4, ht4, hf4⟩
          have HT4 := hide ((unhide HR).step ht4 hf4)
          clear ht4 hf4 HR
          obtain ⟨a, c, c0, hx⟩ := tab_cells (unhide HT4).duo.r
          obtain ⟨g, rfl, hc1, hc2, e1, e2⟩ := hx j hj
          have hgx := (unhide HG).2.2 L[j] (List.getElem_mem hj)
          have hfl := (filterR_len _ hgx.1).1
          obtain ⟨fx, hfx⟩ : ∃ fx : ByteArray, fx = ⟨L[j].1.toArray⟩ := ⟨_, rfl⟩
          have hfz : fx.size ≤ maxLen := by rw [hfx, arr_size]; unfold maxLen; omega
          obtain ⟨xw, hxw⟩ : ∃ xw : Int, xw = L[j].2 := ⟨_, rfl⟩
          have HX : Hid (L[j] = (fx.data.toList, xw)) := by unfold Hid; rw [hxw, hfx]
          rw [← hfx] at e1
          rw [← hxw] at e2
          clear hx hgx hfl hfx hxw
          obtain ⟨z, hz⟩ : ∃ z : Int, z = (addR K f.data.toList who).1.1 := ⟨_, rfl⟩
          rw [← hz]
          have HZ := hide hz
          clear hz
          go_upto_region 16 with fail
          go_cut [89] (fun _ wd => ∃ A5, Hid (Trio w wd p S L d D L q A5 (addR (addR K f.data.toList who).2 fx.data.toList xw).2))
          case first =>
            go_wp2_with fail
            go_region_with (go_at_call 19; refine (hubAdd_any q A4 (addR K f.data.toList who).2 fx xw _ ?_ hfz).mono ?_; (exact (unhide HT4).a.below ⟨rfl, rfl, rfl, Nat.le_refl _, fun _ _ => rfl⟩); rintro e w5 ⟨rfl, A5, ht5, hf5⟩)
            all_goals
              have HT5 := hide (((unhide HT4).on (w1 := _) (by exact ⟨rfl, rfl, rfl, Nat.le_refl _, fun _ _ => rfl⟩)).step ht5 hf5)
              clear ht5 hf5
              go_wp2_with fail
              go_meet
              exact ⟨A5, HT5⟩
          case rest =>
            obtain ⟨A5, HT5⟩ := hcut
            clear HT4 c0 e1 e2 hc1 hc2
            rename_i w5
            obtain ⟨a', c', c0, hx⟩ := tab_cells (unhide HT5).duo.r
            obtain ⟨g', rfl, hc1, hc2, e1, e2⟩ := hx j hj
            rw [unhide HX] at e1 e2
            have E1 := show _ = some (Value.string fx) from e1
            have E2 := show _ = some (Value.int .i64 xw) from e2
            clear hx e1 e2
            obtain ⟨b1, hb1⟩ : ∃ b : Bool, (fx.toList == f.toList) = b := ⟨_, rfl⟩
            obtain ⟨b2, hb2⟩ : ∃ b : Bool, (xw == who) = b := ⟨_, rfl⟩
            obtain ⟨b3, hb3⟩ : ∃ b : Bool, (z == 0) = b := ⟨_, rfl⟩
            have HQ : Hid (canS (f.data.toList, who) L[j] K = if b3 = true ∧ ¬ (b1 && b2) = true then (dropR (addR (addR K f.data.toList who).2 fx.data.toList xw).2 f.data.toList who).2 else (addR (addR K f.data.toList who).2 fx.data.toList xw).2) := by
              unfold Hid
              rw [unhide HX]
              have q1 : (addR K f.data.toList who).1.1 = 0 ↔ b3 = true := by rw [← unhide HZ, ← hb3]; simp
              have q2 : ((fx.data.toList, xw) : PairL) = (f.data.toList, who) ↔ (b1 && b2) = true := by
                rw [Prod.mk.injEq, ← hb1, ← hb2, Bool.and_eq_true, Lib.bytes_beq_iff, beq_iff_eq]
                refine and_congr ⟨fun h => ByteArray.ext (Array.toList_inj.mp h), fun h => by rw [h]⟩ Iff.rfl
              unfold canS
              simp only [q1, q2]
            clear HX HZ
            cases b3
            · replace HQ : Hid (canD (f.data.toList, who) L j (addR (addR K f.data.toList who).2 fx.data.toList xw).2 = canD (f.data.toList, who) L L.length []) := by
                have q := unhide HCS
                rw [unhide HQ, if_neg (by simp)] at q
                exact q
              clear HCS
              cases b1
              all_goals
                go_wp2_with (go_at_call 15; refine (num_any _ _).mono ?_; rintro e w' ⟨rfl, rfl⟩)
                go_roundg j
                case measure => omega
                case rel => exact ⟨j, A5, _, by omega, rfl, rfl, HQ, HT5⟩
            · cases b1
              · replace HQ : Hid (canD (f.data.toList, who) L j (dropR (addR (addR K f.data.toList who).2 fx.data.toList xw).2 f.data.toList who).2 = canD (f.data.toList, who) L L.length []) := by
                  have q := unhide HCS
                  rw [unhide HQ, if_pos (by simp)] at q
                  exact q
                clear HCS
                go_wp2_with (go_at_call 15; refine (num_any _ _).mono ?_; rintro e w' ⟨rfl, rfl⟩)
                refine (hubDrop_any q A5 _ f who _ (unhide HT5).a hf).mono ?_
                rintro e w6 ⟨rfl, A6, ht6, hf6⟩
                have HT6 := hide ((unhide HT5).step ht6 hf6)
                clear ht6 hf6
                go_wp2_with fail
                go_roundg j
                case measure => omega
                case rel => exact ⟨j, A6, _, by omega, rfl, rfl, HQ, HT6⟩
              · cases b2
                · replace HQ : Hid (canD (f.data.toList, who) L j (dropR (addR (addR K f.data.toList who).2 fx.data.toList xw).2 f.data.toList who).2 = canD (f.data.toList, who) L L.length []) := by
                    have q := unhide HCS
                    rw [unhide HQ, if_pos (by simp)] at q
                    exact q
                  clear HCS
                  go_wp2_with (go_at_call 15; refine (num_any _ _).mono ?_; rintro e w' ⟨rfl, rfl⟩)
                  refine (hubDrop_any q A5 _ f who _ (unhide HT5).a hf).mono ?_
                  rintro e w6 ⟨rfl, A6, ht6, hf6⟩
                  have HT6 := hide ((unhide HT5).step ht6 hf6)
                  clear ht6 hf6
                  go_wp2_with fail
                  go_roundg j
                  case measure => omega
                  case rel => exact ⟨j, A6, _, by omega, rfl, rfl, HQ, HT6⟩
                · replace HQ : Hid (canD (f.data.toList, who) L j (addR (addR K f.data.toList who).2 fx.data.toList xw).2 = canD (f.data.toList, who) L L.length []) := by
                    have q := unhide HCS
                    rw [unhide HQ, if_neg (by simp)] at q
                    exact q
                  clear HCS
                  go_wp2_with (go_at_call 15; refine (num_any _ _).mono ?_; rintro e w' ⟨rfl, rfl⟩)
                  go_roundg j
                  case measure => omega
                  case rel => exact ⟨j, A5, _, by omega, rfl, rfl, HQ, HT5⟩
    case rest =>
      obtain ⟨A1, htr⟩ := hcut
      have HR1 := hide htr
      have HCC := hide (canon_code L (unhide HG) (f.data.toList, who))
      clear htr HTR hw1
      generalize canD (f.data.toList, who) L L.length [] = K0 at *
      go_upto_block 4 with fail
      go_cut [16] (fun _ wd => ∃ A, Hid (Trio w wd p S L d D L q A (canU L K0)))
      case first =>
        go_wp2_with fail
        go_loopg [16] L.length (fun gk ii wr => ∃ (n : Nat) (A : Nat → Prop), n ≤ L.length ∧ gk = L.length - n ∧ ii = .int .i64 n ∧ Hid (Trio w wr p S L d D L q A (canU (L.take n) K0)))
        case atStart => exact ⟨0, A1, by omega, by omega, rfl, HR1⟩
        case round =>
          obtain ⟨n, A, hn, rfl, rfl, HR⟩ := hrel
          clear HR1 HCC
          obtain ⟨a, c, c0, hx⟩ := tab_cells (unhide HR).duo.r
          by_cases hlt : n < L.length
          · obtain ⟨g, rfl, hc1, hc2, e1, e2⟩ := hx n hlt
            have hgx := (unhide HG).2.2 L[n] (List.getElem_mem hlt)
            have hfl := (filterR_len _ hgx.1).1
            obtain ⟨fx, hfx⟩ : ∃ fx : ByteArray, fx = ⟨L[n].1.toArray⟩ := ⟨_, rfl⟩
            have hfz : fx.size ≤ maxLen := by rw [hfx, arr_size]; unfold maxLen; omega
            obtain ⟨xw, hxw⟩ : ∃ xw : Int, xw = L[n].2 := ⟨_, rfl⟩
            have HX : Hid (canU (L.take (n + 1)) K0 = (addR (canU (L.take n) K0) fx.data.toList xw).2) := by
              unfold Hid canU
              rw [List.take_succ_eq_append_getElem hlt, List.foldl_append, hxw, hfx]
              rfl
            rw [← hfx] at e1
            rw [← hxw] at e2
            clear hx hgx hfl hfx hxw
            generalize canU (L.take n) K0 = K at *
            go_wp2_with fail
            go_region_with (go_at_call 19; refine (hubAdd_any q A K fx xw _ ?_ hfz).mono ?_; (exact (unhide HR).a.below ⟨rfl, rfl, rfl, Nat.le_refl _, fun _ _ => rfl⟩); rintro e w5 ⟨rfl, A5, ht5, hf5⟩)
            all_goals
              have HT5 := hide (((unhide HR).on (w1 := _) (by exact ⟨rfl, rfl, rfl, Nat.le_refl _, fun _ _ => rfl⟩)).step ht5 hf5)
              clear ht5 hf5
              go_wp2_with fail
              go_roundg (L.length - (n + 1))
              case measure => omega
              case rel => exact ⟨n + 1, A5, by omega, rfl, by go_num, by rw [unhide HX]; exact HT5⟩
          · have hne : L.take n = L := List.take_of_length_le (by omega)
            rw [hne] at HR
            clear hx hne
            go_wp2_with fail
            go_meet
            exact ⟨A, HR⟩
      case rest =>
        obtain ⟨A2, HR⟩ := hcut
        clear HR1
        have HPK : Hid (∀ x : World, Below w.heap.size w x → powOK x) := fun x hb => pow_keep (unhide HPW) (fun g hg => hb.block g (pow_lt (unhide HPW) hg))
        have HC1 := hide (fun p S w => code_any p S (canU L K0) w)
        rw [unhide HCC] at HC1
        have HC2 := hide (fun p S w => code_any p S L w)
        have hne := codeB_ne L
        unfold strV at HC1 HC2
        have HN : Hid (¬ (⟨(codeB L).toArray⟩ : ByteArray).toList = []) := by
          unfold Hid
          simpa [Lib.toList_data] using hne
        clear hne HCC
        generalize (⟨(codeB L).toArray⟩ : ByteArray) = cc at *
        have hcc : (cc.toList == cc.toList) = true := by simp
        go_wp2_with fail
        refine (unhide HC1 q A2 _ (unhide HR).a (unhide HPK _ (unhide HR).duo.bel)).mono ?_
        rintro e w6 ⟨rfl, hb6⟩
        have HR6 := hide ((unhide HR).on hb6)
        clear hb6 HR
        go_wp2_with fail
        refine (unhide HC2 p S _ (unhide HR6).duo.b (unhide HPK _ (unhide HR6).duo.bel)).mono ?_
        rintro e w7 ⟨rfl, hb7⟩
        have HB := hide ((unhide HR6).on hb7).duo.bel
        clear hb7 HR6
        go_wp2_with fail
        go_ret
        exact ⟨by simpa using unhide HN, unhide HB⟩

theorem canon_walk (w : World) (hL : laidMetH Tryd.prog Rows.canonRow.laid w) (v : Value) (ops : List OpV) (h : OpsAt w v ops) (hl : ops.length * 56 ≤ 140737488351232) (f : ByteArray) (hf : f.size ≤ 140737488351232) (who : Int) (hw : (Lit.int .i64 who).wf = true) :
    Calls Tryd.prog 5 #[v, .string f, .int .i64 who] w fun e w' => e = .returned (.bool true) ∧ Below w.heap.size w w' :=
  canon_of w (pow_ofC hL) v ops h hl f (Nat.le_trans hf (by unfold maxLen; omega)) who

end Go.Proofs.YtchhmojnoiephaaDoor
