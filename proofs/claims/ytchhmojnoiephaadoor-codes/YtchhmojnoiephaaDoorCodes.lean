import Derived.Test.YtchhmojnoiephaaDoorLstX
import Derived.Test.YtchhmojnoiephaaDoorLawA
import Derived.Test.YtchhmojnoiephaaDoorHubU
import Derived.Test.YtchhmojnoiephaaDoorMacX
import Derived.Test.YtchhmojnoiephaaDoorRows
import Derived.Test.YtchhmojnoiephaaDoorScript
import Derived.LaidMore
import Derived.Stop.LaidErr
namespace Go.Proofs.YtchhmojnoiephaaDoor
open Go.ChangeShapes Go.WideShapes Go.ChangeAt Go.RowKit
set_option linter.unusedVariables false

set_option maxHeartbeats 4000000 in
set_option maxRecDepth 1000000 in
theorem coded_any (p d : Nat) (S D : Nat → Prop) (L : List PairL) (t : ByteArray) (w : World) (hb : HTab w p S L) (hd : TabAt w d D L) (hpw : powOK w) (ht : t.size ≤ maxLen) :
    Calls Tryd.prog 9 #[.pointer (some ⟨p, 0, none⟩), .pointer (some ⟨d, 0, none⟩), .string t] w fun e w' => e = .returned (.bool true) ∧ Below w.heap.size w w' := by
  have hg := hb.good
  obtain ⟨h1, h2, h3⟩ := codeB_ok L hg
  have HRT := hide (code_route L hg t.data.toList)
  have hcd : (⟨(codeB L).toArray⟩ : ByteArray).data.toList = codeB L := by simp
  have hcz : (⟨(codeB L).toArray⟩ : ByteArray).size ≤ 40000 := sz_arr _ _ h2
  have HCK := hide (fun w => refCode_any (⟨(codeB L).toArray⟩ : ByteArray) w (by unfold maxLen; omega))
  rw [hcd, h3] at HCK
  have HLE := hide (fun w => least_any L (codeSt L) (⟨(codeB L).toArray⟩ : ByteArray) w hcz (by rw [hcd]; exact h1) (code_ok L hg))
  have HWK := hide (fun w => refWalk_any (⟨(codeB L).toArray⟩ : ByteArray) t w (by unfold maxLen; omega) ht)
  rw [hcd, unhide HRT] at HWK
  have HCA := hide (code_any p S L w hb hpw)
  unfold strV at HCA
  have HD := hide hd
  clear h1 h2 h3 hcd hpw hg hcz HRT hb hd
  generalize (⟨(codeB L).toArray⟩ : ByteArray) = c at *
  go_enter Tryd.func9, Tryd.ntmps9
  go_wp2_with fail
  refine (unhide HCA).mono ?_
  rintro e w1 ⟨rfl, hb1⟩
  have HB := hide hb1
  replace HD := hide ((unhide HD).below hb1)
  clear hb1 HCA
  go_wp2_with fail
  refine (unhide HCK _).mono ?_
  rintro e w2 ⟨rfl, hb2⟩
  replace HD := hide ((unhide HD).below hb2)
  replace HB := hide ((unhide HB).trans (hb2.mono (unhide HB).size))
  clear hb2 HCK
  go_wp2_with fail
  refine (unhide HLE _).mono ?_
  rintro e w3 ⟨rfl, hb3⟩
  replace HD := hide ((unhide HD).below hb3)
  replace HB := hide ((unhide HB).trans (hb3.mono (unhide HB).size))
  clear hb3 HLE
  go_wp2_with fail
  refine (refTopic_any t _ ht).mono ?_
  rintro e w4 ⟨rfl, h4⟩
  replace h4 := h4.symm
  subst h4
  by_cases h0 : (topicR t.data.toList).1 = 0
  · have hb0 : ((topicR t.data.toList).1 != 0) = false := by simp [h0]
    have HR : Hid (routeR L t.data.toList = (routeL L t.data.toList, 0, 0)) := by unfold Hid routeR; rw [if_neg (by simp [h0])]
    rw [unhide HR] at HWK
    have HRD := hide (fun w (h : TabAt w d D L) => routed_any d D L t w h h0)
    clear h0 HR
    go_wp2_with fail
    refine (unhide HWK _).mono ?_
    rintro e w5 ⟨v5, rfl, hown5, hb5⟩
    replace HD := hide ((unhide HD).below hb5)
    replace HB := hide ((unhide HB).trans (hb5.mono (unhide HB).size))
    have HI5 := hide (IntsAt.of_own hown5)
    clear hb5 hown5
    go_wp2_with fail
    refine (unhide HRD _ (unhide HD)).mono ?_
    rintro e w6 ⟨v6, rfl, hown6, hb6⟩
    replace HB := hide ((unhide HB).trans (hb6.mono (unhide HB).size))
    replace HI5 := hide ((unhide HI5).below hb6)
    have HI6 := hide (IntsAt.of_own hown6)
    clear hb6 hown6
    generalize routeL L t.data.toList = r at *
    go_wp2_with (go_at_call 16; refine (same_any v5 v6 r r _ (unhide HI5) (unhide HI6)).mono ?_; rw [show sameL r r = true from by simp [sameL]]; rintro e w7 ⟨rfl, n, rfl⟩)
    go_ret
    exact ⟨by simp, (unhide HB).trans ⟨rfl, rfl, rfl, Nat.le_refl _, fun _ _ => rfl⟩⟩
  · have hb0 : ((topicR t.data.toList).1 != 0) = true := by simp [h0]
    clear h0
    go_wp2_with fail
    go_ret
    exact ⟨rfl, unhide HB⟩

end Go.Proofs.YtchhmojnoiephaaDoor

namespace Go.Proofs.YtchhmojnoiephaaDoor
open Go.ChangeShapes Go.WideShapes Go.ChangeAt Go.RowKit
set_option linter.unusedVariables false

theorem pow_dataK : (Rows.laid_internal_strconv_uint64pow10 : DataW Unit) = Lib.tabData .u64 Lib.pow10Tab := by kernel_rfl
/-- the row's condition gives the library's table -/
theorem pow_ofK {W : World} (hL : laidMetH Tryd.prog Rows.codesRow.laid W) : powOK W := by
  rw [MakeChecks.laidMetH_plain _ _ _ (by kernel_rfl)] at hL
  have h := hL.tail.tail
  have h2 : laidMet Tryd.prog [("internal/strconv.uint64pow10", Lib.tabData .u64 Lib.pow10Tab)] W := by rw [← pow_dataK]; exact h
  exact Lib.tabIs_of_head (g := 0) (t := 134) (e := 126) (n := 20) (by kernel_rfl) (by kernel_rfl) (by kernel_rfl) (by kernel_rfl) (by kernel_rfl) (by kernel_rfl) h2

/-- the two tables of Codes, younger than w0 -/
def TwoK (w0 wr : World) (p d : Nat) : Prop := ∃ S D L, Both hubTabI wr p S d D L ∧ (∀ k, S k ∨ D k → w0.heap.size ≤ k) ∧ Below w0.heap.size w0 wr
theorem TwoK.on {w0 wr w1 : World} {p d : Nat} (h : TwoK w0 wr p d) (hb : Below wr.heap.size wr w1) : TwoK w0 w1 p d := by
  obtain ⟨S, D, L, h1, h2, h3⟩ := h
  exact ⟨S, D, L, h1.kept (Fr.of_below (S := fun _ => False) hb) (fun _ _ h => h) (fun _ _ h => h), h2, h3.trans (hb.mono h3.size)⟩

set_option maxHeartbeats 8000000 in
set_option maxRecDepth 1000000 in
theorem codes_of (w : World) (hpw : powOK w) (v : Value) (ops : List OpV) (h : OpsAt w v ops) (hl : ops.length * 56 ≤ 140737488351232) (t : ByteArray) (ht : t.size ≤ maxLen) :
    Calls Tryd.prog 3 #[v, .string t] w fun e w' => e = .returned (.bool true) ∧ Below w.heap.size w w' := by
  have HPW := hide hpw
  obtain ⟨ao, cap, rfl, hcap, hcap2, hfit, hcells⟩ := h
  unfold maxLen at hcap2
  have HFIT := hide hfit
  have HC := hide hcells
  clear hfit hcells hpw
  go_enter Tryd.func3, Tryd.ntmps3
  go_wp2_with fail
  refine (hubNew_any _).mono ?_
  rintro e w1 ⟨rfl, ht1, hb1, hs1⟩
  have HT := hide ht1
  have HB1 := hide hb1
  clear ht1 hb1 hs1
  go_wp2_with fail
  refine (refNew_any _).mono ?_
  rintro e w2 ⟨rfl, ht2, hb2, hsz2⟩
  have HDU : Hid (TwoK w w2 w.heap.size w1.heap.size) :=
    ⟨fun k => k = w.heap.size, fun k => k = w1.heap.size, [], ⟨(unhide HT).below hb2, ht2, fun k hk hd => by have := (unhide HT).lt k hk; omega⟩, fun k hk => by rcases hk with hk | hk <;> rw [hk]; exact Nat.le_refl _; exact (unhide HB1).size, (unhide HB1).trans (hb2.mono (unhide HB1).size)⟩
  clear ht2 hb2 hsz2 HT HB1
  generalize w1.heap.size = d at *
  go_wp2_with fail
  go_loopg [7, 8] ops.length (fun gk ii _ wr => ∃ n : Nat, n ≤ ops.length ∧ gk = ops.length - n ∧ ii = .int .i64 n ∧ Hid (TwoK w wr w.heap.size d))
  case atStart => exact ⟨0, by omega, by omega, rfl, HDU⟩
  case round =>
    clear HDU
    obtain ⟨n, hn, rfl, rfl, HD⟩ := hrel
    by_cases hlt : n < ops.length
    · obtain ⟨b, off, rfl, hbw, hcs⟩ := unhide HC (by intro h0; subst h0; simp at hlt)
      obtain ⟨e0, e1, e2, e3, e4⟩ := hcs n hlt
      have hob := unhide HFIT ops[n] (List.getElem_mem hlt)
      clear hcs
      generalize ops[n] = o at *
      have hbel : Below w.heap.size w wr := by obtain ⟨_, _, _, _, _, h⟩ := unhide HD; exact h
      have hbs := hbel.size
      have x0 := (hbel.cell (p := ⟨b, off + n * 5, none⟩) hbw).trans e0
      have x1 := (hbel.cell (p := ⟨b, off + n * 5 + 1, none⟩) hbw).trans e1
      have x2 := (hbel.cell (p := ⟨b, off + n * 5 + 2, none⟩) hbw).trans e2
      have x3 := (hbel.cell (p := ⟨b, off + n * 5 + 3, none⟩) hbw).trans e3
      have x4 := (hbel.cell (p := ⟨b, off + n * 5 + 4, none⟩) hbw).trans e4
      clear e0 e1 e2 e3 e4 hbel
      have hn60 : (n : Int) < 1152921504606846976 := by omega
      have HDA := hide ((unhide HD).on ((Below.refl _ wr).alloc (Nat.le_refl _) (.cells #[.int .i64 o.kind, .int .i64 o.a, .int .i64 o.b, .string o.s, .string o.t] 28)))
      have HOB := hide hob
      clear HD hob
      by_cases h56 : o.kind = 5 ∨ o.kind = 6
      · obtain ⟨S, D, L, hbo, hyo, hbe⟩ := unhide HDA
        have HST := hide (table_step hubTabI w.heap.size d S D L o _ hbo (unhide HOB) (by omega))
        have HNX : Hid (∀ e w', StepPost hubTabI (wr.alloc (.cells #[.int .i64 o.kind, .int .i64 o.a, .int .i64 o.b, .string o.s, .string o.t] 28)) w.heap.size S d D e w' → e = .returned (.bool true) ∧ TwoK w w' w.heap.size d) := by
          rintro e w' ⟨he, S', D', L', hb', hf'⟩
          exact ⟨he, S', D', L', hb', fun k hk => by
            rcases hf'.new k hk with h1 | h1
            · exact hyo k h1
            · exact Nat.le_trans hbe.size h1, hf'.below hbe (Nat.le_refl _) hyo⟩
        clear hbo hyo hbe HDA
        rcases h56 with h5 | h6
        · have b5 : (o.kind == 5) = true := by simp [h5]
          clear h5
          go_wp2_with fail
          refine (unhide HST).mono ?_
          intro e w3 hp3
          obtain ⟨rfl, h3⟩ := unhide HNX _ _ hp3
          have HD3 := hide h3
          clear h3 hp3
          go_wp2_with fail
          go_roundg (ops.length - (n + 1))
          case measure => omega
          case rel => exact ⟨n + 1, by omega, rfl, by go_num, HD3⟩
        · have b5 : (o.kind == 5) = false := by simp [h6]
          have b6 : (o.kind == 6) = true := by simp [h6]
          clear h6
          go_wp2_with fail
          refine (unhide HST).mono ?_
          intro e w3 hp3
          obtain ⟨rfl, h3⟩ := unhide HNX _ _ hp3
          have HD3 := hide h3
          clear h3 hp3
          go_wp2_with fail
          go_roundg (ops.length - (n + 1))
          case measure => omega
          case rel => exact ⟨n + 1, by omega, rfl, by go_num, HD3⟩
      · have b5 : (o.kind == 5) = false := by simp; omega
        have b6 : (o.kind == 6) = false := by simp; omega
        clear h56
        go_wp2_with fail
        go_roundg (ops.length - (n + 1))
        case measure => omega
        case rel => exact ⟨n + 1, by omega, rfl, by go_num, HDA⟩
    · obtain ⟨S, D, L, hbo, hyo, hbe⟩ := unhide HD
      have HCO := hide (coded_any w.heap.size d S D L t wr hbo.hub hbo.ref (pow_keep (unhide HPW) (fun g hg => hbe.block g (pow_lt (unhide HPW) hg))) ht)
      have HBE := hide hbe
      clear hbo hyo hbe HD
      go_wp2_with fail
      refine (unhide HCO).mono ?_
      rintro e w3 ⟨rfl, hb3⟩
      have HE := hide ((unhide HBE).trans (hb3.mono (unhide HBE).size))
      clear hb3
      go_wp2_with fail
      go_ret
      exact ⟨rfl, unhide HE⟩

theorem codes_walk (w : World) (hL : laidMetH Tryd.prog Rows.codesRow.laid w) (v : Value) (ops : List OpV) (h : OpsAt w v ops) (hl : ops.length * 56 ≤ 140737488351232) (t : ByteArray) (ht : t.size ≤ 140737488351232) :
    Calls Tryd.prog 3 #[v, .string t] w fun e w' => e = .returned (.bool true) ∧ Below w.heap.size w w' :=
  codes_of w (pow_ofK hL) v ops h hl t (by unfold maxLen; omega)

end Go.Proofs.YtchhmojnoiephaaDoor
