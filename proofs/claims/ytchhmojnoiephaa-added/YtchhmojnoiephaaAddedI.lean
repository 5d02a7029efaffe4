import Derived.Test.YtchhmojnoiephaaPureC
import Derived.Test.YtchhmojnoiephaaWalkR
namespace Go.Proofs.Ytchhmojnoiephaa
open Go.ChangeShapes Go.WideShapes Go.ChangeAt Go.RowKit
set_option linter.unusedVariables false

theorem route_bad (L : List PairL) (t : ByteArray) (h : topB t = false) : ∃ e p : Int, routeR L t.data.toList = ([], e, p) ∧ e ≠ 0 := by
  unfold topB at h
  have h' : (topicR t.data.toList).1 ≠ 0 := by simpa using h
  exact ⟨_, _, by unfold routeR; rw [if_pos h'], h'⟩
theorem route_good (L : List PairL) (t : ByteArray) (h : topB t = true) : routeR L t.data.toList = (routeL L t.data.toList, 0, 0) := by
  unfold topB at h
  have h' : ¬ (topicR t.data.toList).1 ≠ 0 := by simpa using h
  unfold routeR; rw [if_neg h']

theorem match_ok (f t : ByteArray) (hf : filB f = true) (ht : topB t = true) : okB f t = true ∧ yesB f t = matchB f.data.toList t.data.toList := by
  unfold filB at hf; unfold topB at ht
  have hf' : (filterR f.data.toList).1 = 0 := by simpa using hf
  have ht' : (topicR t.data.toList).1 = 0 := by simpa using ht
  have h1 := (filterR_len _ hf').1
  have h2 := (topicR_len _ ht').1
  unfold okB yesB matchR
  rw [if_neg (by omega), if_neg (by simp [hf']), if_neg (by simp [ht'])]
  exact ⟨rfl, rfl⟩

/-- how the law's world stands: the table, and two lists beside it -/
structure AddSt (I : HubTabI) (w0 w : World) (p : Nat) (S : Nat → Prop) (L : List PairL) (l : Value) (xs : List Int) (m : Value) (ys : List Int) : Prop where
  tab : I.tab w p S L
  l : Own w S l xs
  m : Own w S m ys
  b : Below w0.heap.size w0 w
  n : ∀ k, S k → w0.heap.size ≤ k

section
variable {I : HubTabI} {w0 w w' : World} {p : Nat} {S S' : Nat → Prop} {L L' : List PairL} {l m : Value} {xs ys : List Int}
theorem AddSt.step (h : AddSt I w0 w p S L l xs m ys) (ht : I.tab w' p S' L') (hf : Fr S w w' S') : AddSt I w0 w' p S' L' l xs m ys :=
  ⟨ht, h.l.fr hf, h.m.fr hf, hf.below h.b (Nat.le_refl _) h.n, fun k hk => by
    rcases hf.new k hk with h' | h'
    · exact h.n k h'
    · have := h.b.size; omega⟩
theorem AddSt.below (h : AddSt I w0 w p S L l xs m ys) (hb : Below w.heap.size w w') : AddSt I w0 w' p S L l xs m ys :=
  h.step (I.kept h.tab (Fr.of_below (S := fun _ => False) hb) (fun _ _ h => h)) (Fr.of_below hb)
theorem AddSt.drewN (h : AddSt I w0 w p S L l xs m ys) (n : Nat) : AddSt I w0 (w.drewN n) p S L l xs m ys := h.below (below_drewN (Below.refl _ _) n)
theorem own_copy {v : Value} {zs : List Int} (ht : I.tab w p S L) (hb : Below w.heap.size w w') (ho : Own w' (fun k => k < w.heap.size) v zs) : Own w' S v zs :=
  ⟨ho.1, fun b o n c he => ⟨fun hs => (ho.2 b o n c he).1 (I.lt ht hs), (ho.2 b o n c he).2⟩⟩
theorem AddSt.setm {v : Value} {zs : List Int} (h : AddSt I w0 w p S L l xs m ys) (ho : Own w S v zs) : AddSt I w0 w p S L l xs v zs := ⟨h.tab, h.l, ho, h.b, h.n⟩
end

set_option maxHeartbeats 4000000 in
set_option maxRecDepth 1000000 in
theorem added_of (I : HubTabI) (w : World) (v0 : Value) (ops : List OpV) (h0 : OpsAt w v0 ops) (l0 : ops.length * 56 ≤ 140737488351232)
    (f : ByteArray) (wf : f.size ≤ maxLen) (who : Int) (ww : (Lit.int .i64 who).wf = true) (t : ByteArray) (wt : t.size ≤ maxLen) :
    Calls Try.prog 8 #[v0, .string f, .int .i64 who, .string t] w fun e w' => e = .returned (.bool true) ∧ Below w.heap.size w w' := by
  have HWW := hide ww
  have H0 := hide h0
  clear ww h0
  go_enter Try.func8, Try.ntmps8
  go_wp2_with fail
  refine (fed_any I _ _ _ (unhide H0) l0).mono ?_
  rintro e w1 ⟨p, S, rfl, ht1, hb1, hS1⟩
  clear H0
  have HT1 := hide ht1
  have HB1 := hide hb1
  have HS1 := hide hS1
  clear ht1 hb1 hS1
  generalize fedL ops = L at *
  go_wp2_with fail
  refine (I.route p S _ t _ (unhide HT1) wt).mono ?_
  rintro e w2 ⟨v, S2, rfl, hi2, ht2, hf2⟩
  have HI2 := hide hi2
  have HT2 := hide ht2
  have HF2 := hide hf2
  clear hi2 ht2 hf2 HT1
  cases htop : topB t
  · obtain ⟨e, q, hr, he⟩ := route_bad L t htop
    rw [hr] at HI2 ⊢
    have B2 := hide ((unhide HF2).below (unhide HB1) (Nat.le_refl _) (unhide HS1))
    obtain ⟨a, c, rfl, _⟩ := (unhide HI2).1.form
    clear hr HF2 HB1 HS1 HT2 HI2
    have heb : (e != 0) = true := by simpa using he
    clear he
    go_wp2_with fail
    refine (topic_any _ _ wt).mono ?_
    rintro e w' ⟨rfl, rfl⟩
    rw [htop]
    go_wp2_with fail
    refine (num_any _ _).mono ?_
    rintro e w' ⟨rfl, rfl⟩
    go_wp2_with fail
    go_ret
    exact ⟨rfl, unhide B2⟩
  · have hr := route_good L t htop
    rw [hr] at HI2 ⊢
    clear hr
    go_wp2_with fail
    refine (topic_any _ _ wt).mono ?_
    rintro e w' ⟨rfl, rfl⟩
    rw [htop]
    go_wp2_with fail
    refine (copied_any _ _ _ (unhide HI2).1 (Nat.le_trans (route_len _ _) (by omega))).mono ?_
    rintro e w3 ⟨l, rfl, hb3, ho3⟩
    have A3 : Hid (AddSt I w w3 p S2 L l (routeL L t.data.toList) l (routeL L t.data.toList)) := by
      unfold Hid
      have o := own_copy (unhide HT2) hb3 ho3
      have b2 := (unhide HF2).below (unhide HB1) (Nat.le_refl _) (unhide HS1)
      refine ⟨I.kept (unhide HT2) (Fr.of_below (S := fun _ => False) hb3) (fun _ _ h => h), o, o, b2.trans (hb3.mono b2.size), fun k hk => ?_⟩
      rcases (unhide HF2).new k hk with h' | h'
      · exact unhide HS1 k h'
      · have := (unhide HB1).size; omega
    clear hb3 ho3 HB1 HS1 HT2 HF2 HI2
    go_wp2_with fail
    refine (I.add p S2 L f who _ (unhide A3).tab wf).mono ?_
    rintro e w4 ⟨rfl, S4, ht4, hf4⟩
    have A4 := hide ((unhide A3).step ht4 hf4)
    clear ht4 hf4 A3
    go_wp2_with fail
    refine (I.route p S4 _ t _ (unhide A4).tab wt).mono ?_
    rintro e w5 ⟨v5, S5, rfl, hi5, ht5, hf5⟩
    have A5 := hide ((unhide A4).step ht5 hf5)
    have HI5 := hide hi5
    clear hi5 ht5 hf5 A4
    have hr := route_good (addR L f.data.toList who).2 t htop
    rw [hr] at HI5 ⊢
    clear hr
    go_wp2_with fail
    refine (copied_any _ _ _ (unhide HI5).1 (Nat.le_trans (route_len _ _) (by omega))).mono ?_
    rintro e w6 ⟨m, rfl, hb6, ho6⟩
    have A6 := hide (((unhide A5).below hb6).setm (own_copy (unhide A5).tab hb6 ho6))
    clear hb6 ho6 A5 HI5
    go_wp2_with fail
    refine (num_any _ _).mono ?_
    rintro e w' ⟨rfl, rfl⟩
    go_wp2_with fail
    refine (rises_any _ _ _ (unhide A6).l.1 (route_rises _ _)).mono ?_
    rintro e w7 ⟨rfl, hb7⟩
    have A7 := hide ((unhide A6).below hb7)
    clear hb7 A6
    go_wp2_with fail
    refine (rises_any _ _ _ (unhide A7).m.1 (route_rises _ _)).mono ?_
    rintro e w8 ⟨rfl, hb8⟩
    have A8 := hide ((unhide A7).below hb8)
    clear hb8 A7
    go_wp2_with fail
    refine (num_any _ _).mono ?_
    rintro e w' ⟨rfl, rfl⟩
    by_cases hg : (addR L f.data.toList who).1.1 = 0
    · obtain ⟨hask, hnin, hadd⟩ := add_ok hg
      rw [hadd] at A8
      rw [hg]
      have HASK := hide hask
      have HNIN := hide hnin
      clear hg hnin hadd
      have hfb : filB f = true := by unfold filB; simpa using (askR_ok hask).1
      have HM := hide (match_ok f t hfb htop)
      obtain ⟨hok, hyes⟩ := match_ok f t hfb htop
      go_wp2_with fail
      refine (met_any _ _ _ wf wt).mono ?_
      rintro e w' ⟨rfl, rfl⟩
      have A9 := hide ((unhide A8).below (Below.alloc (Below.refl _ _) (Nat.le_refl _) (.cells #[.bool (yesB f t), .bool (okB f t)] 35)))
      rw [hok, hyes] at A9 ⊢
      clear A8 HM
      obtain ⟨y, hy⟩ : ∃ y, matchB f.data.toList t.data.toList = y := ⟨_, rfl⟩
      rw [hy] at A9 ⊢
      have HY := hide hy
      clear hy
      clear hok hyes hask
      go_wp2_with fail
      refine (filter_any _ _ wf).mono ?_
      rintro e w'' ⟨rfl, rfl⟩
      rw [hfb]
      go_wp2_with fail
      have A10 := hide ((unhide A9).below (Below.alloc (Below.refl _ _) (Nat.le_refl _) (.cells #[.bool y, .bool true] 35)))
      have hcy : ((w'.alloc (Obj.cells #[Value.bool y, Value.bool true] 35)).alloc (Obj.cells #[Value.bool y, Value.bool true] 35)).cell? ⟨w'.heap.size + 1, 0, none⟩ = some (.bool y) := by
        have hsz : (w'.alloc (Obj.cells #[Value.bool y, Value.bool true] 35)).heap.size = w'.heap.size + 1 := by unfold World.alloc; exact Array.size_push _
        rw [← hsz, cell_of_row _ _ 0 #[Value.bool y, Value.bool true] 35 (0, 0) (heap_alloc_new _ _)]; rfl
      clear A9
      generalize ((w'.alloc (Obj.cells #[Value.bool y, Value.bool true] 35)).alloc (Obj.cells #[Value.bool y, Value.bool true] 35)) = W at *
      generalize w'.heap.size + 1 = q at *
      go_loop [22] (fun i => ∃ k : Nat, k ≤ 16 ∧ i = .int .i64 k) (fun i => 16 - (intOf i).toNat)
      case atStart => exact ⟨0, by omega, rfl⟩
      case round =>
        obtain ⟨k, hk, rfl⟩ := hrel
        by_cases hlt : k < 16
        · have dk : decide (k < 16) = true := decide_eq_true hlt
          obtain ⟨bl, b1⟩ : ∃ bl, hasL (routeL L t.data.toList) (k : Int) = bl := ⟨_, rfl⟩
          have b2 : hasL (routeL (L ++ [(f.data.toList, who)]) t.data.toList) (k : Int) = (bl || ((k : Int) == who && y)) := by
            rw [hasL_route _ _ _ hlt, hasW_add, ← hasL_route _ _ _ hlt, b1, unhide HY]
          have HA := hide (has_any _ _ (k : Int) _ (unhide A10).l.1)
          have HB := hide (has_any _ _ (k : Int) _ (unhide A10).m.1)
          rw [b1] at HA
          rw [b2] at HB
          clear b1 b2
          go_wp2_with fail
          refine (unhide HA).mono ?_
          rintro e w2 ⟨rfl, rfl⟩
          go_wp2_with fail
          refine (unhide HB).mono ?_
          rintro e w2 ⟨rfl, rfl⟩
          clear HA HB HY A10 HASK HNIN
          cases hq : ((k : Int) == who) <;> cases bl <;> cases y
          all_goals
            go_wp2_with fail
            go_round
            case rel => exact ⟨k + 1, by omega, by go_num⟩
            case measure => simp [intOf]; omega
        · have hk16 : k = 16 := by omega
          subst hk16
          clear hcy HY hk hlt
          go_wp2_with fail
          refine (I.add p S5 _ f who _ (unhide A10).tab wf).mono ?_
          rintro e w11 ⟨rfl, S11, ht11, hf11⟩
          rw [add_twice (unhide HASK)] at ht11 ⊢
          have A11 := hide ((unhide A10).step ht11 hf11)
          clear ht11 hf11 A10
          go_wp2_with fail
          refine (I.drop p S11 _ f who _ (unhide A11).tab wf).mono ?_
          rintro e w12 ⟨rfl, S12, ht12, hf12⟩
          rw [drop_last (unhide HASK) (unhide HNIN)] at ht12 ⊢
          have A12 := hide ((unhide A11).step ht12 hf12)
          clear ht12 hf12 A11
          go_wp2_with fail
          refine (I.route p S12 _ t _ (unhide A12).tab wt).mono ?_
          rintro e w13 ⟨v13, S13, rfl, hi13, ht13, hf13⟩
          rw [route_good L t htop] at hi13 ⊢
          have A13 := hide ((unhide A12).step ht13 hf13)
          clear ht13 hf13 A12
          have A14 := hide ((unhide A13).setm hi13)
          clear hi13 A13
          go_wp2_with fail
          refine (I.drop p S13 _ f who _ (unhide A14).tab wf).mono ?_
          rintro e w15 ⟨rfl, S15, ht15, hf15⟩
          rw [drop_none (unhide HASK) (unhide HNIN)] at ht15 ⊢
          have A15 := hide ((unhide A14).step ht15 hf15)
          clear ht15 hf15 A14
          go_wp2_with (first | (go_at_call 13; refine (num_any _ _).mono ?_; rintro e w' ⟨rfl, rfl⟩) | (go_at_call 27; refine (same_any _ _ _ _ _ (unhide A15).l.1 (unhide A15).m.1).mono ?_; rintro e w' ⟨rfl, nq, rfl⟩))
          go_ret
          exact ⟨ret_bool (sameL_self _), ((unhide A15).drewN _).b⟩
    · have hgb : ((addR L f.data.toList who).1.1 != 0) = true := by simpa using hg
      obtain ⟨hadd, hbad⟩ := add_bad hg
      rw [hadd] at A8
      generalize (addR L f.data.toList who).1.1 = g at *
      clear hadd hg
      have HBAD := hide hbad
      clear hbad
      cases hfb : filB f
      · clear HBAD
        go_wp2_with (first | (go_at_call 18; refine (filter_any _ _ wf).mono ?_; rintro e w' ⟨rfl, rfl⟩) | (go_at_call 13; refine (num_any _ _).mono ?_; rintro e w' ⟨rfl, rfl⟩) | (go_at_call 27; refine (same_any _ _ _ _ _ (unhide A8).l.1 (unhide A8).m.1).mono ?_; rintro e w' ⟨rfl, nq, rfl⟩))
        go_ret
        exact ⟨ret_bool (sameL_self _), ((unhide A8).drewN _).b⟩
      · have hok : (filterR f.data.toList).1 = 0 := by unfold filB at hfb; simpa using hfb
        by_cases c2 : who < 0
        · have d2 : decide (who < 0) = true := decide_eq_true c2
          clear HBAD c2
          go_wp2_with (first | (go_at_call 18; refine (filter_any _ _ wf).mono ?_; rintro e w' ⟨rfl, rfl⟩) | (go_at_call 13; refine (num_any _ _).mono ?_; rintro e w' ⟨rfl, rfl⟩) | (go_at_call 27; refine (same_any _ _ _ _ _ (unhide A8).l.1 (unhide A8).m.1).mono ?_; rintro e w' ⟨rfl, nq, rfl⟩))
          go_ret
          exact ⟨ret_bool (sameL_self _), ((unhide A8).drewN _).b⟩
        · have d2 : decide (who < 0) = false := decide_eq_false c2
          by_cases c3 : 16 ≤ who
          · have d3 : decide (16 ≤ who) = true := decide_eq_true c3
            clear HBAD c2 c3
            go_wp2_with (first | (go_at_call 18; refine (filter_any _ _ wf).mono ?_; rintro e w' ⟨rfl, rfl⟩) | (go_at_call 13; refine (num_any _ _).mono ?_; rintro e w' ⟨rfl, rfl⟩) | (go_at_call 27; refine (same_any _ _ _ _ _ (unhide A8).l.1 (unhide A8).m.1).mono ?_; rintro e w' ⟨rfl, nq, rfl⟩))
            go_ret
            exact ⟨ret_bool (sameL_self _), ((unhide A8).drewN _).b⟩
          · have d3 : decide (16 ≤ who) = false := decide_eq_false c3
            by_cases c4 : g = 5
            · have d4 : (g == 5) = true := by simp [c4]
              clear HBAD c2 c3 c4
              go_wp2_with (first | (go_at_call 18; refine (filter_any _ _ wf).mono ?_; rintro e w' ⟨rfl, rfl⟩) | (go_at_call 13; refine (num_any _ _).mono ?_; rintro e w' ⟨rfl, rfl⟩) | (go_at_call 27; refine (same_any _ _ _ _ _ (unhide A8).l.1 (unhide A8).m.1).mono ?_; rintro e w' ⟨rfl, nq, rfl⟩))
              go_ret
              exact ⟨ret_bool (sameL_self _), ((unhide A8).drewN _).b⟩
            · have d4 : (g == 5) = false := by simp [c4]
              have d5 : (g == 7) = true := by
                rcases unhide HBAD with h | h | h | h | h
                · exact absurd hok h
                · exact absurd h c2
                · exact absurd h c3
                · exact absurd h c4
                · simp [h]
              clear HBAD c2 c3 c4
              go_wp2_with (first | (go_at_call 18; refine (filter_any _ _ wf).mono ?_; rintro e w' ⟨rfl, rfl⟩) | (go_at_call 13; refine (num_any _ _).mono ?_; rintro e w' ⟨rfl, rfl⟩) | (go_at_call 27; refine (same_any _ _ _ _ _ (unhide A8).l.1 (unhide A8).m.1).mono ?_; rintro e w' ⟨rfl, nq, rfl⟩))
              go_ret
              exact ⟨ret_bool (sameL_self _), ((unhide A8).drewN _).b⟩

end Go.Proofs.Ytchhmojnoiephaa
