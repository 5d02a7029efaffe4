import Derived.Test.YtchhmojnoiephaaDoorMacF
/- A state that leads to itself is put in. -/
namespace Go.Proofs.YtchhmojnoiephaaDoor
open Go.ChangeShapes Go.WideShapes Go.ChangeAt Go.RowKit
set_option linter.unusedVariables false

theorem loop_text (a : List UInt8) (k : Nat) : (⟨a.toArray⟩ : ByteArray) ++ (⟨#[42]⟩ : ByteArray) ++ (⟨(three (k : Int)).toArray⟩ : ByteArray) = ⟨(render ⟨a, [], (k : Int)⟩).toArray⟩ := by
  have h1 := app_arr a [42]
  have h2 := app_arr (a ++ [42]) (three (k : Int))
  have e : (⟨#[42]⟩ : ByteArray) = ⟨[42].toArray⟩ := rfl
  rw [e, h1, h2]
  have hk : ¬ (k : Int) = -1 := by omega
  simp [render, rEdges, rStar, hk]

set_option maxHeartbeats 8000000 in
set_option maxRecDepth 1000000 in
theorem putLoop_any (M : Nat) (Q : Nat → Prop) (S : List St) (a : List UInt8) (w : World) (h : Mac w M Q S) (hpw : PowQ w Q) (h2 : 2 ≤ S.length) (h9 : S.length ≤ 900) (ha : a.length ≤ 100) :
    Calls Tryd.prog 75 #[.pointer (some ⟨M, 0, none⟩), strV a] w (NumPost w M Q (loopS a S)) := by
  obtain ⟨i0, hi, hz0, hz1, hz2⟩ := info_parts info_string
  have HP : Hid (∀ r, findS (fun i y => render y == render ⟨a, [], (i : Int)⟩) 0 S = r → loopS a S = match r with | some i => ((i : Int), S) | none => ((S.length : Int), S ++ [⟨a, [], (S.length : Int)⟩])) := by
    intro r hr; unfold loopS; rw [hr]; cases r <;> rfl
  have HF0 := hide (find_two (fun i y => render y == render ⟨a, [], (i : Int)⟩) S h2)
  have HMAC := hide h
  have HPW := hide hpw
  have hasz : (⟨a.toArray⟩ : ByteArray).size ≤ 100 := by rw [arr_size]; exact ha
  have HLT := hide (loop_text a)
  have h3sz : ∀ k : Nat, (⟨(three (k : Int)).toArray⟩ : ByteArray).size = 3 := fun k => by rw [arr_size]; rfl
  have H3 := hide h3sz
  unfold strV
  clear h hpw h3sz
  generalize (⟨a.toArray⟩ : ByteArray) = ab at *
  go_enter Tryd.func75, Tryd.ntmps75
  go_wp2_with fail
  go_loopg [5] (S.length - 2) (fun gk i wr => ∃ k : Nat, 2 ≤ k ∧ k ≤ S.length ∧ gk = S.length - k ∧ i = .int .i64 k ∧ Below w.heap.size w wr ∧ Hid (findS (fun i y => render y == render ⟨a, [], (i : Int)⟩) 0 S = findS (fun i y => render y == render ⟨a, [], (i : Int)⟩) k (S.drop k)))
  case atStart => exact ⟨2, by omega, h2, rfl, rfl, Below.refl _ _, HF0⟩
  case round =>
    obtain ⟨k, hk2, hk, rfl, rfl, hb, HF⟩ := hrel
    have hbs := hb.size
    obtain ⟨g, cap, hm, hrow, hqg, hcap, hcap2⟩ := mac_cells ((unhide HMAC).below hb) h2
    have c0 := cell_block (i := 0) hm rfl
    have f0 := free_block (i := 0) hm
    have hM := heap_lt hm
    by_cases hlt : k < S.length
    · have e1 := own_str_at (i := k) hrow (by simpa using hlt)
      simp only [List.getElem_map] at e1
      have hgl := blk_lt e1
      have hq := eq_strs (render S[k]) (render ⟨a, [], (k : Int)⟩)
      have HHIT := hide (find_hit (fun i y => render y == render ⟨a, [], (i : Int)⟩) S k hlt hk2)
      have HMISS := hide (find_miss (fun i y => render y == render ⟨a, [], (i : Int)⟩) S k hlt)
      have HTD := hide (threeDigits_any k (by omega))
      have hpk : powOK wr := ((unhide HPW).below hb).ok
      have HPK := hide hpk
      have HB := hide hb
      have hlk := unhide HLT k
      have h3k := unhide H3 k
      unfold strV at HTD
      clear hb hpk hrow hm
      generalize (⟨(render S[k]).toArray⟩ : ByteArray) = es at *
      generalize (⟨(three (k : Int)).toArray⟩ : ByteArray) = td at *
      cases hc : (render S[k] == render ⟨a, [], (k : Int)⟩)
      · rw [hc] at hq
        have HZ := hide ((unhide HF).trans (unhide HMISS hc))
        clear hc HHIT HMISS HF HP HF0
        go_wp2_with fail
        go_region_with (go_at_call 65; refine (unhide HTD _ ?_).mono ?_; (exact pow_keep (unhide HPK) (fun _ _ => rfl)); rintro e w2 ⟨rfl, hb2⟩; have c2 : w2.cell? ⟨M, 0, none⟩ = some (.slice (some ⟨g, 0, none⟩) S.length cap) := (hb2.cell (p := ⟨M, 0, none⟩) hM).trans c0; have e2 : w2.cell? ⟨g, k, none⟩ = some (.string es) := (hb2.cell (p := ⟨g, k, none⟩) hgl).trans e1)
        all_goals
          have HB2 : Hid (Below w.heap.size w w2) := (unhide HB).trans (Below.mono ⟨hb2.os, hb2.tape, hb2.output, hb2.size, hb2.block⟩ hbs)
          clear hb2
          go_wp2_with fail
          go_roundg (S.length - (k + 1))
          case measure => omega
          case rel => exact ⟨k + 1, by omega, by omega, rfl, by go_num, unhide HB2, HZ⟩
      · rw [hc] at hq
        have HZ := hide (unhide HP _ ((unhide HF).trans (unhide HHIT hc)))
        clear hc HHIT HMISS HF HP HF0
        go_wp2_with fail
        go_region_with (go_at_call 65; refine (unhide HTD _ ?_).mono ?_; (exact pow_keep (unhide HPK) (fun _ _ => rfl)); rintro e w2 ⟨rfl, hb2⟩; have c2 : w2.cell? ⟨M, 0, none⟩ = some (.slice (some ⟨g, 0, none⟩) S.length cap) := (hb2.cell (p := ⟨M, 0, none⟩) hM).trans c0; have e2 : w2.cell? ⟨g, k, none⟩ = some (.string es) := (hb2.cell (p := ⟨g, k, none⟩) hgl).trans e1)
        all_goals
          have HB2 : Hid (Below w.heap.size w w2) := (unhide HB).trans (Below.mono ⟨hb2.os, hb2.tape, hb2.output, hb2.size, hb2.block⟩ hbs)
          clear hb2
          go_wp2_with fail
          go_ret
          unfold NumPost
          rw [unhide HZ]
          exact ⟨rfl, Q, (unhide HMAC).below (unhide HB2), Fr.of_below (unhide HB2)⟩
    · have HZ := hide (unhide HP _ ((unhide HF).trans (find_end _ S k hlt)))
      have HTD := hide (threeDigits_any S.length (by omega))
      have hpk : powOK wr := ((unhide HPW).below hb).ok
      have HB := hide hb
      have hlk := unhide HLT S.length
      have h3k := unhide H3 S.length
      unfold strV at HTD
      clear HF HP HF0 hb hrow hm HLT H3
      generalize (⟨(three (S.length : Int)).toArray⟩ : ByteArray) = td at *
      go_wp2_with fail
      refine (unhide HTD _ hpk).mono ?_
      rintro e w2 ⟨rfl, hb2⟩
      have hbs2 := hb2.size
      have HB2 := hide ((unhide HB).trans (hb2.mono hbs))
      clear hb2 hpk c0 f0
      obtain ⟨g, cap, hm, hrow, hqg, hcap, hcap2⟩ := mac_cells ((unhide HMAC).below (unhide HB2)) h2
      have c0 := cell_block (i := 0) hm rfl
      have f0 := free_block (i := 0) hm
      have hM := heap_lt hm
      have HMAC2 := hide ((unhide HMAC).below (unhide HB2))
      have HROW := hide hrow
      have HM := hide hm
      have hg := (unhide HMAC2).lt g hqg
      clear hrow hm
      go_wp2_with (at_builtin; refine wpList_append_moves _ rfl _ _ 68 rfl 9 i0 (.string ByteArray.empty) 1 16 Tryd.underlying68 hi hz0 hz1 hz2 rfl (by decide) _ _ _ rfl ((unhide HROW).alloc _) ⟨w2.heap.size, 0, none⟩ 1 1 [.string ⟨(render ⟨a, [], (S.length : Int)⟩).toArray⟩] rfl rfl ?c1 ?c2 ?c3 ?c4 ?_)
      first
        | (case c1 =>
            intro j u hj
            match j, hj with
            | 0, hj => simp at hj; subst hj; simp [Addr.add])
        | skip
      case c2 => first | rfl | (intro u hu; simp at hu; subst hu; rfl)
      case c3 => unfold maxLen; omega
      case c4 => omega
      intro v' w3 hown' hgrow hmv
      have hnM : ∀ j : Nat, some j = (Value.slice (some ⟨g, 0, none⟩) S.length cap).ownBlock → j = g := fun j hj => by simpa [Value.ownBlock] using hj
      have hMg : M ≠ g := fun e => own_not (unhide HROW) (unhide HM) (by decide) (by rw [e]; rfl)
      have hst := mac_store (w2 := w3) (S' := S ++ [(⟨a, [], (S.length : Int)⟩ : St)]) (unhide HMAC2) hgrow.os hgrow.tape hgrow.output (by have := hgrow.size; simp at this; omega)
        (fun j hj hjj => by
          rw [hgrow.block j (by simp; omega) (fun e => by
            have := hnM j e
            rcases hjj with hjj | rfl
            · exact hjj (this ▸ hqg)
            · exact hMg this), Below.heap_alloc _ _ _ hj])
        (by rw [List.length_append, show ((S ++ [(⟨a, [], (S.length : Int)⟩ : St)]).map render).map strV = S.map (strV ∘ render) ++ [Value.string ⟨(render (⟨a, [], (S.length : Int)⟩ : St)).toArray⟩] from by simp [strV]]; exact hown')
        (fun j hj => by rcases hmv j hj with h | h
                        · exact Or.inl (by rw [hnM j h.symm]; exact hqg)
                        · exact Or.inr (by first | omega | (simp at h; omega)))
      obtain ⟨g', cap', rfl⟩ := own_form hown' (by omega)
      have hpp : w3.heap[M]? = some (.cells #[.slice (some ⟨g, 0, none⟩) S.length cap] 97 (0, 0)) := by
        rw [hgrow.block M (by simp; omega) (fun e => hMg (hnM M e)), Below.heap_alloc _ _ _ hM]; exact unhide HM
      have c1 := cell_block (i := 0) hpp rfl
      have f1 := free_block (i := 0) hpp
      have HST := hide hst
      have hws := wrap_small ((S.length : Int) + 1 - 1) (by omega) (by omega)
      clear hst hown' hgrow hmv c0 f0 hpp hnM
      go_wp2_with fail
      go_ret
      unfold NumPost
      rw [unhide HZ]
      obtain ⟨t1, t2⟩ := unhide HST
      exact ⟨by first | rfl | (congr 2; omega), _, t1, (Fr.of_below (unhide HB2)).trans t2⟩

end Go.Proofs.YtchhmojnoiephaaDoor
