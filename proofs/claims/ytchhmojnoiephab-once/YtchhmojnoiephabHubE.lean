import Derived.Test.YtchhmojnoiephabHubD
/- The program's hub: whose turn it is. -/
namespace Go.Proofs.Ytchhmojnoiephab
open Go.ChangeShapes Go.WideShapes Go.ChangeAt Go.RowKit
set_option linter.unusedVariables false

def mateB (H : HubL) (g f : List UInt8) (s : SubL) : Bool := decide (s.grp = g) && (decide (s.fil = f) && H.on s.who)
def turnGo (H : HubL) (g f : List UInt8) : Nat → Nat → List SubL → Nat
  | _, turn, [] => turn
  | i, turn, s :: L => if mateB H g f s = true then (if s.had = true then turnGo H g f (i + 1) (if turn = H.subs.length then i else turn) L else i) else turnGo H g f (i + 1) turn L
def turnH (H : HubL) (g f : List UInt8) : Nat := turnGo H g f 0 H.subs.length H.subs
theorem turnGo_miss (H : HubL) (g f : List UInt8) (i turn k : Nat) (h : k < H.subs.length) (hm : mateB H g f H.subs[k] = false) : turnGo H g f i turn (H.subs.drop k) = turnGo H g f (i + 1) turn (H.subs.drop (k + 1)) := by
  rw [List.drop_eq_getElem_cons h]; simp only [turnGo]; rw [if_neg (by simp [hm])]
theorem turnGo_new (H : HubL) (g f : List UInt8) (i turn k : Nat) (h : k < H.subs.length) (hm : mateB H g f H.subs[k] = true) (hh : H.subs[k].had = false) : turnGo H g f i turn (H.subs.drop k) = i := by
  rw [List.drop_eq_getElem_cons h]; simp only [turnGo]; rw [if_pos hm, if_neg (by simp [hh])]
theorem turnGo_had (H : HubL) (g f : List UInt8) (i turn k : Nat) (h : k < H.subs.length) (hm : mateB H g f H.subs[k] = true) (hh : H.subs[k].had = true) : turnGo H g f i turn (H.subs.drop k) = turnGo H g f (i + 1) (if turn = H.subs.length then i else turn) (H.subs.drop (k + 1)) := by
  rw [List.drop_eq_getElem_cons h]; simp only [turnGo]; rw [if_pos hm, if_pos hh]
theorem turnGo_end (H : HubL) (g f : List UInt8) (i turn k : Nat) (h : ¬ k < H.subs.length) : turnGo H g f i turn (H.subs.drop k) = turn := by
  rw [List.drop_eq_nil_of_le (by omega)]; rfl
theorem hereB_of (H : HubL) (n : Nat) (h : n < 6) : hereB H (n : Int) = H.on n := by unfold hereB; rw [cliB_of n h]; simp

set_option maxHeartbeats 2000000 in
theorem turnOf_any (p : Nat) (S : Nat → Prop) (H : HubL) (g f : ByteArray) (w : World) (h : HubAt w p S H) :
    Calls Try.prog 41 #[.pointer (some ⟨p, 0, none⟩), .string g, .string f] w fun e w' => e = .returned (.int .i64 ((turnH H g.data.toList f.data.toList : Nat) : Int)) ∧ Below w.heap.size w w' := by
  obtain ⟨a, c, c0, hp, hl8, hat⟩ := h.subsAt
  have HAT := hide hat
  have HHERE := hide (fun (x : World) (hb : Below w.heap.size w x) (n : Nat) => isHere_any p S H (n : Int) x (h.below hb))
  clear h hat
  have HT : Hid (turnH H g.data.toList f.data.toList = turnGo H g.data.toList f.data.toList 0 H.subs.length (H.subs.drop 0)) := by unfold Hid turnH; rw [List.drop_zero]
  obtain ⟨ln, hLe⟩ : ∃ ln, ln = H.subs.length := ⟨_, rfl⟩
  rw [← hLe] at c0 hl8 HT
  have HLE := hide hLe
  have HLT : Hid (∀ k, k < ln → k < H.subs.length) := fun k hk => by rw [← hLe]; exact hk
  have HGE : Hid (∀ k, ¬ k < ln → ¬ k < H.subs.length) := fun k hk => by rw [← hLe]; exact hk
  clear hLe
  go_enter Try.func41, Try.ntmps41
  go_wp2_with fail
  go_loopg [7, 8, 9, 20] ln (fun gk tv _ _ i wr => ∃ k turn : Nat, k ≤ ln ∧ gk = ln - k ∧ i = .int .i64 k ∧ tv = .int .i64 turn ∧ turn ≤ ln ∧ Hid (Below w.heap.size w wr) ∧ Hid (turnH H g.data.toList f.data.toList = turnGo H g.data.toList f.data.toList k turn (H.subs.drop k)))
  case atStart => exact ⟨0, ln, by omega, by omega, rfl, rfl, by omega, Below.refl _ _, HT⟩
  case round =>
    clear HT
    obtain ⟨k, turn, hk, rfl, rfl, rfl, htl, HB, HA⟩ := hrel
    have hbs := (unhide HB).size
    have c1 : wr.cell? ⟨p, 18, none⟩ = some (.slice a ln c) := ((unhide HB).cell (p := ⟨p, 18, none⟩) hp).trans c0
    have hpr : p < wr.heap.size := by omega
    have c2 : ∀ o, (wr.alloc o).cell? ⟨p, 18, none⟩ = some (.slice a ln c) := fun o => (((Below.refl _ wr).alloc (Nat.le_refl _) o).cell (p := ⟨p, 18, none⟩) hpr).trans c1
    clear c0
    by_cases hlt : k < ln
    · have hlt' := unhide HLT k hlt
      obtain ⟨b, rfl, hc1, hc2, hw6, hf24, hcs⟩ := unhide HAT k hlt'
      obtain ⟨e1, e2, e3, e4⟩ := hcs wr (unhide HB)
      clear hcs
      have q2 := strNe H.subs[k].grp g
      have q3 := strNe H.subs[k].fil f
      have r2 := strEq H.subs[k].grp g
      have r3 := strEq H.subs[k].fil f
      have HMISS := hide (turnGo_miss H g.data.toList f.data.toList k turn k hlt')
      have HNEW := hide (turnGo_new H g.data.toList f.data.toList k turn k hlt')
      have HHAD := hide (turnGo_had H g.data.toList f.data.toList k turn k hlt')
      have HHR := hide (fun (x : World) (hb : Below w.heap.size w x) => unhide HHERE x hb H.subs[k].who)
      rw [hereB_of H H.subs[k].who hw6] at HHR
      rw [← unhide HLE] at HHAD hc1
      unfold mateB at HMISS HNEW HHAD
      clear hf24 hw6
      generalize H.on H.subs[k].who = d1 at *
      generalize H.subs[k].who = who at *
      generalize H.subs[k].had = had at *
      generalize (⟨H.subs[k].grp.toArray⟩ : ByteArray) = gs at *
      generalize (⟨H.subs[k].fil.toArray⟩ : ByteArray) = fs at *
      generalize decide (H.subs[k].grp = g.data.toList) = d2 at *
      generalize decide (H.subs[k].fil = f.data.toList) = d3 at *
      cases d2
      · replace q2 : (gs.toList != g.toList) = true := q2
        have HZ := hide ((unhide HA).trans (unhide HMISS rfl))
        go_wp2_with fail
        go_roundg (ln - (k + 1))
        case measure => omega
        case rel => exact ⟨k + 1, turn, by omega, rfl, by go_num, rfl, htl, (unhide HB).alloc hbs _, HZ⟩
      · replace q2 : (gs.toList != g.toList) = false := q2
        cases d3
        · replace q3 : (fs.toList != f.toList) = true := q3
          have HZ := hide ((unhide HA).trans (unhide HMISS rfl))
          go_wp2_with fail
          go_roundg (ln - (k + 1))
          case measure => omega
          case rel => exact ⟨k + 1, turn, by omega, rfl, by go_num, rfl, htl, (unhide HB).alloc hbs _, HZ⟩
        · replace q3 : (fs.toList != f.toList) = false := q3
          cases d1
          · have HZ := hide ((unhide HA).trans (unhide HMISS rfl))
            go_wp2_with fail
            refine (unhide HHR _ ((unhide HB).alloc hbs _)).mono ?_
            rintro e w4 ⟨rfl, rfl⟩
            go_wp2_with fail
            go_roundg (ln - (k + 1))
            case measure => omega
            case rel => exact ⟨k + 1, turn, by omega, rfl, by go_num, rfl, htl, (unhide HB).alloc hbs _, HZ⟩
          · cases had
            · have HZ := hide ((unhide HA).trans (unhide HNEW rfl rfl))
              go_wp2_with fail
              refine (unhide HHR _ ((unhide HB).alloc hbs _)).mono ?_
              rintro e w4 ⟨rfl, rfl⟩
              go_wp2_with fail
              go_ret
              exact ⟨ret_int (by rw [unhide HZ]), (unhide HB).alloc hbs _⟩
            · have HZ := hide ((unhide HA).trans (unhide HHAD rfl rfl))
              by_cases hte : turn = ln
              · have q5 : ((turn : Int) == (ln : Int)) = true := by simp [hte]
                rw [if_pos hte] at HZ
                go_wp2_with fail
                refine (unhide HHR _ ((unhide HB).alloc hbs _)).mono ?_
                rintro e w4 ⟨rfl, rfl⟩
                go_wp2_with fail
                go_roundg (ln - (k + 1))
                case measure => omega
                case rel => exact ⟨k + 1, k, by omega, rfl, by go_num, rfl, by omega, (unhide HB).alloc hbs _, HZ⟩
              · have q5 : ((turn : Int) == (ln : Int)) = false := by simp; omega
                rw [if_neg hte] at HZ
                go_wp2_with fail
                refine (unhide HHR _ ((unhide HB).alloc hbs _)).mono ?_
                rintro e w4 ⟨rfl, rfl⟩
                go_wp2_with fail
                go_roundg (ln - (k + 1))
                case measure => omega
                case rel => exact ⟨k + 1, turn, by omega, rfl, by go_num, rfl, htl, (unhide HB).alloc hbs _, HZ⟩
    · have HZ := hide ((unhide HA).trans (turnGo_end H g.data.toList f.data.toList k turn k (unhide HGE k hlt)))
      go_wp2_with fail
      go_ret
      exact ⟨ret_int (by rw [unhide HZ]), unhide HB⟩

end Go.Proofs.Ytchhmojnoiephab
