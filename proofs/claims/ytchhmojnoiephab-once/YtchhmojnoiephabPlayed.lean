import Derived.Test.YtchhmojnoiephabHubQ
import Derived.Test.YtchhmojnoiephabScript
/- The program's hub behind a script (hublaw.played). -/
namespace Go.Proofs.Ytchhmojnoiephab
open Go.ChangeShapes Go.WideShapes Go.ChangeAt Go.RowKit
set_option linter.unusedVariables false

def AnyP (w0 : World) (p : Nat) (e : Ending) (w' : World) : Prop := (∃ v, e = .returned v) ∧ ∃ H', Sit w0 w' p H'
theorem any_connect {w0 wr : World} {p : Nat} {H : HubL} (h : Sit w0 wr p H) (c : Int) : Calls Try.prog 14 #[.pointer (some ⟨p, 0, none⟩), .int .i64 c] wr (AnyP w0 p) :=
  (sit_connect h c _ _ rfl).mono fun e w' ⟨he, hs⟩ => ⟨⟨_, he⟩, _, hs⟩
theorem any_leave {w0 wr : World} {p : Nat} {H : HubL} (h : Sit w0 wr p H) (c : Int) : Calls Try.prog 17 #[.pointer (some ⟨p, 0, none⟩), .int .i64 c] wr (AnyP w0 p) :=
  (sit_leave h c).mono fun e w' ⟨he, hs⟩ => ⟨⟨_, he⟩, _, hs⟩
theorem any_forget {w0 wr : World} {p : Nat} {H : HubL} (h : Sit w0 wr p H) (c : Int) : Calls Try.prog 18 #[.pointer (some ⟨p, 0, none⟩), .int .i64 c] wr (AnyP w0 p) :=
  (sit_forget h c).mono fun e w' ⟨he, hs⟩ => ⟨⟨_, he⟩, _, hs⟩
theorem any_sub {w0 wr : World} {p : Nat} {H : HubL} (h : Sit w0 wr p H) (c : Int) (s : ByteArray) (hs : s.size ≤ maxLen) : Calls Try.prog 15 #[.pointer (some ⟨p, 0, none⟩), .int .i64 c, .string s] wr (AnyP w0 p) :=
  (sit_subscribe h c s hs _ _ _ rfl).mono fun e w' ⟨he, hs⟩ => ⟨⟨_, he⟩, _, hs⟩
theorem any_unsub {w0 wr : World} {p : Nat} {H : HubL} (h : Sit w0 wr p H) (c : Int) (s : ByteArray) (hs : s.size ≤ maxLen) : Calls Try.prog 19 #[.pointer (some ⟨p, 0, none⟩), .int .i64 c, .string s] wr (AnyP w0 p) :=
  (sit_unsub h c s hs).mono fun e w' ⟨he, hs⟩ => ⟨⟨_, he⟩, _, hs⟩
theorem any_publish {w0 wr : World} {p : Nat} {H : HubL} (h : Sit w0 wr p H) (t q : ByteArray) (keep : Bool) (ht : t.size ≤ maxLen) (hq : q.size ≤ maxLen) : Calls Try.prog 7 #[.pointer (some ⟨p, 0, none⟩), .string t, .string q, .bool keep] wr (AnyP w0 p) :=
  (sit_publish h t q keep ht hq _ _ _ _ rfl).mono fun e w' ⟨v, he, hv, hs⟩ => ⟨⟨_, he⟩, _, hs⟩
theorem any_take {w0 wr : World} {p : Nat} {H : HubL} (h : Sit w0 wr p H) (c : Int) : Calls Try.prog 11 #[.pointer (some ⟨p, 0, none⟩), .int .i64 c] wr (AnyP w0 p) :=
  (sit_take h c _ _ _ rfl).mono fun e w' ⟨s, he, hv, hs⟩ => ⟨⟨_, he⟩, _, hs⟩

/-- Take leaves the others alone -/
theorem takeQ_inv (H : HubL) (n : Nat) (hn : n < 6) : (takeQ H n).2.on = H.on ∧ (∀ d, d ≠ n → (takeQ H n).2.q d = H.q d) ∧ (H.on n = true → ((takeQ H n).2.q n).length = (H.q n).length - 1) := by
  unfold takeQ
  rw [if_pos (cliB_of n hn), Int.toNat_natCast]
  split
  · rename_i ho
    cases hq : H.q n with
    | nil => exact ⟨rfl, fun _ _ => rfl, fun _ => by simp [hq]⟩
    | cons m r =>
      refine ⟨rfl, fun d hd => updF_other _ _ hd, fun _ => ?_⟩
      show (updF H.q n r n).length = _
      rw [updF_same]; simp
  · rename_i ho
    exact ⟨rfl, fun _ _ => rfl, fun h => absurd h ho⟩
/-- the queues of the connected clients below c are empty -/
def emptyTo (H : HubL) (c : Nat) : Prop := ∀ d, d < c → H.on d = true → H.q d = []

set_option maxHeartbeats 8000000 in
set_option maxRecDepth 1000000 in
theorem played_any (w : World) (v : Value) (ops : List OpV) (h : OpsAt w v ops) (hl : ops.length * 56 ≤ 140737488351232) :
    Calls Try.prog 6 #[v] w fun e w' => ∃ P H, e = .returned (.pointer (some ⟨P, 0, none⟩)) ∧ Sit w w' P H ∧ emptyTo H 6 := by
  obtain ⟨ao, cap, rfl, hcap, hcap2, hfit, hcells⟩ := h
  unfold maxLen at hcap2
  have HFIT := hide hfit
  have HC := hide hcells
  clear hfit hcells
  go_enter Try.func6, Try.ntmps6
  go_wp2_with fail
  refine (sit_newP _).mono ?_
  rintro e w1 ⟨P, rfl, hs1⟩
  have HS0 := hide hs1
  clear hs1
  go_wp2_with fail
  go_loopg [4, 5] ops.length (fun gk ii _ wr => ∃ (n : Nat) (H : HubL), n ≤ ops.length ∧ gk = ops.length - n ∧ ii = .int .i64 n ∧ Hid (Sit w wr P H))
  case atStart => exact ⟨0, hub0, by omega, by omega, rfl, HS0⟩
  case round =>
    clear HS0
    obtain ⟨n, H, hn, rfl, rfl, HS⟩ := hrel
    have hbel := (unhide HS).bel
    have hbs := hbel.size
    by_cases hlt : n < ops.length
    · obtain ⟨b, off, rfl, hbw, hcs⟩ := unhide HC (by intro h0; subst h0; simp at hlt)
      obtain ⟨e0, e1, e2, e3, e4⟩ := hcs n hlt
      have hob := unhide HFIT ops[n] (List.getElem_mem hlt)
      clear hcs
      generalize ops[n] = o at *
      have hos : o.s.size ≤ maxLen := hob.2.2.2.1
      have hot : o.t.size ≤ maxLen := hob.2.2.2.2
      have x0 := (hbel.cell (p := ⟨b, off + n * 5, none⟩) hbw).trans e0
      have x1 := (hbel.cell (p := ⟨b, off + n * 5 + 1, none⟩) hbw).trans e1
      have x2 := (hbel.cell (p := ⟨b, off + n * 5 + 2, none⟩) hbw).trans e2
      have x3 := (hbel.cell (p := ⟨b, off + n * 5 + 3, none⟩) hbw).trans e3
      have x4 := (hbel.cell (p := ⟨b, off + n * 5 + 4, none⟩) hbw).trans e4
      clear e0 e1 e2 e3 e4 hob hbel
      have hn60 : (n : Int) < 1152921504606846976 := by omega
      have HSA := hide ((unhide HS).on ((Below.refl _ wr).alloc (Nat.le_refl _) (.cells #[.int .i64 o.kind, .int .i64 o.a, .int .i64 o.b, .string o.s, .string o.t] 45)))
      clear HS
      by_cases h12 : o.kind = 12
      · have b12 : (o.kind == 12) = true := by simp [h12]
        clear h12
        go_wp2_with fail
        refine (any_connect (unhide HSA) o.a).mono ?_
        rintro e w3 ⟨⟨v3, rfl⟩, H3, hs3⟩
        have HS3 := hide hs3
        clear hs3
        go_wp2_with fail
        go_roundg (ops.length - (n + 1))
        case measure => omega
        case rel => exact ⟨n + 1, H3, by omega, rfl, by go_num, HS3⟩
      · have b12 : (o.kind == 12) = false := by simp [h12]
        by_cases h13 : o.kind = 13
        · have b13 : (o.kind == 13) = true := by simp [h13]
          clear h13
          go_wp2_with fail
          refine (any_leave (unhide HSA) o.a).mono ?_
          rintro e w3 ⟨⟨v3, rfl⟩, H3, hs3⟩
          have HS3 := hide hs3
          clear hs3
          go_wp2_with fail
          go_roundg (ops.length - (n + 1))
          case measure => omega
          case rel => exact ⟨n + 1, H3, by omega, rfl, by go_num, HS3⟩
        · have b13 : (o.kind == 13) = false := by simp [h13]
          by_cases h14 : o.kind = 14
          · have b14 : (o.kind == 14) = true := by simp [h14]
            clear h14
            go_wp2_with fail
            refine (any_forget (unhide HSA) o.a).mono ?_
            rintro e w3 ⟨⟨v3, rfl⟩, H3, hs3⟩
            have HS3 := hide hs3
            clear hs3
            go_wp2_with fail
            go_roundg (ops.length - (n + 1))
            case measure => omega
            case rel => exact ⟨n + 1, H3, by omega, rfl, by go_num, HS3⟩
          · have b14 : (o.kind == 14) = false := by simp [h14]
            by_cases h15 : o.kind = 15
            · have b15 : (o.kind == 15) = true := by simp [h15]
              clear h15
              go_wp2_with fail
              refine (any_sub (unhide HSA) o.a o.s hos).mono ?_
              rintro e w3 ⟨⟨v3, rfl⟩, H3, hs3⟩
              have HS3 := hide hs3
              clear hs3
              go_wp2_with fail
              go_roundg (ops.length - (n + 1))
              case measure => omega
              case rel => exact ⟨n + 1, H3, by omega, rfl, by go_num, HS3⟩
            · have b15 : (o.kind == 15) = false := by simp [h15]
              by_cases h16 : o.kind = 16
              · have b16 : (o.kind == 16) = true := by simp [h16]
                clear h16
                go_wp2_with fail
                refine (any_unsub (unhide HSA) o.a o.s hos).mono ?_
                rintro e w3 ⟨⟨v3, rfl⟩, H3, hs3⟩
                have HS3 := hide hs3
                clear hs3
                go_wp2_with fail
                go_roundg (ops.length - (n + 1))
                case measure => omega
                case rel => exact ⟨n + 1, H3, by omega, rfl, by go_num, HS3⟩
              · have b16 : (o.kind == 16) = false := by simp [h16]
                by_cases h17 : o.kind = 17
                · have b17 : (o.kind == 17) = true := by simp [h17]
                  clear h17
                  go_wp2_with fail
                  refine (any_publish (unhide HSA) o.s o.t _ hos hot).mono ?_
                  rintro e w3 ⟨⟨v3, rfl⟩, H3, hs3⟩
                  have HS3 := hide hs3
                  clear hs3
                  go_wp2_with fail
                  go_roundg (ops.length - (n + 1))
                  case measure => omega
                  case rel => exact ⟨n + 1, H3, by omega, rfl, by go_num, HS3⟩
                · have b17 : (o.kind == 17) = false := by simp [h17]
                  by_cases h18 : o.kind = 18
                  · have b18 : (o.kind == 18) = true := by simp [h18]
                    clear h18
                    go_wp2_with fail
                    refine (any_take (unhide HSA) o.a).mono ?_
                    rintro e w3 ⟨⟨v3, rfl⟩, H3, hs3⟩
                    have HS3 := hide hs3
                    clear hs3
                    go_wp2_with fail
                    go_roundg (ops.length - (n + 1))
                    case measure => omega
                    case rel => exact ⟨n + 1, H3, by omega, rfl, by go_num, HS3⟩
                  · have b18 : (o.kind == 18) = false := by simp [h18]
                    go_wp2_with fail
                    go_roundg (ops.length - (n + 1))
                    case measure => omega
                    case rel => exact ⟨n + 1, H, by omega, rfl, by go_num, HSA⟩
    · have hnI : decide ((n : Int) < (ops.length : Int)) = false := by simp; omega
      clear hbel hbs HC HFIT
      go_wp2_with fail
      go_loopg [6, 7] 6 (fun gk cc _ wr => ∃ (c : Nat) (H : HubL), c ≤ 6 ∧ gk = 6 - c ∧ cc = .int .i64 c ∧ Hid (Sit w wr P H) ∧ Hid (emptyTo H c))
      case atStart => exact ⟨0, H, by omega, rfl, rfl, HS, fun d hd => by omega⟩
      case round =>
        clear HS
        obtain ⟨c, H, hc, rfl, rfl, HS, HE⟩ := hrel
        by_cases hc6 : c < 6
        · have hcI : (c : Int) < 6 := by omega
          have HQ0 : Hid (H.on c = true → (H.q c).length + 0 ≤ 3) := fun _ => ((unhide HS).good.queue c).1
          go_wp2_with fail
          go_loopg [7] 3 (fun gk ii wr => ∃ (i : Nat) (H : HubL), i ≤ 3 ∧ gk = 3 - i ∧ ii = .int .i64 i ∧ Hid (Sit w wr P H) ∧ Hid (emptyTo H c) ∧ Hid (H.on c = true → (H.q c).length + i ≤ 3))
          case atStart => exact ⟨0, H, by omega, rfl, rfl, HS, HE, HQ0⟩
          case round =>
            clear HS HE HQ0
            obtain ⟨i, H, hi, rfl, rfl, HS, HE, HQ⟩ := hrel
            by_cases hi3 : i < 3
            · have hiI : (i : Int) < 3 := by omega
              obtain ⟨t1, t2, t3⟩ := takeQ_inv H c hc6
              have HE2 : Hid (emptyTo (takeQ H c).2 c) := fun d hd ho => by rw [t1] at ho; rw [t2 d (by omega)]; exact unhide HE d hd ho
              have HQ2 : Hid ((takeQ H c).2.on c = true → ((takeQ H c).2.q c).length + (i + 1) ≤ 3) := fun ho => by
                rw [t1] at ho
                have h1 := unhide HQ ho
                have h2 := t3 ho
                omega
              clear t1 t2 t3
              have HTK := hide (sit_take (unhide HS) (c : Int) (takeQ H (c : Int)).1.1 (takeQ H (c : Int)).1.2 (takeQ H (c : Int)).2 rfl)
              generalize takeQ H (c : Int) = tq at *
              go_wp2_with fail
              refine (unhide HTK).mono ?_
              rintro e w4 ⟨s4, rfl, hl4, hs4⟩
              have HS4 := hide hs4
              clear hs4 hl4
              go_wp2_with fail
              go_roundg (3 - (i + 1))
              case measure => omega
              case rel => exact ⟨i + 1, _, by omega, rfl, by go_num, HS4, HE2, HQ2⟩
            · obtain rfl : i = 3 := by omega
              have HE2 : Hid (emptyTo H (c + 1)) := fun d hd ho => by
                by_cases hdc : d = c
                · subst hdc
                  have := unhide HQ ho
                  exact List.eq_nil_of_length_eq_zero (by omega)
                · exact unhide HE d (by omega) ho
              go_wp2_with fail
              go_roundg (6 - (c + 1))
              case measure => omega
              case rel => exact ⟨c + 1, H, by omega, rfl, by go_num, HS, HE2⟩
        · obtain rfl : c = 6 := by omega
          go_wp2_with fail
          go_ret
          exact ⟨P, H, rfl, unhide HS, unhide HE⟩

end Go.Proofs.Ytchhmojnoiephab
